/- NewReader: a reader of the bits that the bytes spell, or the error that the document names. -/
import Derived.Test.YtdlblpmjghjhlaaCopy
namespace Go.Proofs.Ytdlblpmjghjhlaa
open Go.RowKit

theorem nr_range (w : World) (A : Option Addr) (n c : Nat) (m : Int) (h : m < 0 ∨ 33554432 < m) :
    Calls Try.prog 28 #[.slice A n c, .int .i64 m] w fun e w' => e = .returned (.tuple #[.pointer none, .int .i64 2]) ∧ w = w' := by
  rcases h with h | h
  · go_enter Try.func28, Try.ntmps28
    go_wp2
    go_ret2
    exact ⟨rfl, rfl⟩
  · have h0 : ¬ m < 0 := by omega
    go_enter Try.func28, Try.ntmps28
    go_wp2
    go_ret2
    exact ⟨rfl, rfl⟩

theorem nr_end (w : World) (A : Option Addr) (n c m : Nat) (hm : m ≤ 33554432) (h : n < (m + 7) / 8) :
    Calls Try.prog 28 #[.slice A n c, .int .i64 m] w fun e w' => e = .returned (.tuple #[.pointer none, .int .i64 4]) ∧ w = w' := by
  have h0 : ¬ (m : Int) < 0 := by omega
  have h1 : ¬ (33554432 : Int) < (m : Int) := by omega
  have h2 : (n : Int) < ((m : Int) + 7) / 8 := by omega
  clear h
  go_enter Try.func28, Try.ntmps28
  go_wp2
  go_ret2
  exact ⟨rfl, rfl⟩

theorem nr_more (w : World) (A : Option Addr) (n c m : Nat) (hm : m ≤ 33554432) (h : (m + 7) / 8 < n) :
    Calls Try.prog 28 #[.slice A n c, .int .i64 m] w fun e w' => e = .returned (.tuple #[.pointer none, .int .i64 5]) ∧ w = w' := by
  have h0 : ¬ (m : Int) < 0 := by omega
  have h1 : ¬ (33554432 : Int) < (m : Int) := by omega
  have h2 : ((m : Int) + 7) / 8 < (n : Int) := by omega
  have h3 : ¬ (n : Int) < ((m : Int) + 7) / 8 := by omega
  clear h
  go_enter Try.func28, Try.ntmps28
  go_wp2
  go_ret2
  exact ⟨rfl, rfl⟩

theorem shl_ne (x u : Nat) (h : x * 2 ^ u % 256 ≠ 0) : ((x : Int) * 2 ^ u % 256 != 0) = true := by
  rw [bne_iff_ne, show ((x : Int) * 2 ^ u) = ((x * 2 ^ u : Nat) : Int) by push_cast; rfl]; omega
theorem shl_eq (x u : Nat) (h : x * 2 ^ u % 256 = 0) : ((x : Int) * 2 ^ u % 256 != 0) = false := by
  rw [bne_eq_false_iff_eq, show ((x : Int) * 2 ^ u) = ((x * 2 ^ u : Nat) : Int) by push_cast; rfl]; omega

theorem nr_form (w : World) (ad : Addr) (n c m x : Nat) (hm : m ≤ 33554432) (hn : n + 1 = (m + 7) / 8) (hu : m % 8 ≠ 0) (hx : w.cell? (ad.add n) = some (.int .u8 (x : Int))) (hf : x * 2 ^ (m % 8) % 256 ≠ 0) :
    Calls Try.prog 28 #[.slice (some ad) (n + 1) c, .int .i64 m] w fun e w' => e = .returned (.tuple #[.pointer none, .int .i64 3]) ∧ w = w' := by
  have h0 : ¬ (m : Int) < 0 := by omega
  have h1 : ¬ (33554432 : Int) < (m : Int) := by omega
  have h2 : ((m : Int) + 7) / 8 = n + 1 := by omega
  have h4 : ((m : Int) % 8 != 0) = true := by rw [bne_iff_ne]; omega
  have h5 := shl_ne x (m % 8) hf
  clear hf
  go_enter Try.func28, Try.ntmps28
  go_wp2
  go_ret2
  exact ⟨rfl, rfl⟩

/-- A new reader of the bits bs has been made; nothing that was there has turned. -/
def Made (w : World) (bs : List Bool) (e : Ending) (w' : World) : Prop :=
  ∃ r p, e = .returned (.tuple #[.pointer (some ⟨r, 0, none⟩), .int .i64 0]) ∧ RIs w' r p bs 0 ∧ Below w.heap.size w w' ∧ w.heap.size ≤ r ∧ w.heap.size ≤ p

theorem made_of {w w1 : World} {bs : List Bool} {n : Nat} (hn : (pack bs).length = n) (hl : bs.length ≤ 33554432) (h1 : w1.heap[w.heap.size]? = some (.cells (u8s (pack bs)).toArray 5 (0, 0))) (h2 : Below w.heap.size w w1) :
    Made w bs (.returned (.tuple #[.pointer (some ⟨w1.heap.size, 0, none⟩), .int .i64 0])) (w1.alloc (.cells #[.slice (some ⟨w.heap.size, 0, none⟩) n n, .int .i64 (bs.length : Int), .int .i64 0] 71)) := by
  subst hn
  refine ⟨w1.heap.size, w.heap.size, rfl, ⟨heap_alloc_new _ _, ?_, Nat.zero_le _, hl⟩, h2.alloc h2.size _, h2.size, Nat.le_refl _⟩
  rw [Below.heap_alloc _ _ _ (heap_lt h1)]; exact h1

set_option maxHeartbeats 800000 in
theorem nr_whole (w : World) (A : Option Addr) (c : Nat) (bs : List Bool) (hl : bs.length ≤ 33554432) (hu : bs.length % 8 = 0) (h : Reads w A (pack bs).length (u8s (pack bs))) :
    Calls Try.prog 28 #[.slice A (pack bs).length c, .int .i64 (bs.length : Int)] w (Made w bs) := by
  have hlp := length_pack bs
  generalize hn : (pack bs).length = n at *
  have hlq : n ≤ 140737488355328 := by omega
  have h0 : ¬ (bs.length : Int) < 0 := by omega
  have h1 : ¬ (33554432 : Int) < (bs.length : Int) := by omega
  have h2 : ¬ (n : Int) < ((bs.length : Int) + 7) / 8 := by omega
  have h3 : ¬ ((bs.length : Int) + 7) / 8 < (n : Int) := by omega
  have h4 : ((bs.length : Int) % 8 != 0) = false := by rw [bne_eq_false_iff_eq]; omega
  have HR := Lib.hid h
  have HN := Lib.hid hn
  clear h hlp hn hu
  go_enter Try.func28, Try.ntmps28
  go_wp2_with fail
  refine (copyOf_any w A n c (pack bs) HR.out hlq).mono ?_
  rintro e w1 ⟨rfl, g1, g2⟩
  have H1 := Lib.hid g1
  clear g1
  go_wp2
  go_ret2
  exact made_of HN.out hl H1.out g2

set_option maxHeartbeats 800000 in
theorem nr_part (w : World) (ad : Addr) (n c x : Nat) (bs : List Bool) (hl : bs.length ≤ 33554432) (hu : bs.length % 8 ≠ 0) (hn : n + 1 = (pack bs).length) (h : Reads w (some ad) (n + 1) (u8s (pack bs)))
    (hx : w.cell? (ad.add n) = some (.int .u8 (x : Int))) (hf : x * 2 ^ (bs.length % 8) % 256 = 0) :
    Calls Try.prog 28 #[.slice (some ad) (n + 1) c, .int .i64 (bs.length : Int)] w (Made w bs) := by
  have hlp := length_pack bs
  have hlq : n + 1 ≤ 140737488355328 := by omega
  have h0 : ¬ (bs.length : Int) < 0 := by omega
  have h1 : ¬ (33554432 : Int) < (bs.length : Int) := by omega
  have h2 : ((bs.length : Int) + 7) / 8 = n + 1 := by omega
  have h4 : ((bs.length : Int) % 8 != 0) = true := by rw [bne_iff_ne]; omega
  have h5 := shl_eq x (bs.length % 8) hf
  have HR := Lib.hid h
  have HN := Lib.hid hn
  clear h hlp hn hu hf
  go_enter Try.func28, Try.ntmps28
  go_wp2_with fail
  refine (copyOf_any w (some ad) (n + 1) c (pack bs) HR.out hlq).mono ?_
  rintro e w1 ⟨rfl, g1, g2⟩
  have H1 := Lib.hid g1
  clear g1
  go_wp2
  go_ret2
  exact made_of HN.out.symm hl H1.out g2
end Go.Proofs.Ytdlblpmjghjhlaa
