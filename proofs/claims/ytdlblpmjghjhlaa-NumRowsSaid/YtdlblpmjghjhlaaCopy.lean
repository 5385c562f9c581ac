/- copyOf: the same bytes in a new block. -/
import Derived.Test.YtdlblpmjghjhlaaPut
import Derived.Laws.CopyOwn
import Derived.Deep.OwnRows
namespace Go.Proofs.Ytdlblpmjghjhlaa
open Go.RowKit

/-- A slice of one-cell elements that reads as xs (nil let in). -/
def Reads (w : World) (A : Option Addr) (n : Nat) (xs : List Value) : Prop :=
  xs.length = n ∧ (0 < n → ∃ ad, A = some ad ∧ ∀ j u, xs[j]? = some u → w.cell? (ad.add j) = some u)

theorem Reads.below {w w' : World} {A : Option Addr} {n : Nat} {xs : List Value} (h : Reads w A n xs) (hb : Below w.heap.size w w') : Reads w' A n xs :=
  ⟨h.1, fun hn => by
    obtain ⟨ad, hA, hc⟩ := h.2 hn
    exact ⟨ad, hA, fun j u hj => (hb.cell (World.block_lt_of_cell? w _ (hc j u hj))).trans (hc j u hj)⟩⟩
theorem Reads.of_block {w : World} {q : Nat} {xs : List Value} {t : TypeId} (h : w.heap[q]? = some (.cells xs.toArray t (0, 0))) : Reads w (some ⟨q, 0, none⟩) xs.length xs :=
  ⟨rfl, fun _ => ⟨_, rfl, fun j u hj => by
    have e : (⟨q, 0, none⟩ : Addr).add j = ⟨q, j, none⟩ := by unfold Addr.add; split <;> simp_all
    rw [e, cell_in h]; simpa using hj⟩⟩
theorem Reads.of_bytes {w : World} {q : Nat} {xs : List Nat} (h : w.heap[q]? = some (.cells (u8s xs).toArray 5 (0, 0))) : Reads w (some ⟨q, 0, none⟩) xs.length (u8s xs) := by
  have := Reads.of_block h
  rwa [length_u8s] at this

theorem u8s_one (xs : List Nat) : ∀ u ∈ u8s xs, u.oneCell' = true := by
  intro u hu
  simp only [u8s, List.mem_map] at hu
  obtain ⟨x, _, rfl⟩ := hu
  rfl

theorem splice_all {α : Type} (L cs : List α) (h : cs.length = L.length) : splice L 0 cs = cs := by
  simp [splice, h]

set_option maxHeartbeats 800000 in
theorem copyOf_any (w : World) (A : Option Addr) (n c : Nat) (xs : List Nat) (h : Reads w A n (u8s xs)) (hn : n ≤ 140737488355328) :
    Calls Try.prog 40 #[.slice A n c] w fun e w' => e = .returned (.slice (some ⟨w.heap.size, 0, none⟩) n n) ∧ w'.heap[w.heap.size]? = some (.cells (u8s xs).toArray 5 (0, 0)) ∧ Below w.heap.size w w' := by
  have hmk := fun W => run_make_row' (P := Try.prog) 25 5 (.int .u8 0) 1 Try.underlying25 Try.info5 rfl .i64 .i64 n (by omega) (by omega) W
  have HR := Lib.hid h
  clear h
  go_enter Try.func40, Try.ntmps40
  have hb0 : Below w.heap.size w (w.alloc (.cells (madeCells #[.int .u8 0] n) 5)) := (Below.refl _ _).alloc (Nat.le_refl _) _
  have hg0 : (w.alloc (.cells (madeCells #[.int .u8 0] n) 5)).heap[w.heap.size]? = some (.cells (List.replicate n (Value.int .u8 0)).toArray 5 (0, 0)) := by
    rw [heap_alloc_new, ← toList_madeCells_one]
  have hp0 : 0 < (u8s xs).length → (some (⟨w.heap.size, 0, none⟩ : Addr)) = some ⟨w.heap.size, 0, none⟩ ∧ ∃ ad, A = some ad ∧ ∀ j v, (u8s xs)[j]? = some v → (w.alloc (.cells (madeCells #[.int .u8 0] n) 5)).cell? (ad.add j) = some v := by
    intro hpos
    obtain ⟨ad, hA, hc⟩ := HR.out.2 (by have := HR.out.1; omega)
    exact ⟨rfl, ad, hA, fun j v hv => (hb0.cell (World.block_lt_of_cell? w _ (hc j v hv))).trans (hc j v hv)⟩
  have HB := Lib.hid hb0
  have HG := Lib.hid hg0
  have HP := Lib.hid hp0
  clear hb0 hg0 hp0
  go_wp2_with (with_reducible refine wpList_copy_splice rfl (.tmp 7) (.tmp 8) 25 25 rfl 5 Try.underlying25 (by kernel_rfl) (some ⟨w.heap.size, 0, none⟩) A n n n c rfl rfl w.heap.size 0 (List.replicate n (Value.int .u8 0)) 5 HG.out (u8s xs) ?hn HP.out ?hfit (u8s_one xs) w.heap.size w HB.out (Nat.le_refl _) ?_)
  case hn => rw [HR.out.1]
  case hfit => exact Nat.le_of_eq HR.out.1
  intro w1 hg1 hb1
  go_wp2
  go_ret
  refine ⟨rfl, ?_, hb1⟩
  have := hg1.out
  rwa [splice_all _ _ (by rw [HR.out.1]; simp)] at this

theorem WIs.reads {w : World} {B g : Nat} {A : Option Addr} {n c : Nat} {bs : List Bool} (h : WIs w B g (.slice A n c) bs) : n = (pack bs).length ∧ Reads w A n (u8s (pack bs)) := by
  rcases h.row.2 with ⟨h1, h2⟩ | ⟨q, cap, cur, h1, _⟩
  · simp only [Value.slice.injEq] at h1
    obtain ⟨rfl, rfl, rfl⟩ := h1
    exact ⟨h2.symm, by rw [length_u8s, h2], fun h => absurd h (by omega)⟩
  · simp only [Value.slice.injEq] at h1
    obtain ⟨rfl, rfl, rfl⟩ := h1
    exact ⟨rfl, length_u8s _, fun _ => ⟨_, rfl, h.row.cells rfl⟩⟩
theorem WIs.form {w : World} {B g : Nat} {v : Value} {bs : List Bool} (h : WIs w B g v bs) : ∃ A c, v = .slice A (pack bs).length c := by
  rcases h.row.2 with ⟨h1, h2⟩ | ⟨q, cap, cur, h1, _⟩
  · exact ⟨none, 0, by rw [h1, h2]⟩
  · exact ⟨_, _, h1⟩

theorem len_any (w : World) (B g : Nat) (v : Value) (bs : List Bool) (h : WIs w B g v bs) :
    Calls Try.prog 14 #[.pointer (some ⟨g, 0, none⟩)] w fun e w' => e = .returned (.int .i64 (bs.length : Int)) ∧ w = w' := by
  have c1 : w.cell? ⟨g, 1, none⟩ = some (.int .i64 (bs.length : Int)) := by rw [cell_in h.blk]; rfl
  clear h
  go_enter Try.func14, Try.ntmps14
  go_wp2
  go_ret
  exact ⟨rfl, rfl⟩

theorem bytes_any (w : World) (B g : Nat) (v : Value) (bs : List Bool) (h : WIs w B g v bs) (hl : bs.length ≤ 33554432) :
    Calls Try.prog 29 #[.pointer (some ⟨g, 0, none⟩)] w fun e w' => e = .returned (.slice (some ⟨w.heap.size, 0, none⟩) (pack bs).length (pack bs).length) ∧
      w'.heap[w.heap.size]? = some (.cells (u8s (pack bs)).toArray 5 (0, 0)) ∧ Below w.heap.size w w' := by
  obtain ⟨A, c, rfl⟩ := h.form
  have c0 : w.cell? ⟨g, 0, none⟩ = some (.slice A (pack bs).length c) := by rw [cell_in h.blk]; rfl
  have hr := h.reads.2
  have hlp := length_pack bs
  have hlq : (pack bs).length ≤ 140737488355328 := by omega
  generalize hn : (pack bs).length = n at *
  clear h hlp hn
  have HR := Lib.hid hr
  clear hr
  go_enter Try.func29, Try.ntmps29
  go_wp2_with fail
  refine (copyOf_any w A n c (pack bs) HR.out hlq).mono ?_
  rintro e w1 ⟨rfl, h1, h2⟩
  have H1 := Lib.hid h1
  clear h1
  go_wp2
  go_ret
  exact ⟨rfl, H1.out, h2⟩
end Go.Proofs.Ytdlblpmjghjhlaa
