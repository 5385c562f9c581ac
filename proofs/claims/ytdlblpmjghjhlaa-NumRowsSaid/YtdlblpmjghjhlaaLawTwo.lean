/- What a writer has as a text of bits; a reader of such a text; the bits of bytes. -/
import Derived.Test.YtdlblpmjghjhlaaRefBytes
import Derived.Test.YtdlblpmjghjhlaaRefGet
import Derived.Test.YtdlblpmjghjhlaaRefLong
import Derived.Test.YtdlblpmjghjhlaaZig
namespace Go.Proofs.Ytdlblpmjghjhlaa
open Go.RowKit

set_option maxHeartbeats 1000000 in
set_option maxRecDepth 100000 in
theorem written_any (w : World) (B g : Nat) (v : Value) (bs : List Bool) (h : WIs w B g v bs) (hl : bs.length ≤ 900) :
    Calls Try.prog 16 #[.pointer (some ⟨g, 0, none⟩)] w fun e w' => e = .returned (.string (str bs)) ∧ Below w.heap.size w w' := by
  have HW := Lib.hid h
  have hp := length_pack bs
  have HM : ∃ m, bs.length = m := ⟨_, rfl⟩
  obtain ⟨m, hm⟩ := HM
  rw [hm] at hp hl
  have HP : ∃ n, (pack bs).length = n := ⟨_, rfl⟩
  obtain ⟨n, hn⟩ := HP
  rw [hn] at hp
  have HM := Lib.hid hm
  have HN := Lib.hid hn
  have HQ := Lib.hid hp
  have t1 : (((n : Int) != ((m : Int) + 7) / 8)) = false := by simp; omega
  have HU := Lib.hid (unpack_pack bs)
  clear h hm hn hp
  go_enter Try.func16, Try.ntmps16
  go_wp2_with fail
  refine (bytes_any w B g v bs HW.out (by rw [HM.out]; omega)).mono ?_
  rintro e w1 ⟨rfl, r1, b1⟩
  rw [HN.out]
  have W1 := Lib.hid (HW.out.below b1)
  have R1 := Lib.hid (show Reads w1 (some ⟨w.heap.size, 0, none⟩) n (u8s (pack bs)) by rw [← HN.out]; exact Reads.of_bytes r1)
  have B1 := Lib.hid b1
  clear r1 b1
  go_wp2_with fail
  refine (len_any w1 B g v bs W1.out).mono ?_
  rintro e w2 ⟨rfl, rfl⟩
  rw [HM.out]
  go_wp2_with fail
  refine (len_any w1 B g v bs W1.out).mono ?_
  rintro e w2 ⟨rfl, rfl⟩
  rw [HM.out]
  go_wp2_with fail
  refine (len_any w1 B g v bs W1.out).mono ?_
  rintro e w2 ⟨rfl, rfl⟩
  rw [HM.out]
  go_wp2_with fail
  refine (rbits_any w1 (some ⟨w.heap.size, 0, none⟩) n n m (pack bs) (pack_lt bs) (by have := HQ.out; omega) hl R1.out).mono ?_
  rintro e w2 ⟨rfl, rfl⟩
  go_wp2
  go_ret
  rw [← HM.out, HU.out]
  exact ⟨rfl, B1.out⟩

set_option maxHeartbeats 1000000 in
set_option maxRecDepth 100000 in
theorem reader_any (w : World) (bs : List Bool) (hl : bs.length ≤ 900) :
    Calls Try.prog 18 #[.string (str bs)] w fun e w' => ∃ r p, e = .returned (.pointer (some ⟨r, 0, none⟩)) ∧ RIs w' r p bs 0 ∧ Below w.heap.size w w' ∧ w.heap.size ≤ r := by
  have hsz := size_str bs
  obtain ⟨m, hm⟩ : ∃ m, bs.length = m := ⟨_, rfl⟩
  rw [hm] at hsz hl
  have HM := Lib.hid hm
  clear hm
  go_enter Try.func18, Try.ntmps18
  go_wp2_with fail
  refine (rbytes_any w bs (by rw [HM.out]; exact hl)).mono ?_
  rintro e w1 ⟨A, c, rfl, r1, b1⟩
  have R1 := Lib.hid r1
  have B1 := Lib.hid b1
  clear r1 b1
  go_wp2_with fail
  rw [← HM.out]
  refine (nr_ok w1 A c bs (by rw [HM.out]; omega) R1.out).mono ?_
  rintro e w2 ⟨r, p, rfl, h2, b2, hr, hp⟩
  have R2 := Lib.hid h2
  have B2 := Lib.hid (B1.out.trans (b2.mono B1.out.size))
  have H2 := Lib.hid (Nat.le_trans B1.out.size hr)
  clear h2 b2 hr hp
  go_wp2
  go_ret
  exact ⟨r, p, rfl, R2.out, B2.out, H2.out⟩

set_option maxHeartbeats 1000000 in
set_option maxRecDepth 100000 in
theorem text_any (w : World) (A : Option Addr) (N c l : Nat) (xs : List Nat) (hx : ∀ x ∈ xs, x < 256) (hN : N ≤ 100) (hl : l < 256) (h : Reads w A N (u8s xs)) :
    Calls Try.prog 17 #[.slice A N c, .int .u8 (l : Int)] w fun e w' => e = .returned (.string (str (unpack xs (8 * N - l % 8)))) ∧ w = w' := by
  have HR := Lib.hid h
  have HX := Lib.hid hx
  clear h hx
  go_enter Try.func17, Try.ntmps17
  go_wp2_with fail
  rw [show max (8 * (N : Int) - (l : Int) % 8) 0 = ((8 * N - l % 8 : Nat) : Int) by omega]
  refine (rbits_any w A N c (8 * N - l % 8) xs HX.out (by omega) (by omega) HR.out).mono ?_
  rintro e w1 ⟨rfl, rfl⟩
  go_wp2
  go_ret
  exact ⟨rfl, rfl⟩
end Go.Proofs.Ytdlblpmjghjhlaa
