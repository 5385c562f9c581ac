/- awake of the law of layer 7: the container without chunks. -/
import Derived.Test.YtngambkbpdjddaaBoxRightF
namespace Go.Proofs.Ytngambkbpdjddaa
open Go.RowKit

theorem chunks_nil (w : World) : Chunks w none 0 [] := ⟨rfl, fun h => absurd h (by omega)⟩
set_option maxHeartbeats 1600000 in
set_option maxRecDepth 100000 in
theorem awake7_true (w : World) : Calls Try.prog 11 #[] w fun e w' => e = .returned (.bool true) ∧ Below w.heap.size w w' := by
  have hd : DigC [] := fun x hx => by cases hx
  have hbl : (boxB []).length = 36 := by rw [length_box]; rfl
  have KP := bpack_ok w none 0 0 [] (chunks_nil w) hd (by omega) (by decide) (fun x hx => by cases hx)
  unfold PackIs at KP
  rw [hbl] at KP
  have K1 := Lib.hid KP
  have hdb := dig_box hd
  have BX := Lib.hid (show IsBox (boxB []) from ⟨[], rfl, hd⟩)
  have OP := Lib.hid (fun k P (h : Opens (boxB []) k P) => show k = 0 from (box_opens (by decide) (fun x hx => by cases hx) h).1)
  have NO := Lib.hid (box_head [] (by decide))
  have HD := Lib.hid hdb
  generalize boxB [] = bx at *
  clear KP hdb hd hbl
  go_enter Try.func11, Try.ntmps11
  go_wp2_with fail
  refine K1.out.mono ?_
  rintro e w1 ⟨v1, rfl, o1, b1⟩
  obtain ⟨A1, c1, rfl, _, r1⟩ := Reads.of_own o1
  have hc1 : 36 ≤ c1 := by
    rcases own_info o1 with ⟨_, h⟩ | ⟨q, c, h, hc⟩
    · omega
    · injection h with _ _ h; omega
  have K2 := Lib.hid (bopen_any w1 A1 36 c1 bx r1 HD.out hc1 (by omega))
  have R1 := Lib.hid r1
  have B1 := Lib.hid b1
  clear o1 b1 r1
  go_wp2_with fail
  refine K2.out.mono ?_
  rintro e w2 (⟨k, P, q, hO, rfl, hP, hq, b2⟩ | ⟨hno, rfl, b2⟩)
  · obtain rfl := OP.out k P hO
    have B2 := Lib.hid (up2 B1.out b2)
    have K3 := Lib.hid (bright_any w2 A1 36 c1 bx (R1.out.below b2) HD.out hc1 (by omega))
    clear hO hP b2
    go_wp2_with fail
    refine K3.out.mono ?_
    rintro e w3 ⟨r, hr, rfl, b3⟩
    obtain rfl : r = true := hr.2 BX.out
    have B3 := Lib.hid (up2 B2.out b3)
    clear hr b3
    go_wp2
    go_ret
    exact ⟨rfl, B3.out⟩
  · exact absurd hno NO.out
end Go.Proofs.Ytngambkbpdjddaa
