/- The document's example of layer 3 comes out as the chapter says: awake answers true, and turns nothing that was there. -/
import Derived.Test.YtjacjgchbpghiaaTabNew
import Derived.Test.YtjacjgchbpghiaaTabFind
import Derived.Test.YtjacjgchbpghiaaTabBump
namespace Go.Proofs.Ytjacjgchbpghiaa
open Go.RowKit

def ex3 : List Int := [1, 3, 2]
theorem ok_ex3 : Ok ex3 := ⟨by decide, by decide, by decide, by decide⟩
theorem bumped_ex3 : bumped ex3 2 = [1, 3, 34] := by decide
theorem ok_ex3' : Ok [1, 3, 34] := ⟨by decide, by decide, by decide, by decide⟩

theorem new_ex (w : World) (b : Nat) (h : w.heap[b]? = some (.cells #[.int .i64 1, .int .i64 3, .int .i64 2] 3 (0, 0))) :
    Calls Try.prog 12 #[.slice (some ⟨b, 0, none⟩) 3 3] w fun e w' => ∃ g q cap, e = .returned (.tuple #[.pointer (some ⟨g, 0, none⟩), .int .i64 0]) ∧ TIs w' g q cap ex3 ∧ w.heap.size ≤ g ∧ w.heap.size ≤ q ∧ Below w.heap.size w w' := by
  have hr : Reads w (some ⟨b, 0, none⟩) 3 (ints ex3) := Reads.of_block h
  have := new_any w (some ⟨b, 0, none⟩) 3 3 ex3 hr (by omega) (by omega) ok_ex3.one
  refine this.mono fun e w' h => ?_
  unfold Newly at h
  rwa [if_pos (by decide)] at h

set_option maxHeartbeats 2000000 in
set_option maxRecDepth 100000 in
theorem awake_true (w : World) : Calls Try.prog 11 #[] w fun e w' => e = .returned (.bool true) ∧ Below w.heap.size w w' := by
  have b0 : Below w.heap.size w (w.alloc (.cells #[.int .i64 1, .int .i64 3, .int .i64 2] 3)) := (Below.refl _ _).alloc (Nat.le_refl _) _
  have K0 := Lib.hid (new_ex _ w.heap.size (heap_alloc_new w (.cells #[.int .i64 1, .int .i64 3, .int .i64 2] 3)))
  have B0 := Lib.hid b0
  clear b0
  go_enter Try.func11, Try.ntmps11
  go_wp2_with fail
  refine K0.out.mono ?_
  rintro e w1 ⟨g, q, cap, rfl, t1, hg, hq, b1⟩
  have T1 := Lib.hid t1
  have B1 := Lib.hid (B0.out.trans (b1.mono B0.out.size))
  have HQ := Lib.hid (Nat.le_trans B0.out.size hq)
  clear t1 b1 hg hq
  go_wp2_with fail
  refine (find_ok w1 g q cap ex3 3 1 T1.out ok_ex3 (by decide) (by decide) (by decide)).mono ?_
  rintro e w2 ⟨rfl, b2⟩
  have T2 := Lib.hid (T1.out.below b2)
  have B2 := Lib.hid (B1.out.trans (b2.mono B1.out.size))
  clear b2
  go_wp2_with fail
  refine (total_any w2 g q cap ex3 T2.out (by decide) (by decide)).mono ?_
  rw [show ex3.sum = 6 by decide]
  rintro e w3 ⟨rfl, b3⟩
  have T3 := Lib.hid (T2.out.read b3)
  have B3 := Lib.hid (B2.out.trans b3.below)
  clear b3
  go_wp2_with fail
  refine (low_any w3 g q cap ex3 2 T3.out (by decide)).mono ?_
  rw [show lowOf ex3 2 = 4 by decide]
  rintro e w4 ⟨rfl, b4⟩
  have T4 := Lib.hid (T3.out.read b4)
  have B4 := Lib.hid (B3.out.trans b4.below)
  clear b4
  go_wp2_with fail
  refine (bump_ok w4 g q cap ex3 2 T4.out ok_ex3 (by decide)).mono ?_
  rw [bumped_ex3]
  rintro e w5 ⟨rfl, t5, g5⟩
  have T5 := Lib.hid t5
  have B5 := Lib.hid (B4.out.trans (grown_below g5 HQ.out B4.out.size))
  clear t5 g5
  go_wp2_with fail
  refine (count_any w5 g q cap [1, 3, 34] 2 T5.out ok_ex3').mono ?_
  rw [show cntOf [1, 3, 34] 2 = 34 by decide]
  rintro e w6 ⟨rfl, b6⟩
  have B6 := Lib.hid (B5.out.trans b6.below)
  clear b6
  go_wp2
  go_ret
  exact ⟨rfl, B6.out⟩
end Go.Proofs.Ytjacjgchbpghiaa
