/- Layer 12: the law's own table: of surfaces of at most forty triangles; the document's Surface. -/
import Derived.Test.YtmflacmgffpjoaaGA
import Derived.Test.YtmflacmgffpjoaaGN
import Derived.Test.YtmflacmgffpjoaaGP
namespace Go.Proofs.Ytmflacmgffpjoaa
open Go.RowKit

set_option maxHeartbeats 2000000 in
set_option maxRecDepth 100000 in
theorem surf9_any (w : World) (N : Int) (A : Option Addr) (n c : Nat) (l : List Tr) (ht : T3 w A n l) (hn : n ≤ 1000000) (bb : Bool) (hbb : bb = true ↔ Surf N l) : Calls Try.prog 12 #[.agg #[.int .i64 N, .slice A n c]] w (BoolTold10 w bb) := by
  obtain ⟨p, hp⟩ := isPin_exists l
  obtain ⟨w1, hw1⟩ : ∃ w1, w.alloc (.cells #[.int .i64 N, .slice A n c] 24) = w1 := ⟨_, rfl⟩
  obtain ⟨g0, hg0⟩ : ∃ g0, w.heap.size = g0 := ⟨_, rfl⟩
  have b1 : Below w.heap.size w w1 := by rw [← hw1]; exact (Below.refl _ w).alloc (Nat.le_refl _) _
  have x1 : Bx w1 g0 N A n c := by rw [← hw1, ← hg0]; exact Bx.made w N A n c
  have s0 := x1.c0
  have s1 := x1.c1
  have hs := surf_iff (N := N) hp
  have KA := Lib.hid (r9all_any w1 N A n c l p hp (ht.below b1) hn)
  obtain ⟨ws, hws⟩ : ∃ ws, wits p N l = ws := ⟨_, rfl⟩
  rw [hws] at KA hs
  have hq : (ws.length == 0) = bb := by
    rw [Bool.eq_iff_iff, beq_iff_eq, List.length_eq_zero_iff, hs, hbb]
  have B1 := Lib.hid b1
  have HQ := Lib.hid hq
  clear b1 x1 ht hp hs hbb hws hq
  go_enter Try.func12, Try.ntmps12
  go_wp2_with fail
  refine KA.out.mono ?_
  rintro e w3 ⟨A3, c3, rfl, _, b3⟩
  have B3 := Lib.hid (up2 B1.out b3)
  clear b3
  obtain ⟨m, hm⟩ : ∃ m, ws.length = m := ⟨_, rfl⟩
  have hz : ((m : Int) == 0) = bb := by
    rw [← HQ.out, hm]
    cases m <;> rfl
  simp only [hm]
  have HZ := Lib.hid hz
  clear hm hz
  go_wp2_with fail
  go_ret
  refine ⟨?_, B3.out⟩
  rw [← HZ.out]; rfl
/-- What the law's own table tells. -/
def TabTold (w : World) (N : Int) (n : Nat) (l : List Tr) (e : Ending) (w' : World) : Prop :=
  Below w.heap.size w w' ∧ ((e = .returned (.pointer none) ∧ (40 < n ∨ ¬ Surf N l)) ∨ (n ≤ 40 ∧ ∃ g, e = .returned (.pointer (some ⟨g, 0, none⟩)) ∧ KTab w' w.heap.size g N l))
set_option maxHeartbeats 2000000 in
set_option maxRecDepth 100000 in
theorem table12_any (w : World) (N : Int) (A : Option Addr) (n c : Nat) (l : List Tr) (ht : T3 w A n l) : Calls Try.prog 11 #[.agg #[.int .i64 N, .slice A n c]] w (TabTold w N n l) := by
  obtain ⟨p, hp⟩ := isPin_exists l
  obtain ⟨w1, hw1⟩ : ∃ w1, w.alloc (.cells #[.int .i64 N, .slice A n c] 24) = w1 := ⟨_, rfl⟩
  obtain ⟨g0, hg0⟩ : ∃ g0, w.heap.size = g0 := ⟨_, rfl⟩
  have b1 : Below w.heap.size w w1 := by rw [← hw1]; exact (Below.refl _ w).alloc (Nat.le_refl _) _
  have x1 : Bx w1 g0 N A n c := by rw [← hw1, ← hg0]; exact Bx.made w N A n c
  have s0 := x1.c0
  have s1 := x1.c1
  have HT := Lib.hid ht
  have HP := Lib.hid hp
  have B1 := Lib.hid (And.intro b1 x1)
  clear b1 x1 ht hp
  by_cases h40 : (40 : Int) < n
  · have d0 : decide ((n : Int) > 40) = true := decide_eq_true h40
    have HD := Lib.hid (show 40 < n by omega)
    clear h40
    go_enter Try.func11, Try.ntmps11
    go_wp2_with fail
    go_ret
    exact ⟨B1.out.1, .inl ⟨rfl, .inl HD.out⟩⟩
  have d0 : decide ((n : Int) > 40) = false := decide_eq_false h40
  have hn : n ≤ 40 := by omega
  clear h40
  by_cases hs : Surf N l
  case neg =>
    have KS := Lib.hid (surf9_any w1 N A n c l (HT.out.below B1.out.1) (by omega) false ⟨fun h => (by cases h), fun h => absurd h hs⟩)
    have HD := Lib.hid hs
    clear hs
    go_enter Try.func11, Try.ntmps11
    go_wp2_with fail
    refine KS.out.mono ?_
    rintro e w3 ⟨rfl, b3⟩
    have B3 := Lib.hid (up2 B1.out.1 b3)
    clear b3
    go_wp2_with fail
    go_ret
    exact ⟨B3.out, .inl ⟨rfl, .inr HD.out⟩⟩
  have KS := Lib.hid (surf9_any w1 N A n c l (HT.out.below B1.out.1) (by omega) true ⟨fun _ => hs, fun _ => rfl⟩)
  have HW := Lib.hid ((surf_iff HP.out).2 hs)
  clear hs
  go_enter Try.func11, Try.ntmps11
  go_wp2_with fail
  refine KS.out.mono ?_
  rintro e w3 ⟨rfl, b3⟩
  have x3 := B1.out.2.below b3
  have s0 := x3.c0
  have s1 := x3.c1
  have B3 := Lib.hid (up2 B1.out.1 b3)
  have KN := Lib.hid (knew_any w3 N A n c l p (HT.out.below B3.out) HP.out (by omega))
  clear b3 x3
  go_wp2_with fail
  refine KN.out.mono ?_
  rintro e w4 ⟨b4, ⟨hws, _⟩ | ⟨_, g, rfl, tab⟩⟩
  · exact absurd HW.out hws
  · have B4 := Lib.hid (And.intro (up2 B3.out b4) tab)
    clear b4 tab
    simp only [wv]
    go_wp2_with fail
    go_ret
    exact ⟨up1 B4.out.1 _, .inr ⟨hn, g, rfl, (B4.out.2.below ((Below.refl _ _).alloc (Nat.le_refl _) _)).base B3.out.size⟩⟩
end Go.Proofs.Ytmflacmgffpjoaa
