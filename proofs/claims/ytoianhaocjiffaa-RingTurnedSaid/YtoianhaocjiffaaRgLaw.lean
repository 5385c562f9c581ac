/- Layer 11: the law's own functions: a surface's table; the document's example. -/
import Derived.Test.YtoianhaocjiffaaRgDev
import Derived.Test.YtoianhaocjiffaaGP
namespace Go.Proofs.Ytoianhaocjiffaa
open Go.RowKit

def Small11 (n : Nat) (N : Int) : Prop := (n : Int) ≤ 40 ∧ N ≤ 60 ∧ 0 ≤ N
/-- What the law's own table tells. -/
def TableTold (w : World) (N : Int) (n : Nat) (l : List Tr) (e : Ending) (w' : World) : Prop :=
  Below w.heap.size w w' ∧ (e = .returned (.pointer none) ∨ (Small11 n N ∧ ∃ g, e = .returned (.pointer (some ⟨g, 0, none⟩)) ∧ KTab w' w.heap.size g N l))
set_option maxHeartbeats 2000000 in
set_option maxRecDepth 100000 in
theorem table11_any (w : World) (N : Int) (A : Option Addr) (n c : Nat) (l : List Tr) (ht : T3 w A n l) : Calls Try.prog 11 #[.agg #[.int .i64 N, .slice A n c]] w (TableTold w N n l) := by
  obtain ⟨p, hp⟩ := isPin_exists l
  obtain ⟨w1, hw1⟩ : ∃ w1, w.alloc (.cells #[.int .i64 N, .slice A n c] 24) = w1 := ⟨_, rfl⟩
  obtain ⟨g0, hg0⟩ : ∃ g0, w.heap.size = g0 := ⟨_, rfl⟩
  have b1 : Below w.heap.size w w1 := by rw [← hw1]; exact (Below.refl _ w).alloc (Nat.le_refl _) _
  have x1 : Bx w1 g0 N A n c := by rw [← hw1, ← hg0]; exact Bx.made w N A n c
  have s0 := x1.c0
  have s1 := x1.c1
  have HT := Lib.hid ht
  have HP := Lib.hid hp
  have B1 := Lib.hid (And.intro b1 x1)
  clear b1 x1 ht hp
  by_cases h40 : (40 : Int) < n
  · have d0 : decide ((n : Int) > 40) = true := decide_eq_true h40
    clear h40
    go_enter Try.func11, Try.ntmps11
    go_wp2_with fail
    go_ret
    exact ⟨B1.out.1, .inl rfl⟩
  have d0 : decide ((n : Int) > 40) = false := decide_eq_false h40
  by_cases h60 : 60 < N
  · have d1 : decide (N > 60) = true := decide_eq_true h60
    clear h40 h60
    go_enter Try.func11, Try.ntmps11
    go_wp2_with fail
    go_ret
    exact ⟨B1.out.1, .inl rfl⟩
  have d1 : decide (N > 60) = false := decide_eq_false h60
  by_cases h00 : N < 0
  · have d2 : decide (N < 0) = true := decide_eq_true h00
    clear h40 h60 h00
    go_enter Try.func11, Try.ntmps11
    go_wp2_with fail
    go_ret
    exact ⟨B1.out.1, .inl rfl⟩
  have d2 : decide (N < 0) = false := decide_eq_false h00
  have HS := Lib.hid (show Small11 n N from ⟨by omega, by omega, by omega⟩)
  have KN := Lib.hid (knew_any w1 N A n c l p (HT.out.below B1.out.1) HP.out (by omega))
  clear h40 h60 h00
  go_enter Try.func11, Try.ntmps11
  go_wp2_with fail
  refine KN.out.mono ?_
  rintro e w3 ⟨b3, ⟨_, rfl⟩ | ⟨_, g, rfl, tab⟩⟩
  · have B3 := Lib.hid (up2 B1.out.1 b3)
    clear b3
    obtain ⟨y, hy⟩ : ∃ y, (wits p N l).headD (0, 0, 0) = y := ⟨_, rfl⟩
    simp only [hy, wv]
    clear hy
    go_wp2_with fail
    go_ret
    exact ⟨up1 B3.out _, .inl rfl⟩
  · have B3 := Lib.hid (And.intro (up2 B1.out.1 b3) tab)
    clear b3 tab
    simp only [wv]
    go_wp2_with fail
    go_ret
    exact ⟨up1 B3.out.1 _, .inr ⟨HS.out, g, rfl, (B3.out.2.below ((Below.refl _ _).alloc (Nat.le_refl _) _)).base B1.out.1.size⟩⟩

def exR : List Tr := [(0, 2, 1), (0, 1, 3), (1, 2, 3), (2, 0, 3)]
theorem surf_exR : Surf 4 exR := surf_by (N := 4) (by decide) (by decide) (by decide) (by decide) (by decide) (by decide) (by decide)
theorem ring_exR : IsRing exR 0 [0, 3, 10] := by
  have hc : cAt exR 0 = [0, 3, 10] := by decide
  have hf : IsFirst exR 0 0 := by
    refine ⟨by rw [hc]; decide, .inr ⟨fun d hd => ?_, fun d _ => Nat.zero_le d⟩⟩
    rw [hc] at hd
    simp only [List.mem_cons, List.not_mem_nil, or_false] at hd
    rcases hd with rfl | rfl | rfl <;> decide
  refine .inr ⟨0, hf, ⟨⟨by decide, rfl, by decide, fun x hx => by rw [hc]; exact hx, fun i hi => ?_⟩, fun x => by rw [hc], by rw [hc], fun h => ?_, fun _ => by decide⟩⟩
  · have hi : i + 1 < 3 := hi
    rcases (show i = 0 ∨ i = 1 by omega) with rfl | rfl <;> decide
  · exact absurd h (by decide)
theorem link_exR : linkL exR [0, 3, 10] = [2, 1, 3] := by decide
theorem inner_exR : InnerL exR [0, 3, 10] := by decide
set_option maxHeartbeats 8000000 in
set_option maxRecDepth 100000 in
theorem awake11_true (w : World) : Calls Try.prog 10 #[] w (BoolTold10 w true) := by
  obtain ⟨p, hp⟩ := isPin_exists exR
  obtain ⟨w1, hw1⟩ : ∃ w1, w.alloc (.cells (ints (flat3 exR)).toArray 52) = w1 := ⟨_, rfl⟩
  obtain ⟨q, hq⟩ : ∃ q, w.heap.size = q := ⟨_, rfl⟩
  have b1 : Below w.heap.size w w1 := by rw [← hw1]; exact (Below.refl _ w).alloc (Nat.le_refl _) _
  have r1 : Row3 w1 q exR := by rw [← hw1, ← hq]; exact heap_alloc_new w _
  have KN := Lib.hid (knew_any w1 4 (some ⟨q, 0, none⟩) 4 4 exR p r1.t3 hp (by omega))
  have HW := Lib.hid ((surf_iff hp).2 surf_exR)
  have hw1' : w.alloc (.cells #[.int .i64 0, .int .i64 2, .int .i64 1, .int .i64 0, .int .i64 1, .int .i64 3, .int .i64 1, .int .i64 2, .int .i64 3, .int .i64 2, .int .i64 0, .int .i64 3] 52) = w1 := hw1
  have B1 := Lib.hid b1
  clear hw1 b1 r1 hp
  go_enter Try.func10, Try.ntmps10
  go_wp2_with fail
  refine KN.out.mono ?_
  rintro e w3 ⟨b3, ⟨hws, _⟩ | ⟨_, g, rfl, tab⟩⟩
  · exact absurd HW.out hws
  obtain ⟨w4, hw4⟩ : ∃ w4, w3.alloc (.cells #[.int .i64 0, .int .i64 0, .int .i64 0] 47) = w4 := ⟨_, rfl⟩
  have b4 : Below w3.heap.size w3 w4 := by rw [← hw4]; exact (Below.refl _ w3).alloc (Nat.le_refl _) _
  have T4 := Lib.hid (tab.below b4)
  have B4 := Lib.hid (up2 B1.out (up2 b3 b4))
  have HW4 := Lib.hid hw4
  have KL := Lib.hid (list11_any w4 (.pointer (some ⟨g, 0, none⟩)) 0 20 (by omega) (natsI [0, 3, 10]) (by decide) w4.heap.size (Nat.le_refl _) (fun W b => rgaround_any w4 _ g 4 exR T4.out 0 (by omega) _ ring_exR W b))
  clear b3 tab b4 hw4
  simp only [wv]
  go_wp2_with fail
  simp only [HW4.out]
  refine KL.out.mono ?_
  rintro e w5 ⟨A5, n5, c5, rfl, o5, b5⟩
  obtain ⟨A5', c5', e5, _, ro5⟩ := Reads.of_own o5
  injection e5 with e5a _ e5b
  subst e5a e5b
  obtain ⟨w6, hw6⟩ : ∃ w6, w5.alloc (.cells #[.int .i64 0, .int .i64 3, .int .i64 10] 3) = w6 := ⟨_, rfl⟩
  obtain ⟨q6, hq6⟩ : ∃ q6, w5.heap.size = q6 := ⟨_, rfl⟩
  have b6 : Below w5.heap.size w5 w6 := by rw [← hw6]; exact (Below.refl _ w5).alloc (Nat.le_refl _) _
  have r6 : RowI w6 q6 [0, 3, 10] := by rw [← hw6, ← hq6]; exact heap_alloc_new w5 _
  have hn5 : n5 = 3 := by have := ro5.len; exact this.symm
  have KI := Lib.hid (r11ints_any w6 A5 (some ⟨q6, 0, none⟩) n5 c5 3 3 _ [0, 3, 10] (ro5.below b6) (r6.reads rfl) (by omega))
  rw [show decide ((natsI [0, 3, 10]).take 20 = [0, 3, 10]) = true by decide] at KI
  have B6 := Lib.hid (up2 b5 b6)
  clear o5 ro5 b5 b6 r6 hn5
  go_wp2_with fail
  refine KI.out.mono ?_
  rintro e w7 ⟨rfl, b7⟩
  have B7 := Lib.hid (up2 B6.out b7)
  have KK := Lib.hid (rglink_any w7 _ g 4 exR (T4.out.below B7.out) 0 (by omega) _ ring_exR)
  rw [link_exR] at KK
  clear b7
  go_wp2_with fail
  refine KK.out.mono ?_
  rintro e w8 ⟨A8, n8, c8, rfl, o8, b8⟩
  obtain ⟨A8', c8', e8, _, ro8⟩ := Reads.of_own o8
  injection e8 with e8a _ e8b
  subst e8a e8b
  obtain ⟨w9, hw9⟩ : ∃ w9, w8.alloc (.cells #[.int .i64 2, .int .i64 1, .int .i64 3] 3) = w9 := ⟨_, rfl⟩
  obtain ⟨q9, hq9⟩ : ∃ q9, w8.heap.size = q9 := ⟨_, rfl⟩
  have b9 : Below w8.heap.size w8 w9 := by rw [← hw9]; exact (Below.refl _ w8).alloc (Nat.le_refl _) _
  have r9 : RowI w9 q9 [2, 1, 3] := by rw [← hw9, ← hq9]; exact heap_alloc_new w8 _
  have hn8 : n8 = 3 := by have := ro8.len; exact this.symm
  have KJ := Lib.hid (r11ints_any w9 A8 (some ⟨q9, 0, none⟩) n8 c8 3 3 _ [2, 1, 3] (ro8.below b9) (r9.reads rfl) (by omega))
  rw [show decide (([2, 1, 3] : List Int) = [2, 1, 3]) = true by decide] at KJ
  have B9 := Lib.hid (up2 B7.out (up2 b8 b9))
  clear o8 ro8 b8 b9 r9 hn8
  go_wp2_with fail
  refine KJ.out.mono ?_
  rintro e w10 ⟨rfl, b10⟩
  have B10 := Lib.hid (up2 B9.out b10)
  have KM := Lib.hid (rginner_any w10 _ g 4 exR (T4.out.below B10.out) 0 (by omega) _ ring_exR)
  rw [decide_eq_true inner_exR] at KM
  clear b10
  go_wp2_with fail
  refine KM.out.mono ?_
  rintro e w11 ⟨rfl, b11⟩
  have B11 := Lib.hid (up2 B4.out (up2 B10.out b11))
  clear b11
  go_wp2_with fail
  go_ret
  exact ⟨rfl, B11.out⟩
end Go.Proofs.Ytoianhaocjiffaa
