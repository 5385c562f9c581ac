/- Low and Count of a table and of none. -/
import Derived.Test.YtbkjfblmdilchaaDoorTabIs
namespace Go.Proofs.YtbkjfblmdilchaaDoor
open Go.RowKit

def lowOf (c : List Int) (x : Int) : Int := if 0 ≤ x ∧ x < c.length then low c x.toNat else 0
def cntOf (c : List Int) (x : Int) : Int := if 0 ≤ x ∧ x < c.length then c.getD x.toNat 0 else 0
theorem lowOf_at (c : List Int) (k : Nat) (h : k < c.length) : lowOf c (k : Int) = low c k := by
  rw [lowOf, if_pos (by omega)]; simp
theorem cntOf_at (c : List Int) (k : Nat) (h : k < c.length) : cntOf c (k : Int) = c.getD k 0 := by
  rw [cntOf, if_pos (by omega)]; simp
theorem lowOf_out (c : List Int) (x : Int) (h : ¬ (0 ≤ x ∧ x < c.length)) : lowOf c x = 0 := by rw [lowOf, if_neg h]
theorem cntOf_out (c : List Int) (x : Int) (h : ¬ (0 ≤ x ∧ x < c.length)) : cntOf c x = 0 := by rw [cntOf, if_neg h]

theorem low_any (w : World) (g q cap : Nat) (c : List Int) (x : Int) (h : TIs w g q cap c) (hm : c.length ≤ 256) :
    Calls Tryd.prog 45 #[.pointer (some ⟨g, 0, none⟩), .int .i64 x] w fun e w' => e = .returned (.int .i64 (lowOf c x)) ∧ Reading w w' := by
  have K := has_any w g q cap c x h
  by_cases hz : x = 0
  · subst hz
    have e0 : lowOf c 0 = 0 := by
      unfold lowOf; split
      · rw [show (0 : Int).toNat = 0 from rfl, low_zero]
      · rfl
    rw [e0]
    clear e0 K
    go_enter Tryd.func45, Tryd.ntmps45
    go_wp2
    go_ret
    exact ⟨rfl, 0, rfl⟩
  have hx0 : (x == 0) = false := by simpa using hz
  by_cases hh : 0 ≤ x ∧ x < c.length
  · obtain ⟨k, rfl⟩ : ∃ k : Nat, x = (k : Int) + 1 := ⟨x.toNat - 1, by omega⟩
    have hk : k + 1 < c.length := by omega
    have cx := fun w' (b : Reading w w') => (h.read b).at k (by omega)
    have c0 := fun w' (b : Reading w w') => (h.read b).head
    rw [show ((k : Int) + 1) = ((k + 1 : Nat) : Int) by omega, lowOf_at c (k + 1) hk, show ((k + 1 : Nat) : Int) = ((k : Int) + 1) by omega]
    rw [show decide (0 ≤ (k : Int) + 1 ∧ (k : Int) + 1 < c.length) = true by simp; omega] at K
    have HX := Lib.hid cx
    have H0 := Lib.hid c0
    have KH := Lib.hid K
    clear h cx c0 K hh hz
    generalize c.length = n at *
    generalize low c (k + 1) = s at *
    have e1 : IntKind.i64.wrap (k : Int) = (k : Int) := IntWalk.i64_in _ (by omega)
    have e3 : (k : Int) < (n : Int) := by omega
    go_enter Tryd.func45, Tryd.ntmps45
    go_wp2_with fail
    refine KH.out.mono ?_
    rintro e w1 ⟨rfl, b1⟩
    have k0 := H0.out w1 b1
    have kx := HX.out w1 b1
    have B1 := Lib.hid b1
    clear b1
    go_wp2
    go_ret
    exact ⟨rfl, B1.out⟩
  · rw [lowOf_out c x hh]
    rw [show decide (0 ≤ x ∧ x < c.length) = false by simpa using hh] at K
    have KH := Lib.hid K
    clear h K hh hz
    go_enter Tryd.func45, Tryd.ntmps45
    go_wp2_with fail
    refine KH.out.mono ?_
    rintro e w1 ⟨rfl, b1⟩
    have B1 := Lib.hid b1
    clear b1
    go_wp2
    go_ret
    exact ⟨rfl, B1.out⟩
theorem low_nil (w : World) : Calls Tryd.prog 45 #[.pointer none, .int .i64 0] w fun e w' => e = .returned (.int .i64 0) ∧ Reading w w' := by
  go_enter Tryd.func45, Tryd.ntmps45
  go_wp2
  go_ret
  exact ⟨rfl, 0, rfl⟩

theorem count_any (w : World) (g q cap : Nat) (c : List Int) (x : Int) (h : TIs w g q cap c) (ok : Ok c) :
    Calls Tryd.prog 46 #[.pointer (some ⟨g, 0, none⟩), .int .i64 x] w fun e w' => e = .returned (.int .i64 (cntOf c x)) ∧ Reading w w' := by
  have K := has_any w g q cap c x h
  by_cases hh : 0 ≤ x ∧ x < c.length
  · obtain ⟨k, rfl⟩ : ∃ k : Nat, x = (k : Int) := ⟨x.toNat, by omega⟩
    have hk : k < c.length := by omega
    have cx := fun w' (b : Reading w w') => (h.read b).at k (by omega)
    have c0 := fun w' (b : Reading w w') => (h.read b).head
    have kl := fun w' (b : Reading w w') => low_any w' g q cap c (k : Int) (h.read b) ok.few
    have hb1 := ok.low_le' k
    have hb2 := ok.low_le' (k + 1)
    have hfew := ok.few
    rw [lowOf_at c k hk] at kl
    rw [cntOf_at c k hk, show c.getD k 0 = low c (k + 1) - low c k by rw [low_succ]; omega]
    rw [show decide (0 ≤ (k : Int) ∧ (k : Int) < c.length) = true by simp; omega] at K
    have HX := Lib.hid cx
    have H0 := Lib.hid c0
    have KH := Lib.hid K
    have KL := Lib.hid kl
    clear h cx c0 K hh kl ok
    generalize c.length = n at *
    generalize low c (k + 1) = s at *
    generalize low c k = t at *
    have e1 : IntKind.i64.wrap (s - t) = s - t := IntWalk.i64_in _ (by omega)
    have e3 : (k : Int) < (n : Int) := by omega
    go_enter Tryd.func46, Tryd.ntmps46
    go_wp2_with fail
    refine KH.out.mono ?_
    rintro e w1 ⟨rfl, b1⟩
    have k0 := H0.out w1 b1
    have kx := HX.out w1 b1
    have KL1 := Lib.hid (fun m => KL.out (w1.drewN m) (b1.trans ⟨m, rfl⟩))
    have B1 := Lib.hid b1
    clear b1
    go_wp2_with fail
    go_quiet ((go_at_call 45; exact Calls.quiet_of (KL1.out _)))
    go_wp2
    go_ret
    exact ⟨rfl, B1.out.trans ⟨_, rfl⟩⟩
  · rw [cntOf_out c x hh]
    rw [show decide (0 ≤ x ∧ x < c.length) = false by simpa using hh] at K
    have KH := Lib.hid K
    clear h K hh
    go_enter Tryd.func46, Tryd.ntmps46
    go_wp2_with fail
    refine KH.out.mono ?_
    rintro e w1 ⟨rfl, b1⟩
    have B1 := Lib.hid b1
    clear b1
    go_wp2
    go_ret
    exact ⟨rfl, B1.out⟩
theorem count_nil (w : World) : Calls Tryd.prog 46 #[.pointer none, .int .i64 0] w fun e w' => e = .returned (.int .i64 0) ∧ Reading w w' := by
  have K := Lib.hid (has_nil w)
  go_enter Tryd.func46, Tryd.ntmps46
  go_wp2_with fail
  refine K.out.mono ?_
  rintro e w1 ⟨rfl, b1⟩
  have B1 := Lib.hid b1
  clear b1
  go_wp2
  go_ret
  exact ⟨rfl, B1.out⟩
end Go.Proofs.YtbkjfblmdilchaaDoor
