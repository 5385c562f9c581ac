/- The document's answers for layer 8: are two rows of edges, of numbers, the same. -/
import Derived.Test.YtmflacmgffpjoaaGM
namespace Go.Proofs.Ytmflacmgffpjoaa
open Go.RowKit

def AlikeAt (w : World) (n : Nat) (a b : List Ed) (i : Value) (wr : World) : Prop := Reading w wr ∧ ∃ k : Nat, k ≤ n ∧ i = .int .i64 (k : Int) ∧ ∀ j, j < k → a.getD j z2 = b.getD j z2
def IntsAt (w : World) (n : Nat) (a b : List Int) (i : Value) (wr : World) : Prop := Reading w wr ∧ ∃ k : Nat, k ≤ n ∧ i = .int .i64 (k : Int) ∧ ∀ j, j < k → a.getD j 0 = b.getD j 0
def QuietTold (w : World) (p : Prop) [Decidable p] (e : Ending) (w' : World) : Prop := e = .returned (.bool (decide p)) ∧ Reading w w'

set_option maxHeartbeats 4000000 in
set_option maxRecDepth 100000 in
theorem ralike_any (w : World) (A B : Option Addr) (n c m d : Nat) (a b : List Ed) (ha : E2 w A n a) (hb : E2 w B m b) (hn : n ≤ 140737488351232) :
    Calls Try.prog 13 #[.slice A n c, .slice B m d] w (QuietTold w (a = b)) := by
  have HA := Lib.hid ha
  have HB := Lib.hid hb
  clear ha hb
  by_cases h2 : n = m
  case neg =>
    have f2 : ((n : Int) == (m : Int)) = false := by simp; omega
    have H2 := Lib.hid h2
    clear h2
    go_enter Try.func13, Try.ntmps13
    go_wp2
    go_ret
    exact ⟨told_f fun hc => H2.out (by rw [← HA.out.1, ← HB.out.1, hc]), 0, rfl⟩
  subst h2
  go_enter Try.func13, Try.ntmps13
  go_wp2_with fail
  go_loopw [5] (AlikeAt w n a b) (fun i _ => n - (intOf i).toNat)
  case atStart => exact ⟨Reading.refl _, 0, Nat.zero_le _, rfl, fun j hj => absurd hj (by omega)⟩
  case round =>
    obtain ⟨hb, k, hk, rfl, ha⟩ := hrel
    have HR := Lib.hid (And.intro hb ha)
    clear ha hb
    by_cases hlt : k < n
    · have b1 : (k : Int) < n := by omega
      obtain ⟨ba, oa, rfl, hat⟩ := (HA.out.below HR.out.1.below).2 (by omega)
      obtain ⟨c0, c1⟩ := hat k hlt
      obtain ⟨bb, ob, rfl, hbt⟩ := (HB.out.below HR.out.1.below).2 (by omega)
      obtain ⟨d0, d1⟩ := hbt k hlt
      clear hat hbt
      obtain ⟨x, hx⟩ : ∃ x, a.getD k z2 = x := ⟨_, rfl⟩
      obtain ⟨y, hy⟩ : ∃ y, b.getD k z2 = y := ⟨_, rfl⟩
      have HX := Lib.hid (And.intro hx hy)
      rw [hx] at c0 c1
      rw [hy] at d0 d1
      clear hx hy
      obtain ⟨x0, x1⟩ := x
      obtain ⟨y0, y1⟩ := y
      go_wp2_with fail
      have gd := fun op u v m => run_eqGuard_agg (P := Try.prog) (wr.drewN m) op 59 u v #[.int .i64 x0, .int .i64 x1] #[.int .i64 y0, .int .i64 y1] Try.eqGuardType59
      have nq := fun m => eqIn2 (wr.drewN m) x0 x1 y0 y1
      by_cases hxy : (x0, x1) = (y0, y1)
      · rw [(eq2_iff (x0, x1) (y0, y1)).2 hxy] at nq
        have HE := Lib.hid hxy
        clear hxy
        go_quiet (fail)
        go_wp2_with fail
        refine ⟨⟨HR.out.1.trans ⟨_, rfl⟩, k + 1, by omega, by go_num, fun j hj => ?_⟩, by simp [intOf]; omega⟩
        rcases Nat.lt_or_ge j k with h3 | h3
        · exact HR.out.2 j h3
        · obtain rfl : j = k := by omega
          rw [HX.out.1, HX.out.2]; exact HE.out
      · rw [eq2_no (x := (x0, x1)) (y := (y0, y1)) hxy] at nq
        have HE := Lib.hid hxy
        clear hxy
        go_quiet (fail)
        go_wp2_with fail
        go_ret
        exact ⟨told_f fun hc => HE.out (by rw [← HX.out.1, ← HX.out.2, hc]), HR.out.1.trans ⟨_, rfl⟩⟩
    · obtain rfl : k = n := by omega
      have b1 : ¬ (k : Int) < k := by omega
      go_wp2
      go_ret
      exact ⟨told_t (ext_getD (by rw [HA.out.1, HB.out.1]) fun i hi => HR.out.2 i (by rw [← HA.out.1]; exact hi)), HR.out.1⟩

set_option maxHeartbeats 4000000 in
set_option maxRecDepth 100000 in
theorem rints_any (w : World) (A B : Option Addr) (n c m d : Nat) (a b : List Int) (ha : Reads w A n (ints a)) (hb : Reads w B m (ints b)) (hn : n ≤ 140737488351232) :
    Calls Try.prog 22 #[.slice A n c, .slice B m d] w (QuietTold w (a = b)) := by
  have HA := Lib.hid ha
  have HB := Lib.hid hb
  clear ha hb
  by_cases h2 : n = m
  case neg =>
    have f2 : ((n : Int) == (m : Int)) = false := by simp; omega
    have H2 := Lib.hid h2
    clear h2
    go_enter Try.func22, Try.ntmps22
    go_wp2
    go_ret
    exact ⟨told_f fun hc => H2.out (by rw [← HA.out.len, ← HB.out.len, hc]), 0, rfl⟩
  subst h2
  go_enter Try.func22, Try.ntmps22
  go_wp2_with fail
  go_loopw [5] (IntsAt w n a b) (fun i _ => n - (intOf i).toNat)
  case atStart => exact ⟨Reading.refl _, 0, Nat.zero_le _, rfl, fun j hj => absurd hj (by omega)⟩
  case round =>
    obtain ⟨hb, k, hk, rfl, ha⟩ := hrel
    have HR := Lib.hid (And.intro hb ha)
    clear ha hb
    by_cases hlt : k < n
    · have b1 : (k : Int) < n := by omega
      obtain ⟨ad, rfl, c0⟩ := (HA.out.read HR.out.1).int k hlt
      obtain ⟨bd, rfl, d0⟩ := (HB.out.read HR.out.1).int k hlt
      obtain ⟨x, hx⟩ : ∃ x, a.getD k 0 = x := ⟨_, rfl⟩
      obtain ⟨y, hy⟩ : ∃ y, b.getD k 0 = y := ⟨_, rfl⟩
      have HX := Lib.hid (And.intro hx hy)
      rw [hx] at c0
      rw [hy] at d0
      clear hx hy
      go_wp2_with fail
      by_cases hxy : x = y
      · have f1 : (x == y) = true := by simpa using hxy
        have HE := Lib.hid hxy
        clear hxy
        go_quiet (fail)
        go_wp2_with fail
        refine ⟨⟨HR.out.1.trans ⟨_, rfl⟩, k + 1, by omega, by go_num, fun j hj => ?_⟩, by simp [intOf]; omega⟩
        rcases Nat.lt_or_ge j k with h3 | h3
        · exact HR.out.2 j h3
        · obtain rfl : j = k := by omega
          rw [HX.out.1, HX.out.2]; exact HE.out
      · have f1 : (x == y) = false := by simpa using hxy
        have HE := Lib.hid hxy
        clear hxy
        go_quiet (fail)
        go_wp2_with fail
        go_ret
        exact ⟨told_f fun hc => HE.out (by rw [← HX.out.1, ← HX.out.2, hc]), HR.out.1.trans ⟨_, rfl⟩⟩
    · obtain rfl : k = n := by omega
      have b1 : ¬ (k : Int) < k := by omega
      go_wp2
      go_ret
      exact ⟨told_t (ext_getD (z := 0) (by rw [HA.out.len, HB.out.len]) fun i hi => HR.out.2 i (by rw [← HA.out.len]; exact hi)), HR.out.1⟩
end Go.Proofs.Ytmflacmgffpjoaa
