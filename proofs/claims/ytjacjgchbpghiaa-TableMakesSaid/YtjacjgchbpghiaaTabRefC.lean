/- The document's Find of a list of counts. -/
import Derived.Test.YtjacjgchbpghiaaTabRefB
namespace Go.Proofs.Ytjacjgchbpghiaa
open Go.RowKit

def FindAt (w : World) (n : Nat) (i : Value) (wr : World) : Prop := ∃ k : Nat, k ≤ n ∧ i = .int .i64 (k : Int) ∧ Reading w wr

/-- One round of the document's Find: what it needs. -/
theorem find_facts (w : World) (A : Option Addr) (n c : Nat) (l : List Int) (h : Reads w A n (ints l)) (hc : n ≤ c) (ok : Ok l) (i : Nat) (hi : i < n) :
    (∀ W, Reading w W → Calls Try.prog 18 #[.slice A n c, .int .i64 (i : Int)] W fun e w' => e = .returned (.int .i64 (low l i)) ∧ Reading W w') := by
  intro W hW
  have := rlow_any W A n c l (i : Int) (h.read hW) hc ok
  rwa [lowOf_at l i (by rw [h.len]; exact hi)] at this

set_option maxHeartbeats 2000000 in
theorem rfind_ok (w : World) (A : Option Addr) (n c : Nat) (l : List Int) (x : Int) (k : Nat) (h : Reads w A n (ints l)) (hc : n ≤ c) (ok : Ok l) (hk : k < n) (h1 : low l k ≤ x) (h2 : x < low l (k + 1)) :
    Calls Try.prog 15 #[.slice A n c, .int .i64 x] w fun e w' => e = .returned (.tuple #[.int .i64 (k : Int), .bool true]) ∧ Reading w w' := by
  have HF := Lib.hid (fun i hi => find_facts w A n c l h hc ok i hi)
  have hfew : n ≤ 256 := by have := ok.few; rwa [h.len] at this
  have HR := Lib.hid h
  have HOK := Lib.hid ok
  have H1 := Lib.hid h1
  have H2 := Lib.hid h2
  clear h ok h1 h2
  go_enter Try.func15, Try.ntmps15
  go_wp2_with fail
  go_loopw [6] (FindAt w k) (fun i _ => n - (intOf i).toNat)
  case atStart => exact ⟨0, Nat.zero_le _, rfl, 0, rfl⟩
  case round =>
    obtain ⟨i, hi, rfl, hr⟩ := hrel
    have hin : (i : Int) < n := by omega
    obtain ⟨ad, rfl, ck⟩ := (HR.out.read hr).int i (by omega)
    have s1 := low_succ l i
    have b1 := HOK.out.low_le' i
    have b2 := HOK.out.low_le' (i + 1)
    have m1 := low_le HOK.out.zero i k hi
    have g1 := H1.out
    have g2 := H2.out
    have HC := Lib.hid (fun m => HF.out i (by omega) (wr.drewN m) (hr.trans ⟨m, rfl⟩))
    have HRD := Lib.hid hr
    clear hr
    generalize l.getD i 0 = y at *
    by_cases hlt : i < k
    · have m2 := low_le HOK.out.zero (i + 1) k (by omega)
      have d1 : decide (low l i ≤ x) = true := by simp; omega
      have d2 : decide (x < low l i + y) = false := by simp; omega
      rw [s1] at b2
      clear s1 m1 m2 g1 g2
      generalize low l i = t at *
      have e6 : IntKind.i64.wrap (t + y) = t + y := IntWalk.i64_in _ (by omega)
      go_wp2_with fail
      go_quiet ((go_at_call 18; exact Calls.quiet_of (HC.out _)))
      go_wp2_with fail
      exact ⟨⟨i + 1, by omega, by go_num, HRD.out.trans ⟨_, rfl⟩⟩, by simp [intOf]; omega⟩
    · obtain rfl : i = k := by omega
      have d1 : decide (low l i ≤ x) = true := by simp; omega
      have d2 : decide (x < low l i + y) = true := by simp; omega
      rw [s1] at b2
      clear s1 m1 g1 g2
      generalize low l i = t at *
      have e6 : IntKind.i64.wrap (t + y) = t + y := IntWalk.i64_in _ (by omega)
      go_wp2_with fail
      go_quiet ((go_at_call 18; exact Calls.quiet_of (HC.out _)))
      go_wp2
      go_ret2
      exact ⟨rfl, HRD.out.trans ⟨_, rfl⟩⟩

set_option maxHeartbeats 2000000 in
theorem rfind_out (w : World) (A : Option Addr) (n c : Nat) (l : List Int) (x : Int) (h : Reads w A n (ints l)) (hc : n ≤ c) (ok : Ok l) (hx : x < 0 ∨ l.sum ≤ x) :
    Calls Try.prog 15 #[.slice A n c, .int .i64 x] w fun e w' => e = .returned (.tuple #[.int .i64 0, .bool false]) ∧ Reading w w' := by
  have HF := Lib.hid (fun i hi => find_facts w A n c l h hc ok i hi)
  have hfew : n ≤ 256 := by have := ok.few; rwa [h.len] at this
  have HR := Lib.hid h
  have HOK := Lib.hid ok
  have HX := Lib.hid hx
  clear h ok hx
  go_enter Try.func15, Try.ntmps15
  go_wp2_with fail
  go_loopw [6] (FindAt w n) (fun i _ => n - (intOf i).toNat)
  case atStart => exact ⟨0, Nat.zero_le _, rfl, 0, rfl⟩
  case round =>
    obtain ⟨i, hi, rfl, hr⟩ := hrel
    by_cases hlt : i < n
    · have hin : (i : Int) < n := by omega
      obtain ⟨ad, rfl, ck⟩ := (HR.out.read hr).int i (by omega)
      have s1 := low_succ l i
      have b1 := HOK.out.low_le' i
      have b2 := HOK.out.low_le' (i + 1)
      have m1 := low_sum HOK.out.zero (i + 1)
      have g1 := HX.out
      have HC := Lib.hid (fun m => HF.out i (by omega) (wr.drewN m) (hr.trans ⟨m, rfl⟩))
      have HRD := Lib.hid hr
      clear hr
      generalize l.getD i 0 = y at *
      by_cases hx0 : x < 0
      · have d1 : decide (low l i ≤ x) = false := by simp; omega
        clear s1 m1 g1
        generalize low l i = t at *
        go_wp2_with fail
        go_quiet ((go_at_call 18; exact Calls.quiet_of (HC.out _)))
        go_wp2_with fail
        exact ⟨⟨i + 1, by omega, by go_num, HRD.out.trans ⟨_, rfl⟩⟩, by simp [intOf]; omega⟩
      · have m3 := HOK.out.zero
        have m4 := zero_at HOK.out.zero i
        have d1 : decide (low l i ≤ x) = true := by
          have := low_sum HOK.out.zero i
          simp; omega
        have d2 : decide (x < low l i + y) = false := by simp; omega
        rw [s1] at b2
        clear s1 m1 g1 m3 m4
        generalize low l i = t at *
        have e6 : IntKind.i64.wrap (t + y) = t + y := IntWalk.i64_in _ (by omega)
        go_wp2_with fail
        go_quiet ((go_at_call 18; exact Calls.quiet_of (HC.out _)))
        go_wp2_with fail
        exact ⟨⟨i + 1, by omega, by go_num, HRD.out.trans ⟨_, rfl⟩⟩, by simp [intOf]; omega⟩
    · obtain rfl : i = n := by omega
      have HRD := Lib.hid hr
      clear hr
      have hnl : ¬ (i : Int) < i := by omega
      go_wp2
      go_ret2
      exact ⟨rfl, HRD.out⟩

end Go.Proofs.Ytjacjgchbpghiaa
