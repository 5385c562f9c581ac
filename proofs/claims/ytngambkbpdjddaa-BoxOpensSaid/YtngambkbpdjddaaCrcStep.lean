/- A step of a register (layer 6), the program's. -/
import Derived.Test.YtngambkbpdjddaaCrcBurst
import Derived.Laws.BitsAllLaws
namespace Go.Proofs.Ytngambkbpdjddaa
open Go.RowKit

theorem and_one (x : Nat) (h : x < 4294967296) : bits .and .u32 (x : Int) 1 = ((x % 2 : Nat) : Int) := by
  have := u32_and_nat x 1 h (by omega)
  rw [show (1 : Int) = ((1 : Nat) : Int) from rfl, this, Nat.and_one_is_mod]
theorem xor_poly (x : Nat) (h : x < 4294967296) : bits .xor .u32 (x : Int) 3988292384 = ((x ^^^ 3988292384 : Nat) : Int) := by
  have := u32_xor_nat x 3988292384 h (by omega)
  rw [show (3988292384 : Int) = ((3988292384 : Nat) : Int) from rfl, this]

set_option maxHeartbeats 800000 in
set_option maxRecDepth 100000 in
theorem cstep_odd (w : World) (X : Int) (r : Int) (_ : 0 ≤ X) (_ : X < 4294967296) (e1 : bits .and .u32 X 1 = 1) (e2 : bits .xor .u32 (X / 2) 3988292384 = r) :
    Calls Try.prog 58 #[.int .u32 X] w fun e w' => e = .returned (.int .u32 r) ∧ w = w' := by
  go_enter Try.func58, Try.ntmps58
  go_wp2
  go_ret
  exact ⟨rfl, rfl⟩
set_option maxHeartbeats 800000 in
set_option maxRecDepth 100000 in
theorem cstep_even (w : World) (X : Int) (_ : 0 ≤ X) (_ : X < 4294967296) (e1 : bits .and .u32 X 1 = 0) :
    Calls Try.prog 58 #[.int .u32 X] w fun e w' => e = .returned (.int .u32 (X / 2)) ∧ w = w' := by
  go_enter Try.func58, Try.ntmps58
  go_wp2
  go_ret
  exact ⟨rfl, rfl⟩
theorem cstep_any (w : World) (x : Nat) (h : x < 4294967296) :
    Calls Try.prog 58 #[.int .u32 (x : Int)] w fun e w' => e = .returned (.int .u32 ((stp6 x : Nat) : Int)) ∧ w = w' := by
  have e1 := and_one x h
  by_cases ho : x % 2 = 1
  · have hs : stp6 x = x / 2 ^^^ 3988292384 := by unfold stp6; rw [if_pos ho]; rfl
    rw [hs]
    rw [ho] at e1
    exact cstep_odd w x _ (by omega) (by omega) e1 (by rw [show (x : Int) / 2 = ((x / 2 : Nat) : Int) by omega]; exact xor_poly (x / 2) (by omega))
  · have hs : stp6 x = x / 2 := by unfold stp6; rw [if_neg ho]
    rw [hs, show ((x / 2 : Nat) : Int) = (x : Int) / 2 by omega]
    rw [show x % 2 = 0 by omega] at e1
    exact cstep_even w x (by omega) (by omega) e1
end Go.Proofs.Ytngambkbpdjddaa
