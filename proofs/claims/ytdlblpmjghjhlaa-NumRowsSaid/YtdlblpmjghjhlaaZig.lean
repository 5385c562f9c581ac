/- num.Zig and Zag, and the document's: each number and its Zig. -/
import Derived.Test.YtdlblpmjghjhlaaRows
import Derived.WalkKit
import Derived.Lib.Hide
import Derived.Lib.Zigzag
namespace Go.Proofs.Ytdlblpmjghjhlaa
open Go.RowKit

/-- Zig, by the document. -/
def zig (n : Int) : Int := if 0 ≤ n then 2 * n else -2 * n - 1
/-- The integer whose Zig it is. -/
def zag (u : Int) : Int := if u % 2 = 0 then u / 2 else -(u / 2) - 1
theorem zag_zig (n : Int) : zag (zig n) = n := by unfold zag zig; split <;> split <;> omega
theorem zig_zag (u : Int) (h : 0 ≤ u) : zig (zag u) = u := by unfold zag zig; split <;> split <;> omega
theorem zig_range (n : Int) (h : -9223372036854775808 ≤ n) (h1 : n < 9223372036854775808) : 0 ≤ zig n ∧ zig n < 18446744073709551616 := by unfold zig; split <;> omega
theorem zag_range (u : Int) (h : 0 ≤ u) (h1 : u < 18446744073709551616) : -9223372036854775808 ≤ zag u ∧ zag u < 9223372036854775808 := by unfold zag; split <;> omega

theorem xor_turn (k : IntKind) (a b : Int) : bits .xor k a b = bits .xor k b a := by simp only [bits, BitVec.xor_comm]
theorem xor_none (a : Nat) (h : a < 18446744073709551616) : bits .xor .u64 (a : Int) 0 = (a : Int) := by
  have := bits_xor_u64_nat a 0 h (by decide)
  simpa using this
theorem xor_none_i (a : Nat) (h : a < 9223372036854775808) : bits .xor .i64 (a : Int) 0 = (a : Int) := by
  have h1 : (BitVec.ofInt 64 (a : Int)).toNat = a := by
    rw [BitVec.ofInt_natCast, BitVec.toNat_ofNat]; exact Nat.mod_eq_of_lt (by omega)
  show IntKind.i64.wrap ((BitVec.ofInt 64 (a : Int) ^^^ BitVec.ofInt 64 0).toNat : Int) = _
  rw [BitVec.toNat_xor, h1, show (BitVec.ofInt 64 0).toNat = 0 by decide, Nat.xor_zero]
  exact IntWalk.i64_in _ (by omega)

theorem zig_any (w : World) (n : Int) (h0 : -9223372036854775808 ≤ n) (h1 : n < 9223372036854775808) :
    Calls Try.prog 30 #[.int .i64 n] w fun e w' => e = .returned (.int .u64 (zig n)) ∧ w = w' := by
  by_cases h : 0 ≤ n
  · go_enter Try.func30, Try.ntmps30
    go_wp2
    go_ret
    refine ⟨congrArg Ending.returned (congrArg (Value.int IntKind.u64) ?_), rfl⟩
    obtain ⟨m, rfl⟩ := Int.eq_ofNat_of_zero_le h
    rw [show (m : Int) / 9223372036854775808 = 0 by omega, show (m : Int) * 2 = ((2 * m : Nat) : Int) by omega, xor_none _ (by omega)]
    unfold zig; split <;> omega
  · have h' : n < 0 := by omega
    clear h
    go_enter Try.func30, Try.ntmps30
    go_wp2
    go_ret
    refine ⟨congrArg Ending.returned (congrArg (Value.int IntKind.u64) ?_), rfl⟩
    obtain ⟨m, hm⟩ : ∃ m : Nat, n = -(m : Int) - 1 := ⟨(-n - 1).toNat, by omega⟩
    subst hm
    rw [show (-(m : Int) - 1) / 9223372036854775808 = -1 by omega, xor_turn]
    have e1 : IntKind.u64.wrap (-1) = ((18446744073709551615 : Nat) : Int) := by decide
    have e2 : IntKind.u64.wrap (IntKind.u64.wrap (-(m : Int) - 1) * 2) = ((18446744073709551615 - (2 * m + 1) : Nat) : Int) := by
      rw [IntKind.wrap_u64, IntKind.wrap_u64]; omega
    rw [e1, e2, bits_xor_u64_nat _ _ (by decide) (by omega), show (18446744073709551615 : Nat) = 2 ^ 64 - 1 from rfl, Lib.xor_ones64 _ (by omega)]
    unfold zig; split <;> omega

theorem zag_any (w : World) (n : Int) (h : 0 ≤ n) (h1 : n < 18446744073709551616) :
    Calls Try.prog 32 #[.int .u64 n] w fun e w' => e = .returned (.int .i64 (zag n)) ∧ w = w' := by
  go_enter Try.func32, Try.ntmps32
  go_wp2
  go_ret
  refine ⟨congrArg Ending.returned (congrArg (Value.int IntKind.i64) ?_), rfl⟩
  rw [Lib.u64_and1 n h h1]
  obtain ⟨m, rfl⟩ := Int.eq_ofNat_of_zero_le h
  have e0 : ((m : Int) / 2) = ((m / 2 : Nat) : Int) := by omega
  by_cases hm : m % 2 = 0
  · rw [show (m : Int) % 2 = 0 by omega, show wrap64 (-wrap64 0) = 0 by unfold wrap64; decide, e0, xor_none_i _ (by omega)]
    unfold zag; split <;> omega
  · rw [show (m : Int) % 2 = 1 by omega, show wrap64 (-wrap64 1) = -1 by unfold wrap64; decide, e0, xor_turn, Lib.i64_not _ (by omega)]
    unfold zag; split <;> omega
theorem rzig_any (w : World) (n : Int) (h1 : -9223372036854775808 ≤ n) (h : n < 9223372036854775808) :
    Calls Try.prog 31 #[.int .i64 n] w fun e w' => e = .returned (.int .u64 (zig n)) ∧ w = w' := by
  go_enter Try.func31, Try.ntmps31
  go_wp2
  all_goals go_ret
  all_goals refine ⟨congrArg Ending.returned (congrArg (Value.int IntKind.u64) ?_), rfl⟩
  all_goals unfold zig; split <;> omega
theorem rzag_any (w : World) (n : Int) (h : 0 ≤ n) (h1 : n < 18446744073709551616) :
    Calls Try.prog 33 #[.int .u64 n] w fun e w' => e = .returned (.int .i64 (zag n)) ∧ w = w' := by
  by_cases hm : n % 2 = 0
  · have he : (n % 2 == 0) = true := by simp [hm]
    have hz : zag n = n / 2 := by unfold zag; rw [if_pos hm]
    have HZ := Lib.hid hz
    clear hz hm
    go_enter Try.func33, Try.ntmps33
    go_wp2
    go_ret
    rw [HZ.out]
    exact ⟨rfl, rfl⟩
  · have he : (n % 2 == 0) = false := by simp [hm]
    have hz : zag n = -(n / 2) - 1 := by unfold zag; rw [if_neg hm]
    have HZ := Lib.hid hz
    clear hz hm
    go_enter Try.func33, Try.ntmps33
    go_wp2
    go_ret
    rw [HZ.out]
    exact ⟨rfl, rfl⟩
end Go.Proofs.Ytdlblpmjghjhlaa
