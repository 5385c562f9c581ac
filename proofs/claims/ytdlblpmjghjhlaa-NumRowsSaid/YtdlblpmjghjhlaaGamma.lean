/- Plain facts on binary digits and on the gamma code. -/
import Derived.Test.YtdlblpmjghjhlaaPlainB
import Derived.Test.YtdlblpmjghjhlaaPut
import Derived.Laws.MathBits
namespace Go.Proofs.Ytdlblpmjghjhlaa

theorem digits_lt (n : Nat) : n < 2 ^ bitLen n := (bitLen_spec n).1
theorem digits_le (n k : Nat) (h : n < 2 ^ k) : bitLen n ≤ k := by
  by_cases h0 : n = 0
  · subst h0; simp [bitLen]
  · have h1 := (bitLen_spec n).2 h0
    by_cases hk : bitLen n ≤ k
    · exact hk
    · exact absurd (Nat.lt_of_le_of_lt h1 h) (Nat.not_lt.2 (Nat.pow_le_pow_right (by omega) (by omega)))
theorem digits_pos (n : Nat) (h : n ≠ 0) : 1 ≤ bitLen n := by simp [bitLen, h]
theorem digits_ge (n k : Nat) (h : 2 ^ k ≤ n) : k < bitLen n := by
  by_cases hk : k < bitLen n
  · exact hk
  · exact absurd (Nat.lt_of_lt_of_le (digits_lt n) (Nat.pow_le_pow_right (by omega : 0 < 2) (by omega : bitLen n ≤ k))) (Nat.not_lt.2 h)
theorem digits_is (n k : Nat) (h : 2 ^ k ≤ n) (h' : n < 2 ^ (k + 1)) : bitLen n = k + 1 := by
  have := digits_ge n k h
  have := digits_le n (k + 1) h'
  omega
theorem digits_half (n : Nat) (h : n ≠ 0) : bitLen n = bitLen (n / 2) + 1 := by
  by_cases h1 : n / 2 = 0
  · have : n = 1 := by omega
    subst this; decide
  · rw [bitLen_shift n 1 (by simpa using h1), Nat.pow_one]; omega
theorem digits_mono (a b : Nat) (h : a ≤ b) : bitLen a ≤ bitLen b := digits_le a _ (Nat.lt_of_le_of_lt h (digits_lt b))
theorem digits_step (n : Nat) : ∃ k, bitLen (n + 1) = k + 1 ∧ 2 ^ k ≤ n + 1 ∧ n + 1 < 2 ^ (k + 1) := by
  refine ⟨bitLen (n + 1) - 1, ?_, (bitLen_spec (n + 1)).2 (by omega), ?_⟩
  · have := digits_pos (n + 1) (by omega); omega
  · have := digits_pos (n + 1) (by omega)
    rw [show bitLen (n + 1) - 1 + 1 = bitLen (n + 1) by omega]
    exact digits_lt _

theorem bitsOf_zero (n : Nat) : bitsOf 0 n = List.replicate n false := by
  unfold bitsOf
  rw [List.eq_replicate_iff]
  refine ⟨by simp, fun b hb => ?_⟩
  obtain ⟨i, _, rfl⟩ := List.mem_map.1 hb
  simp
theorem bitsOf_succ (v n : Nat) : bitsOf v (n + 1) = v.testBit n :: bitsOf v n := by
  unfold bitsOf
  rw [List.range_succ_eq_map, List.map_cons, List.map_map]
  refine congr (congrArg List.cons (by simp)) ?_
  apply List.map_congr_left
  intro i hi
  have := List.mem_range.1 hi
  simp only [Function.comp]
  rw [show n + 1 - 1 - Nat.succ i = n - 1 - i by omega]
theorem bitsOf_head (v n : Nat) (h : 2 ^ n ≤ v) (h' : v < 2 ^ (n + 1)) : bitsOf v (n + 1) = true :: bitsOf v n := by
  rw [bitsOf_succ]
  congr 1
  rw [Nat.testBit_eq_decide_div_mod_eq]
  have : v / 2 ^ n = 1 := by
    rw [Nat.pow_succ] at h'
    have := Nat.div_lt_of_lt_mul (show v < 2 ^ n * 2 by omega)
    have := (Nat.le_div_iff_mul_le (Nat.two_pow_pos n)).2 (show 1 * 2 ^ n ≤ v by omega)
    omega
  simp [this]

/-- The gamma code of n. -/
def gamma (n : Nat) : List Bool := List.replicate (bitLen (n + 1) - 1) false ++ bitsOf (n + 1) (bitLen (n + 1))
theorem length_gamma (n : Nat) : (gamma n).length = 2 * bitLen (n + 1) - 1 := by
  have := digits_pos (n + 1) (by omega)
  simp [gamma, length_bitsOf]; omega
theorem gamma_small (n : Nat) (h : n ≤ 4294967296) : bitLen (n + 1) ≤ 33 := digits_le _ _ (by omega)
theorem gamma_eq (n k : Nat) (hk : bitLen (n + 1) = k + 1) : gamma n = List.replicate k false ++ true :: bitsOf (n + 1) k := by
  obtain ⟨j, h1, h2, h3⟩ := digits_step n
  obtain rfl : j = k := by omega
  rw [gamma, h1, bitsOf_head _ _ h2 h3, Nat.add_sub_cancel]
theorem gamma_back (n k : Nat) (hk : bitLen (n + 1) = k + 1) : 2 ^ k + num (bitsOf (n + 1) k) = n + 1 := by
  obtain ⟨j, h1, h2, h3⟩ := digits_step n
  obtain rfl : j = k := by omega
  rw [num_bitsOf]
  have : (n + 1) % 2 ^ j = n + 1 - 2 ^ j := by
    rw [Nat.pow_succ] at h3
    rw [Nat.mod_eq_sub_mod h2, Nat.mod_eq_of_lt (by omega)]
  omega
end Go.Proofs.Ytdlblpmjghjhlaa
