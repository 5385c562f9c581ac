/- The bits in which two texts are unlike (layer 6's Burst), in pure words. -/
import Derived.Test.YtngambkbpdjddaaCrcMore
namespace Go.Proofs.Ytngambkbpdjddaa

theorem diff_bit {a b : List Nat} (ha : Dig a) (hb : Dig b) (i k : Nat) (hk : k < 8) : (leNum a ^^^ leNum b).testBit (8 * i + k) = (a.getD i 0 ^^^ b.getD i 0).testBit k := by
  rw [Nat.testBit_xor, leNum_bit ha, leNum_bit hb, Nat.testBit_xor, show (8 * i + k) / 8 = i by omega, show (8 * i + k) % 8 = k by omega]
theorem diff_num {a b : List Nat} (ha : Dig a) (hb : Dig b) (i k : Nat) (hk : k < 8) : (a.getD i 0 ^^^ b.getD i 0) / 2 ^ k % 2 = ((leNum a ^^^ leNum b).testBit (8 * i + k)).toNat := by
  rw [diff_bit ha hb i k hk, Nat.toNat_testBit]
/-- What is known of the first and the last unlike bit among the first t. -/
def BurstSt (Z t : Nat) (f l : Int) : Prop :=
  (f = -1 ∧ l = -1 ∧ ∀ j, j < t → Z.testBit j = false) ∨ ∃ p q : Nat, f = (p : Int) ∧ l = (q : Int) ∧ p ≤ q ∧ q < t ∧ Z.testBit p = true ∧ Z.testBit q = true
theorem burst_start (Z : Nat) : BurstSt Z 0 (-1) (-1) := .inl ⟨rfl, rfl, fun j hj => absurd hj (by omega)⟩
theorem burst_clear {Z t : Nat} {f l : Int} (h : BurstSt Z t f l) (hz : Z.testBit t = false) : BurstSt Z (t + 1) f l := by
  rcases h with ⟨h1, h2, h3⟩ | ⟨p, q, h1, h2, h3, h4, h5⟩
  · refine .inl ⟨h1, h2, fun j hj => ?_⟩
    rcases Nat.lt_or_ge j t with h | h
    · exact h3 j h
    · obtain rfl : j = t := by omega
      exact hz
  · exact .inr ⟨p, q, h1, h2, h3, by omega, h5⟩
theorem burst_set {Z t : Nat} {f l : Int} (h : BurstSt Z t f l) (hz : Z.testBit t = true) : BurstSt Z (t + 1) (if f < 0 then (t : Int) else f) (t : Int) := by
  rcases h with ⟨h1, h2, h3⟩ | ⟨p, q, h1, h2, h3, h4, h5, h6⟩
  · rw [if_pos (by omega)]
    exact .inr ⟨t, t, rfl, rfl, Nat.le_refl _, by omega, hz, hz⟩
  · rw [if_neg (by omega)]
    exact .inr ⟨p, t, h1, rfl, by omega, by omega, h5, hz⟩
theorem zero_of_bits {Z T : Nat} (hZ : Z < 2 ^ T) (h : ∀ j, j < T → Z.testBit j = false) : Z = 0 := by
  apply Nat.eq_of_testBit_eq
  intro j
  rw [Nat.zero_testBit]
  rcases Nat.lt_or_ge j T with h1 | h1
  · exact h j h1
  · exact Nat.testBit_lt_two_pow (Nat.lt_of_lt_of_le hZ (Nat.pow_le_pow_right (by omega) h1))
/-- How many bits a burst has that lies in a window of 32. -/
theorem burst_few {Z T i W : Nat} {f l : Int} (h : BurstSt Z T f l) (hZ : Z < 2 ^ T) (hw : Z = 2 ^ i * W) (hW : W < 4294967296) :
    (f < 0 ∧ W = 0) ∨ (0 ≤ f ∧ 1 ≤ l - f + 1 ∧ l - f + 1 ≤ 32 ∧ W ≠ 0) := by
  rcases h with ⟨h1, h2, h3⟩ | ⟨p, q, h1, h2, h3, h4, h5, h6⟩
  · left
    refine ⟨by omega, ?_⟩
    have h4 := zero_of_bits hZ h3
    rw [hw] at h4
    rcases Nat.mul_eq_zero.1 h4 with h5 | h5
    · exact absurd h5 (Nat.ne_of_gt (Nat.two_pow_pos i))
    · exact h5
  · right
    have w1 := window hw hW h5
    have w2 := window hw hW h6
    refine ⟨by omega, by omega, by omega, fun e => ?_⟩
    rw [hw, e, Nat.mul_zero, Nat.zero_testBit] at h5
    cases h5

/-- The bytes of a sum, the lowest first. -/
def low4 (s : Nat) : List Nat := [s % 256, s / 256 % 256, s / 65536 % 256, s / 16777216 % 256]
theorem dig_low4 (s : Nat) : Dig (low4 s) := by
  intro d hd
  simp [low4] at hd
  omega
theorem low4_inj {s t : Nat} (hs : s < 4294967296) (ht : t < 4294967296) (h : low4 s = low4 t) : s = t := by
  have h1 := leNum_four s hs
  have h2 := leNum_four t ht
  rw [← h1, ← h2]
  exact congrArg leNum h
/-- A text and its own sum behind it: whatever the text is, the register is one and the same. -/
theorem guard_reg {t : List Nat} (ht : Dig t) : crcReg 4294967295 (t ++ low4 (crcSum t)) = it6 32 4294967295 := by
  rw [crcReg_append, crcReg_num (low4 _), show leNum (low4 (crcSum t)) = crcSum t from leNum_four _ (crcSum_lt t), show 8 * (low4 (crcSum t)).length = 32 from rfl]
  congr 1
  rw [crcSum_xor ht, ← Nat.xor_assoc, Nat.xor_self, Nat.zero_xor]
/-- Texts with their sums behind them that are unlike within 32 bits: there are none. -/
theorem guard_told {t u : List Nat} (ht : Dig t) (hu : Dig u) (hl : t.length = u.length) (i W : Nat) (hW : W < 4294967296) (h : leNum (t ++ low4 (crcSum t)) ^^^ leNum (u ++ low4 (crcSum u)) = 2 ^ i * W) : W = 0 := by
  have da := dig_append ht (dig_low4 (crcSum t))
  have db := dig_append hu (dig_low4 (crcSum u))
  have hl2 : (t ++ low4 (crcSum t)).length = (u ++ low4 (crcSum u)).length := by rw [List.length_append, List.length_append, hl]; rfl
  refine (burst_told da db hl2 i W hW h).1 ?_
  unfold crcSum
  rw [show crcReg 4294967295 (t ++ low4 (4294967295 - crcReg 4294967295 t)) = it6 32 4294967295 from guard_reg ht, show crcReg 4294967295 (u ++ low4 (4294967295 - crcReg 4294967295 u)) = it6 32 4294967295 from guard_reg hu]
theorem leNum_append (a b : List Nat) : leNum (a ++ b) = leNum a ^^^ 2 ^ (8 * a.length) * leNum b := by
  induction a with
  | nil => rw [List.nil_append, leNum, Nat.zero_xor, List.length_nil, Nat.mul_zero, Nat.pow_zero, Nat.one_mul]
  | cons d a ih =>
    rw [List.cons_append, leNum, leNum, ih, Nat.xor_assoc]
    congr 1
    apply Nat.eq_of_testBit_eq
    intro j
    rw [show (256 : Nat) = 2 ^ 8 from rfl, Nat.testBit_two_pow_mul, Nat.testBit_xor, Nat.testBit_xor, Nat.testBit_two_pow_mul, Nat.testBit_two_pow_mul, Nat.testBit_two_pow_mul, List.length_cons]
    by_cases h1 : j ≥ 8
    · rw [decide_eq_true h1, Bool.true_and, Bool.true_and, show j - 8 - 8 * a.length = j - 8 * (a.length + 1) by omega]
      by_cases h2 : j - 8 ≥ 8 * a.length
      · rw [decide_eq_true h2, decide_eq_true (show j ≥ 8 * (a.length + 1) by omega)]
      · rw [decide_eq_false h2, decide_eq_false (show ¬ j ≥ 8 * (a.length + 1) by omega)]
    · rw [decide_eq_false h1, decide_eq_false (show ¬ j ≥ 8 * (a.length + 1) by omega)]
      simp
end Go.Proofs.Ytngambkbpdjddaa
