/- A text that is spoilt bit by bit (CrcBursts), in pure words. -/
import Derived.Test.YtngambkbpdjddaaCrcBurst
namespace Go.Proofs.Ytngambkbpdjddaa

theorem mul_xor_two (f x y : Nat) : 2 ^ f * (x ^^^ y) = 2 ^ f * x ^^^ 2 ^ f * y := by
  apply Nat.eq_of_testBit_eq
  intro i
  rw [Nat.testBit_xor, Nat.testBit_two_pow_mul, Nat.testBit_two_pow_mul, Nat.testBit_two_pow_mul, Nat.testBit_xor]
  by_cases hi : i ≥ f <;> simp [hi]
/-- Behind i rounds. -/
def Spoilt (l : List Nat) (f b i : Nat) (c : List Nat) : Prop :=
  Dig c ∧ c.length = l.length ∧ leNum c = leNum l ^^^ 2 ^ f * (b % 2 ^ min i (8 * l.length - f))
theorem Spoilt.start {l : List Nat} (h : Dig l) (f b : Nat) : Spoilt l f b 0 l := by
  refine ⟨h, rfl, ?_⟩
  rw [Nat.zero_min, Nat.pow_zero, Nat.mod_one, Nat.mul_zero, Nat.xor_zero]
theorem Spoilt.past {l c : List Nat} {f b i : Nat} (h : Spoilt l f b i c) (hp : 8 * l.length ≤ f + i) : Spoilt l f b (i + 1) c := by
  refine ⟨h.1, h.2.1, ?_⟩
  rw [show min (i + 1) (8 * l.length - f) = min i (8 * l.length - f) by omega]
  exact h.2.2
theorem Spoilt.clear {l c : List Nat} {f b i : Nat} (h : Spoilt l f b i c) (hb : b.testBit i = false) : Spoilt l f b (i + 1) c := by
  by_cases hp : 8 * l.length ≤ f + i
  · exact h.past hp
  · refine ⟨h.1, h.2.1, ?_⟩
    have h3 := h.2.2
    rw [show min i (8 * l.length - f) = i by omega] at h3
    rw [show min (i + 1) (8 * l.length - f) = i + 1 by omega, mod_bit, hb, h3]
    simp
theorem Spoilt.flip {l c : List Nat} {f b i : Nat} (h : Spoilt l f b i c) (hb : b.testBit i = true) (hp : f + i < 8 * l.length) :
    Spoilt l f b (i + 1) (c.set ((f + i) / 8) (c.getD ((f + i) / 8) 0 ^^^ 2 ^ ((f + i) % 8))) := by
  have hs : 2 ^ ((f + i) % 8) < 256 := by
    have : 2 ^ ((f + i) % 8) ≤ 2 ^ 7 := Nat.pow_le_pow_right (by omega) (by omega)
    omega
  refine ⟨dig_xor_set h.1 _ _ hs, by rw [List.length_set]; exact h.2.1, ?_⟩
  have h3 := h.2.2
  rw [show min i (8 * l.length - f) = i by omega] at h3
  rw [leNum_xor_set h.1 _ _ (by rw [h.2.1]; omega) hs, show min (i + 1) (8 * l.length - f) = i + 1 by omega, mod_bit, hb, mul_xor_two, h3, Nat.xor_assoc]
  congr 2
  rw [← Nat.pow_add, show 8 * ((f + i) / 8) + (f + i) % 8 = f + i by omega]
  simp [Nat.pow_add]
/-- The end: what Burst tells of it, and what the sums tell. -/
theorem Spoilt.told {l c : List Nat} {f b : Nat} (hl : Dig l) (h : Spoilt l f b 32 c) {F L : Int} (hst : BurstSt (leNum l ^^^ leNum c) (8 * l.length) F L) :
    (F < 0 ∧ crcSum l = crcSum c) ∨ (0 ≤ F ∧ 1 ≤ L - F + 1 ∧ L - F + 1 ≤ 32 ∧ ¬ crcSum l = crcSum c) := by
  have hz : leNum l ^^^ leNum c = 2 ^ f * (b % 2 ^ min 32 (8 * l.length - f)) := by
    rw [h.2.2, ← Nat.xor_assoc, Nat.xor_self, Nat.zero_xor]
  have hW : b % 2 ^ min 32 (8 * l.length - f) < 4294967296 := Nat.lt_of_lt_of_le (Nat.mod_lt _ (Nat.two_pow_pos _)) (show 2 ^ _ ≤ 2 ^ 32 from Nat.pow_le_pow_right (by omega) (Nat.min_le_left _ _))
  have hlt : leNum l ^^^ leNum c < 2 ^ (8 * l.length) := Nat.xor_lt_two_pow (leNum_lt hl) (by rw [← h.2.1]; exact leNum_lt h.1)
  have hb := burst_told hl h.1 h.2.1.symm f _ hW hz
  rcases burst_few hst hlt hz hW with ⟨h1, h2⟩ | ⟨h1, h2, h3, h4⟩
  · exact .inl ⟨h1, hb.2 h2⟩
  · exact .inr ⟨h1, h2, h3, fun e => h4 (hb.1 e)⟩
end Go.Proofs.Ytngambkbpdjddaa
