/- Texts that are unlike within 32 bits, cut anywhere; texts with their own sums behind them (layer 7), in pure words. -/
import Derived.Test.YtngambkbpdjddaaCrcSpoil
namespace Go.Proofs.Ytngambkbpdjddaa

/-- All that is set lies within 32 bits in a row. -/
def Near (Z : Nat) : Prop := ∃ f W : Nat, W < 4294967296 ∧ Z = 2 ^ f * W
theorem Near.div {Z : Nat} (h : Near Z) (p : Nat) : Near (Z / 2 ^ p) := by
  obtain ⟨f, W, hW, rfl⟩ := h
  rcases (by omega : p ≤ f ∨ f < p) with hp | hp
  · refine ⟨f - p, W, hW, ?_⟩
    rw [show f = p + (f - p) by omega, Nat.pow_add, Nat.mul_assoc, Nat.mul_div_cancel_left _ (Nat.two_pow_pos p), show p + (f - p) - p = f - p by omega]
  · refine ⟨0, W / 2 ^ (p - f), Nat.lt_of_le_of_lt (Nat.div_le_self _ _) hW, ?_⟩
    rw [Nat.pow_zero, Nat.one_mul, show p = f + (p - f) by omega, Nat.pow_add, ← Nat.div_div_eq_div_mul, Nat.mul_div_cancel_left _ (Nat.two_pow_pos f), show f + (p - f) - f = p - f by omega]
theorem Near.mod {Z : Nat} (h : Near Z) (m : Nat) : Near (Z % 2 ^ m) := by
  obtain ⟨f, W, hW, rfl⟩ := h
  rcases (by omega : m ≤ f ∨ f < m) with hm | hm
  · refine ⟨0, 0, by omega, ?_⟩
    rw [show f = m + (f - m) by omega, Nat.pow_add, Nat.mul_assoc, Nat.mul_mod_right]
  · refine ⟨f, W % 2 ^ (m - f), Nat.lt_of_le_of_lt (Nat.mod_le _ _) hW, ?_⟩
    rw [show m = f + (m - f) by omega, Nat.pow_add, Nat.mul_mod_mul_left, show f + (m - f) - f = m - f by omega]
theorem xor_div (x y p : Nat) : (x ^^^ y) / 2 ^ p = x / 2 ^ p ^^^ y / 2 ^ p := by
  apply Nat.eq_of_testBit_eq
  intro i
  rw [Nat.testBit_xor, Nat.testBit_div_two_pow, Nat.testBit_div_two_pow, Nat.testBit_div_two_pow, Nat.testBit_xor]
theorem xor_mod (x y p : Nat) : (x ^^^ y) % 2 ^ p = x % 2 ^ p ^^^ y % 2 ^ p := by
  apply Nat.eq_of_testBit_eq
  intro i
  rw [Nat.testBit_xor, Nat.testBit_mod_two_pow, Nat.testBit_mod_two_pow, Nat.testBit_mod_two_pow, Nat.testBit_xor]
  cases decide (i < p) <;> simp

theorem getD_take (l : List Nat) (n i : Nat) : (l.take n).getD i 0 = if i < n then l.getD i 0 else 0 := by
  rw [List.getD_eq_getElem?_getD, List.getElem?_take]
  split
  · rw [List.getD_eq_getElem?_getD]
  · rfl
theorem getD_drop (l : List Nat) (n i : Nat) : (l.drop n).getD i 0 = l.getD (n + i) 0 := by
  rw [List.getD_eq_getElem?_getD, List.getElem?_drop, List.getD_eq_getElem?_getD]
theorem dig_drop {l : List Nat} (h : Dig l) (n : Nat) : Dig (l.drop n) := fun d hd => h d (List.mem_of_mem_drop hd)
theorem leNum_take {l : List Nat} (h : Dig l) (n : Nat) : leNum (l.take n) = leNum l % 2 ^ (8 * n) := by
  apply Nat.eq_of_testBit_eq
  intro j
  rw [leNum_bit (dig_take h n), Nat.testBit_mod_two_pow, leNum_bit h, getD_take]
  by_cases hj : j / 8 < n
  · rw [if_pos hj, decide_eq_true (show j < 8 * n by omega), Bool.true_and]
  · rw [if_neg hj, decide_eq_false (show ¬ j < 8 * n by omega)]
    simp
theorem leNum_drop {l : List Nat} (h : Dig l) (n : Nat) : leNum (l.drop n) = leNum l / 2 ^ (8 * n) := by
  apply Nat.eq_of_testBit_eq
  intro j
  rw [leNum_bit (dig_drop h n), Nat.testBit_div_two_pow, leNum_bit h, getD_drop, show (j + 8 * n) / 8 = n + j / 8 by omega, show (j + 8 * n) % 8 = j % 8 by omega]
theorem leNum_inj {a b : List Nat} (ha : Dig a) (hb : Dig b) (hl : a.length = b.length) (h : leNum a = leNum b) : a = b := by
  apply List.ext_getElem hl
  intro i h1 h2
  have key : a.getD i 0 = b.getD i 0 := by
    apply Nat.eq_of_testBit_eq
    intro j
    by_cases hj : j < 8
    · have e1 := leNum_bit ha (8 * i + j)
      have e2 := leNum_bit hb (8 * i + j)
      rw [show (8 * i + j) / 8 = i by omega, show (8 * i + j) % 8 = j by omega] at e1 e2
      rw [← e1, ← e2, h]
    · have t : ∀ d, d < 256 → d.testBit j = false := fun d hd => Nat.testBit_lt_two_pow (Nat.lt_of_lt_of_le (show d < 2 ^ 8 from hd) (Nat.pow_le_pow_right (by omega) (by omega)))
      rw [t _ (dig_at ha i), t _ (dig_at hb i)]
  rw [List.getD_eq_getElem?_getD, List.getD_eq_getElem?_getD, List.getElem?_eq_getElem h1, List.getElem?_eq_getElem h2] at key
  exact key

/-- A part of a text: m bytes from byte p on. -/
def seg (l : List Nat) (p m : Nat) : List Nat := (l.drop p).take m
theorem length_seg (l : List Nat) (p m : Nat) (h : p + m ≤ l.length) : (seg l p m).length = m := by
  rw [seg, List.length_take, List.length_drop]; omega
theorem dig_seg {l : List Nat} (h : Dig l) (p m : Nat) : Dig (seg l p m) := dig_take (dig_drop h p) m
/-- Two texts that are unlike within 32 bits are so in each part. -/
theorem near_seg {a b : List Nat} (ha : Dig a) (hb : Dig b) (h : Near (leNum a ^^^ leNum b)) (p m : Nat) : Near (leNum (seg a p m) ^^^ leNum (seg b p m)) := by
  unfold seg
  rw [leNum_take (dig_drop ha p), leNum_take (dig_drop hb p), leNum_drop ha, leNum_drop hb, ← xor_mod, ← xor_div]
  exact (h.div _).mod _
theorem near_same {a b : List Nat} (ha : Dig a) (hb : Dig b) (hl : a.length = b.length) (h : Near (leNum a ^^^ leNum b)) : crcSum a = crcSum b ↔ a = b := by
  obtain ⟨f, W, hW, hz⟩ := h
  rw [burst_told ha hb hl f W hW hz]
  constructor
  · intro h0
    rw [h0, Nat.mul_zero] at hz
    exact leNum_inj ha hb hl (xor_eq_zero' hz)
  · intro e
    rw [e, Nat.xor_self] at hz
    rcases Nat.mul_eq_zero.1 hz.symm with h1 | h1
    · exact absurd h1 (Nat.ne_of_gt (Nat.two_pow_pos f))
    · exact h1
/-- A text and its own sum behind it. -/
def guard (t : List Nat) : List Nat := t ++ low4 (crcSum t)
theorem length_low4 (s : Nat) : (low4 s).length = 4 := rfl
theorem length_guard (t : List Nat) : (guard t).length = t.length + 4 := by rw [guard, List.length_append, length_low4]
theorem dig_guard {t : List Nat} (h : Dig t) : Dig (guard t) := dig_append h (dig_low4 _)
theorem guard_inj {t u : List Nat} (h : guard t = guard u) : t = u := by
  have hl := congrArg List.length h
  rw [length_guard, length_guard] at hl
  exact (List.append_inj h (by omega)).1
/-- Is the sum behind it its own? -/
def Guarded (u : List Nat) : Prop := 4 ≤ u.length ∧ u.drop (u.length - 4) = low4 (crcSum (u.take (u.length - 4)))
theorem guarded_iff (u : List Nat) : Guarded u ↔ ∃ t, u = guard t := by
  constructor
  · rintro ⟨_, h⟩
    refine ⟨u.take (u.length - 4), ?_⟩
    rw [guard, ← h, List.take_append_drop]
  · rintro ⟨t, rfl⟩
    unfold Guarded
    rw [length_guard, show t.length + 4 - 4 = t.length by omega, guard, List.drop_left, List.take_left]
    exact ⟨by omega, rfl⟩
/-- Guarded texts of one length that are unlike within 32 bits are one. -/
theorem guarded_near {u v : List Nat} (hu : Dig u) (hv : Dig v) (gu : Guarded u) (gv : Guarded v) (hl : u.length = v.length) (h : Near (leNum u ^^^ leNum v)) : u = v := by
  obtain ⟨t, rfl⟩ := (guarded_iff u).1 gu
  obtain ⟨s, rfl⟩ := (guarded_iff v).1 gv
  have ht : Dig t := fun d hd => hu d (List.mem_append_left _ hd)
  have hs : Dig s := fun d hd => hv d (List.mem_append_left _ hd)
  obtain ⟨f, W, hW, hz⟩ := h
  rw [length_guard, length_guard] at hl
  have h0 := guard_told ht hs (by omega) f W hW hz
  rw [h0, Nat.mul_zero] at hz
  exact leNum_inj hu hv (by rw [length_guard, length_guard]; omega) (xor_eq_zero' hz)
theorem Spoilt.near {l c : List Nat} {f b i : Nat} (h : Spoilt l f b i c) (hi : i ≤ 32) : Near (leNum l ^^^ leNum c) := by
  refine ⟨f, b % 2 ^ min i (8 * l.length - f), ?_, ?_⟩
  · exact Nat.lt_of_lt_of_le (Nat.mod_lt _ (Nat.two_pow_pos _)) (show 2 ^ _ ≤ 2 ^ 32 from Nat.pow_le_pow_right (by omega) (by omega))
  · rw [h.2.2, ← Nat.xor_assoc, Nat.xor_self, Nat.zero_xor]
end Go.Proofs.Ytngambkbpdjddaa
