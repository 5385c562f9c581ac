/- CRC-32 (layer 6) in pure words: a register, its step, bytes as one number: the sum hangs on x ^^^ (the number) alone. -/
import Derived.Test.YtngambkbpdjddaaDig
namespace Go.Proofs.Ytngambkbpdjddaa

def poly6 : Nat := 3988292384
/-- A step of a register. -/
def stp6 (x : Nat) : Nat := if x % 2 = 1 then x / 2 ^^^ poly6 else x / 2
def it6 : Nat → Nat → Nat
  | 0, x => x
  | k + 1, x => it6 k (stp6 x)
/-- A byte comes. -/
def byteIn (x d : Nat) : Nat := it6 8 (x ^^^ d)
def crcReg (x : Nat) (l : List Nat) : Nat := l.foldl byteIn x
def crcSum (l : List Nat) : Nat := 4294967295 - crcReg 4294967295 l

theorem xor_half (x y : Nat) : (x ^^^ y) / 2 = x / 2 ^^^ y / 2 := by
  apply Nat.eq_of_testBit_eq
  intro i
  simp [Nat.testBit_div_two, Nat.testBit_xor]
theorem xor_odd (x y : Nat) : (x ^^^ y) % 2 = (x % 2 + y % 2) % 2 := by
  have h := Nat.testBit_xor x y 0
  rw [Nat.testBit_zero, Nat.testBit_zero, Nat.testBit_zero] at h
  rcases Nat.mod_two_eq_zero_or_one x with hx | hx <;> rcases Nat.mod_two_eq_zero_or_one y with hy | hy <;> rcases Nat.mod_two_eq_zero_or_one (x ^^^ y) with hz | hz <;> rw [hx, hy, hz] at h <;> rw [hx, hy, hz] <;> revert h <;> decide
theorem xor_self_r (x y : Nat) : x ^^^ y ^^^ y = x := by rw [Nat.xor_assoc, Nat.xor_self, Nat.xor_zero]
theorem xor_eq_zero' {x y : Nat} (h : x ^^^ y = 0) : x = y := by
  have h1 := xor_self_r x y
  rw [h, Nat.zero_xor] at h1
  exact h1.symm

theorem stp6_xor (x y : Nat) : stp6 (x ^^^ y) = stp6 x ^^^ stp6 y := by
  unfold stp6
  rw [xor_half, xor_odd]
  rcases Nat.mod_two_eq_zero_or_one x with hx | hx <;> rcases Nat.mod_two_eq_zero_or_one y with hy | hy <;> rw [hx, hy] <;> simp
  · rw [Nat.xor_assoc]
  · rw [Nat.xor_assoc, Nat.xor_comm (y / 2) poly6, ← Nat.xor_assoc]
  · rw [Nat.xor_assoc, ← Nat.xor_assoc poly6, Nat.xor_comm poly6, Nat.xor_assoc (y / 2), Nat.xor_self, Nat.xor_zero]
theorem stp6_zero : stp6 0 = 0 := rfl
theorem stp6_double (x : Nat) : stp6 (2 * x) = x := by unfold stp6; rw [if_neg (by omega)]; omega
theorem stp6_lt (x : Nat) (h : x < 4294967296) : stp6 x < 4294967296 := by
  unfold stp6
  split
  · exact Nat.xor_lt_two_pow (n := 32) (by omega) (by unfold poly6; omega)
  · omega
theorem stp6_ne (x : Nat) (h : x < 4294967296) (h0 : stp6 x = 0) : x = 0 := by
  unfold stp6 at h0
  split at h0
  · have := xor_eq_zero' h0
    unfold poly6 at this
    omega
  · omega
theorem it6_zero (k : Nat) : it6 k 0 = 0 := by
  induction k with
  | zero => rfl
  | succ k ih => rw [it6, stp6_zero, ih]
theorem it6_xor (k x y : Nat) : it6 k (x ^^^ y) = it6 k x ^^^ it6 k y := by
  induction k generalizing x y with
  | zero => rfl
  | succ k ih => rw [it6, it6, it6, stp6_xor, ih]
theorem it6_lt (k x : Nat) (h : x < 4294967296) : it6 k x < 4294967296 := by
  induction k generalizing x with
  | zero => exact h
  | succ k ih => exact ih _ (stp6_lt x h)
theorem it6_ne (k x : Nat) (h : x < 4294967296) (h0 : it6 k x = 0) : x = 0 := by
  induction k generalizing x with
  | zero => exact h0
  | succ k ih => exact stp6_ne x h (ih _ (stp6_lt x h) h0)
theorem it6_inj (k x y : Nat) (hx : x < 4294967296) (hy : y < 4294967296) (h : it6 k x = it6 k y) : x = y := by
  apply xor_eq_zero'
  refine it6_ne k _ (Nat.xor_lt_two_pow (n := 32) hx hy) ?_
  rw [it6_xor, h, Nat.xor_self]
theorem it6_add (j k x : Nat) : it6 (j + k) x = it6 k (it6 j x) := by
  induction j generalizing x with
  | zero => rw [Nat.zero_add]; rfl
  | succ j ih => rw [show j + 1 + k = (j + k) + 1 by omega, it6, ih]; rfl
theorem it6_pow (k x : Nat) : it6 k (2 ^ k * x) = x := by
  induction k generalizing x with
  | zero => rw [Nat.pow_zero, Nat.one_mul]; rfl
  | succ k ih => rw [it6, Nat.pow_succ, Nat.mul_comm (2 ^ k) 2, Nat.mul_assoc, stp6_double, ih]
theorem it6_high (j k x : Nat) (h : j ≤ k) : it6 k (2 ^ j * x) = it6 (k - j) x := by
  obtain ⟨d, rfl⟩ : ∃ d, k = j + d := ⟨k - j, by omega⟩
  rw [it6_add, it6_pow, Nat.add_sub_cancel_left]

/-- Bytes as one number, the first the lowest. -/
def leNum : List Nat → Nat
  | [] => 0
  | d :: l => d ^^^ 256 * leNum l
theorem crcReg_num (l : List Nat) (x : Nat) : crcReg x l = it6 (8 * l.length) (x ^^^ leNum l) := by
  unfold crcReg
  induction l generalizing x with
  | nil => rw [leNum, Nat.xor_zero]; rfl
  | cons d l ih =>
    rw [List.foldl_cons, ih, leNum, List.length_cons, show 8 * (l.length + 1) = 8 + 8 * l.length by omega, it6_add, byteIn, ← Nat.xor_assoc, it6_xor 8 (x ^^^ d), it6_pow 8]
theorem crcReg_append (a b : List Nat) (x : Nat) : crcReg x (a ++ b) = crcReg (crcReg x a) b := by unfold crcReg; rw [List.foldl_append]
theorem leNum_bit {l : List Nat} (h : Dig l) (j : Nat) : (leNum l).testBit j = (l.getD (j / 8) 0).testBit (j % 8) := by
  induction l generalizing j with
  | nil => simp [leNum]
  | cons d l ih =>
    have hd : d < 2 ^ 8 := h d (.head _)
    rw [leNum, Nat.testBit_xor, show 256 * leNum l = 2 ^ 8 * leNum l from rfl, Nat.testBit_two_pow_mul]
    by_cases hj : j < 8
    · rw [show j / 8 = 0 by omega, show j % 8 = j by omega, decide_eq_false (show ¬ j ≥ 8 by omega), Bool.false_and, Bool.xor_false]
      rfl
    · have h1 : d.testBit j = false := Nat.testBit_lt_two_pow (Nat.lt_of_lt_of_le hd (Nat.pow_le_pow_right (by omega) (by omega)))
      rw [h1, ih (fun x hx => h x (.tail _ hx)), show j / 8 = (j - 8) / 8 + 1 by omega, show j % 8 = (j - 8) % 8 by omega]
      simp
      omega
theorem leNum_lt {l : List Nat} (h : Dig l) : leNum l < 2 ^ (8 * l.length) := by
  apply Nat.lt_pow_two_of_testBit
  intro j hj
  rw [leNum_bit h, List.getD_eq_getElem?_getD, List.getElem?_eq_none (by omega)]
  simp
theorem byteIn_lt (x d : Nat) (hx : x < 4294967296) (hd : d < 256) : byteIn x d < 4294967296 := it6_lt 8 _ (Nat.xor_lt_two_pow (n := 32) hx (by omega))
theorem crcReg_lt {l : List Nat} (h : Dig l) (x : Nat) (hx : x < 4294967296) : crcReg x l < 4294967296 := by
  unfold crcReg
  induction l generalizing x with
  | nil => exact hx
  | cons d l ih => exact ih (fun y hy => h y (.tail _ hy)) _ (byteIn_lt x d hx (h d (.head _)))
theorem not32 (x : Nat) (h : x < 4294967296) : 4294967295 - x = x ^^^ 4294967295 := by
  have h1 : (4294967295 - x) = 2 ^ 32 - (x + 1) := by omega
  rw [h1]
  apply Nat.eq_of_testBit_eq
  intro i
  rw [Nat.testBit_two_pow_sub_succ h, Nat.testBit_xor, show 4294967295 = 2 ^ 32 - 1 from rfl, Nat.testBit_two_pow_sub_one]
  by_cases hi : i < 32
  · simp [hi]
  · have : x.testBit i = false := Nat.testBit_lt_two_pow (Nat.lt_of_lt_of_le h (Nat.pow_le_pow_right (n := 2) (by omega) (show 32 ≤ i by omega)))
    simp [hi, this]
theorem crcSum_xor {l : List Nat} (h : Dig l) : crcSum l = crcReg 4294967295 l ^^^ 4294967295 := not32 _ (crcReg_lt h _ (by omega))
theorem crcSum_lt (l : List Nat) : crcSum l < 4294967296 := by unfold crcSum; omega

/-- What a table is for: the eight steps of the lowest byte, and the rest moved down. -/
theorem byte_table (x : Nat) : it6 8 x = it6 8 (x % 256) ^^^ x / 256 := by
  have h : x = x % 256 ^^^ 2 ^ 8 * (x / 256) := by
    apply Nat.eq_of_testBit_eq
    intro i
    rw [Nat.testBit_xor, show x % 256 = x % 2 ^ 8 from rfl, Nat.testBit_mod_two_pow, Nat.testBit_two_pow_mul, show x / 256 = x / 2 ^ 8 from rfl, Nat.testBit_div_two_pow]
    by_cases hi : i < 8
    · rw [decide_eq_true hi, decide_eq_false (show ¬ i ≥ 8 by omega), Bool.true_and, Bool.false_and, Bool.xor_false]
    · simp [hi, show 8 ≤ i by omega]
  conv => lhs; rw [h]
  rw [it6_xor, it6_pow]
theorem byteIn_table (x d : Nat) (hd : d < 256) : byteIn x d = it6 8 ((x ^^^ d) % 256) ^^^ x / 256 := by
  unfold byteIn
  rw [byte_table]
  congr 1
  apply Nat.eq_of_testBit_eq
  intro i
  rw [show (x ^^^ d) / 256 = (x ^^^ d) / 2 ^ 8 from rfl, Nat.testBit_div_two_pow, show x / 256 = x / 2 ^ 8 from rfl, Nat.testBit_div_two_pow, Nat.testBit_xor]
  have : d.testBit (i + 8) = false := Nat.testBit_lt_two_pow (Nat.lt_of_lt_of_le (show d < 2 ^ 8 from hd) (Nat.pow_le_pow_right (by omega) (by omega)))
  rw [this]
  simp

/-- Two texts of one length: their sums are one just if nothing is left of what is unlike. -/
theorem sum_same {a b : List Nat} (ha : Dig a) (hb : Dig b) (hl : a.length = b.length) : crcSum a = crcSum b ↔ it6 (8 * a.length) (leNum a ^^^ leNum b) = 0 := by
  rw [crcSum_xor ha, crcSum_xor hb, crcReg_num, crcReg_num, ← hl, it6_xor, it6_xor, it6_xor]
  constructor
  · intro h
    have h1 : (it6 (8 * a.length) 4294967295 ^^^ it6 (8 * a.length) (leNum a) ^^^ 4294967295) ^^^ (it6 (8 * a.length) 4294967295 ^^^ it6 (8 * a.length) (leNum b) ^^^ 4294967295) = 0 := by rw [h, Nat.xor_self]
    generalize it6 (8 * a.length) 4294967295 = F at *
    generalize it6 (8 * a.length) (leNum a) = A at *
    generalize it6 (8 * a.length) (leNum b) = B at *
    have h2 : F ^^^ A = F ^^^ B := by
      have := congrArg (· ^^^ 4294967295) h
      simpa [xor_self_r] using this
    have h3 : A = B := by
      have := congrArg (F ^^^ ·) h2
      simpa [← Nat.xor_assoc] using this
    rw [h3, Nat.xor_self]
  · intro h
    rw [xor_eq_zero' h]
/-- A burst of at most 32 bits is told. -/
theorem burst_told {a b : List Nat} (ha : Dig a) (hb : Dig b) (hl : a.length = b.length) (i W : Nat) (hW : W < 4294967296) (h : leNum a ^^^ leNum b = 2 ^ i * W) : crcSum a = crcSum b ↔ W = 0 := by
  rw [sum_same ha hb hl, h]
  constructor
  · intro h0
    rcases Nat.eq_zero_or_pos W with hz | hz
    · exact hz
    · have hi : i ≤ 8 * a.length := by
        have h1 : leNum a ^^^ leNum b < 2 ^ (8 * a.length) := Nat.xor_lt_two_pow (leNum_lt ha) (by rw [hl]; exact leNum_lt hb)
        rw [h] at h1
        rcases Nat.lt_or_ge (8 * a.length) i with h2 | h2
        · have h3 : 2 ^ (8 * a.length) ≤ 2 ^ i := Nat.pow_le_pow_right (by omega) (by omega)
          have h4 : 2 ^ i * 1 ≤ 2 ^ i * W := Nat.mul_le_mul_left _ hz
          omega
        · exact h2
      rw [it6_high i _ W hi] at h0
      exact it6_ne _ W hW h0
  · intro h0
    rw [h0, Nat.mul_zero, it6_zero]
end Go.Proofs.Ytngambkbpdjddaa
