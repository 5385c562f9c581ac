/- CRC-32 (layer 6) in pure words, continued: noughts, texts put together, a sum behind its text, a bit that is another one. -/
import Derived.Test.YtngambkbpdjddaaCrcPure
namespace Go.Proofs.Ytngambkbpdjddaa

/-- A sum goes on. -/
def crcUpd (s : Nat) (l : List Nat) : Nat := 4294967295 - crcReg (4294967295 - s) l
theorem crcUpd_sum {a : List Nat} (ha : Dig a) (b : List Nat) : crcUpd (crcSum a) b = crcSum (a ++ b) := by
  unfold crcUpd crcSum
  have := crcReg_lt ha 4294967295 (by omega)
  rw [show 4294967295 - (4294967295 - crcReg 4294967295 a) = crcReg 4294967295 a by omega, crcReg_append]
theorem crcSum_nil : crcSum [] = 0 := rfl
theorem crcUpd_zero (b : List Nat) : crcUpd 0 b = crcSum b := rfl
theorem crcUpd_none (s : Nat) (hs : s < 4294967296) : crcUpd s [] = s := by
  show 4294967295 - (4294967295 - s) = s
  omega

/-- A text of noughts. -/
theorem leNum_zeros (n : Nat) : leNum (List.replicate n 0) = 0 := by
  induction n with
  | zero => rfl
  | succ n ih => rw [List.replicate_succ, leNum, ih]; rfl
theorem crcReg_zeros (n x : Nat) : crcReg x (List.replicate n 0) = it6 (8 * n) x := by rw [crcReg_num, leNum_zeros, Nat.xor_zero, List.length_replicate]
def okZeros : Nat → Nat → Bool
  | 0, _ => true
  | k + 1, x => decide (it6 8 x ≠ 4294967295) && okZeros k (it6 8 x)
theorem okZeros_all : okZeros 300 4294967295 = true := by decide +kernel
theorem okZeros_at (k x d : Nat) (h : okZeros k x = true) (hd : d < k) : it6 (8 * (d + 1)) x ≠ 4294967295 := by
  induction k generalizing x d with
  | zero => omega
  | succ k ih =>
    rw [okZeros, Bool.and_eq_true, decide_eq_true_iff] at h
    cases d with
    | zero => exact h.1
    | succ d =>
      rw [show 8 * (d + 1 + 1) = 8 + 8 * (d + 1) by omega, it6_add]
      exact ih _ d h.2 (by omega)
theorem zeros_apart (n m : Nat) (h : n < m) (hm : m ≤ 300) : it6 (8 * n) 4294967295 ≠ it6 (8 * m) 4294967295 := by
  intro e
  rw [show 8 * m = 8 * (m - n) + 8 * n by omega, it6_add] at e
  have h1 := it6_inj _ _ _ (by omega) (it6_lt _ _ (by omega)) e
  obtain ⟨d, hd⟩ : ∃ d, m - n = d + 1 := ⟨m - n - 1, by omega⟩
  rw [hd] at h1
  exact okZeros_at 300 4294967295 d okZeros_all (by omega) h1.symm
theorem zeros_told (n m : Nat) (hn : n ≤ 300) (hm : m ≤ 300) : crcSum (List.replicate n 0) = crcSum (List.replicate m 0) ↔ n = m := by
  constructor
  · intro h
    unfold crcSum at h
    rw [crcReg_zeros, crcReg_zeros] at h
    have h1 := it6_lt (8 * n) 4294967295 (by omega)
    have h2 := it6_lt (8 * m) 4294967295 (by omega)
    have e : it6 (8 * n) 4294967295 = it6 (8 * m) 4294967295 := by omega
    rcases Nat.lt_trichotomy n m with h3 | h3 | h3
    · exact absurd e (zeros_apart n m h3 hm)
    · exact h3
    · exact absurd e.symm (zeros_apart m n h3 hn)
  · rintro rfl; rfl

/-- Two texts put together. -/
theorem leNum_zip (a b : List Nat) (hl : a.length = b.length) : leNum (List.zipWith (· ^^^ ·) a b) = leNum a ^^^ leNum b := by
  induction a generalizing b with
  | nil =>
    cases b with
    | nil => rfl
    | cons d b => cases hl
  | cons x a ih =>
    cases b with
    | nil => cases hl
    | cons y b =>
      rw [List.zipWith_cons_cons, leNum, leNum, leNum, ih b (by simpa using hl)]
      rw [show 256 * (leNum a ^^^ leNum b) = 256 * leNum a ^^^ 256 * leNum b by
        apply Nat.eq_of_testBit_eq
        intro i
        rw [show (256 : Nat) = 2 ^ 8 from rfl, Nat.testBit_xor, Nat.testBit_two_pow_mul, Nat.testBit_two_pow_mul, Nat.testBit_two_pow_mul, Nat.testBit_xor]
        by_cases hi : i ≥ 8 <;> simp [hi]]
      generalize 256 * leNum a = A
      generalize 256 * leNum b = B
      rw [Nat.xor_assoc, Nat.xor_assoc]
      congr 1
      rw [← Nat.xor_assoc, ← Nat.xor_assoc, Nat.xor_comm y A]
theorem dig_zip {a b : List Nat} (ha : Dig a) (hb : Dig b) : Dig (List.zipWith (· ^^^ ·) a b) := by
  intro d hd
  obtain ⟨i, hi, rfl⟩ := List.mem_iff_getElem.1 hd
  rw [List.length_zipWith] at hi
  rw [List.getElem_zipWith]
  exact Nat.xor_lt_two_pow (n := 8) (ha _ (List.getElem_mem (by omega))) (hb _ (List.getElem_mem (by omega)))
theorem sum_together {a b : List Nat} (ha : Dig a) (hb : Dig b) (hl : a.length = b.length) : crcSum (List.zipWith (· ^^^ ·) a b) = crcSum a ^^^ crcSum b ^^^ crcSum (List.replicate a.length 0) := by
  have hlz : (List.zipWith (· ^^^ ·) a b).length = a.length := by rw [List.length_zipWith]; omega
  rw [crcSum_xor (dig_zip ha hb), crcSum_xor ha, crcSum_xor hb, crcSum_xor (dig_zeros _), crcReg_num, crcReg_num a, crcReg_num b, crcReg_zeros, hlz, leNum_zip a b hl, ← hl, it6_xor, it6_xor, it6_xor, it6_xor]
  generalize it6 (8 * a.length) 4294967295 = F
  generalize it6 (8 * a.length) (leNum a) = A
  generalize it6 (8 * a.length) (leNum b) = B
  generalize (4294967295 : Nat) = c
  apply Nat.eq_of_testBit_eq
  intro i
  simp only [Nat.testBit_xor]
  cases F.testBit i <;> cases A.testBit i <;> cases B.testBit i <;> cases c.testBit i <;> rfl

/-- A sum behind its text. -/
theorem sum_rest (s : Nat) (l : List Nat) (hs : s < 4294967296) (hl : l.length = 4) (hn : leNum l = s) : crcUpd s l = crcSum [0, 0, 0, 0] := by
  unfold crcUpd crcSum
  rw [crcReg_num, show ([0, 0, 0, 0] : List Nat) = List.replicate 4 0 from rfl, crcReg_zeros, hl, hn, not32 s hs, Nat.xor_comm s, xor_self_r]
theorem leNum_four (s : Nat) (hs : s < 4294967296) : leNum [s % 256, s / 256 % 256, s / 65536 % 256, s / 16777216 % 256] = s := by
  have hd : Dig [s % 256, s / 256 % 256, s / 65536 % 256, s / 16777216 % 256] := by
    intro d hd
    simp at hd
    omega
  apply Nat.eq_of_testBit_eq
  intro j
  rw [leNum_bit hd]
  have key : ∀ k, k < 8 → ∀ m, (s / 2 ^ m % 256).testBit k = s.testBit (k + m) := fun k hk m => by
    rw [show s / 2 ^ m % 256 = s / 2 ^ m % 2 ^ 8 from rfl, Nat.testBit_mod_two_pow, Nat.testBit_div_two_pow, decide_eq_true hk, Bool.true_and]
  have h8 : j % 8 < 8 := Nat.mod_lt _ (by omega)
  rcases (by omega : j / 8 = 0 ∨ j / 8 = 1 ∨ j / 8 = 2 ∨ j / 8 = 3 ∨ 4 ≤ j / 8) with h | h | h | h | h
  · rw [h]
    have := key (j % 8) h8 0
    rw [Nat.pow_zero, Nat.div_one] at this
    show (s % 256).testBit (j % 8) = _
    rw [this]
    congr 1
    omega
  · rw [h]
    show (s / 256 % 256).testBit (j % 8) = _
    rw [show s / 256 % 256 = s / 2 ^ 8 % 256 from rfl, key _ h8]
    congr 1
    omega
  · rw [h]
    show (s / 65536 % 256).testBit (j % 8) = _
    rw [show s / 65536 % 256 = s / 2 ^ 16 % 256 from rfl, key _ h8]
    congr 1
    omega
  · rw [h]
    show (s / 16777216 % 256).testBit (j % 8) = _
    rw [show s / 16777216 % 256 = s / 2 ^ 24 % 256 from rfl, key _ h8]
    congr 1
    omega
  · have h1 : s.testBit j = false := Nat.testBit_lt_two_pow (Nat.lt_of_lt_of_le hs (show 2 ^ 32 ≤ 2 ^ j from Nat.pow_le_pow_right (by omega) (by omega)))
    rw [h1, List.getD_eq_getElem?_getD, List.getElem?_eq_none (by simp; omega)]
    simp

/-- A byte is put together with another one. -/
theorem dig_xor_set {l : List Nat} (h : Dig l) (k d : Nat) (hd : d < 256) : Dig (l.set k (l.getD k 0 ^^^ d)) := dig_set l k _ h (Nat.xor_lt_two_pow (n := 8) (dig_at h k) hd)
theorem leNum_xor_set {l : List Nat} (h : Dig l) (k d : Nat) (hk : k < l.length) (hd : d < 256) : leNum (l.set k (l.getD k 0 ^^^ d)) = leNum l ^^^ 2 ^ (8 * k) * d := by
  apply Nat.eq_of_testBit_eq
  intro j
  rw [leNum_bit (dig_xor_set h k d hd), Nat.testBit_xor, leNum_bit h, Nat.testBit_two_pow_mul]
  by_cases hj : j / 8 = k
  · have h1 : (l.set k (l.getD k 0 ^^^ d)).getD (j / 8) 0 = l.getD k 0 ^^^ d := by
      rw [hj, List.getD_eq_getElem?_getD, List.getElem?_set_self hk]; rfl
    rw [h1, Nat.testBit_xor, hj, decide_eq_true (show j ≥ 8 * k by omega), Bool.true_and, show j % 8 = j - 8 * k by omega]
  · have h1 : (l.set k (l.getD k 0 ^^^ d)).getD (j / 8) 0 = l.getD (j / 8) 0 := by
      rw [List.getD_eq_getElem?_getD, List.getElem?_set_ne (fun e => hj e.symm), ← List.getD_eq_getElem?_getD]
    rw [h1]
    by_cases hlt : j ≥ 8 * k
    · have : d.testBit (j - 8 * k) = false := Nat.testBit_lt_two_pow (Nat.lt_of_lt_of_le (show d < 2 ^ 8 from hd) (Nat.pow_le_pow_right (by omega) (by omega)))
      rw [this]
      simp
    · rw [decide_eq_false hlt]
      simp
/-- A byte that is another one is told. -/
theorem byte_told {l : List Nat} (h : Dig l) (k d : Nat) (hk : k < l.length) (hd : d < 256) : crcSum (l.set k (l.getD k 0 ^^^ d)) = crcSum l ↔ d = 0 := by
  refine burst_told (dig_xor_set h k d hd) h (by rw [List.length_set]) (8 * k) d (by omega) ?_
  rw [leNum_xor_set h k d hk hd, Nat.xor_comm, ← Nat.xor_assoc, Nat.xor_self, Nat.zero_xor]
/-- Two bytes that change places are told, if they are unlike. -/
theorem swap_told {l : List Nat} (h : Dig l) (k : Nat) (hk : k + 1 < l.length) : crcSum ((l.set k (l.getD (k + 1) 0)).set (k + 1) (l.getD k 0)) = crcSum l ↔ l.getD k 0 = l.getD (k + 1) 0 := by
  obtain ⟨x, hx⟩ : ∃ x, l.getD k 0 = x := ⟨_, rfl⟩
  obtain ⟨y, hy⟩ : ∃ y, l.getD (k + 1) 0 = y := ⟨_, rfl⟩
  have bx : x < 256 := by rw [← hx]; exact dig_at h k
  have hb : y < 256 := by rw [← hy]; exact dig_at h (k + 1)
  have bd : x ^^^ y < 256 := Nat.xor_lt_two_pow (n := 8) bx hb
  have e1 : l.getD k 0 ^^^ (x ^^^ y) = y := by rw [hx, ← Nat.xor_assoc, Nat.xor_self, Nat.zero_xor]
  have g1 : (l.set k y).getD (k + 1) 0 = y := by
    rw [List.getD_eq_getElem?_getD, List.getElem?_set_ne (by omega), ← List.getD_eq_getElem?_getD, hy]
  have e2 : (l.set k y).getD (k + 1) 0 ^^^ (x ^^^ y) = x := by rw [g1, Nat.xor_comm x y, ← Nat.xor_assoc, Nat.xor_self, Nat.zero_xor]
  have d1 : Dig (l.set k y) := dig_set l k y h hb
  have n1 : leNum (l.set k y) = leNum l ^^^ 2 ^ (8 * k) * (x ^^^ y) := by
    have := leNum_xor_set h k (x ^^^ y) (by omega) bd
    rwa [e1] at this
  have n2 : leNum ((l.set k y).set (k + 1) x) = leNum (l.set k y) ^^^ 2 ^ (8 * (k + 1)) * (x ^^^ y) := by
    have := leNum_xor_set d1 (k + 1) (x ^^^ y) (by rw [List.length_set]; exact hk) bd
    rwa [e2] at this
  rw [hx, hy]
  have h3 : 2 ^ (8 * k) * (x ^^^ y) ^^^ 2 ^ (8 * (k + 1)) * (x ^^^ y) = 2 ^ (8 * k) * ((x ^^^ y) ^^^ 2 ^ 8 * (x ^^^ y)) := by
    generalize x ^^^ y = d
    apply Nat.eq_of_testBit_eq
    intro j
    rw [Nat.testBit_xor, Nat.testBit_two_pow_mul, Nat.testBit_two_pow_mul, Nat.testBit_two_pow_mul, Nat.testBit_xor, Nat.testBit_two_pow_mul]
    by_cases h4 : j ≥ 8 * k
    · by_cases h5 : j ≥ 8 * (k + 1)
      · rw [decide_eq_true h4, decide_eq_true h5, decide_eq_true (show j - 8 * k ≥ 8 by omega), show j - 8 * (k + 1) = j - 8 * k - 8 by omega]
        simp
      · rw [decide_eq_true h4, decide_eq_false h5, decide_eq_false (show ¬ j - 8 * k ≥ 8 by omega)]
        simp
    · rw [decide_eq_false h4, decide_eq_false (show ¬ j ≥ 8 * (k + 1) by omega)]
      simp
  have hw : (x ^^^ y) ^^^ 2 ^ 8 * (x ^^^ y) < 4294967296 := Nat.xor_lt_two_pow (n := 32) (by omega) (by omega)
  rw [burst_told (dig_set _ _ _ d1 bx) h (by rw [List.length_set, List.length_set]) (8 * k) _ hw (by rw [n2, n1, Nat.xor_assoc (leNum l), h3, Nat.xor_comm, ← Nat.xor_assoc, Nat.xor_self, Nat.zero_xor])]
  constructor
  · intro h0
    have h6 := xor_eq_zero' h0
    exact xor_eq_zero' (by omega)
  · intro h0
    rw [h0, Nat.xor_self]; rfl
/-- A bit more of a number. -/
theorem mod_bit (x i : Nat) : x % 2 ^ (i + 1) = x % 2 ^ i ^^^ 2 ^ i * (x.testBit i).toNat := by
  apply Nat.eq_of_testBit_eq
  intro j
  rw [Nat.testBit_xor, Nat.testBit_mod_two_pow, Nat.testBit_mod_two_pow, Nat.testBit_two_pow_mul]
  rcases Nat.lt_trichotomy j i with h | h | h
  · rw [decide_eq_true h, decide_eq_true (show j < i + 1 by omega), decide_eq_false (show ¬ j ≥ i by omega)]
    simp
  · subst h
    rw [decide_eq_false (show ¬ j < j by omega), decide_eq_true (show j < j + 1 by omega), decide_eq_true (show j ≥ j by omega), Nat.sub_self]
    cases x.testBit j <;> rfl
  · rw [decide_eq_false (show ¬ j < i by omega), decide_eq_false (show ¬ j < i + 1 by omega), decide_eq_true (show j ≥ i by omega)]
    obtain ⟨e, he⟩ : ∃ e, j - i = e + 1 := ⟨j - i - 1, by omega⟩
    rw [he]
    cases x.testBit i <;> simp [Nat.testBit_succ]
/-- Where a text that has been spoilt is unlike. -/
theorem window {Z i W t : Nat} (h : Z = 2 ^ i * W) (hW : W < 4294967296) (ht : Z.testBit t = true) : i ≤ t ∧ t < i + 32 := by
  rw [h, Nat.testBit_two_pow_mul, Bool.and_eq_true, decide_eq_true_iff] at ht
  refine ⟨ht.1, ?_⟩
  rcases Nat.lt_or_ge t (i + 32) with h1 | h1
  · exact h1
  · have : W.testBit (t - i) = false := Nat.testBit_lt_two_pow (Nat.lt_of_lt_of_le (show W < 2 ^ 32 from hW) (Nat.pow_le_pow_right (by omega) (by omega)))
    rw [this] at ht
    cases ht.2
end Go.Proofs.Ytngambkbpdjddaa
