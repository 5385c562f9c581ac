/- The code of an interval, by cases: a multiple of 2^32 lies in it, or none; what a decoder can tell of its bytes. -/
import Derived.Test.YtbkjfblmdilchaaDoorIv
namespace Go.Proofs.YtbkjfblmdilchaaDoor

/-- A multiple of 2^32 lies in the interval. -/
def evenIv (x : Iv) : Prop := x.L % 4294967296 = 0 ∨ 4294967296 < x.L % 4294967296 + x.R
instance (x : Iv) : Decidable (evenIv x) := by unfold evenIv; exact inferInstance
theorem pow4 (k : Nat) : 256 ^ (4 + k) = 256 ^ k * 4294967296 := by rw [Nat.pow_add, Nat.mul_comm]
theorem even_mult {x : Iv} (h : evenIv x) (hx : x.Good) : ∃ V, x.L ≤ V * 4294967296 ∧ V * 4294967296 < x.L + x.R ∧ V = if x.L % 4294967296 = 0 then x.L / 4294967296 else x.L / 4294967296 + 1 := by
  have := hx.lo
  unfold evenIv at h
  by_cases h0 : x.L % 4294967296 = 0
  · refine ⟨_, ?_, ?_, rfl⟩ <;> rw [if_pos h0] <;> omega
  · refine ⟨_, ?_, ?_, rfl⟩ <;> rw [if_neg h0] <;> omega
theorem mult_even {x : Iv} (V : Nat) (h1 : x.L ≤ V * 4294967296) (h2 : V * 4294967296 < x.L + x.R) : evenIv x := by
  unfold evenIv
  omega
theorem mult_one {x : Iv} (hx : x.Good) (V W : Nat) (h1 : x.L ≤ V * 4294967296) (h2 : V * 4294967296 < x.L + x.R) (h3 : x.L ≤ W * 4294967296) (h4 : W * 4294967296 < x.L + x.R) : V = W := by
  have := hx.hi
  omega
theorem val_zero (l : List Nat) (h : ∀ d ∈ l, d = 0) : val l = 0 := by
  rw [List.eq_replicate_of_mem h, val_zeros]
/-- The least row of digits whose number is V times 2^32. -/
theorem even_code {x : Iv} (hx : x.Good) (V m : Nat) (h1 : x.L ≤ V * 4294967296) (h2 : V * 4294967296 < x.L + x.R) (hm : m ≤ x.k) (hz : ∀ j, m ≤ j → j < x.k → (digs x.k V).getD j 0 = 0) (hn : m = 0 ∨ (digs x.k V).getD (m - 1) 0 ≠ 0) :
    IsCode x ((digs x.k V).take m) := by
  have hV : V < 256 ^ x.k := by
    have h3 : V * 4294967296 < 256 ^ x.k * 4294967296 := by rw [← pow4]; exact Nat.lt_of_lt_of_le h2 hx.top
    exact Nat.lt_of_mul_lt_mul_right h3
  obtain ⟨a, ha⟩ : ∃ a, (digs x.k V).take m = a := ⟨_, rfl⟩
  have hal : a.length = m := by rw [← ha, List.length_take, length_digs]; omega
  have had : Dig a := by rw [← ha]; exact dig_take (dig_digs _ _) m
  have hval : val a * 256 ^ (x.k - m) = V := by
    have h3 := val_append ((digs x.k V).take m) ((digs x.k V).drop m)
    rw [List.take_append_drop, val_digs _ _ hV, List.length_drop, length_digs, ha, val_zero ((digs x.k V).drop m)] at h3
    · omega
    · intro d hd
      obtain ⟨j, hj, rfl⟩ := List.mem_iff_getElem.1 hd
      have hl := hj
      rw [List.length_drop, length_digs] at hl
      have h4 := hz (m + j) (by omega) (by omega)
      rw [List.getElem_drop]
      rw [List.getD_eq_getElem?_getD, List.getElem?_eq_getElem (by rw [length_digs]; omega)] at h4
      simpa using h4
  have hU : ∀ j, j ≤ x.k → 256 ^ (4 + x.k - j) = 256 ^ (x.k - j) * 4294967296 := fun j hj => by
    rw [← pow4, show 4 + x.k - j = 4 + (x.k - j) by omega]
  have hfit : ∀ j, j ≤ x.k → Fits x j → ceilAt x j * 256 ^ (x.k - j) = V := by
    intro j hj hf
    have h3 := ceil_ge x j
    unfold Fits at hf
    rw [hU j hj, ← Nat.mul_assoc] at hf h3
    exact mult_one hx _ _ h3 hf h1 h2
  have hF : Fits x m := by
    have h3 := ceil_le x m (val a) (by rw [hU m hm, ← Nat.mul_assoc, hval]; exact h1)
    unfold Fits
    have h4 : ceilAt x m * 256 ^ (4 + x.k - m) ≤ val a * 256 ^ (4 + x.k - m) := Nat.mul_le_mul_right _ h3
    rw [hU m hm, ← Nat.mul_assoc (val a), hval, ← hU m hm] at h4
    omega
  have hcm : ceilAt x m = val a := by
    have h3 := hfit m hm hF
    rw [← hval] at h3
    exact Nat.eq_of_mul_eq_mul_right (pow_pos' _) h3
  refine ⟨m, by omega, ?_, hF, ?_⟩
  · rw [ha, hcm, ← hal, digs_val a had]
  · intro j hj hf
    have h3 := hfit j (by omega) hf
    rcases hn with hn | hn
    · omega
    · refine hn ?_
      obtain ⟨n, rfl⟩ : ∃ n, m = n + 1 := ⟨m - 1, by omega⟩
      rw [← hval, show x.k - j = (n - j) + 1 + (x.k - (n + 1)) by omega, Nat.pow_add, ← Nat.mul_assoc] at h3
      have h4 := Nat.eq_of_mul_eq_mul_right (pow_pos' _) h3
      rw [Nat.pow_succ, ← Nat.mul_assoc] at h4
      have h5 : val a % 256 = 0 := by rw [← h4]; omega
      have h6 : a = digs (n + 1) (val a) := by rw [← hal, digs_val a had]
      have h7 : a[n]? = some 0 := by
        rw [h6, digs, List.getElem?_append_right (by rw [length_digs]; exact Nat.le_refl _), length_digs, h5]
        simp
      rw [← ha, List.getElem?_take, if_pos (by omega)] at h7
      rw [Nat.add_sub_cancel, List.getD_eq_getElem?_getD, h7]
      rfl
/-- Where no multiple lies: one byte more. -/
theorem odd_fits {x : Iv} (h : ¬ evenIv x) (j : Nat) (hj : j < x.k + 1) : ¬ Fits x j := by
  intro hf
  have h3 := ceil_ge x j
  unfold Fits at hf
  have hU : 256 ^ (4 + x.k - j) = 256 ^ (x.k - j) * 4294967296 := by rw [← pow4, show 4 + x.k - j = 4 + (x.k - j) by omega]
  rw [hU, ← Nat.mul_assoc] at hf h3
  exact h (mult_even _ h3 hf)
theorem ceil_next (x : Iv) : ceilAt x (x.k + 1) = (x.L + 16777215) / 16777216 := by
  unfold ceilAt
  rw [show 4 + x.k - (x.k + 1) = 3 by omega]
theorem odd_code {x : Iv} (hx : x.Good) (h : ¬ evenIv x) : IsCode x (digs x.k (x.L / 4294967296) ++ [(x.L % 4294967296 + 16777215) / 16777216]) := by
  have h0 := hx.lo
  refine ⟨x.k + 1, by omega, ?_, fits_k hx, odd_fits h⟩
  have hn : ¬ (x.L % 4294967296 = 0 ∨ 4294967296 < x.L % 4294967296 + x.R) := h
  rw [ceil_next, digs, show (x.L + 16777215) / 16777216 / 256 = x.L / 4294967296 by omega, show (x.L + 16777215) / 16777216 % 256 = (x.L % 4294967296 + 16777215) / 16777216 by omega]
theorem isCode_len {x : Iv} (hx : x.Good) {b : List Nat} (h : IsCode x b) : b.length ≤ x.k + 1 := by
  obtain ⟨c, hc, hl⟩ := isCode_exists hx
  rw [isCode_one h hc]
  exact hl

theorem widen_succ (b : List Nat) (n : Nat) : widen b (n + 1) = widen b n ++ [b.getD n 0] := by
  have h1 := widen_take b n 1
  have h2 := length_widen b (n + 1)
  have h3 : (widen b (n + 1))[n]? = some (b.getD n 0) := by
    unfold widen
    rw [List.getElem?_take, if_pos (by omega)]
    by_cases h : n < b.length
    · rw [List.getElem?_append_left h, List.getElem?_eq_getElem h, List.getD_eq_getElem?_getD, List.getElem?_eq_getElem h]; rfl
    · rw [List.getElem?_append_right (by omega), List.getElem?_replicate, if_pos (by omega), List.getD_eq_getElem?_getD, List.getElem?_eq_none (by omega)]; rfl
  rw [← h1]
  have h4 := List.take_append_drop n (widen b (n + 1))
  rw [← h4]
  congr 1
  · rw [h4]
  · have h5 : n < (widen b (n + 1)).length := by omega
    rw [List.getElem?_eq_getElem h5] at h3
    injection h3 with h3
    rw [List.drop_eq_getElem_cons h5, h3, List.drop_of_length_le (by omega)]
theorem scale_succ (b : List Nat) (n : Nat) : scale b (n + 1) = scale b n * 256 + b.getD n 0 := by
  rw [scale, widen_succ, val_snoc]; rfl
theorem scale_zero (b : List Nat) : scale b 0 = 0 := by simp [scale, widen, val]

/-- What Done tells. -/
def doneOf (x : Iv) (b : List Nat) : Bool :=
  if x.k < b.length then decide (b.length = x.k + 1) && !decide (evenIv x) && decide (scale b (4 + x.k) - x.L < 16777216) else decide (b.length = 0) || decide (b.getD (b.length - 1) 0 ≠ 0)
theorem dig_last_drop {b : List Nat} (hl : b ≠ []) (h : b.getD (b.length - 1) 0 = 0) : b = b.dropLast ++ [0] := by
  have h1 := List.dropLast_concat_getLast hl
  rw [List.getD_eq_getElem?_getD, List.getElem?_eq_getElem (by have := List.length_pos_iff.2 hl; omega)] at h
  rw [List.getLast_eq_getElem] at h1
  simp only [Option.getD_some] at h
  rw [h] at h1
  exact h1.symm
theorem done_iff {x : Iv} (hx : x.Good) {b : List Nat} (hb : Dig b) (hi : Inside x b) : doneOf x b = true ↔ IsCode x b := by
  unfold doneOf
  by_cases hk : x.k < b.length
  · rw [if_pos hk]
    simp only [Bool.and_eq_true, decide_eq_true_eq, Bool.not_eq_true', decide_eq_false_iff_not]
    constructor
    · rintro ⟨⟨hl, he⟩, ha⟩
      have e := scale_short b (4 + x.k) (by omega)
      rw [show 4 + x.k - b.length = 3 by omega] at e
      have h1 := hi.1
      rw [e] at h1 ha
      have h2 : val b = ceilAt x (x.k + 1) := by
        rw [ceil_next]
        omega
      refine ⟨x.k + 1, by omega, ?_, fits_k hx, odd_fits he⟩
      rw [← h2, ← hl, digs_val b hb]
    · intro hc
      have hl := isCode_len hx hc
      have hlen : b.length = x.k + 1 := by omega
      obtain ⟨m, hm, rfl, hF, hno⟩ := hc
      rw [length_digs] at hlen
      subst hlen
      refine ⟨⟨by rw [length_digs], ?_⟩, ?_⟩
      · intro he
        obtain ⟨V, h1, h2, _⟩ := even_mult he hx
        refine hno x.k (by omega) ?_
        unfold Fits
        have h3 := ceil_le x x.k V (by rw [show 4 + x.k - x.k = 4 by omega]; exact h1)
        rw [show 4 + x.k - x.k = 4 by omega]
        have h4 : ceilAt x x.k * 256 ^ 4 ≤ V * 4294967296 := Nat.mul_le_mul_right _ h3
        exact Nat.lt_of_le_of_lt h4 h2
      · have h2 := ceil_top hx _ hm hF
        have e := scale_short (digs (x.k + 1) (ceilAt x (x.k + 1))) (4 + x.k) (by rw [length_digs]; exact hm)
        rw [length_digs, val_digs _ _ h2] at e
        have h3 := ceil_lt x (x.k + 1)
        have e3 : 4 + x.k - (x.k + 1) = 3 := by omega
        rw [e3] at e h3
        rw [e]
        generalize ceilAt x (x.k + 1) = v at *
        omega
  · rw [if_neg hk]
    simp only [Bool.or_eq_true, decide_eq_true_eq]
    have e := scale_short b (4 + x.k) (by omega)
    constructor
    · intro hn
      have h1 := hi.1
      have h2 := hi.2
      have hU : 256 ^ (4 + x.k - b.length) = 256 ^ (x.k - b.length) * 4294967296 := by rw [← pow4, show 4 + x.k - b.length = 4 + (x.k - b.length) by omega]
      rw [e, hU, ← Nat.mul_assoc] at h1 h2
      have hd : digs x.k (val b * 256 ^ (x.k - b.length)) = b ++ List.replicate (x.k - b.length) 0 := by
        have := digs_append_zeros b.length (val b) (x.k - b.length) (val_lt b hb)
        rw [digs_val b hb, show b.length + (x.k - b.length) = x.k by omega] at this
        exact this.symm
      have h3 := even_code hx _ b.length h1 h2 (by omega) ?_ ?_
      · rw [hd, List.take_left] at h3
        exact h3
      · intro j hj hj2
        rw [hd, List.getD_eq_getElem?_getD, List.getElem?_append_right hj, List.getElem?_replicate]
        split <;> rfl
      · rcases hn with hn | hn
        · exact .inl hn
        · rcases Nat.eq_zero_or_pos b.length with h0 | h0
          · exact .inl h0
          · refine .inr ?_
            rw [hd, List.getD_eq_getElem?_getD, List.getElem?_append_left (by omega), ← List.getD_eq_getElem?_getD]
            exact hn
    · intro hc
      by_cases h0 : b.length = 0
      · exact .inl h0
      · refine .inr fun hz => ?_
        have hne : b ≠ [] := fun h => h0 (by rw [h]; rfl)
        have hb2 := dig_last_drop hne hz
        refine isCode_least hc (c := b.dropLast) (by rw [List.length_dropLast]; omega) ?_
        have e2 : scale b.dropLast (4 + x.k) = scale b (4 + x.k) := by
          rw [e, scale_short _ _ (by rw [List.length_dropLast]; omega), List.length_dropLast]
          have h4 := val_snoc b.dropLast 0
          rw [← hb2] at h4
          rw [h4, show 4 + x.k - (b.length - 1) = 4 + x.k - b.length + 1 by omega, Nat.pow_succ, Nat.add_zero, Nat.mul_comm (256 ^ _) 256, Nat.mul_assoc]
        exact ⟨by rw [e2]; exact hi.1, by rw [e2]; exact hi.2⟩
end Go.Proofs.YtbkjfblmdilchaaDoor
