/- Intervals of symbols (layer 4): a symbol comes, where a row of bytes lies, and the code of an interval. -/
import Derived.Test.YtbkjfblmdilchaaDoorDig
import Derived.Test.YtbkjfblmdilchaaDoorTabList
namespace Go.Proofs.YtbkjfblmdilchaaDoor

/-- k, L and R of the document. -/
structure Iv where
  k : Nat
  L : Nat
  R : Nat
/-- What is always so. -/
structure Iv.Good (x : Iv) : Prop where
  top : x.L + x.R ≤ 256 ^ (4 + x.k)
  lo : 16777216 ≤ x.R
  hi : x.R ≤ 4294967296
def firstIv : Iv := ⟨0, 0, 4294967296⟩
theorem good_first : firstIv.Good := ⟨by decide, by decide, by decide⟩

/-- R is multiplied as long as it is too small (at most t times). -/
def norm : Nat → Iv → Iv
  | 0, x => x
  | t + 1, x => if x.R < 16777216 then norm t ⟨x.k + 1, x.L * 256, x.R * 256⟩ else x
/-- A part of an interval: from c units on, f units, or the rest. -/
def part (x : Iv) (n c f : Nat) (last : Bool) : Iv := ⟨x.k, x.L + c * (x.R / n), if last then x.R - c * (x.R / n) else f * (x.R / n)⟩
def tot (c : List Int) : Nat := c.sum.toNat
def lowN (c : List Int) (s : Nat) : Nat := (low c s).toNat
def cntN (c : List Int) (s : Nat) : Nat := (c.getD s 0).toNat
/-- A symbol comes. -/
def come (x : Iv) (c : List Int) (s : Nat) : Iv := norm 3 (part x (tot c) (lowN c s) (cntN c s) (decide (s + 1 = c.length)))

theorem tot_cast {c : List Int} (h : Ok c) : ((tot c : Nat) : Int) = c.sum := by
  have := h.len_sum
  unfold tot; omega
theorem low_cast {c : List Int} (h : Ok c) (s : Nat) : ((lowN c s : Nat) : Int) = low c s := by
  have := (h.low_le' s).1
  unfold lowN; omega
theorem cnt_cast {c : List Int} (h : Ok c) (s : Nat) : ((cntN c s : Nat) : Int) = c.getD s 0 := by
  have := zero_at h.zero s
  unfold cntN; omega
theorem tot_bd {c : List Int} (h : Ok c) : 0 < tot c ∧ tot c ≤ 65536 := by
  have h1 := h.len_sum
  have h2 := tot_cast h
  have h3 := h.pos
  have h4 := h.total
  omega
theorem lowN_succ {c : List Int} (h : Ok c) (s : Nat) : lowN c (s + 1) = lowN c s + cntN c s := by
  have h1 := low_cast h s
  have h2 := low_cast h (s + 1)
  have h3 := cnt_cast h s
  have h4 := low_succ c s
  omega
theorem lowN_le {c : List Int} (h : Ok c) (s : Nat) : lowN c s ≤ tot c := by
  have h1 := low_cast h s
  have h2 := tot_cast h
  have h3 := low_sum h.zero s
  omega
theorem lowN_all {c : List Int} (s : Nat) (hs : s = c.length) : lowN c s = tot c := by
  unfold lowN tot; rw [low_all c s (by omega)]
theorem lowN_zero (c : List Int) : lowN c 0 = 0 := by unfold lowN; rw [low_zero]; rfl
theorem cntN_pos {c : List Int} (h : Ok c) (s : Nat) (hs : s < c.length) : 0 < cntN c s := by
  have h1 := cnt_cast h s
  have h2 := one_at h.one s hs
  omega

/-- Where the part of a symbol begins and ends. -/
theorem part_lo (x : Iv) (c : List Int) (s : Nat) : (part x (tot c) (lowN c s) (cntN c s) (decide (s + 1 = c.length))).L = x.L + lowN c s * (x.R / tot c) := rfl
theorem mul_unit_le {x : Iv} {c : List Int} (h : Ok c) (s : Nat) : lowN c s * (x.R / tot c) ≤ x.R := by
  have h1 : lowN c s * (x.R / tot c) ≤ tot c * (x.R / tot c) := Nat.mul_le_mul_right _ (lowN_le h s)
  have h2 := Nat.mul_div_le x.R (tot c)
  omega
theorem part_hi {x : Iv} {c : List Int} (h : Ok c) (s : Nat) :
    (part x (tot c) (lowN c s) (cntN c s) (decide (s + 1 = c.length))).L + (part x (tot c) (lowN c s) (cntN c s) (decide (s + 1 = c.length))).R = if s + 1 = c.length then x.L + x.R else x.L + lowN c (s + 1) * (x.R / tot c) := by
  have h1 := mul_unit_le (x := x) h s
  unfold part
  by_cases hl : s + 1 = c.length
  · simp only [hl, decide_true, if_true]
    omega
  · simp only [hl, decide_false, if_false]
    rw [lowN_succ h s, Nat.add_mul]
    simp only [Bool.false_eq_true, if_false]
    omega
theorem part_R {x : Iv} {c : List Int} (hx : x.Good) (h : Ok c) (s : Nat) (hs : s < c.length) :
    256 ≤ (part x (tot c) (lowN c s) (cntN c s) (decide (s + 1 = c.length))).R ∧ (part x (tot c) (lowN c s) (cntN c s) (decide (s + 1 = c.length))).R ≤ x.R := by
  have hn := tot_bd h
  have hr : 256 ≤ x.R / tot c := by
    rw [Nat.le_div_iff_mul_le hn.1]
    have := hx.lo
    omega
  have hf := cntN_pos h s hs
  have e1 : cntN c s * (x.R / tot c) ≤ tot c * (x.R / tot c) := Nat.mul_le_mul_right _ (by have := lowN_succ h s; have := lowN_le h (s + 1); omega)
  have e2 := Nat.mul_div_le x.R (tot c)
  have e3 : 1 * (x.R / tot c) ≤ cntN c s * (x.R / tot c) := Nat.mul_le_mul_right _ hf
  have e4 := mul_unit_le (x := x) h s
  unfold part
  by_cases hl : s + 1 = c.length
  · have e5 := lowN_succ h s
    rw [lowN_all (s + 1) hl] at e5
    rw [e5, Nat.add_mul] at e2
    simp only [hl, decide_true, if_true]
    rw [← e5] at e2
    omega
  · simp only [hl, decide_false, Bool.false_eq_true, if_false]
    omega
theorem part_top {x : Iv} {c : List Int} (h : Ok c) (s : Nat) :
    (part x (tot c) (lowN c s) (cntN c s) (decide (s + 1 = c.length))).L + (part x (tot c) (lowN c s) (cntN c s) (decide (s + 1 = c.length))).R ≤ x.L + x.R := by
  rw [part_hi h s]
  have := mul_unit_le (x := x) h (s + 1)
  split <;> omega

theorem norm_good (t : Nat) (x : Iv) (h1 : x.L + x.R ≤ 256 ^ (4 + x.k)) (h2 : x.R ≤ 4294967296) (h3 : 16777216 ≤ x.R * 256 ^ t) : (norm t x).Good := by
  induction t generalizing x with
  | zero => exact ⟨h1, by rw [Nat.pow_zero, Nat.mul_one] at h3; exact h3, h2⟩
  | succ t ih =>
    by_cases hr : x.R < 16777216
    · rw [norm, if_pos hr]
      refine ih _ ?_ (by show x.R * 256 ≤ _; omega) (by show _ ≤ x.R * 256 * 256 ^ t; rw [Nat.mul_assoc, Nat.mul_comm 256, ← Nat.pow_succ]; exact h3)
      show x.L * 256 + x.R * 256 ≤ 256 ^ (4 + (x.k + 1))
      rw [← Nat.add_assoc, Nat.pow_succ, ← Nat.add_mul]
      exact Nat.mul_le_mul_right _ h1
    · rw [norm, if_neg hr]
      exact ⟨h1, by omega, h2⟩
theorem Iv.Good.come {x : Iv} (hx : x.Good) {c : List Int} (h : Ok c) (s : Nat) (hs : s < c.length) : (come x c s).Good := by
  have h1 := part_R hx h s hs
  have h2 := part_top (x := x) h s
  have h3 := hx.top
  have h4 := hx.hi
  exact norm_good 3 _ (Nat.le_trans h2 h3) (by omega) (by omega)

/-- The number of bytes, in so many digits (noughts behind their end, or cut). -/
def widen (b : List Nat) (n : Nat) : List Nat := (b ++ List.replicate n 0).take n
def scale (b : List Nat) (n : Nat) : Nat := val (widen b n)
theorem length_widen (b : List Nat) (n : Nat) : (widen b n).length = n := by simp [widen]
theorem dig_widen {b : List Nat} (h : Dig b) (n : Nat) : Dig (widen b n) := dig_take (dig_append h (dig_zeros n)) n
theorem widen_take (b : List Nat) (n e : Nat) : (widen b (n + e)).take n = widen b n := by
  unfold widen
  rw [List.take_take, Nat.min_eq_left (by omega), ← List.replicate_append_replicate, ← List.append_assoc, List.take_append_of_le_length (by simp)]
theorem scale_div {b : List Nat} (h : Dig b) (n e : Nat) : scale b (n + e) / 256 ^ e = scale b n := by
  have := val_take (widen b (n + e)) n (dig_widen h _)
  rw [length_widen, widen_take, show n + e - n = e by omega] at this
  exact this.symm
theorem scale_short (b : List Nat) (n : Nat) (h : b.length ≤ n) : scale b n = val b * 256 ^ (n - b.length) := by
  have e : widen b n = b ++ List.replicate (n - b.length) 0 := by
    unfold widen
    rw [List.take_append, List.take_of_length_le h, List.take_replicate, Nat.min_eq_left (by omega)]
  rw [scale, e, val_append, val_zeros, List.length_replicate, Nat.add_zero]
/-- The number of the bytes lies in the interval. -/
def Inside (x : Iv) (b : List Nat) : Prop := x.L ≤ scale b (4 + x.k) ∧ scale b (4 + x.k) < x.L + x.R
theorem inside_step {b : List Nat} (h : Dig b) (k L R : Nat) : Inside ⟨k + 1, L * 256, R * 256⟩ b ↔ Inside ⟨k, L, R⟩ b := by
  have e := scale_div h (4 + k) 1
  show (L * 256 ≤ scale b (4 + (k + 1)) ∧ scale b (4 + (k + 1)) < L * 256 + R * 256) ↔ (L ≤ scale b (4 + k) ∧ scale b (4 + k) < L + R)
  rw [Nat.pow_one] at e
  rw [show 4 + (k + 1) = 4 + k + 1 by omega]
  generalize scale b (4 + k + 1) = s at *
  generalize scale b (4 + k) = t at *
  omega
theorem inside_norm {b : List Nat} (h : Dig b) (t : Nat) (x : Iv) : Inside (norm t x) b ↔ Inside x b := by
  induction t generalizing x with
  | zero => exact Iff.rfl
  | succ t ih =>
    unfold norm
    split
    · rw [ih, inside_step h]
    · exact Iff.rfl
theorem inside_come {b : List Nat} (h : Dig b) (x : Iv) (c : List Int) (s : Nat) : Inside (come x c s) b ↔ Inside (part x (tot c) (lowN c s) (cntN c s) (decide (s + 1 = c.length))) b := inside_norm h 3 _
/-- A symbol's interval lies within. -/
theorem inside_of_come {b : List Nat} (hb : Dig b) {x : Iv} {c : List Int} (h : Ok c) (s : Nat) (hi : Inside (come x c s) b) : Inside x b := by
  rw [inside_come hb] at hi
  have h1 := part_top (x := x) h s
  have h2 := part_lo x c s
  obtain ⟨h3, h4⟩ := hi
  have h5 : (part x (tot c) (lowN c s) (cntN c s) (decide (s + 1 = c.length))).k = x.k := rfl
  rw [h5] at h3 h4
  exact ⟨by omega, by omega⟩
/-- Two symbols' intervals lie apart. -/
theorem come_apart {b : List Nat} (hb : Dig b) {x : Iv} {c : List Int} (h : Ok c) (s t : Nat) (hst : s < t) (ht : t < c.length) (hi : Inside (come x c s) b) : ¬ Inside (come x c t) b := by
  rw [inside_come hb] at hi ⊢
  intro hj
  have h1 := part_hi (x := x) h s
  rw [if_neg (by omega)] at h1
  have h2 := part_lo x c t
  have h3 := hi.2
  have h4 := hj.1
  have h5 : lowN c (s + 1) * (x.R / tot c) ≤ lowN c t * (x.R / tot c) := by
    refine Nat.mul_le_mul_right _ ?_
    have := low_le h.zero (s + 1) t (by omega)
    have := low_cast h (s + 1)
    have := low_cast h t
    omega
  rw [show (part x (tot c) (lowN c s) (cntN c s) (decide (s + 1 = c.length))).k = x.k from rfl] at h3
  rw [show (part x (tot c) (lowN c t) (cntN c t) (decide (t + 1 = c.length))).k = x.k from rfl] at h4
  omega
/-- Each number of an interval is of a symbol. -/
theorem come_some {b : List Nat} (hb : Dig b) {x : Iv} {c : List Int} (h : Ok c) (hi : Inside x b) : ∃ s, s < c.length ∧ Inside (come x c s) b := by
  have key : ∀ n, n ≤ c.length → (n = c.length ∨ scale b (4 + x.k) < x.L + lowN c n * (x.R / tot c)) → ∃ s, s < n ∧ Inside (come x c s) b := by
    intro n
    induction n with
    | zero =>
      intro _ hn
      rcases hn with hn | hn
      · have := h.pos; omega
      · rw [lowN_zero] at hn
        have := hi.1
        omega
    | succ n ih =>
      intro hle hn
      by_cases hlt : scale b (4 + x.k) < x.L + lowN c n * (x.R / tot c)
      · obtain ⟨s, hs, h1⟩ := ih (by omega) (.inr hlt)
        exact ⟨s, by omega, h1⟩
      · refine ⟨n, by omega, ?_⟩
        rw [inside_come hb]
        have h1 := part_hi (x := x) h n
        refine ⟨?_, ?_⟩
        · show x.L + lowN c n * (x.R / tot c) ≤ scale b (4 + x.k)
          omega
        · rw [h1]
          show scale b (4 + x.k) < _
          split
          · exact hi.2
          · rcases hn with hn | hn
            · omega
            · exact hn
  exact key c.length (Nat.le_refl _) (.inl rfl)

/-- The least number of m digits that is not below L, at the interval's own scale. -/
def ceilAt (x : Iv) (m : Nat) : Nat := (x.L + (256 ^ (4 + x.k - m) - 1)) / 256 ^ (4 + x.k - m)
def Fits (x : Iv) (m : Nat) : Prop := ceilAt x m * 256 ^ (4 + x.k - m) < x.L + x.R
/-- b is the code of x. -/
def IsCode (x : Iv) (b : List Nat) : Prop := ∃ m, m ≤ 4 + x.k ∧ b = digs m (ceilAt x m) ∧ Fits x m ∧ ∀ j, j < m → ¬ Fits x j
theorem ceil_ge (x : Iv) (m : Nat) : x.L ≤ ceilAt x m * 256 ^ (4 + x.k - m) := by
  unfold ceilAt
  have hu := pow_pos' (4 + x.k - m)
  generalize 256 ^ (4 + x.k - m) = u at *
  have h1 := Nat.div_add_mod (x.L + (u - 1)) u
  have h2 := Nat.mod_lt (x.L + (u - 1)) hu
  rw [Nat.mul_comm] at h1
  omega
theorem ceil_lt (x : Iv) (m : Nat) : ceilAt x m * 256 ^ (4 + x.k - m) < x.L + 256 ^ (4 + x.k - m) := by
  unfold ceilAt
  have hu := pow_pos' (4 + x.k - m)
  generalize 256 ^ (4 + x.k - m) = u at *
  have h1 := Nat.div_add_mod (x.L + (u - 1)) u
  rw [Nat.mul_comm] at h1
  omega
theorem ceil_le (x : Iv) (m v : Nat) (h : x.L ≤ v * 256 ^ (4 + x.k - m)) : ceilAt x m ≤ v := by
  have h1 := ceil_lt x m
  have hu := pow_pos' (4 + x.k - m)
  generalize 256 ^ (4 + x.k - m) = u at *
  generalize ceilAt x m = c at *
  rcases Nat.lt_or_ge v c with hv | hv
  · have : (v + 1) * u ≤ c * u := Nat.mul_le_mul_right _ hv
    rw [Nat.add_mul] at this
    omega
  · exact hv
theorem fits_k {x : Iv} (hx : x.Good) : Fits x (x.k + 1) := by
  have h1 := ceil_lt x (x.k + 1)
  have h2 := hx.lo
  have e : 4 + x.k - (x.k + 1) = 3 := by omega
  unfold Fits
  rw [e] at h1 ⊢
  omega
theorem ceil_top {x : Iv} (hx : x.Good) (m : Nat) (hm : m ≤ 4 + x.k) (h : Fits x m) : ceilAt x m < 256 ^ m := by
  have h1 : ceilAt x m * 256 ^ (4 + x.k - m) < 256 ^ m * 256 ^ (4 + x.k - m) := by
    rw [← Nat.pow_add, show m + (4 + x.k - m) = 4 + x.k by omega]
    exact Nat.lt_of_lt_of_le h hx.top
  exact Nat.lt_of_mul_lt_mul_right h1
theorem code_exists {x : Iv} (hx : x.Good) : ∃ m, m ≤ x.k + 1 ∧ Fits x m ∧ ∀ j, j < m → ¬ Fits x j := by
  have key : ∀ n, Fits x n → ∃ m, m ≤ n ∧ Fits x m ∧ ∀ j, j < m → ¬ Fits x j := by
    intro n
    induction n using Nat.strongRecOn with
    | ind n ih =>
      intro hn
      by_cases h : ∃ j, j < n ∧ Fits x j
      · obtain ⟨j, hj, hf⟩ := h
        obtain ⟨m, hm, h1, h2⟩ := ih j hj hf
        exact ⟨m, by omega, h1, h2⟩
      · exact ⟨n, Nat.le_refl _, hn, fun j hj hf => h ⟨j, hj, hf⟩⟩
  exact key _ (fits_k hx)
theorem isCode_exists {x : Iv} (hx : x.Good) : ∃ b, IsCode x b ∧ b.length ≤ x.k + 1 := by
  obtain ⟨m, hm, h1, h2⟩ := code_exists hx
  exact ⟨digs m (ceilAt x m), ⟨m, by omega, rfl, h1, h2⟩, by rw [length_digs]; exact hm⟩
theorem isCode_one {x : Iv} {a b : List Nat} (ha : IsCode x a) (hb : IsCode x b) : a = b := by
  obtain ⟨m, _, rfl, h1, h2⟩ := ha
  obtain ⟨n, _, rfl, h3, h4⟩ := hb
  have : m = n := by
    rcases Nat.lt_trichotomy m n with h | h | h
    · exact absurd h1 (h4 m h)
    · exact h
    · exact absurd h3 (h2 n h)
  rw [this]
theorem isCode_dig {x : Iv} {b : List Nat} (h : IsCode x b) : Dig b := by
  obtain ⟨m, _, rfl, _⟩ := h
  exact dig_digs _ _
theorem isCode_inside {x : Iv} (hx : x.Good) {b : List Nat} (h : IsCode x b) : Inside x b := by
  obtain ⟨m, hm, rfl, h1, _⟩ := h
  have h2 := ceil_top hx m hm h1
  have e := scale_short (digs m (ceilAt x m)) (4 + x.k) (by rw [length_digs]; exact hm)
  rw [length_digs, val_digs m _ h2] at e
  exact ⟨by rw [e]; exact ceil_ge x m, by rw [e]; exact h1⟩
/-- Nothing shorter lies in the interval. -/
theorem isCode_least {x : Iv} {b c : List Nat} (h : IsCode x b) (hl : c.length < b.length) : ¬ Inside x c := by
  obtain ⟨m, hm, rfl, _, h2⟩ := h
  rw [length_digs] at hl
  intro hi
  have e := scale_short c (4 + x.k) (by omega)
  refine h2 c.length hl ?_
  obtain ⟨h3, h4⟩ := hi
  rw [e] at h3 h4
  have h5 := ceil_le x c.length (val c) h3
  have h6 : ceilAt x c.length * 256 ^ (4 + x.k - c.length) ≤ val c * 256 ^ (4 + x.k - c.length) := Nat.mul_le_mul_right _ h5
  unfold Fits
  omega
end Go.Proofs.YtbkjfblmdilchaaDoor
