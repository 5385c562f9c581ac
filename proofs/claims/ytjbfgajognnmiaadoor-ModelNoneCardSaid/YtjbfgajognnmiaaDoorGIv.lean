/- Texts laid one behind the other: Dig, Iv, IvFew, IvAdapt, IvCode, IvAds, IvSame. -/
import Derived.Test.YtjbfgajognnmiaaDoorBase
import Derived.Test.YtjbfgajognnmiaaDoorGTab

/- Digits, base 256, the highest first: their number, and what changes it. -/
namespace Go.Proofs.YtjbfgajognnmiaaDoor

/-- The number of digits. -/
def val (l : List Nat) : Nat := l.foldl (fun a d => a * 256 + d) 0
/-- The n digits of v. -/
def digs : Nat → Nat → List Nat
  | 0, _ => []
  | n + 1, v => digs n (v / 256) ++ [v % 256]
/-- Digits they are. -/
def Dig (l : List Nat) : Prop := ∀ d ∈ l, d < 256

theorem val_nil : val [] = 0 := rfl
theorem foldl_val (l : List Nat) (a : Nat) : l.foldl (fun a d => a * 256 + d) a = a * 256 ^ l.length + val l := by
  induction l generalizing a with
  | nil => simp [val]
  | cons d l ih =>
    rw [List.foldl_cons, ih, List.length_cons]
    have : val (d :: l) = d * 256 ^ l.length + val l := by
      show l.foldl _ (0 * 256 + d) = _
      rw [ih]; simp
    rw [this, Nat.pow_succ, Nat.add_mul, Nat.mul_assoc, Nat.mul_comm 256, Nat.add_assoc]
theorem val_append (a b : List Nat) : val (a ++ b) = val a * 256 ^ b.length + val b := by
  show (a ++ b).foldl _ 0 = _
  rw [List.foldl_append, foldl_val]
  rfl
theorem val_cons (d : Nat) (l : List Nat) : val (d :: l) = d * 256 ^ l.length + val l := by
  have := val_append [d] l
  simpa [val] using this
theorem val_snoc (l : List Nat) (d : Nat) : val (l ++ [d]) = val l * 256 + d := by
  rw [val_append]; simp [val]
theorem pow_pos' (n : Nat) : 0 < 256 ^ n := Nat.pow_pos (by omega)
theorem val_lt (l : List Nat) (h : Dig l) : val l < 256 ^ l.length := by
  induction l with
  | nil => simp [val]
  | cons d l ih =>
    rw [val_cons, List.length_cons, Nat.pow_succ]
    have h1 := ih (fun x hx => h x (List.mem_cons_of_mem _ hx))
    have h2 := h d (List.mem_cons_self ..)
    have h3 : d * 256 ^ l.length ≤ 255 * 256 ^ l.length := Nat.mul_le_mul_right _ (by omega)
    omega
theorem length_digs (n v : Nat) : (digs n v).length = n := by
  induction n generalizing v with
  | zero => rfl
  | succ n ih => rw [digs, List.length_append, ih]; rfl
theorem dig_digs (n v : Nat) : Dig (digs n v) := by
  induction n generalizing v with
  | zero => intro d hd; cases hd
  | succ n ih =>
    intro d hd
    rcases List.mem_append.1 hd with hd | hd
    · exact ih _ d hd
    · rw [List.mem_singleton.1 hd]; exact Nat.mod_lt _ (by omega)
theorem val_digs (n v : Nat) (h : v < 256 ^ n) : val (digs n v) = v := by
  induction n generalizing v with
  | zero => simp at h; subst h; rfl
  | succ n ih =>
    rw [digs, val_snoc, ih (v / 256) (Nat.div_lt_of_lt_mul (by rw [Nat.mul_comm, ← Nat.pow_succ]; exact h))]
    omega
theorem digs_val (l : List Nat) (h : Dig l) : digs l.length (val l) = l := by
  have key : ∀ n (l : List Nat), l.length = n → Dig l → digs n (val l) = l := by
    intro n
    induction n with
    | zero => intro l hl _; rw [List.eq_nil_of_length_eq_zero hl]; rfl
    | succ n ih =>
      intro l hl h
      have hne : l ≠ [] := by intro e; rw [e] at hl; cases hl
      obtain ⟨a, d, rfl⟩ : ∃ a d, l = a ++ [d] := ⟨l.dropLast, l.getLast hne, (List.dropLast_concat_getLast hne).symm⟩
      have hd : d < 256 := h d (by simp)
      rw [digs, val_snoc, show (val a * 256 + d) / 256 = val a by omega, show (val a * 256 + d) % 256 = d by omega]
      rw [ih a (by simp at hl; exact hl) (fun x hx => h x (List.mem_append_left _ hx))]
  exact key _ l rfl h
theorem val_inj (a b : List Nat) (hl : a.length = b.length) (ha : Dig a) (hb : Dig b) (h : val a = val b) : a = b := by
  rw [← digs_val a ha, ← digs_val b hb, h, hl]
theorem val_set (l : List Nat) (i x : Nat) (hi : i < l.length) : val (l.set i x) + l.getD i 0 * 256 ^ (l.length - 1 - i) = val l + x * 256 ^ (l.length - 1 - i) := by
  induction l generalizing i with
  | nil => simp at hi
  | cons d l ih =>
    cases i with
    | zero =>
      rw [List.set_cons_zero, val_cons, val_cons]
      simp
      omega
    | succ i =>
      have := ih i (by simpa using hi)
      rw [List.set_cons_succ, val_cons, val_cons, List.length_set]
      have e : (d :: l).length - 1 - (i + 1) = l.length - 1 - i := by simp; omega
      rw [e, show (d :: l).getD (i + 1) 0 = l.getD i 0 by simp]
      omega
theorem dig_set (l : List Nat) (i x : Nat) (h : Dig l) (hx : x < 256) : Dig (l.set i x) := by
  intro d hd
  rcases List.mem_or_eq_of_mem_set hd with hd | rfl
  · exact h d hd
  · exact hx
theorem dig_at {l : List Nat} (h : Dig l) (i : Nat) : l.getD i 0 < 256 := by
  by_cases hi : i < l.length
  · have := h l[i] (List.getElem_mem hi)
    simpa [List.getElem?_eq_getElem hi] using this
  · simp [List.getElem?_eq_none (by omega : l.length ≤ i)]
theorem dig_append {a b : List Nat} (ha : Dig a) (hb : Dig b) : Dig (a ++ b) := fun d hd => by
  rcases List.mem_append.1 hd with h | h
  · exact ha d h
  · exact hb d h
theorem dig_take {a : List Nat} (ha : Dig a) (n : Nat) : Dig (a.take n) := fun d hd => ha d (List.mem_of_mem_take hd)
theorem dig_zeros (n : Nat) : Dig (List.replicate n 0) := fun d hd => by rw [List.eq_of_mem_replicate hd]; omega
theorem val_zeros (n : Nat) : val (List.replicate n 0) = 0 := by
  induction n with
  | zero => rfl
  | succ n ih => rw [List.replicate_succ, val_cons, ih]; simp
/-- The first m digits. -/
theorem val_take (l : List Nat) (m : Nat) (h : Dig l) : val (l.take m) = val l / 256 ^ (l.length - m) := by
  have h1 := val_append (l.take m) (l.drop m)
  rw [List.take_append_drop, List.length_drop] at h1
  have h2 := val_lt (l.drop m) (fun d hd => h d (List.mem_of_mem_drop hd))
  rw [List.length_drop] at h2
  rw [h1, Nat.mul_comm, Nat.mul_add_div (pow_pos' _), Nat.div_eq_of_lt h2, Nat.add_zero]
theorem digs_append_zeros (n v e : Nat) (h : v < 256 ^ n) : digs n v ++ List.replicate e 0 = digs (n + e) (v * 256 ^ e) := by
  have hlt : v * 256 ^ e < 256 ^ (n + e) := by rw [Nat.pow_add]; exact Nat.mul_lt_mul_of_pos_right h (pow_pos' e)
  apply val_inj
  · rw [List.length_append, length_digs, length_digs, List.length_replicate]
  · exact dig_append (dig_digs _ _) (dig_zeros _)
  · exact dig_digs _ _
  · rw [val_append, val_digs n v h, val_zeros, List.length_replicate, val_digs _ _ hlt]
    simp
/-- The first place at which two rows differ tells which number is less. -/
theorem val_cmp (p a b : List Nat) (x y : Nat) (hl : a.length = b.length) (ha : Dig a) (h : x < y) : val (p ++ x :: a) < val (p ++ y :: b) := by
  rw [val_append, val_append, val_cons, val_cons, List.length_cons, List.length_cons, hl]
  have h1 := val_lt a ha
  rw [hl] at h1
  have h2 : (x + 1) * 256 ^ b.length ≤ y * 256 ^ b.length := Nat.mul_le_mul_right _ h
  rw [Nat.add_mul] at h2
  omega
end Go.Proofs.YtjbfgajognnmiaaDoor

/- Intervals of symbols (layer 4): a symbol comes, where a row of bytes lies, and the code of an interval. -/
namespace Go.Proofs.YtjbfgajognnmiaaDoor

/-- k, L and R of the document. -/
structure Iv where
  k : Nat
  L : Nat
  R : Nat
/-- What is always so. -/
structure Iv.Good (x : Iv) : Prop where
  top : x.L + x.R ≤ 256 ^ (4 + x.k)
  lo : 16777216 ≤ x.R
  hi : x.R ≤ 4294967296
def firstIv : Iv := ⟨0, 0, 4294967296⟩
theorem good_first : firstIv.Good := ⟨by decide, by decide, by decide⟩

/-- R is multiplied as long as it is too small (at most t times). -/
def norm : Nat → Iv → Iv
  | 0, x => x
  | t + 1, x => if x.R < 16777216 then norm t ⟨x.k + 1, x.L * 256, x.R * 256⟩ else x
/-- A part of an interval: from c units on, f units, or the rest. -/
def part (x : Iv) (n c f : Nat) (last : Bool) : Iv := ⟨x.k, x.L + c * (x.R / n), if last then x.R - c * (x.R / n) else f * (x.R / n)⟩
def tot (c : List Int) : Nat := c.sum.toNat
def lowN (c : List Int) (s : Nat) : Nat := (low c s).toNat
def cntN (c : List Int) (s : Nat) : Nat := (c.getD s 0).toNat
/-- A symbol comes. -/
def come (x : Iv) (c : List Int) (s : Nat) : Iv := norm 3 (part x (tot c) (lowN c s) (cntN c s) (decide (s + 1 = c.length)))

theorem tot_cast {c : List Int} (h : Ok c) : ((tot c : Nat) : Int) = c.sum := by
  have := h.len_sum
  unfold tot; omega
theorem low_cast {c : List Int} (h : Ok c) (s : Nat) : ((lowN c s : Nat) : Int) = low c s := by
  have := (h.low_le' s).1
  unfold lowN; omega
theorem cnt_cast {c : List Int} (h : Ok c) (s : Nat) : ((cntN c s : Nat) : Int) = c.getD s 0 := by
  have := zero_at h.zero s
  unfold cntN; omega
theorem tot_bd {c : List Int} (h : Ok c) : 0 < tot c ∧ tot c ≤ 65536 := by
  have h1 := h.len_sum
  have h2 := tot_cast h
  have h3 := h.pos
  have h4 := h.total
  omega
theorem lowN_succ {c : List Int} (h : Ok c) (s : Nat) : lowN c (s + 1) = lowN c s + cntN c s := by
  have h1 := low_cast h s
  have h2 := low_cast h (s + 1)
  have h3 := cnt_cast h s
  have h4 := low_succ c s
  omega
theorem lowN_le {c : List Int} (h : Ok c) (s : Nat) : lowN c s ≤ tot c := by
  have h1 := low_cast h s
  have h2 := tot_cast h
  have h3 := low_sum h.zero s
  omega
theorem lowN_all {c : List Int} (s : Nat) (hs : s = c.length) : lowN c s = tot c := by
  unfold lowN tot; rw [low_all c s (by omega)]
theorem lowN_zero (c : List Int) : lowN c 0 = 0 := by unfold lowN; rw [low_zero]; rfl
theorem cntN_pos {c : List Int} (h : Ok c) (s : Nat) (hs : s < c.length) : 0 < cntN c s := by
  have h1 := cnt_cast h s
  have h2 := one_at h.one s hs
  omega

/-- Where the part of a symbol begins and ends. -/
theorem part_lo (x : Iv) (c : List Int) (s : Nat) : (part x (tot c) (lowN c s) (cntN c s) (decide (s + 1 = c.length))).L = x.L + lowN c s * (x.R / tot c) := rfl
theorem mul_unit_le {x : Iv} {c : List Int} (h : Ok c) (s : Nat) : lowN c s * (x.R / tot c) ≤ x.R := by
  have h1 : lowN c s * (x.R / tot c) ≤ tot c * (x.R / tot c) := Nat.mul_le_mul_right _ (lowN_le h s)
  have h2 := Nat.mul_div_le x.R (tot c)
  omega
theorem part_hi {x : Iv} {c : List Int} (h : Ok c) (s : Nat) :
    (part x (tot c) (lowN c s) (cntN c s) (decide (s + 1 = c.length))).L + (part x (tot c) (lowN c s) (cntN c s) (decide (s + 1 = c.length))).R = if s + 1 = c.length then x.L + x.R else x.L + lowN c (s + 1) * (x.R / tot c) := by
  have h1 := mul_unit_le (x := x) h s
  unfold part
  by_cases hl : s + 1 = c.length
  · simp only [hl, decide_true, if_true]
    omega
  · simp only [hl, decide_false, if_false]
    rw [lowN_succ h s, Nat.add_mul]
    simp only [Bool.false_eq_true, if_false]
    omega
theorem part_R {x : Iv} {c : List Int} (hx : x.Good) (h : Ok c) (s : Nat) (hs : s < c.length) :
    256 ≤ (part x (tot c) (lowN c s) (cntN c s) (decide (s + 1 = c.length))).R ∧ (part x (tot c) (lowN c s) (cntN c s) (decide (s + 1 = c.length))).R ≤ x.R := by
  have hn := tot_bd h
  have hr : 256 ≤ x.R / tot c := by
    rw [Nat.le_div_iff_mul_le hn.1]
    have := hx.lo
    omega
  have hf := cntN_pos h s hs
  have e1 : cntN c s * (x.R / tot c) ≤ tot c * (x.R / tot c) := Nat.mul_le_mul_right _ (by have := lowN_succ h s; have := lowN_le h (s + 1); omega)
  have e2 := Nat.mul_div_le x.R (tot c)
  have e3 : 1 * (x.R / tot c) ≤ cntN c s * (x.R / tot c) := Nat.mul_le_mul_right _ hf
  have e4 := mul_unit_le (x := x) h s
  unfold part
  by_cases hl : s + 1 = c.length
  · have e5 := lowN_succ h s
    rw [lowN_all (s + 1) hl] at e5
    rw [e5, Nat.add_mul] at e2
    simp only [hl, decide_true, if_true]
    rw [← e5] at e2
    omega
  · simp only [hl, decide_false, Bool.false_eq_true, if_false]
    omega
theorem part_top {x : Iv} {c : List Int} (h : Ok c) (s : Nat) :
    (part x (tot c) (lowN c s) (cntN c s) (decide (s + 1 = c.length))).L + (part x (tot c) (lowN c s) (cntN c s) (decide (s + 1 = c.length))).R ≤ x.L + x.R := by
  rw [part_hi h s]
  have := mul_unit_le (x := x) h (s + 1)
  split <;> omega

theorem norm_good (t : Nat) (x : Iv) (h1 : x.L + x.R ≤ 256 ^ (4 + x.k)) (h2 : x.R ≤ 4294967296) (h3 : 16777216 ≤ x.R * 256 ^ t) : (norm t x).Good := by
  induction t generalizing x with
  | zero => exact ⟨h1, by rw [Nat.pow_zero, Nat.mul_one] at h3; exact h3, h2⟩
  | succ t ih =>
    by_cases hr : x.R < 16777216
    · rw [norm, if_pos hr]
      refine ih _ ?_ (by show x.R * 256 ≤ _; omega) (by show _ ≤ x.R * 256 * 256 ^ t; rw [Nat.mul_assoc, Nat.mul_comm 256, ← Nat.pow_succ]; exact h3)
      show x.L * 256 + x.R * 256 ≤ 256 ^ (4 + (x.k + 1))
      rw [← Nat.add_assoc, Nat.pow_succ, ← Nat.add_mul]
      exact Nat.mul_le_mul_right _ h1
    · rw [norm, if_neg hr]
      exact ⟨h1, by omega, h2⟩
theorem Iv.Good.come {x : Iv} (hx : x.Good) {c : List Int} (h : Ok c) (s : Nat) (hs : s < c.length) : (come x c s).Good := by
  have h1 := part_R hx h s hs
  have h2 := part_top (x := x) h s
  have h3 := hx.top
  have h4 := hx.hi
  exact norm_good 3 _ (Nat.le_trans h2 h3) (by omega) (by omega)

/-- The number of bytes, in so many digits (noughts behind their end, or cut). -/
def widen (b : List Nat) (n : Nat) : List Nat := (b ++ List.replicate n 0).take n
def scale (b : List Nat) (n : Nat) : Nat := val (widen b n)
theorem length_widen (b : List Nat) (n : Nat) : (widen b n).length = n := by simp [widen]
theorem dig_widen {b : List Nat} (h : Dig b) (n : Nat) : Dig (widen b n) := dig_take (dig_append h (dig_zeros n)) n
theorem widen_take (b : List Nat) (n e : Nat) : (widen b (n + e)).take n = widen b n := by
  unfold widen
  rw [List.take_take, Nat.min_eq_left (by omega), ← List.replicate_append_replicate, ← List.append_assoc, List.take_append_of_le_length (by simp)]
theorem scale_div {b : List Nat} (h : Dig b) (n e : Nat) : scale b (n + e) / 256 ^ e = scale b n := by
  have := val_take (widen b (n + e)) n (dig_widen h _)
  rw [length_widen, widen_take, show n + e - n = e by omega] at this
  exact this.symm
theorem scale_short (b : List Nat) (n : Nat) (h : b.length ≤ n) : scale b n = val b * 256 ^ (n - b.length) := by
  have e : widen b n = b ++ List.replicate (n - b.length) 0 := by
    unfold widen
    rw [List.take_append, List.take_of_length_le h, List.take_replicate, Nat.min_eq_left (by omega)]
  rw [scale, e, val_append, val_zeros, List.length_replicate, Nat.add_zero]
/-- The number of the bytes lies in the interval. -/
def Inside (x : Iv) (b : List Nat) : Prop := x.L ≤ scale b (4 + x.k) ∧ scale b (4 + x.k) < x.L + x.R
theorem inside_step {b : List Nat} (h : Dig b) (k L R : Nat) : Inside ⟨k + 1, L * 256, R * 256⟩ b ↔ Inside ⟨k, L, R⟩ b := by
  have e := scale_div h (4 + k) 1
  show (L * 256 ≤ scale b (4 + (k + 1)) ∧ scale b (4 + (k + 1)) < L * 256 + R * 256) ↔ (L ≤ scale b (4 + k) ∧ scale b (4 + k) < L + R)
  rw [Nat.pow_one] at e
  rw [show 4 + (k + 1) = 4 + k + 1 by omega]
  generalize scale b (4 + k + 1) = s at *
  generalize scale b (4 + k) = t at *
  omega
theorem inside_norm {b : List Nat} (h : Dig b) (t : Nat) (x : Iv) : Inside (norm t x) b ↔ Inside x b := by
  induction t generalizing x with
  | zero => exact Iff.rfl
  | succ t ih =>
    unfold norm
    split
    · rw [ih, inside_step h]
    · exact Iff.rfl
theorem inside_come {b : List Nat} (h : Dig b) (x : Iv) (c : List Int) (s : Nat) : Inside (come x c s) b ↔ Inside (part x (tot c) (lowN c s) (cntN c s) (decide (s + 1 = c.length))) b := inside_norm h 3 _
/-- A symbol's interval lies within. -/
theorem inside_of_come {b : List Nat} (hb : Dig b) {x : Iv} {c : List Int} (h : Ok c) (s : Nat) (hi : Inside (come x c s) b) : Inside x b := by
  rw [inside_come hb] at hi
  have h1 := part_top (x := x) h s
  have h2 := part_lo x c s
  obtain ⟨h3, h4⟩ := hi
  have h5 : (part x (tot c) (lowN c s) (cntN c s) (decide (s + 1 = c.length))).k = x.k := rfl
  rw [h5] at h3 h4
  exact ⟨by omega, by omega⟩
/-- Two symbols' intervals lie apart. -/
theorem come_apart {b : List Nat} (hb : Dig b) {x : Iv} {c : List Int} (h : Ok c) (s t : Nat) (hst : s < t) (ht : t < c.length) (hi : Inside (come x c s) b) : ¬ Inside (come x c t) b := by
  rw [inside_come hb] at hi ⊢
  intro hj
  have h1 := part_hi (x := x) h s
  rw [if_neg (by omega)] at h1
  have h2 := part_lo x c t
  have h3 := hi.2
  have h4 := hj.1
  have h5 : lowN c (s + 1) * (x.R / tot c) ≤ lowN c t * (x.R / tot c) := by
    refine Nat.mul_le_mul_right _ ?_
    have := low_le h.zero (s + 1) t (by omega)
    have := low_cast h (s + 1)
    have := low_cast h t
    omega
  rw [show (part x (tot c) (lowN c s) (cntN c s) (decide (s + 1 = c.length))).k = x.k from rfl] at h3
  rw [show (part x (tot c) (lowN c t) (cntN c t) (decide (t + 1 = c.length))).k = x.k from rfl] at h4
  omega
/-- Each number of an interval is of a symbol. -/
theorem come_some {b : List Nat} (hb : Dig b) {x : Iv} {c : List Int} (h : Ok c) (hi : Inside x b) : ∃ s, s < c.length ∧ Inside (come x c s) b := by
  have key : ∀ n, n ≤ c.length → (n = c.length ∨ scale b (4 + x.k) < x.L + lowN c n * (x.R / tot c)) → ∃ s, s < n ∧ Inside (come x c s) b := by
    intro n
    induction n with
    | zero =>
      intro _ hn
      rcases hn with hn | hn
      · have := h.pos; omega
      · rw [lowN_zero] at hn
        have := hi.1
        omega
    | succ n ih =>
      intro hle hn
      by_cases hlt : scale b (4 + x.k) < x.L + lowN c n * (x.R / tot c)
      · obtain ⟨s, hs, h1⟩ := ih (by omega) (.inr hlt)
        exact ⟨s, by omega, h1⟩
      · refine ⟨n, by omega, ?_⟩
        rw [inside_come hb]
        have h1 := part_hi (x := x) h n
        refine ⟨?_, ?_⟩
        · show x.L + lowN c n * (x.R / tot c) ≤ scale b (4 + x.k)
          omega
        · rw [h1]
          show scale b (4 + x.k) < _
          split
          · exact hi.2
          · rcases hn with hn | hn
            · omega
            · exact hn
  exact key c.length (Nat.le_refl _) (.inl rfl)

/-- The least number of m digits that is not below L, at the interval's own scale. -/
def ceilAt (x : Iv) (m : Nat) : Nat := (x.L + (256 ^ (4 + x.k - m) - 1)) / 256 ^ (4 + x.k - m)
def Fits (x : Iv) (m : Nat) : Prop := ceilAt x m * 256 ^ (4 + x.k - m) < x.L + x.R
/-- b is the code of x. -/
def IsCode (x : Iv) (b : List Nat) : Prop := ∃ m, m ≤ 4 + x.k ∧ b = digs m (ceilAt x m) ∧ Fits x m ∧ ∀ j, j < m → ¬ Fits x j
theorem ceil_ge (x : Iv) (m : Nat) : x.L ≤ ceilAt x m * 256 ^ (4 + x.k - m) := by
  unfold ceilAt
  have hu := pow_pos' (4 + x.k - m)
  generalize 256 ^ (4 + x.k - m) = u at *
  have h1 := Nat.div_add_mod (x.L + (u - 1)) u
  have h2 := Nat.mod_lt (x.L + (u - 1)) hu
  rw [Nat.mul_comm] at h1
  omega
theorem ceil_lt (x : Iv) (m : Nat) : ceilAt x m * 256 ^ (4 + x.k - m) < x.L + 256 ^ (4 + x.k - m) := by
  unfold ceilAt
  have hu := pow_pos' (4 + x.k - m)
  generalize 256 ^ (4 + x.k - m) = u at *
  have h1 := Nat.div_add_mod (x.L + (u - 1)) u
  rw [Nat.mul_comm] at h1
  omega
theorem ceil_le (x : Iv) (m v : Nat) (h : x.L ≤ v * 256 ^ (4 + x.k - m)) : ceilAt x m ≤ v := by
  have h1 := ceil_lt x m
  have hu := pow_pos' (4 + x.k - m)
  generalize 256 ^ (4 + x.k - m) = u at *
  generalize ceilAt x m = c at *
  rcases Nat.lt_or_ge v c with hv | hv
  · have : (v + 1) * u ≤ c * u := Nat.mul_le_mul_right _ hv
    rw [Nat.add_mul] at this
    omega
  · exact hv
theorem fits_k {x : Iv} (hx : x.Good) : Fits x (x.k + 1) := by
  have h1 := ceil_lt x (x.k + 1)
  have h2 := hx.lo
  have e : 4 + x.k - (x.k + 1) = 3 := by omega
  unfold Fits
  rw [e] at h1 ⊢
  omega
theorem ceil_top {x : Iv} (hx : x.Good) (m : Nat) (hm : m ≤ 4 + x.k) (h : Fits x m) : ceilAt x m < 256 ^ m := by
  have h1 : ceilAt x m * 256 ^ (4 + x.k - m) < 256 ^ m * 256 ^ (4 + x.k - m) := by
    rw [← Nat.pow_add, show m + (4 + x.k - m) = 4 + x.k by omega]
    exact Nat.lt_of_lt_of_le h hx.top
  exact Nat.lt_of_mul_lt_mul_right h1
theorem code_exists {x : Iv} (hx : x.Good) : ∃ m, m ≤ x.k + 1 ∧ Fits x m ∧ ∀ j, j < m → ¬ Fits x j := by
  have key : ∀ n, Fits x n → ∃ m, m ≤ n ∧ Fits x m ∧ ∀ j, j < m → ¬ Fits x j := by
    intro n
    induction n using Nat.strongRecOn with
    | ind n ih =>
      intro hn
      by_cases h : ∃ j, j < n ∧ Fits x j
      · obtain ⟨j, hj, hf⟩ := h
        obtain ⟨m, hm, h1, h2⟩ := ih j hj hf
        exact ⟨m, by omega, h1, h2⟩
      · exact ⟨n, Nat.le_refl _, hn, fun j hj hf => h ⟨j, hj, hf⟩⟩
  exact key _ (fits_k hx)
theorem isCode_exists {x : Iv} (hx : x.Good) : ∃ b, IsCode x b ∧ b.length ≤ x.k + 1 := by
  obtain ⟨m, hm, h1, h2⟩ := code_exists hx
  exact ⟨digs m (ceilAt x m), ⟨m, by omega, rfl, h1, h2⟩, by rw [length_digs]; exact hm⟩
theorem isCode_one {x : Iv} {a b : List Nat} (ha : IsCode x a) (hb : IsCode x b) : a = b := by
  obtain ⟨m, _, rfl, h1, h2⟩ := ha
  obtain ⟨n, _, rfl, h3, h4⟩ := hb
  have : m = n := by
    rcases Nat.lt_trichotomy m n with h | h | h
    · exact absurd h1 (h4 m h)
    · exact h
    · exact absurd h3 (h2 n h)
  rw [this]
theorem isCode_dig {x : Iv} {b : List Nat} (h : IsCode x b) : Dig b := by
  obtain ⟨m, _, rfl, _⟩ := h
  exact dig_digs _ _
theorem isCode_inside {x : Iv} (hx : x.Good) {b : List Nat} (h : IsCode x b) : Inside x b := by
  obtain ⟨m, hm, rfl, h1, _⟩ := h
  have h2 := ceil_top hx m hm h1
  have e := scale_short (digs m (ceilAt x m)) (4 + x.k) (by rw [length_digs]; exact hm)
  rw [length_digs, val_digs m _ h2] at e
  exact ⟨by rw [e]; exact ceil_ge x m, by rw [e]; exact h1⟩
/-- Nothing shorter lies in the interval. -/
theorem isCode_least {x : Iv} {b c : List Nat} (h : IsCode x b) (hl : c.length < b.length) : ¬ Inside x c := by
  obtain ⟨m, hm, rfl, _, h2⟩ := h
  rw [length_digs] at hl
  intro hi
  have e := scale_short c (4 + x.k) (by omega)
  refine h2 c.length hl ?_
  obtain ⟨h3, h4⟩ := hi
  rw [e] at h3 h4
  have h5 := ceil_le x c.length (val c) h3
  have h6 : ceilAt x c.length * 256 ^ (4 + x.k - c.length) ≤ val c * 256 ^ (4 + x.k - c.length) := Nat.mul_le_mul_right _ h5
  unfold Fits
  omega
end Go.Proofs.YtjbfgajognnmiaaDoor

/- What symbols cost (layer 4): of a table of 256 like counts at most a byte each, and one more. -/
namespace Go.Proofs.YtjbfgajognnmiaaDoor

/-- Multiplying keeps the size, told at T digits; and it ends ahead of T. -/
theorem norm_pot (t : Nat) (x : Iv) (T : Nat) (hk : x.k ≤ T) (hp : 16777216 ≤ x.R * 256 ^ (T - x.k)) :
    (norm t x).k ≤ T ∧ (norm t x).R * 256 ^ (T - (norm t x).k) = x.R * 256 ^ (T - x.k) := by
  induction t generalizing x with
  | zero => exact ⟨hk, rfl⟩
  | succ t ih =>
    by_cases hr : x.R < 16777216
    · rw [norm, if_pos hr]
      have hlt : x.k < T := by
        rcases Nat.lt_or_ge x.k T with h | h
        · exact h
        · rw [show T - x.k = 0 by omega] at hp; omega
      have e : x.R * 256 * 256 ^ (T - (x.k + 1)) = x.R * 256 ^ (T - x.k) := by
        rw [Nat.mul_assoc, Nat.mul_comm 256, ← Nat.pow_succ, show (T - (x.k + 1)).succ = T - x.k by omega]
      have := ih ⟨x.k + 1, x.L * 256, x.R * 256⟩ (by show x.k + 1 ≤ T; omega) (by show _ ≤ x.R * 256 * 256 ^ (T - (x.k + 1)); rw [e]; exact hp)
      rw [show (⟨x.k + 1, x.L * 256, x.R * 256⟩ : Iv).R * 256 ^ (T - (⟨x.k + 1, x.L * 256, x.R * 256⟩ : Iv).k) = x.R * 256 ^ (T - x.k) from e] at this
      exact this
    · rw [norm, if_neg hr]
      exact ⟨hk, rfl⟩

/-- Behind t symbols that cost a byte each, all but. -/
def Few (x : Iv) (t : Nat) : Prop := x.k ≤ t ∧ 4294967296 * (327 - t) ≤ 327 * (x.R * 256 ^ (t - x.k))
theorem few_first : Few firstIv 0 := ⟨Nat.le_refl _, by decide⟩
theorem few_come {x : Iv} (hx : x.Good) {c : List Int} (h : Ok c) (s : Nat) (f : Nat) (hfs : cntN c s = f) (hl : tot c = 256 * f) (hf : f ≤ 200) (t : Nat) (ht : t ≤ 60) (hfew : Few x t) : Few (come x c s) (t + 1) := by
  obtain ⟨hk, hp⟩ := hfew
  have hn := tot_bd h
  have hR1 : f * (x.R / tot c) ≤ (part x (tot c) (lowN c s) (cntN c s) (decide (s + 1 = c.length))).R := by
    unfold part
    by_cases hlast : s + 1 = c.length
    · simp only [hlast, decide_true, if_true]
      have e5 := lowN_succ h s
      rw [lowN_all (s + 1) hlast, hfs] at e5
      have e2 := Nat.mul_div_le x.R (tot c)
      have e6 : tot c * (x.R / tot c) = lowN c s * (x.R / tot c) + f * (x.R / tot c) := by
        rw [← Nat.add_mul, ← e5]
      omega
    · simp only [hlast, decide_false, Bool.false_eq_true, if_false]
      rw [hfs]
      exact Nat.le_refl _
  have hlo := hx.lo
  have hlo2 : x.R < 256 * (f * (x.R / tot c)) + 256 * f := by
    have h1 := Nat.div_add_mod x.R (tot c)
    have h2 := Nat.mod_lt x.R hn.1
    rw [hl] at h1
    rw [hl] at h2 ⊢
    rw [Nat.mul_assoc] at h1
    omega
  unfold come
  generalize hy : part x (tot c) (lowN c s) (cntN c s) (decide (s + 1 = c.length)) = y at *
  have hyk : y.k = x.k := by rw [← hy]; rfl
  generalize f * (x.R / tot c) = u at *
  have e0 : y.R * 256 ^ (t + 1 - y.k) = (256 * y.R) * 256 ^ (t - x.k) := by
    rw [hyk, show t + 1 - x.k = (t - x.k) + 1 by omega, Nat.pow_succ, Nat.mul_comm 256 y.R, Nat.mul_assoc, Nat.mul_comm 256]
  have e1 : 326 * x.R ≤ 327 * (256 * y.R) := by omega
  have e2 := Nat.mul_le_mul_right (256 ^ (t - x.k)) e1
  rw [Nat.mul_assoc, Nat.mul_assoc, ← e0] at e2
  have hpot : 16777216 ≤ y.R * 256 ^ (t + 1 - y.k) := by omega
  obtain ⟨n1, n2⟩ := norm_pot 3 y (t + 1) (by omega) hpot
  exact ⟨n1, by rw [n2]; omega⟩
theorem few_bytes {x : Iv} (hx : x.Good) (t : Nat) (h : Few x t) {b : List Nat} (hb : IsCode x b) : b.length ≤ t + 1 := by
  obtain ⟨a, ha, hl⟩ := isCode_exists hx
  rw [isCode_one hb ha]
  have := h.1
  omega
/-- A symbol that takes all costs nothing. -/
theorem alone_come (x : Iv) (hx : x.Good) {c : List Int} (hc : c.length = 1) : come x c 0 = x := by
  have e : part x (tot c) (lowN c 0) (cntN c 0) (decide (0 + 1 = c.length)) = x := by
    unfold part
    rw [lowN_zero, hc]
    simp
  unfold come
  rw [e]
  have := hx.lo
  show norm (2 + 1) x = x
  rw [norm, if_neg (by omega)]
theorem first_code {b : List Nat} (h : IsCode firstIv b) : b = [] := by
  refine isCode_one h ⟨0, by omega, rfl, by show _ < _; decide, fun j hj => absurd hj (by omega)⟩
end Go.Proofs.YtjbfgajognnmiaaDoor

/- A symbol that always comes, of eight whose table adapts, costs two bytes at most in 200 symbols; what was encoded lies in each interval on the way. -/
namespace Go.Proofs.YtjbfgajognnmiaaDoor

/-- Symbols, each with its counts, come one behind the other. -/
def runIv (x : Iv) (l : List (List Int × Nat)) : Iv := l.foldl (fun x p => come x p.1 p.2) x
/-- Each may come. -/
def Right (l : List (List Int × Nat)) : Prop := ∀ p ∈ l, Ok p.1 ∧ p.2 < p.1.length
theorem runIv_snoc (x : Iv) (l : List (List Int × Nat)) (p : List Int × Nat) : runIv x (l ++ [p]) = come (runIv x l) p.1 p.2 := by simp [runIv]
theorem runIv_cons (x : Iv) (l : List (List Int × Nat)) (p : List Int × Nat) : runIv x (p :: l) = runIv (come x p.1 p.2) l := rfl
theorem good_run (l : List (List Int × Nat)) (h : Right l) (x : Iv) (hx : x.Good) : (runIv x l).Good := by
  induction l generalizing x with
  | nil => exact hx
  | cons p l ih =>
    rw [runIv_cons]
    have hp := h p (List.mem_cons_self ..)
    exact ih (fun q hq => h q (List.mem_cons_of_mem _ hq)) _ (hx.come hp.1 p.2 hp.2)
theorem inside_run {b : List Nat} (hb : Dig b) (l : List (List Int × Nat)) (h : Right l) (x : Iv) (hi : Inside (runIv x l) b) : Inside x b := by
  induction l generalizing x with
  | nil => exact hi
  | cons p l ih =>
    rw [runIv_cons] at hi
    have hp := h p (List.mem_cons_self ..)
    exact inside_of_come hb hp.1 p.2 (ih (fun q hq => h q (List.mem_cons_of_mem _ hq)) _ hi)
/-- On the way to an interval, each symbol is told by a number that lies in it. -/
theorem inside_way {b : List Nat} (hb : Dig b) (l : List (List Int × Nat)) (h : Right l) (x : Iv) (hi : Inside (runIv x l) b) (i : Nat) (hl : i < l.length) : Inside (come (runIv x (l.take i)) (l[i]).1 (l[i]).2) b := by
  have e : runIv x l = runIv (come (runIv x (l.take i)) (l[i]).1 (l[i]).2) (l.drop (i + 1)) := by
    rw [← runIv_snoc, ← List.take_succ_eq_append_getElem hl]
    unfold runIv
    rw [← List.foldl_append, List.take_append_drop]
  rw [e] at hi
  exact inside_run hb _ (fun p hp => h p (List.mem_of_mem_drop hp)) _ hi
/-- Any bytes lie in the first interval. -/
theorem inside_first {b : List Nat} (hb : Dig b) : Inside firstIv b := by
  have := val_lt (widen b 4) (dig_widen hb 4)
  rw [length_widen] at this
  refine ⟨Nat.zero_le _, ?_⟩
  show scale b 4 < 0 + 4294967296
  unfold scale
  omega

def okRun : Nat → Iv → List Int → Nat → Bool
  | 0, x, _, _ => decide (256 ^ (2 + x.k) ≤ x.R)
  | n + 1, x, c, s => decide (256 ^ (2 + x.k) ≤ x.R) && okRun n (come x c s) (bumped c s) s
theorem okRun_all : (List.range 8).all (fun s => okRun 200 firstIv (List.replicate 8 1) s) = true := by decide +kernel
/-- The table and the interval behind t symbols s. -/
def adapt (s : Nat) : Nat → Iv × List Int
  | 0 => (firstIv, List.replicate 8 1)
  | t + 1 => (come (adapt s t).1 (adapt s t).2 s, bumped (adapt s t).2 s)
theorem okRun_at (s n : Nat) (t : Nat) (h : okRun n (adapt s t).1 (adapt s t).2 s = true) (j : Nat) (hj : j ≤ n) : 256 ^ (2 + (adapt s (t + j)).1.k) ≤ (adapt s (t + j)).1.R := by
  induction n generalizing t j with
  | zero =>
    obtain rfl : j = 0 := by omega
    simpa [okRun] using h
  | succ n ih =>
    rw [okRun, Bool.and_eq_true] at h
    cases j with
    | zero => simpa using h.1
    | succ j =>
      have := ih (t + 1) h.2 j (by omega)
      rwa [show t + 1 + j = t + (j + 1) by omega] at this
theorem adapt_two (s : Nat) (hs : s < 8) (t : Nat) (ht : t ≤ 200) {b : List Nat} (hb : IsCode (adapt s t).1 b) : b.length ≤ 2 := by
  have h1 := List.all_eq_true.1 okRun_all s (List.mem_range.2 hs)
  have h2 := okRun_at s 200 0 h1 t ht
  rw [Nat.zero_add] at h2
  obtain ⟨m, hm, rfl, h3, h4⟩ := hb
  rw [length_digs]
  rcases Nat.lt_or_ge 2 m with h | h
  · refine absurd ?_ (h4 2 h)
    have h5 := ceil_lt (adapt s t).1 2
    unfold Fits
    rw [show 4 + (adapt s t).1.k - 2 = 2 + (adapt s t).1.k by omega] at h5 ⊢
    omega
  · exact h
end Go.Proofs.YtjbfgajognnmiaaDoor

/- The code of an interval, by cases: a multiple of 2^32 lies in it, or none; what a decoder can tell of its bytes. -/
namespace Go.Proofs.YtjbfgajognnmiaaDoor

/-- A multiple of 2^32 lies in the interval. -/
def evenIv (x : Iv) : Prop := x.L % 4294967296 = 0 ∨ 4294967296 < x.L % 4294967296 + x.R
instance (x : Iv) : Decidable (evenIv x) := by unfold evenIv; exact inferInstance
theorem pow4 (k : Nat) : 256 ^ (4 + k) = 256 ^ k * 4294967296 := by rw [Nat.pow_add, Nat.mul_comm]
theorem even_mult {x : Iv} (h : evenIv x) (hx : x.Good) : ∃ V, x.L ≤ V * 4294967296 ∧ V * 4294967296 < x.L + x.R ∧ V = if x.L % 4294967296 = 0 then x.L / 4294967296 else x.L / 4294967296 + 1 := by
  have := hx.lo
  unfold evenIv at h
  by_cases h0 : x.L % 4294967296 = 0
  · refine ⟨_, ?_, ?_, rfl⟩ <;> rw [if_pos h0] <;> omega
  · refine ⟨_, ?_, ?_, rfl⟩ <;> rw [if_neg h0] <;> omega
theorem mult_even {x : Iv} (V : Nat) (h1 : x.L ≤ V * 4294967296) (h2 : V * 4294967296 < x.L + x.R) : evenIv x := by
  unfold evenIv
  omega
theorem mult_one {x : Iv} (hx : x.Good) (V W : Nat) (h1 : x.L ≤ V * 4294967296) (h2 : V * 4294967296 < x.L + x.R) (h3 : x.L ≤ W * 4294967296) (h4 : W * 4294967296 < x.L + x.R) : V = W := by
  have := hx.hi
  omega
theorem val_zero (l : List Nat) (h : ∀ d ∈ l, d = 0) : val l = 0 := by
  rw [List.eq_replicate_of_mem h, val_zeros]
/-- The least row of digits whose number is V times 2^32. -/
theorem even_code {x : Iv} (hx : x.Good) (V m : Nat) (h1 : x.L ≤ V * 4294967296) (h2 : V * 4294967296 < x.L + x.R) (hm : m ≤ x.k) (hz : ∀ j, m ≤ j → j < x.k → (digs x.k V).getD j 0 = 0) (hn : m = 0 ∨ (digs x.k V).getD (m - 1) 0 ≠ 0) :
    IsCode x ((digs x.k V).take m) := by
  have hV : V < 256 ^ x.k := by
    have h3 : V * 4294967296 < 256 ^ x.k * 4294967296 := by rw [← pow4]; exact Nat.lt_of_lt_of_le h2 hx.top
    exact Nat.lt_of_mul_lt_mul_right h3
  obtain ⟨a, ha⟩ : ∃ a, (digs x.k V).take m = a := ⟨_, rfl⟩
  have hal : a.length = m := by rw [← ha, List.length_take, length_digs]; omega
  have had : Dig a := by rw [← ha]; exact dig_take (dig_digs _ _) m
  have hval : val a * 256 ^ (x.k - m) = V := by
    have h3 := val_append ((digs x.k V).take m) ((digs x.k V).drop m)
    rw [List.take_append_drop, val_digs _ _ hV, List.length_drop, length_digs, ha, val_zero ((digs x.k V).drop m)] at h3
    · omega
    · intro d hd
      obtain ⟨j, hj, rfl⟩ := List.mem_iff_getElem.1 hd
      have hl := hj
      rw [List.length_drop, length_digs] at hl
      have h4 := hz (m + j) (by omega) (by omega)
      rw [List.getElem_drop]
      rw [List.getD_eq_getElem?_getD, List.getElem?_eq_getElem (by rw [length_digs]; omega)] at h4
      simpa using h4
  have hU : ∀ j, j ≤ x.k → 256 ^ (4 + x.k - j) = 256 ^ (x.k - j) * 4294967296 := fun j hj => by
    rw [← pow4, show 4 + x.k - j = 4 + (x.k - j) by omega]
  have hfit : ∀ j, j ≤ x.k → Fits x j → ceilAt x j * 256 ^ (x.k - j) = V := by
    intro j hj hf
    have h3 := ceil_ge x j
    unfold Fits at hf
    rw [hU j hj, ← Nat.mul_assoc] at hf h3
    exact mult_one hx _ _ h3 hf h1 h2
  have hF : Fits x m := by
    have h3 := ceil_le x m (val a) (by rw [hU m hm, ← Nat.mul_assoc, hval]; exact h1)
    unfold Fits
    have h4 : ceilAt x m * 256 ^ (4 + x.k - m) ≤ val a * 256 ^ (4 + x.k - m) := Nat.mul_le_mul_right _ h3
    rw [hU m hm, ← Nat.mul_assoc (val a), hval, ← hU m hm] at h4
    omega
  have hcm : ceilAt x m = val a := by
    have h3 := hfit m hm hF
    rw [← hval] at h3
    exact Nat.eq_of_mul_eq_mul_right (pow_pos' _) h3
  refine ⟨m, by omega, ?_, hF, ?_⟩
  · rw [ha, hcm, ← hal, digs_val a had]
  · intro j hj hf
    have h3 := hfit j (by omega) hf
    rcases hn with hn | hn
    · omega
    · refine hn ?_
      obtain ⟨n, rfl⟩ : ∃ n, m = n + 1 := ⟨m - 1, by omega⟩
      rw [← hval, show x.k - j = (n - j) + 1 + (x.k - (n + 1)) by omega, Nat.pow_add, ← Nat.mul_assoc] at h3
      have h4 := Nat.eq_of_mul_eq_mul_right (pow_pos' _) h3
      rw [Nat.pow_succ, ← Nat.mul_assoc] at h4
      have h5 : val a % 256 = 0 := by rw [← h4]; omega
      have h6 : a = digs (n + 1) (val a) := by rw [← hal, digs_val a had]
      have h7 : a[n]? = some 0 := by
        rw [h6, digs, List.getElem?_append_right (by rw [length_digs]; exact Nat.le_refl _), length_digs, h5]
        simp
      rw [← ha, List.getElem?_take, if_pos (by omega)] at h7
      rw [Nat.add_sub_cancel, List.getD_eq_getElem?_getD, h7]
      rfl
/-- Where no multiple lies: one byte more. -/
theorem odd_fits {x : Iv} (h : ¬ evenIv x) (j : Nat) (hj : j < x.k + 1) : ¬ Fits x j := by
  intro hf
  have h3 := ceil_ge x j
  unfold Fits at hf
  have hU : 256 ^ (4 + x.k - j) = 256 ^ (x.k - j) * 4294967296 := by rw [← pow4, show 4 + x.k - j = 4 + (x.k - j) by omega]
  rw [hU, ← Nat.mul_assoc] at hf h3
  exact h (mult_even _ h3 hf)
theorem ceil_next (x : Iv) : ceilAt x (x.k + 1) = (x.L + 16777215) / 16777216 := by
  unfold ceilAt
  rw [show 4 + x.k - (x.k + 1) = 3 by omega]
theorem odd_code {x : Iv} (hx : x.Good) (h : ¬ evenIv x) : IsCode x (digs x.k (x.L / 4294967296) ++ [(x.L % 4294967296 + 16777215) / 16777216]) := by
  have h0 := hx.lo
  refine ⟨x.k + 1, by omega, ?_, fits_k hx, odd_fits h⟩
  have hn : ¬ (x.L % 4294967296 = 0 ∨ 4294967296 < x.L % 4294967296 + x.R) := h
  rw [ceil_next, digs, show (x.L + 16777215) / 16777216 / 256 = x.L / 4294967296 by omega, show (x.L + 16777215) / 16777216 % 256 = (x.L % 4294967296 + 16777215) / 16777216 by omega]
theorem isCode_len {x : Iv} (hx : x.Good) {b : List Nat} (h : IsCode x b) : b.length ≤ x.k + 1 := by
  obtain ⟨c, hc, hl⟩ := isCode_exists hx
  rw [isCode_one h hc]
  exact hl

theorem widen_succ (b : List Nat) (n : Nat) : widen b (n + 1) = widen b n ++ [b.getD n 0] := by
  have h1 := widen_take b n 1
  have h2 := length_widen b (n + 1)
  have h3 : (widen b (n + 1))[n]? = some (b.getD n 0) := by
    unfold widen
    rw [List.getElem?_take, if_pos (by omega)]
    by_cases h : n < b.length
    · rw [List.getElem?_append_left h, List.getElem?_eq_getElem h, List.getD_eq_getElem?_getD, List.getElem?_eq_getElem h]; rfl
    · rw [List.getElem?_append_right (by omega), List.getElem?_replicate, if_pos (by omega), List.getD_eq_getElem?_getD, List.getElem?_eq_none (by omega)]; rfl
  rw [← h1]
  have h4 := List.take_append_drop n (widen b (n + 1))
  rw [← h4]
  congr 1
  · rw [h4]
  · have h5 : n < (widen b (n + 1)).length := by omega
    rw [List.getElem?_eq_getElem h5] at h3
    injection h3 with h3
    rw [List.drop_eq_getElem_cons h5, h3, List.drop_of_length_le (by omega)]
theorem scale_succ (b : List Nat) (n : Nat) : scale b (n + 1) = scale b n * 256 + b.getD n 0 := by
  rw [scale, widen_succ, val_snoc]; rfl
theorem scale_zero (b : List Nat) : scale b 0 = 0 := by simp [scale, widen, val]

/-- What Done tells. -/
def doneOf (x : Iv) (b : List Nat) : Bool :=
  if x.k < b.length then decide (b.length = x.k + 1) && !decide (evenIv x) && decide (scale b (4 + x.k) - x.L < 16777216) else decide (b.length = 0) || decide (b.getD (b.length - 1) 0 ≠ 0)
theorem dig_last_drop {b : List Nat} (hl : b ≠ []) (h : b.getD (b.length - 1) 0 = 0) : b = b.dropLast ++ [0] := by
  have h1 := List.dropLast_concat_getLast hl
  rw [List.getD_eq_getElem?_getD, List.getElem?_eq_getElem (by have := List.length_pos_iff.2 hl; omega)] at h
  rw [List.getLast_eq_getElem] at h1
  simp only [Option.getD_some] at h
  rw [h] at h1
  exact h1.symm
theorem done_iff {x : Iv} (hx : x.Good) {b : List Nat} (hb : Dig b) (hi : Inside x b) : doneOf x b = true ↔ IsCode x b := by
  unfold doneOf
  by_cases hk : x.k < b.length
  · rw [if_pos hk]
    simp only [Bool.and_eq_true, decide_eq_true_eq, Bool.not_eq_true', decide_eq_false_iff_not]
    constructor
    · rintro ⟨⟨hl, he⟩, ha⟩
      have e := scale_short b (4 + x.k) (by omega)
      rw [show 4 + x.k - b.length = 3 by omega] at e
      have h1 := hi.1
      rw [e] at h1 ha
      have h2 : val b = ceilAt x (x.k + 1) := by
        rw [ceil_next]
        omega
      refine ⟨x.k + 1, by omega, ?_, fits_k hx, odd_fits he⟩
      rw [← h2, ← hl, digs_val b hb]
    · intro hc
      have hl := isCode_len hx hc
      have hlen : b.length = x.k + 1 := by omega
      obtain ⟨m, hm, rfl, hF, hno⟩ := hc
      rw [length_digs] at hlen
      subst hlen
      refine ⟨⟨by rw [length_digs], ?_⟩, ?_⟩
      · intro he
        obtain ⟨V, h1, h2, _⟩ := even_mult he hx
        refine hno x.k (by omega) ?_
        unfold Fits
        have h3 := ceil_le x x.k V (by rw [show 4 + x.k - x.k = 4 by omega]; exact h1)
        rw [show 4 + x.k - x.k = 4 by omega]
        have h4 : ceilAt x x.k * 256 ^ 4 ≤ V * 4294967296 := Nat.mul_le_mul_right _ h3
        exact Nat.lt_of_le_of_lt h4 h2
      · have h2 := ceil_top hx _ hm hF
        have e := scale_short (digs (x.k + 1) (ceilAt x (x.k + 1))) (4 + x.k) (by rw [length_digs]; exact hm)
        rw [length_digs, val_digs _ _ h2] at e
        have h3 := ceil_lt x (x.k + 1)
        have e3 : 4 + x.k - (x.k + 1) = 3 := by omega
        rw [e3] at e h3
        rw [e]
        generalize ceilAt x (x.k + 1) = v at *
        omega
  · rw [if_neg hk]
    simp only [Bool.or_eq_true, decide_eq_true_eq]
    have e := scale_short b (4 + x.k) (by omega)
    constructor
    · intro hn
      have h1 := hi.1
      have h2 := hi.2
      have hU : 256 ^ (4 + x.k - b.length) = 256 ^ (x.k - b.length) * 4294967296 := by rw [← pow4, show 4 + x.k - b.length = 4 + (x.k - b.length) by omega]
      rw [e, hU, ← Nat.mul_assoc] at h1 h2
      have hd : digs x.k (val b * 256 ^ (x.k - b.length)) = b ++ List.replicate (x.k - b.length) 0 := by
        have := digs_append_zeros b.length (val b) (x.k - b.length) (val_lt b hb)
        rw [digs_val b hb, show b.length + (x.k - b.length) = x.k by omega] at this
        exact this.symm
      have h3 := even_code hx _ b.length h1 h2 (by omega) ?_ ?_
      · rw [hd, List.take_left] at h3
        exact h3
      · intro j hj hj2
        rw [hd, List.getD_eq_getElem?_getD, List.getElem?_append_right hj, List.getElem?_replicate]
        split <;> rfl
      · rcases hn with hn | hn
        · exact .inl hn
        · rcases Nat.eq_zero_or_pos b.length with h0 | h0
          · exact .inl h0
          · refine .inr ?_
            rw [hd, List.getD_eq_getElem?_getD, List.getElem?_append_left (by omega), ← List.getD_eq_getElem?_getD]
            exact hn
    · intro hc
      by_cases h0 : b.length = 0
      · exact .inl h0
      · refine .inr fun hz => ?_
        have hne : b ≠ [] := fun h => h0 (by rw [h]; rfl)
        have hb2 := dig_last_drop hne hz
        refine isCode_least hc (c := b.dropLast) (by rw [List.length_dropLast]; omega) ?_
        have e2 : scale b.dropLast (4 + x.k) = scale b (4 + x.k) := by
          rw [e, scale_short _ _ (by rw [List.length_dropLast]; omega), List.length_dropLast]
          have h4 := val_snoc b.dropLast 0
          rw [← hb2] at h4
          rw [h4, show 4 + x.k - (b.length - 1) = 4 + x.k - b.length + 1 by omega, Nat.pow_succ, Nat.add_zero, Nat.mul_comm (256 ^ _) 256, Nat.mul_assoc]
        exact ⟨by rw [e2]; exact hi.1, by rw [e2]; exact hi.2⟩
end Go.Proofs.YtjbfgajognnmiaaDoor

/- Tables that change as symbols come: pure words (as CSide has them, without memory), for tables of each context too. -/
namespace Go.Proofs.YtjbfgajognnmiaaDoor

theorem take_one {α : Type} {l : List α} {k : Nat} {x : α} (h : l[k]? = some x) : l.take (k + 1) = l.take k ++ [x] := by
  obtain ⟨hk, rfl⟩ := List.getElem?_eq_some_iff.1 h
  exact List.take_succ_eq_append_getElem hk
theorem norm_kk (t : Nat) (x : Iv) : (norm t x).k ≤ x.k + t := by
  induction t generalizing x with
  | zero => exact Nat.le_refl _
  | succ t ih =>
    unfold norm
    split
    · have := ih ⟨x.k + 1, x.L * 256, x.R * 256⟩
      have h2 : (⟨x.k + 1, x.L * 256, x.R * 256⟩ : Iv).k = x.k + 1 := rfl
      omega
    · omega
theorem come_kk (x : Iv) (c : List Int) (s : Nat) : (come x c s).k ≤ x.k + 3 := norm_kk 3 _
theorem run_kk (l : List (List Int × Nat)) (x : Iv) : (runIv x l).k ≤ x.k + 3 * l.length := by
  induction l generalizing x with
  | nil => exact Nat.le_refl _
  | cons p l ih =>
    rw [runIv_cons, List.length_cons]
    have h1 := ih (come x p.1 p.2)
    have h2 := come_kk x p.1 p.2
    omega

/-- Each context has its own counts; a symbol bumps those of its own. -/
def turn (st : Nat → List Int) (c s : Nat) : Nat → List Int := fun d => if d = c then bumped (st c) s else st d
/-- Each symbol with the counts by which it comes. -/
def mads (st : Nat → List Int) : List (Nat × Nat) → List (List Int × Nat)
  | [] => []
  | (c, s) :: l => (st c, s) :: mads (turn st c s) l
/-- The counts behind some symbols. -/
def stOf (st : Nat → List Int) (l : List (Nat × Nat)) : Nat → List Int := l.foldl (fun st p => turn st p.1 p.2) st
theorem length_mads (st : Nat → List Int) (l : List (Nat × Nat)) : (mads st l).length = l.length := by
  induction l generalizing st with
  | nil => rfl
  | cons p l ih => rw [mads, List.length_cons, ih, List.length_cons]
theorem mads_at (st : Nat → List Int) (l : List (Nat × Nat)) (k : Nat) (hk : k < l.length) : (mads st l)[k]? = some (stOf st (l.take k) (l[k]).1, (l[k]).2) := by
  induction l generalizing st k with
  | nil => simp at hk
  | cons p l ih =>
    cases k with
    | zero => rfl
    | succ k =>
      rw [mads, List.getElem?_cons_succ, ih (turn st p.1 p.2) k (by simpa using hk)]
      rfl
theorem stOf_succ (st : Nat → List Int) (l : List (Nat × Nat)) (k : Nat) (hk : k < l.length) : stOf st (l.take (k + 1)) = turn (stOf st (l.take k)) (l[k]).1 (l[k]).2 := by
  rw [List.take_succ_eq_append_getElem hk, stOf, List.foldl_append]; rfl
/-- All tables are in order, and have n symbols. -/
def AllOk (n : Nat) (st : Nat → List Int) : Prop := ∀ c, Ok (st c) ∧ (st c).length = n
theorem AllOk.turn {n : Nat} {st : Nat → List Int} (h : AllOk n st) (c s : Nat) (hs : s < n) : AllOk n (turn st c s) := by
  intro d
  unfold Proofs.YtjbfgajognnmiaaDoor.turn
  split
  · exact ⟨(h c).1.bumped s (by rw [(h c).2]; exact hs), by rw [length_bumped]; exact (h c).2⟩
  · exact h d
theorem AllOk.of {n : Nat} {st : Nat → List Int} (h : AllOk n st) (l : List (Nat × Nat)) (hl : ∀ p ∈ l, p.2 < n) : AllOk n (stOf st l) := by
  induction l generalizing st with
  | nil => exact h
  | cons p l ih => exact ih (h.turn p.1 p.2 (hl p (.head _))) fun q hq => hl q (.tail _ hq)
theorem mads_right {n : Nat} {st : Nat → List Int} (h : AllOk n st) (l : List (Nat × Nat)) (hl : ∀ p ∈ l, p.2 < n) : Right (mads st l) := by
  induction l generalizing st with
  | nil => intro p hp; cases hp
  | cons p l ih =>
    intro q hq
    rcases List.mem_cons.1 hq with rfl | hq
    · exact ⟨(h p.1).1, by show p.2 < (st p.1).length; rw [(h p.1).2]; exact hl p (.head _)⟩
    · exact ih (h.turn p.1 p.2 (hl p (.head _))) (fun r hr => hl r (.tail _ hr)) q hq
theorem run_mads (st : Nat → List Int) (l : List (Nat × Nat)) (k : Nat) (hk : k < l.length) : runIv firstIv ((mads st l).take (k + 1)) = come (runIv firstIv ((mads st l).take k)) (stOf st (l.take k) (l[k]).1) (l[k]).2 := by
  rw [take_one (mads_at st l k hk), runIv_snoc]
/-- Which number a context has plays no part. -/
theorem mads_renamed (f : Nat → Nat) (st st' : Nat → List Int) (l : List (Nat × Nat)) (D : Nat → Prop) (hD : ∀ p ∈ l, D p.1) (hf : ∀ c d, D c → D d → f c = f d → c = d) (hst : ∀ c, D c → st c = st' (f c)) : mads st l = mads st' (l.map fun p => (f p.1, p.2)) := by
  induction l generalizing st st' with
  | nil => rfl
  | cons p l ih =>
    obtain ⟨c, s⟩ := p
    have hc : D c := hD (c, s) (.head _)
    rw [List.map_cons, mads, mads, hst c hc]
    congr 1
    refine ih _ _ (fun q hq => hD q (.tail _ hq)) (fun d hd => ?_)
    unfold turn
    by_cases h : d = c
    · rw [if_pos h, if_pos (by rw [h]), hst c hc]
    · rw [if_neg h, if_neg (fun e => h (hf d c hd hc e)), hst d hd]
/-- The symbol that a decoder finds on the way is that which came. -/
theorem way_sym {b : List Nat} (hb : Dig b) (l : List (List Int × Nat)) (h : Right l) (hi : Inside (runIv firstIv l) b) (i : Nat) (p : List Int × Nat) (hp : l[i]? = some p) (s : Nat) (hs : s < p.1.length) (hs2 : Inside (come (runIv firstIv (l.take i)) p.1 s) b) : s = p.2 := by
  obtain ⟨hl, rfl⟩ := List.getElem?_eq_some_iff.1 hp
  have h1 := inside_way hb l h firstIv hi i hl
  have h2 := h _ (List.getElem_mem hl)
  rcases Nat.lt_trichotomy s l[i].2 with h3 | h3 | h3
  · exact absurd h1 (come_apart hb h2.1 s _ h3 h2.2 hs2)
  · exact h3
  · exact absurd hs2 (come_apart hb h2.1 _ s h3 hs h1)
/-- Two rows of symbols (with like contexts) whose intervals have the same bytes are one. -/
theorem mads_inj {n : Nat} {st : Nat → List Int} (h : AllOk n st) (ctx a b : List Nat) (ha : a.length = ctx.length) (hb : b.length = ctx.length) (sa : ∀ s ∈ a, s < n) (sb : ∀ s ∈ b, s < n) {u : List Nat} (hu : Dig u) (x : Iv)
    (ia : Inside (runIv x (mads st (ctx.zip a))) u) (ib : Inside (runIv x (mads st (ctx.zip b))) u) : a = b := by
  induction ctx generalizing st a b x with
  | nil =>
    rw [List.eq_nil_of_length_eq_zero ha, List.eq_nil_of_length_eq_zero hb]
  | cons c ctx ih =>
    match a, b, ha, hb with
    | s :: a, t :: b, ha, hb =>
      rw [List.zip_cons_cons, mads, runIv_cons] at ia ib
      have ra := mads_right (h.turn c s (sa s (.head _))) (ctx.zip a) (fun p hp => sa p.2 (.tail _ (List.of_mem_zip hp).2))
      have rb := mads_right (h.turn c t (sb t (.head _))) (ctx.zip b) (fun p hp => sb p.2 (.tail _ (List.of_mem_zip hp).2))
      have ja := inside_run hu _ ra _ ia
      have jb := inside_run hu _ rb _ ib
      have hst : s = t := by
        rcases Nat.lt_trichotomy s t with h3 | h3 | h3
        · exact absurd jb (come_apart hu (h c).1 s t h3 (by rw [(h c).2]; exact sb t (.head _)) ja)
        · exact h3
        · exact absurd ja (come_apart hu (h c).1 t s h3 (by rw [(h c).2]; exact sa s (.head _)) jb)
      subst hst
      rw [ih (h.turn c s (sa s (.head _))) a b (by simpa using ha) (by simpa using hb) (fun q hq => sa q (.tail _ hq)) (fun q hq => sb q (.tail _ hq)) _ ia ib]
end Go.Proofs.YtjbfgajognnmiaaDoor

/- A row of one symbol alone soon costs next to nothing (layer 5): what its intervals are worth. -/
namespace Go.Proofs.YtjbfgajognnmiaaDoor

/-- The interval and the counts behind t symbols s of n. -/
def sm (n s : Nat) : Nat → Iv × List Int
  | 0 => (firstIv, List.replicate n 1)
  | t + 1 => (come (sm n s t).1 (sm n s t).2 s, bumped (sm n s t).2 s)
theorem sum_ones (n : Nat) : (List.replicate n (1 : Int)).sum = n := by
  induction n with
  | zero => rfl
  | succ n ih => rw [List.replicate_succ, List.sum_cons, ih]; omega
theorem ok_ones (n : Nat) (h0 : 0 < n) (h1 : n ≤ 256) : Ok (List.replicate n 1) :=
  ⟨by rw [List.length_replicate]; exact h0, by rw [List.length_replicate]; exact h1, fun x hx => by rw [List.eq_of_mem_replicate hx]; omega, by rw [sum_ones]; omega⟩
theorem sm_counts (n s : Nat) (h0 : 0 < n) (h1 : n ≤ 16) (hs : s < n) (t : Nat) (ht : t ≤ 2000) : Ok (sm n s t).2 ∧ (sm n s t).2.length = n ∧ (sm n s t).2.sum = (n : Int) + 32 * t ∧ (sm n s t).2.getD s 0 = 1 + 32 * (t : Int) := by
  induction t with
  | zero =>
    refine ⟨ok_ones n h0 (by omega), List.length_replicate, by show (List.replicate n (1 : Int)).sum = _; rw [sum_ones]; omega, ?_⟩
    show (List.replicate n (1 : Int)).getD s 0 = _
    rw [List.getD_eq_getElem?_getD, List.getElem?_replicate, if_pos hs]
    rfl
  | succ t ih =>
    obtain ⟨a, b, c, d⟩ := ih (by omega)
    have hsl : s < (sm n s t).2.length := by rw [b]; exact hs
    have hb : bumped (sm n s t).2 s = more (sm n s t).2 s := by
      unfold bumped
      rw [if_neg (by rw [c]; omega)]
    refine ⟨a.bumped s hsl, by show (bumped _ s).length = n; rw [length_bumped]; exact b, ?_, ?_⟩
    · show (bumped _ s).sum = _
      rw [hb, sum_more _ _ hsl, c]
      omega
    · show (bumped _ s).getD s 0 = _
      rw [hb, more_at _ _ _ hsl, if_pos rfl, d]
      omega
theorem sm_good (n s : Nat) (h0 : 0 < n) (h1 : n ≤ 16) (hs : s < n) (t : Nat) (ht : t ≤ 2000) : (sm n s t).1.Good := by
  induction t with
  | zero => exact good_first
  | succ t ih =>
    obtain ⟨a, b, _⟩ := sm_counts n s h0 h1 hs t (by omega)
    exact (ih (by omega)).come a s (by rw [b]; exact hs)
/-- The part of a symbol is worth at least its count. -/
theorem cut_ge {x : Iv} {c : List Int} (h : Ok c) (s : Nat) : cntN c s * (x.R / tot c) ≤ (part x (tot c) (lowN c s) (cntN c s) (decide (s + 1 = c.length))).R := by
  unfold part
  by_cases hl : s + 1 = c.length
  · simp only [hl, decide_true, if_true]
    have e1 := lowN_succ h s
    rw [lowN_all (s + 1) hl] at e1
    have e2 := Nat.mul_div_le x.R (tot c)
    have e3 : tot c * (x.R / tot c) = lowN c s * (x.R / tot c) + cntN c s * (x.R / tot c) := by rw [← Nat.add_mul, ← e1]
    omega
  · simp only [hl, decide_false, Bool.false_eq_true, if_false]
    exact Nat.le_refl _
/-- What an interval is worth, K digits on. -/
def worth (K : Nat) (x : Iv) : Nat := x.R * 256 ^ (K - x.k)
theorem worth_norm (K t : Nat) (x : Iv) (h : x.k + t ≤ K) : worth K (norm t x) = worth K x := by
  induction t generalizing x with
  | zero => rfl
  | succ t ih =>
    unfold norm
    split
    · rw [ih ⟨x.k + 1, x.L * 256, x.R * 256⟩ (by show x.k + 1 + t ≤ K; omega)]
      show x.R * 256 * 256 ^ (K - (x.k + 1)) = x.R * 256 ^ (K - x.k)
      rw [show K - x.k = K - (x.k + 1) + 1 by omega, Nat.pow_succ, Nat.mul_assoc, Nat.mul_comm 256]
    · rfl
theorem worth_come (K : Nat) (x : Iv) {c : List Int} (h : Ok c) (s : Nat) (hk : x.k + 3 ≤ K) : cntN c s * (x.R / tot c) * 256 ^ (K - x.k) ≤ worth K (come x c s) := by
  unfold come
  rw [worth_norm K 3 (part x (tot c) (lowN c s) (cntN c s) (decide (s + 1 = c.length))) hk]
  exact Nat.mul_le_mul_right _ (cut_ge h s)
theorem sm_k (n s t : Nat) : (sm n s t).1.k ≤ 3 * t := by
  induction t with
  | zero => exact Nat.le_refl _
  | succ t ih =>
    have := come_kk (sm n s t).1 (sm n s t).2 s
    show (come _ _ s).k ≤ _
    omega
theorem sm_worth (n s K : Nat) (h0 : 0 < n) (h1 : n ≤ 16) (hs : s < n) (t : Nat) (ht : t ≤ 1999) (hK : 3 * (t + 1) ≤ K) : 4294967296 * 256 ^ K * 2 ^ t ≤ 16 * 3 ^ t * worth K (sm n s (t + 1)).1 := by
  induction t with
  | zero =>
    have w := worth_come K firstIv (ok_ones n h0 (by omega)) s (by show 0 + 3 ≤ K; omega)
    have e1 : tot (List.replicate n 1) = n := by unfold tot; rw [sum_ones]; omega
    have e2 : cntN (List.replicate n 1) s = 1 := by unfold cntN; rw [List.getD_eq_getElem?_getD, List.getElem?_replicate, if_pos hs]; rfl
    rw [e1, e2, Nat.one_mul] at w
    show 4294967296 * 256 ^ K * 2 ^ 0 ≤ 16 * 3 ^ 0 * worth K (come firstIv (List.replicate n 1) s)
    have w2 : 4294967296 / n * 256 ^ K ≤ worth K (come firstIv (List.replicate n 1) s) := w
    have e3 : 268435456 ≤ 4294967296 / n := (Nat.le_div_iff_mul_le h0).2 (by omega)
    have e4 : 268435456 * 256 ^ K ≤ 4294967296 / n * 256 ^ K := Nat.mul_le_mul_right _ e3
    generalize 256 ^ K = P at *
    omega
  | succ t ih =>
    have hi := ih (by omega) (by omega)
    obtain ⟨a, b, c, d⟩ := sm_counts n s h0 h1 hs (t + 1) (by omega)
    have hg := sm_good n s h0 h1 hs (t + 1) (by omega)
    have hk := sm_k n s (t + 1)
    have w := worth_come K (sm n s (t + 1)).1 a s (by omega)
    have e1 : tot (sm n s (t + 1)).2 = n + 32 * (t + 1) := by unfold tot; rw [c]; omega
    have e2 : cntN (sm n s (t + 1)).2 s = 1 + 32 * (t + 1) := by unfold cntN; rw [d]; omega
    have hR := hg.lo
    show 4294967296 * 256 ^ K * 2 ^ (t + 1) ≤ 16 * 3 ^ (t + 1) * worth K (come (sm n s (t + 1)).1 (sm n s (t + 1)).2 s)
    rw [e1, e2] at w
    unfold worth at hi
    generalize worth K (come (sm n s (t + 1)).1 (sm n s (t + 1)).2 s) = W at *
    generalize (sm n s (t + 1)).1.R = R at *
    generalize 256 ^ (K - (sm n s (t + 1)).1.k) = Q at *
    have hq : 2 * R ≤ 3 * ((1 + 32 * (t + 1)) * (R / (n + 32 * (t + 1)))) := by
      have hT : 0 < n + 32 * (t + 1) := by omega
      have g1 := Nat.div_add_mod R (n + 32 * (t + 1))
      have g2 := Nat.mod_lt R hT
      have g3 : 256 ≤ R / (n + 32 * (t + 1)) := (Nat.le_div_iff_mul_le hT).2 (by omega)
      generalize R / (n + 32 * (t + 1)) = q at *
      generalize R % (n + 32 * (t + 1)) = r at *
      have g4 : 3 * ((1 + 32 * (t + 1)) * q) = 2 * ((n + 32 * (t + 1)) * q) + (3 + 32 * (t + 1) - 2 * n) * q := by
        have : 3 * (1 + 32 * (t + 1)) = 2 * (n + 32 * (t + 1)) + (3 + 32 * (t + 1) - 2 * n) := by omega
        rw [← Nat.mul_assoc, this, Nat.add_mul, Nat.mul_assoc]
      have g5 : (3 + 32 * (t + 1) - 2 * n) * 256 ≤ (3 + 32 * (t + 1) - 2 * n) * q := Nat.mul_le_mul_left _ g3
      omega
    have h5 : 2 * (R * Q) ≤ 3 * W := by
      have h6 : 2 * R * Q ≤ 3 * ((1 + 32 * (t + 1)) * (R / (n + 32 * (t + 1)))) * Q := Nat.mul_le_mul_right _ hq
      rw [Nat.mul_assoc] at h6
      rw [Nat.mul_assoc 3] at h6
      omega
    rw [Nat.pow_succ, Nat.pow_succ]
    generalize 4294967296 * 256 ^ K = P at *
    generalize 2 ^ t = A at *
    generalize 3 ^ t = B at *
    have h7 : P * A * 2 ≤ 16 * B * (R * Q) * 2 := Nat.mul_le_mul_right _ hi
    have h8 : 16 * B * (2 * (R * Q)) ≤ 16 * B * (3 * W) := Nat.mul_le_mul_left _ h5
    have h9 : 16 * B * (R * Q) * 2 = 16 * B * (2 * (R * Q)) := by rw [Nat.mul_assoc, Nat.mul_comm (R * Q) 2]
    have h10 : 16 * B * (3 * W) = 16 * (B * 3) * W := by rw [← Nat.mul_assoc, Nat.mul_assoc 16 B 3]
    have h11 : P * (A * 2) = P * A * 2 := by rw [Nat.mul_assoc]
    omega
theorem three_pow (t : Nat) : 3 ^ t ≤ 2 ^ (8 * (t / 5 + 1)) := by
  have h1 : ∀ m, 3 ^ (5 * m) ≤ 2 ^ (8 * m) := by
    intro m
    rw [Nat.pow_mul, Nat.pow_mul]
    exact Nat.pow_le_pow_left (by decide) m
  have h2 : 3 ^ t ≤ 3 ^ (5 * (t / 5 + 1)) := Nat.pow_le_pow_right (by decide) (by omega)
  exact Nat.le_trans h2 (h1 _)
/-- So few digits are given out. -/
theorem sm_few (n s : Nat) (h0 : 0 < n) (h1 : n ≤ 16) (hs : s < n) (t : Nat) (ht : t ≤ 1999) : 8 * (sm n s (t + 1)).1.k + t ≤ 12 + 8 * (t / 5) := by
  have hw := sm_worth n s (3 * (t + 1)) h0 h1 hs t ht (Nat.le_refl _)
  have hg := sm_good n s h0 h1 hs (t + 1) (by omega)
  have hk := sm_k n s (t + 1)
  have hH := hg.hi
  unfold worth at hw
  generalize hkk : (sm n s (t + 1)).1.k = k at *
  generalize (sm n s (t + 1)).1.R = R at *
  have e1 : 256 ^ (3 * (t + 1)) = 256 ^ k * 256 ^ (3 * (t + 1) - k) := by rw [← Nat.pow_add]; congr 1; omega
  rw [e1] at hw
  have hp := pow_pos' (3 * (t + 1) - k)
  have h3 : 4294967296 * (256 ^ k * 2 ^ t) * 256 ^ (3 * (t + 1) - k) ≤ 4294967296 * (16 * 3 ^ t) * 256 ^ (3 * (t + 1) - k) := by
    generalize 256 ^ (3 * (t + 1) - k) = Q at *
    generalize 256 ^ k = P at *
    generalize 2 ^ t = A at *
    generalize 3 ^ t = B at *
    have g1 : R * Q ≤ 4294967296 * Q := Nat.mul_le_mul_right _ hH
    have g2 : 16 * B * (R * Q) ≤ 16 * B * (4294967296 * Q) := Nat.mul_le_mul_left _ g1
    have g3 : 4294967296 * (P * Q) * A = 4294967296 * (P * A) * Q := by rw [Nat.mul_assoc, Nat.mul_assoc P, Nat.mul_comm Q A, ← Nat.mul_assoc P, ← Nat.mul_assoc]
    have g4 : 16 * B * (4294967296 * Q) = 4294967296 * (16 * B) * Q := by rw [← Nat.mul_assoc, Nat.mul_comm (16 * B)]
    omega
  have h4 := Nat.le_of_mul_le_mul_right h3 hp
  have h5 := Nat.le_of_mul_le_mul_left h4 (by decide : 0 < 4294967296)
  have h6 : 256 ^ k * 2 ^ t ≤ 16 * 2 ^ (8 * (t / 5 + 1)) := Nat.le_trans h5 (Nat.mul_le_mul_left _ (three_pow t))
  have e2 : 256 ^ k * 2 ^ t = 2 ^ (8 * k + t) := by rw [Nat.pow_add, Nat.pow_mul]
  have e3 : 16 * 2 ^ (8 * (t / 5 + 1)) = 2 ^ (4 + 8 * (t / 5 + 1)) := by rw [Nat.pow_add]
  rw [e2, e3] at h6
  have h7 := (Nat.pow_le_pow_iff_right (by decide : 1 < 2)).1 h6
  omega
/-- The code of a row of one symbol. -/
theorem sm_bytes (n s : Nat) (h0 : 0 < n) (h1 : n ≤ 16) (hs : s < n) (t : Nat) (ht0 : 800 ≤ t) (ht : t ≤ 2000) {b : List Nat} (hb : IsCode (sm n s t).1 b) : 8 * (b.length + 1) < t := by
  obtain ⟨m, rfl⟩ : ∃ m, t = m + 1 := ⟨t - 1, by omega⟩
  have h2 := isCode_len (sm_good n s h0 h1 hs (m + 1) ht) hb
  have h3 := sm_few n s h0 h1 hs m (by omega)
  omega
/-- The same as the words for tables of each context have it. -/
theorem sm_mads (n s N : Nat) (k : Nat) (hk : k ≤ N) : runIv firstIv ((mads (fun _ => List.replicate n 1) (List.replicate N (0, s))).take k) = (sm n s k).1 ∧ stOf (fun _ => List.replicate n 1) ((List.replicate N (0, s)).take k) 0 = (sm n s k).2 := by
  induction k with
  | zero => exact ⟨rfl, rfl⟩
  | succ k ih =>
    obtain ⟨h1, h2⟩ := ih (by omega)
    have hl : k < (List.replicate N ((0, s) : Nat × Nat)).length := by rw [List.length_replicate]; omega
    have hg : (List.replicate N ((0, s) : Nat × Nat))[k] = (0, s) := List.getElem_replicate _
    refine ⟨?_, ?_⟩
    · rw [run_mads _ _ k hl, hg, h1, h2]; rfl
    · rw [stOf_succ _ _ k hl, hg]
      show turn _ 0 s 0 = _
      unfold turn
      rw [if_pos rfl, h2]; rfl
end Go.Proofs.YtjbfgajognnmiaaDoor
