/- Lists of counts: low ends, totals, what a bump makes of them, and the symbol of a number. -/
import Derived.Test.YtbkjfblmdilchaaDoorArgInts
namespace Go.Proofs.YtbkjfblmdilchaaDoor

/-- The sum of the counts ahead of k. -/
def low (c : List Int) (k : Nat) : Int := (c.take k).sum
/-- The sums that a table keeps. -/
def ends (c : List Int) : List Int := (List.range c.length).map fun k => low c (k + 1)
theorem length_ends (c : List Int) : (ends c).length = c.length := by simp [ends]
theorem ends_at (c : List Int) (k : Nat) (h : k < c.length) : (ends c)[k]? = some (low c (k + 1)) := by simp [ends, h]
theorem low_zero (c : List Int) : low c 0 = 0 := by simp [low]
theorem low_succ (c : List Int) (k : Nat) : low c (k + 1) = low c k + c.getD k 0 := by
  by_cases h : k < c.length
  · rw [low, low, List.take_succ_eq_append_getElem h, List.sum_append]
    simp [List.getElem?_eq_getElem h]
  · rw [low, low, List.take_of_length_le (by omega), List.take_of_length_le (by omega)]
    simp [List.getElem?_eq_none (by omega : c.length ≤ k)]
theorem low_all (c : List Int) (k : Nat) (h : c.length ≤ k) : low c k = c.sum := by rw [low, List.take_of_length_le h]

/-- What a table promises of its counts. -/
structure Ok (c : List Int) : Prop where
  pos : 0 < c.length
  few : c.length ≤ 256
  one : ∀ x ∈ c, 1 ≤ x
  total : c.sum ≤ 65536

theorem one_at {c : List Int} (h : ∀ x ∈ c, 1 ≤ x) (k : Nat) (hk : k < c.length) : 1 ≤ c.getD k 0 := by
  have := h c[k] (List.getElem_mem hk)
  simpa [List.getElem?_eq_getElem hk] using this
theorem zero_at {c : List Int} (h : ∀ x ∈ c, 0 ≤ x) (k : Nat) : 0 ≤ c.getD k 0 := by
  by_cases hk : k < c.length
  · have := h c[k] (List.getElem_mem hk)
    simpa [List.getElem?_eq_getElem hk] using this
  · simp [List.getElem?_eq_none (by omega : c.length ≤ k)]
theorem low_mono {c : List Int} (h : ∀ x ∈ c, 0 ≤ x) (k d : Nat) : low c k ≤ low c (k + d) := by
  induction d with
  | zero => exact Int.le_refl _
  | succ d ih =>
    have := low_succ c (k + d)
    have := zero_at h (k + d)
    rw [← Nat.add_assoc]
    omega
theorem low_le {c : List Int} (h : ∀ x ∈ c, 0 ≤ x) (i j : Nat) (hij : i ≤ j) : low c i ≤ low c j := by
  have := low_mono h i (j - i)
  rwa [show i + (j - i) = j by omega] at this
theorem low_nonneg {c : List Int} (h : ∀ x ∈ c, 0 ≤ x) (k : Nat) : 0 ≤ low c k := by
  have := low_le h 0 k (Nat.zero_le _)
  rwa [low_zero] at this
theorem low_sum {c : List Int} (h : ∀ x ∈ c, 0 ≤ x) (k : Nat) : low c k ≤ c.sum := by
  by_cases hk : k ≤ c.length
  · have := low_le h k c.length hk
    rwa [low_all c c.length (Nat.le_refl _)] at this
  · rw [low_all c k (by omega)]; exact Int.le_refl _
theorem low_ge {c : List Int} (h : ∀ x ∈ c, 1 ≤ x) (k : Nat) (hk : k ≤ c.length) : (k : Int) ≤ low c k := by
  induction k with
  | zero => rw [low_zero]; simp
  | succ k ih =>
    have := ih (by omega)
    have := low_succ c k
    have := one_at h k (by omega)
    omega
theorem Ok.zero {c : List Int} (h : Ok c) : ∀ x ∈ c, 0 ≤ x := fun x hx => by have := h.one x hx; omega
theorem Ok.len_sum {c : List Int} (h : Ok c) : (c.length : Int) ≤ c.sum := by
  have := low_ge h.one c.length (Nat.le_refl _)
  rwa [low_all c c.length (Nat.le_refl _)] at this
theorem Ok.low_le' {c : List Int} (h : Ok c) (k : Nat) : 0 ≤ low c k ∧ low c k ≤ 65536 := by
  have h1 := low_nonneg h.zero k
  have h2 := low_sum h.zero k
  have h3 := h.total
  omega

/-- One count is 32 more. -/
def more (c : List Int) (s : Nat) : List Int := c.set s (c.getD s 0 + 32)
/-- Each count is halved, rounded up. -/
def half (c : List Int) : List Int := c.map fun x => (x + 1) / 2
/-- What a bump makes of the counts. -/
def bumped (c : List Int) (s : Nat) : List Int := if 65536 < c.sum + 32 then half (more c s) else more c s

theorem length_more (c : List Int) (s : Nat) : (more c s).length = c.length := by simp [more]
theorem length_half (c : List Int) : (half c).length = c.length := by simp [half]
theorem length_bumped (c : List Int) (s : Nat) : (bumped c s).length = c.length := by
  unfold bumped; split
  · rw [length_half, length_more]
  · rw [length_more]
theorem more_at (c : List Int) (s k : Nat) (hs : s < c.length) : (more c s).getD k 0 = if k = s then c.getD k 0 + 32 else c.getD k 0 := by
  by_cases h : k = s
  · subst h
    simp [more, hs]
  · simp only [more, List.getD_eq_getElem?_getD, List.getElem?_set_ne (Ne.symm h), if_neg h]
theorem low_more (c : List Int) (s k : Nat) (hs : s < c.length) : low (more c s) k = if s < k then low c k + 32 else low c k := by
  induction k with
  | zero => simp [low_zero]
  | succ k ih =>
    rw [low_succ, ih, more_at c s k hs, low_succ]
    by_cases h1 : s < k
    · rw [if_pos h1, if_neg (by omega), if_pos (by omega)]; omega
    · by_cases h2 : k = s
      · rw [if_neg h1, if_pos h2, if_pos (by omega)]; omega
      · rw [if_neg h1, if_neg h2, if_neg (by omega)]
theorem sum_more (c : List Int) (s : Nat) (hs : s < c.length) : (more c s).sum = c.sum + 32 := by
  have := low_more c s c.length hs
  rw [if_pos hs, low_all c _ (Nat.le_refl _), low_all (more c s) _ (by rw [length_more]; exact Nat.le_refl _)] at this
  exact this
theorem half_at (c : List Int) (k : Nat) (hk : k < c.length) : (half c).getD k 0 = (c.getD k 0 + 1) / 2 := by
  simp [half, List.getElem?_eq_getElem hk]
theorem half_le (c : List Int) (k : Nat) (hk : k ≤ c.length) : 2 * low (half c) k ≤ low c k + k ∧ low c k ≤ 2 * low (half c) k := by
  induction k with
  | zero => simp [low_zero]
  | succ k ih =>
    have := ih (by omega)
    rw [low_succ, low_succ, half_at c k (by omega)]
    omega
theorem sum_half (c : List Int) : 2 * (half c).sum ≤ c.sum + c.length ∧ c.sum ≤ 2 * (half c).sum := by
  have := half_le c c.length (Nat.le_refl _)
  rwa [low_all c _ (Nat.le_refl _), low_all (half c) _ (by rw [length_half]; exact Nat.le_refl _)] at this
theorem one_of {c : List Int} (h : ∀ k, k < c.length → 1 ≤ c.getD k 0) : ∀ x ∈ c, 1 ≤ x := by
  intro x hx
  obtain ⟨k, hk, rfl⟩ := List.mem_iff_getElem.1 hx
  have := h k hk
  simpa [List.getElem?_eq_getElem hk] using this
theorem one_more {c : List Int} (h : ∀ x ∈ c, 1 ≤ x) (s : Nat) (hs : s < c.length) : ∀ x ∈ more c s, 1 ≤ x := one_of fun k hk => by
  rw [length_more] at hk
  have := one_at h k hk
  rw [more_at c s k hs]; split <;> omega
theorem one_half {c : List Int} (h : ∀ x ∈ c, 1 ≤ x) : ∀ x ∈ half c, 1 ≤ x := one_of fun k hk => by
  rw [length_half] at hk
  have := one_at h k hk
  rw [half_at c k hk]; omega
theorem Ok.bumped {c : List Int} (h : Ok c) (s : Nat) (hs : s < c.length) : Ok (bumped c s) := by
  refine ⟨by rw [length_bumped]; exact h.pos, by rw [length_bumped]; exact h.few, ?_, ?_⟩
  · unfold YtbkjfblmdilchaaDoor.bumped; split
    · exact one_half (one_more h.one s hs)
    · exact one_more h.one s hs
  · unfold YtbkjfblmdilchaaDoor.bumped
    have h1 := sum_more c s hs
    have h2 := (sum_half (more c s)).1
    have h3 := h.total
    have h4 := h.few
    rw [length_more] at h2
    split <;> omega
/-- A list of which the first k are a's and the others b's. -/
def mix (a b : List Int) (k : Nat) : List Int := a.take k ++ b.drop k
theorem length_mix (a b : List Int) (k : Nat) (h : a.length = b.length) : (mix a b k).length = a.length := by
  simp [mix]; omega
theorem mix_zero (a b : List Int) : mix a b 0 = b := by simp [mix]
theorem mix_all (a b : List Int) (k : Nat) (h : a.length = b.length) (hk : a.length ≤ k) : mix a b k = a := by
  simp [mix, List.take_of_length_le hk, List.drop_eq_nil_of_le (by omega : b.length ≤ k)]
theorem mix_succ (a b : List Int) (k : Nat) (x : Int) (h : a.length = b.length) (hx : a[k]? = some x) : (mix a b k).set k x = mix a b (k + 1) := by
  have hk : k < a.length := (List.getElem?_eq_some_iff.1 hx).1
  have hxe : a[k] = x := by rw [List.getElem?_eq_getElem hk] at hx; injection hx
  unfold mix
  rw [List.set_append_right _ _ (by simp; omega), List.take_succ_eq_append_getElem hk, hxe, List.drop_eq_getElem_cons (by omega : k < b.length)]
  have : k - (a.take k).length = 0 := by simp; omega
  rw [this, List.set_cons_zero, List.append_assoc]
  rfl
theorem mix_at (a b : List Int) (k : Nat) (x : Int) (h : a.length = b.length) (hx : b[k]? = some x) : (mix a b k)[k]? = some x := by
  have hk : k < b.length := (List.getElem?_eq_some_iff.1 hx).1
  unfold mix
  rw [List.getElem?_append_right (by simp; omega), List.getElem?_drop]
  rw [← hx]
  congr 1
  simp; omega
theorem mix_start (a b : List Int) (s : Nat) (h : ∀ k, k < s → a[k]? = b[k]?) : mix a b s = b := by
  unfold mix
  have : a.take s = b.take s := by
    apply List.ext_getElem?
    intro i
    by_cases hi : i < s
    · simp [hi, h i hi]
    · rw [List.getElem?_take_eq_none (by omega), List.getElem?_take_eq_none (by omega)]
  rw [this, List.take_append_drop]
/-- Each number below the total has a symbol. -/
theorem sym_exists (c : List Int) (x : Int) (h0 : 0 ≤ x) (n : Nat) (h : x < low c n) : ∃ k, k < n ∧ low c k ≤ x ∧ x < low c (k + 1) := by
  induction n with
  | zero => rw [low_zero] at h; omega
  | succ n ih =>
    by_cases hx : x < low c n
    · obtain ⟨k, hk, h1, h2⟩ := ih hx
      exact ⟨k, by omega, h1, h2⟩
    · exact ⟨n, by omega, by omega, h⟩
theorem sym_one {c : List Int} (h : ∀ x ∈ c, 0 ≤ x) (x : Int) (i j : Nat) (h1 : low c i ≤ x) (h2 : x < low c (i + 1)) (h3 : low c j ≤ x) (h4 : x < low c (j + 1)) : i = j := by
  rcases Nat.lt_trichotomy i j with hij | hij | hij
  · have := low_le h (i + 1) j (by omega); omega
  · exact hij
  · have := low_le h (j + 1) i (by omega); omega
end Go.Proofs.YtbkjfblmdilchaaDoor
