/- Texts laid one behind the other: TabList, TabIs, TabLow, TabNew, TabFind, TabBump, TabClone. -/
import Derived.Test.YtjbfgajognnmiaaDoorArgInts
import Derived.BigQuiet
import Derived.Deep.QuietTactic
import Derived.Lib.MinMax

/- Lists of counts: low ends, totals, what a bump makes of them, and the symbol of a number. -/
namespace Go.Proofs.YtjbfgajognnmiaaDoor

/-- The sum of the counts ahead of k. -/
def low (c : List Int) (k : Nat) : Int := (c.take k).sum
/-- The sums that a table keeps. -/
def ends (c : List Int) : List Int := (List.range c.length).map fun k => low c (k + 1)
theorem length_ends (c : List Int) : (ends c).length = c.length := by simp [ends]
theorem ends_at (c : List Int) (k : Nat) (h : k < c.length) : (ends c)[k]? = some (low c (k + 1)) := by simp [ends, h]
theorem low_zero (c : List Int) : low c 0 = 0 := by simp [low]
theorem low_succ (c : List Int) (k : Nat) : low c (k + 1) = low c k + c.getD k 0 := by
  by_cases h : k < c.length
  · rw [low, low, List.take_succ_eq_append_getElem h, List.sum_append]
    simp [List.getElem?_eq_getElem h]
  · rw [low, low, List.take_of_length_le (by omega), List.take_of_length_le (by omega)]
    simp [List.getElem?_eq_none (by omega : c.length ≤ k)]
theorem low_all (c : List Int) (k : Nat) (h : c.length ≤ k) : low c k = c.sum := by rw [low, List.take_of_length_le h]

/-- What a table promises of its counts. -/
structure Ok (c : List Int) : Prop where
  pos : 0 < c.length
  few : c.length ≤ 256
  one : ∀ x ∈ c, 1 ≤ x
  total : c.sum ≤ 65536

theorem one_at {c : List Int} (h : ∀ x ∈ c, 1 ≤ x) (k : Nat) (hk : k < c.length) : 1 ≤ c.getD k 0 := by
  have := h c[k] (List.getElem_mem hk)
  simpa [List.getElem?_eq_getElem hk] using this
theorem zero_at {c : List Int} (h : ∀ x ∈ c, 0 ≤ x) (k : Nat) : 0 ≤ c.getD k 0 := by
  by_cases hk : k < c.length
  · have := h c[k] (List.getElem_mem hk)
    simpa [List.getElem?_eq_getElem hk] using this
  · simp [List.getElem?_eq_none (by omega : c.length ≤ k)]
theorem low_mono {c : List Int} (h : ∀ x ∈ c, 0 ≤ x) (k d : Nat) : low c k ≤ low c (k + d) := by
  induction d with
  | zero => exact Int.le_refl _
  | succ d ih =>
    have := low_succ c (k + d)
    have := zero_at h (k + d)
    rw [← Nat.add_assoc]
    omega
theorem low_le {c : List Int} (h : ∀ x ∈ c, 0 ≤ x) (i j : Nat) (hij : i ≤ j) : low c i ≤ low c j := by
  have := low_mono h i (j - i)
  rwa [show i + (j - i) = j by omega] at this
theorem low_nonneg {c : List Int} (h : ∀ x ∈ c, 0 ≤ x) (k : Nat) : 0 ≤ low c k := by
  have := low_le h 0 k (Nat.zero_le _)
  rwa [low_zero] at this
theorem low_sum {c : List Int} (h : ∀ x ∈ c, 0 ≤ x) (k : Nat) : low c k ≤ c.sum := by
  by_cases hk : k ≤ c.length
  · have := low_le h k c.length hk
    rwa [low_all c c.length (Nat.le_refl _)] at this
  · rw [low_all c k (by omega)]; exact Int.le_refl _
theorem low_ge {c : List Int} (h : ∀ x ∈ c, 1 ≤ x) (k : Nat) (hk : k ≤ c.length) : (k : Int) ≤ low c k := by
  induction k with
  | zero => rw [low_zero]; simp
  | succ k ih =>
    have := ih (by omega)
    have := low_succ c k
    have := one_at h k (by omega)
    omega
theorem Ok.zero {c : List Int} (h : Ok c) : ∀ x ∈ c, 0 ≤ x := fun x hx => by have := h.one x hx; omega
theorem Ok.len_sum {c : List Int} (h : Ok c) : (c.length : Int) ≤ c.sum := by
  have := low_ge h.one c.length (Nat.le_refl _)
  rwa [low_all c c.length (Nat.le_refl _)] at this
theorem Ok.low_le' {c : List Int} (h : Ok c) (k : Nat) : 0 ≤ low c k ∧ low c k ≤ 65536 := by
  have h1 := low_nonneg h.zero k
  have h2 := low_sum h.zero k
  have h3 := h.total
  omega

/-- One count is 32 more. -/
def more (c : List Int) (s : Nat) : List Int := c.set s (c.getD s 0 + 32)
/-- Each count is halved, rounded up. -/
def half (c : List Int) : List Int := c.map fun x => (x + 1) / 2
/-- What a bump makes of the counts. -/
def bumped (c : List Int) (s : Nat) : List Int := if 65536 < c.sum + 32 then half (more c s) else more c s

theorem length_more (c : List Int) (s : Nat) : (more c s).length = c.length := by simp [more]
theorem length_half (c : List Int) : (half c).length = c.length := by simp [half]
theorem length_bumped (c : List Int) (s : Nat) : (bumped c s).length = c.length := by
  unfold bumped; split
  · rw [length_half, length_more]
  · rw [length_more]
theorem more_at (c : List Int) (s k : Nat) (hs : s < c.length) : (more c s).getD k 0 = if k = s then c.getD k 0 + 32 else c.getD k 0 := by
  by_cases h : k = s
  · subst h
    simp [more, hs]
  · simp only [more, List.getD_eq_getElem?_getD, List.getElem?_set_ne (Ne.symm h), if_neg h]
theorem low_more (c : List Int) (s k : Nat) (hs : s < c.length) : low (more c s) k = if s < k then low c k + 32 else low c k := by
  induction k with
  | zero => simp [low_zero]
  | succ k ih =>
    rw [low_succ, ih, more_at c s k hs, low_succ]
    by_cases h1 : s < k
    · rw [if_pos h1, if_neg (by omega), if_pos (by omega)]; omega
    · by_cases h2 : k = s
      · rw [if_neg h1, if_pos h2, if_pos (by omega)]; omega
      · rw [if_neg h1, if_neg h2, if_neg (by omega)]
theorem sum_more (c : List Int) (s : Nat) (hs : s < c.length) : (more c s).sum = c.sum + 32 := by
  have := low_more c s c.length hs
  rw [if_pos hs, low_all c _ (Nat.le_refl _), low_all (more c s) _ (by rw [length_more]; exact Nat.le_refl _)] at this
  exact this
theorem half_at (c : List Int) (k : Nat) (hk : k < c.length) : (half c).getD k 0 = (c.getD k 0 + 1) / 2 := by
  simp [half, List.getElem?_eq_getElem hk]
theorem half_le (c : List Int) (k : Nat) (hk : k ≤ c.length) : 2 * low (half c) k ≤ low c k + k ∧ low c k ≤ 2 * low (half c) k := by
  induction k with
  | zero => simp [low_zero]
  | succ k ih =>
    have := ih (by omega)
    rw [low_succ, low_succ, half_at c k (by omega)]
    omega
theorem sum_half (c : List Int) : 2 * (half c).sum ≤ c.sum + c.length ∧ c.sum ≤ 2 * (half c).sum := by
  have := half_le c c.length (Nat.le_refl _)
  rwa [low_all c _ (Nat.le_refl _), low_all (half c) _ (by rw [length_half]; exact Nat.le_refl _)] at this
theorem one_of {c : List Int} (h : ∀ k, k < c.length → 1 ≤ c.getD k 0) : ∀ x ∈ c, 1 ≤ x := by
  intro x hx
  obtain ⟨k, hk, rfl⟩ := List.mem_iff_getElem.1 hx
  have := h k hk
  simpa [List.getElem?_eq_getElem hk] using this
theorem one_more {c : List Int} (h : ∀ x ∈ c, 1 ≤ x) (s : Nat) (hs : s < c.length) : ∀ x ∈ more c s, 1 ≤ x := one_of fun k hk => by
  rw [length_more] at hk
  have := one_at h k hk
  rw [more_at c s k hs]; split <;> omega
theorem one_half {c : List Int} (h : ∀ x ∈ c, 1 ≤ x) : ∀ x ∈ half c, 1 ≤ x := one_of fun k hk => by
  rw [length_half] at hk
  have := one_at h k hk
  rw [half_at c k hk]; omega
theorem Ok.bumped {c : List Int} (h : Ok c) (s : Nat) (hs : s < c.length) : Ok (bumped c s) := by
  refine ⟨by rw [length_bumped]; exact h.pos, by rw [length_bumped]; exact h.few, ?_, ?_⟩
  · unfold YtjbfgajognnmiaaDoor.bumped; split
    · exact one_half (one_more h.one s hs)
    · exact one_more h.one s hs
  · unfold YtjbfgajognnmiaaDoor.bumped
    have h1 := sum_more c s hs
    have h2 := (sum_half (more c s)).1
    have h3 := h.total
    have h4 := h.few
    rw [length_more] at h2
    split <;> omega
/-- A list of which the first k are a's and the others b's. -/
def mix (a b : List Int) (k : Nat) : List Int := a.take k ++ b.drop k
theorem length_mix (a b : List Int) (k : Nat) (h : a.length = b.length) : (mix a b k).length = a.length := by
  simp [mix]; omega
theorem mix_zero (a b : List Int) : mix a b 0 = b := by simp [mix]
theorem mix_all (a b : List Int) (k : Nat) (h : a.length = b.length) (hk : a.length ≤ k) : mix a b k = a := by
  simp [mix, List.take_of_length_le hk, List.drop_eq_nil_of_le (by omega : b.length ≤ k)]
theorem mix_succ (a b : List Int) (k : Nat) (x : Int) (h : a.length = b.length) (hx : a[k]? = some x) : (mix a b k).set k x = mix a b (k + 1) := by
  have hk : k < a.length := (List.getElem?_eq_some_iff.1 hx).1
  have hxe : a[k] = x := by rw [List.getElem?_eq_getElem hk] at hx; injection hx
  unfold mix
  rw [List.set_append_right _ _ (by simp; omega), List.take_succ_eq_append_getElem hk, hxe, List.drop_eq_getElem_cons (by omega : k < b.length)]
  have : k - (a.take k).length = 0 := by simp; omega
  rw [this, List.set_cons_zero, List.append_assoc]
  rfl
theorem mix_at (a b : List Int) (k : Nat) (x : Int) (h : a.length = b.length) (hx : b[k]? = some x) : (mix a b k)[k]? = some x := by
  have hk : k < b.length := (List.getElem?_eq_some_iff.1 hx).1
  unfold mix
  rw [List.getElem?_append_right (by simp; omega), List.getElem?_drop]
  rw [← hx]
  congr 1
  simp; omega
theorem mix_start (a b : List Int) (s : Nat) (h : ∀ k, k < s → a[k]? = b[k]?) : mix a b s = b := by
  unfold mix
  have : a.take s = b.take s := by
    apply List.ext_getElem?
    intro i
    by_cases hi : i < s
    · simp [hi, h i hi]
    · rw [List.getElem?_take_eq_none (by omega), List.getElem?_take_eq_none (by omega)]
  rw [this, List.take_append_drop]
/-- Each number below the total has a symbol. -/
theorem sym_exists (c : List Int) (x : Int) (h0 : 0 ≤ x) (n : Nat) (h : x < low c n) : ∃ k, k < n ∧ low c k ≤ x ∧ x < low c (k + 1) := by
  induction n with
  | zero => rw [low_zero] at h; omega
  | succ n ih =>
    by_cases hx : x < low c n
    · obtain ⟨k, hk, h1, h2⟩ := ih hx
      exact ⟨k, by omega, h1, h2⟩
    · exact ⟨n, by omega, by omega, h⟩
theorem sym_one {c : List Int} (h : ∀ x ∈ c, 0 ≤ x) (x : Int) (i j : Nat) (h1 : low c i ≤ x) (h2 : x < low c (i + 1)) (h3 : low c j ≤ x) (h4 : x < low c (j + 1)) : i = j := by
  rcases Nat.lt_trichotomy i j with hij | hij | hij
  · have := low_le h (i + 1) j (by omega); omega
  · exact hij
  · have := low_le h (j + 1) i (by omega); omega
end Go.Proofs.YtjbfgajognnmiaaDoor

/- What a table holds in memory; Symbols, has, Total, Low and Count of a table and of none. -/
namespace Go.Proofs.YtjbfgajognnmiaaDoor
open Go.RowKit

/-- A table's struct lies in block g; its sums lie in block q, and are those of the counts c. -/
structure TIs (w : World) (g q cap : Nat) (c : List Int) : Prop where
  blk : w.heap[g]? = some (.cells #[.slice (some ⟨q, 0, none⟩) c.length cap] 69 (0, 0))
  row : ∃ rest : List Value, w.heap[q]? = some (.cells (ints (ends c) ++ rest).toArray 3 (0, 0))

section
variable {w w' : World} {g q cap : Nat} {c : List Int}
theorem TIs.lt (h : TIs w g q cap c) : g < w.heap.size := heap_lt h.blk
theorem TIs.lt' (h : TIs w g q cap c) : q < w.heap.size := by obtain ⟨r, hr⟩ := h.row; exact heap_lt hr
theorem TIs.ne (h : TIs w g q cap c) : g ≠ q := by
  intro e
  subst e
  obtain ⟨r, hr⟩ := h.row
  have := h.blk
  rw [hr] at this
  injection this with this
  injection this with _ ht
  exact absurd ht (by decide)
theorem TIs.keep (h : TIs w g q cap c) (h1 : w'.heap[g]? = w.heap[g]?) (h2 : w'.heap[q]? = w.heap[q]?) : TIs w' g q cap c :=
  ⟨h1.trans h.blk, by obtain ⟨r, hr⟩ := h.row; exact ⟨r, h2.trans hr⟩⟩
theorem TIs.below (h : TIs w g q cap c) (hb : Below w.heap.size w w') : TIs w' g q cap c := h.keep (hb.block g h.lt) (hb.block q h.lt')
theorem TIs.read (h : TIs w g q cap c) (hb : Reading w w') : TIs w' g q cap c := h.below hb.below
theorem TIs.head (h : TIs w g q cap c) : w.cell? ⟨g, 0, none⟩ = some (.slice (some ⟨q, 0, none⟩) c.length cap) := by rw [cell_in h.blk]; rfl
theorem TIs.at (h : TIs w g q cap c) (k : Nat) (hk : k < c.length) : w.cell? ⟨q, k, none⟩ = some (.int .i64 (low c (k + 1))) := by
  obtain ⟨r, hr⟩ := h.row
  rw [cell_in hr]
  have h1 : k < (ints (ends c)).length := by rw [length_ints, length_ends]; exact hk
  have h2 := ends_at c k hk
  rw [List.getElem?_toArray, List.getElem?_append_left h1]
  simp [ints, h2]
end

theorem symbols_any (w : World) (g q cap : Nat) (c : List Int) (h : TIs w g q cap c) :
    Calls Tryd.prog 39 #[.pointer (some ⟨g, 0, none⟩)] w fun e w' => e = .returned (.int .i64 (c.length : Int)) ∧ Reading w w' := by
  have c0 := h.head
  clear h
  generalize c.length = n at *
  go_enter Tryd.func39, Tryd.ntmps39
  go_wp2
  go_ret
  exact ⟨rfl, 0, rfl⟩
theorem symbols_nil (w : World) : Calls Tryd.prog 39 #[.pointer none] w fun e w' => e = .returned (.int .i64 0) ∧ Reading w w' := by
  go_enter Tryd.func39, Tryd.ntmps39
  go_wp2
  go_ret
  exact ⟨rfl, 0, rfl⟩

theorem has_any (w : World) (g q cap : Nat) (c : List Int) (x : Int) (h : TIs w g q cap c) :
    Calls Tryd.prog 44 #[.pointer (some ⟨g, 0, none⟩), .int .i64 x] w fun e w' => e = .returned (.bool (decide (0 ≤ x ∧ x < c.length))) ∧ Reading w w' := by
  have K := Lib.hid (symbols_any w g q cap c h)
  clear h
  generalize c.length = n at *
  by_cases h0 : 0 ≤ x
  · have e0 : decide (0 ≤ x ∧ x < n) = decide (x < n) := by simp [h0]
    rw [e0]
    clear e0
    go_enter Tryd.func44, Tryd.ntmps44
    go_wp2_with fail
    refine K.out.mono ?_
    rintro e w1 ⟨rfl, b1⟩
    have B1 := Lib.hid b1
    clear b1
    go_wp2
    go_ret
    exact ⟨rfl, B1.out⟩
  · have e0 : decide (0 ≤ x ∧ x < n) = false := by simp [h0]
    rw [e0]
    clear e0
    go_enter Tryd.func44, Tryd.ntmps44
    go_wp2
    go_ret
    exact ⟨rfl, 0, rfl⟩
theorem has_nil (w : World) : Calls Tryd.prog 44 #[.pointer none, .int .i64 0] w fun e w' => e = .returned (.bool false) ∧ Reading w w' := by
  have K := Lib.hid (symbols_nil w)
  go_enter Tryd.func44, Tryd.ntmps44
  go_wp2_with fail
  refine K.out.mono ?_
  rintro e w1 ⟨rfl, b1⟩
  have B1 := Lib.hid b1
  clear b1
  go_wp2
  go_ret
  exact ⟨rfl, B1.out⟩

theorem total_any (w : World) (g q cap : Nat) (c : List Int) (h : TIs w g q cap c) (h0 : 0 < c.length) (hm : c.length ≤ 256) :
    Calls Tryd.prog 45 #[.pointer (some ⟨g, 0, none⟩)] w fun e w' => e = .returned (.int .i64 c.sum) ∧ Reading w w' := by
  obtain ⟨m, hc⟩ : ∃ m, c.length = m + 1 := ⟨c.length - 1, by omega⟩
  have K := symbols_any w g q cap c h
  have cx := fun w' (b : Reading w w') => (h.read b).at m (by omega)
  have c0 := fun w' (b : Reading w w') => (h.read b).head
  rw [low_all c (m + 1) (by omega)] at cx
  have HX := Lib.hid cx
  have H0 := Lib.hid c0
  have KH := Lib.hid K
  clear h cx c0 K
  rw [hc] at KH H0
  have hm2 : m < 256 := by omega
  clear hm h0 hc
  generalize c.sum = s at *
  go_enter Tryd.func45, Tryd.ntmps45
  go_wp2_with fail
  refine KH.out.mono ?_
  rintro e w1 ⟨rfl, b1⟩
  have k0 := H0.out w1 b1
  have kx := HX.out w1 b1
  have B1 := Lib.hid b1
  clear b1
  have e1 : IntKind.i64.wrap (m : Int) = (m : Int) := IntWalk.i64_in _ (by omega)
  have e3 : (m : Int) < (m : Int) + 1 := by omega
  have e4 : (((m + 1 : Nat) : Int) == 0) = false := by simp; omega
  have e5 : (((m : Int) + 1) == 0) = false := by simp; omega
  go_wp2
  go_quiet (fail)
  go_wp2
  go_ret
  exact ⟨rfl, B1.out.trans ⟨_, rfl⟩⟩
theorem total_nil (w : World) : Calls Tryd.prog 45 #[.pointer none] w fun e w' => e = .returned (.int .i64 0) ∧ Reading w w' := by
  have K := Lib.hid (symbols_nil w)
  go_enter Tryd.func45, Tryd.ntmps45
  go_wp2_with fail
  refine K.out.mono ?_
  rintro e w1 ⟨rfl, b1⟩
  have B1 := Lib.hid b1
  clear b1
  go_wp2
  go_ret
  exact ⟨rfl, B1.out⟩
end Go.Proofs.YtjbfgajognnmiaaDoor

/- Low and Count of a table and of none. -/
namespace Go.Proofs.YtjbfgajognnmiaaDoor
open Go.RowKit

def lowOf (c : List Int) (x : Int) : Int := if 0 ≤ x ∧ x < c.length then low c x.toNat else 0
def cntOf (c : List Int) (x : Int) : Int := if 0 ≤ x ∧ x < c.length then c.getD x.toNat 0 else 0
theorem lowOf_at (c : List Int) (k : Nat) (h : k < c.length) : lowOf c (k : Int) = low c k := by
  rw [lowOf, if_pos (by omega)]; simp
theorem cntOf_at (c : List Int) (k : Nat) (h : k < c.length) : cntOf c (k : Int) = c.getD k 0 := by
  rw [cntOf, if_pos (by omega)]; simp
theorem lowOf_out (c : List Int) (x : Int) (h : ¬ (0 ≤ x ∧ x < c.length)) : lowOf c x = 0 := by rw [lowOf, if_neg h]
theorem cntOf_out (c : List Int) (x : Int) (h : ¬ (0 ≤ x ∧ x < c.length)) : cntOf c x = 0 := by rw [cntOf, if_neg h]

theorem low_any (w : World) (g q cap : Nat) (c : List Int) (x : Int) (h : TIs w g q cap c) (hm : c.length ≤ 256) :
    Calls Tryd.prog 58 #[.pointer (some ⟨g, 0, none⟩), .int .i64 x] w fun e w' => e = .returned (.int .i64 (lowOf c x)) ∧ Reading w w' := by
  have K := has_any w g q cap c x h
  by_cases hz : x = 0
  · subst hz
    have e0 : lowOf c 0 = 0 := by
      unfold lowOf; split
      · rw [show (0 : Int).toNat = 0 from rfl, low_zero]
      · rfl
    rw [e0]
    clear e0 K
    go_enter Tryd.func58, Tryd.ntmps58
    go_wp2
    go_ret
    exact ⟨rfl, 0, rfl⟩
  have hx0 : (x == 0) = false := by simpa using hz
  by_cases hh : 0 ≤ x ∧ x < c.length
  · obtain ⟨k, rfl⟩ : ∃ k : Nat, x = (k : Int) + 1 := ⟨x.toNat - 1, by omega⟩
    have hk : k + 1 < c.length := by omega
    have cx := fun w' (b : Reading w w') => (h.read b).at k (by omega)
    have c0 := fun w' (b : Reading w w') => (h.read b).head
    rw [show ((k : Int) + 1) = ((k + 1 : Nat) : Int) by omega, lowOf_at c (k + 1) hk, show ((k + 1 : Nat) : Int) = ((k : Int) + 1) by omega]
    rw [show decide (0 ≤ (k : Int) + 1 ∧ (k : Int) + 1 < c.length) = true by simp; omega] at K
    have HX := Lib.hid cx
    have H0 := Lib.hid c0
    have KH := Lib.hid K
    clear h cx c0 K hh hz
    generalize c.length = n at *
    generalize low c (k + 1) = s at *
    have e1 : IntKind.i64.wrap (k : Int) = (k : Int) := IntWalk.i64_in _ (by omega)
    have e3 : (k : Int) < (n : Int) := by omega
    go_enter Tryd.func58, Tryd.ntmps58
    go_wp2_with fail
    refine KH.out.mono ?_
    rintro e w1 ⟨rfl, b1⟩
    have k0 := H0.out w1 b1
    have kx := HX.out w1 b1
    have B1 := Lib.hid b1
    clear b1
    go_wp2
    go_ret
    exact ⟨rfl, B1.out⟩
  · rw [lowOf_out c x hh]
    rw [show decide (0 ≤ x ∧ x < c.length) = false by simpa using hh] at K
    have KH := Lib.hid K
    clear h K hh hz
    go_enter Tryd.func58, Tryd.ntmps58
    go_wp2_with fail
    refine KH.out.mono ?_
    rintro e w1 ⟨rfl, b1⟩
    have B1 := Lib.hid b1
    clear b1
    go_wp2
    go_ret
    exact ⟨rfl, B1.out⟩
theorem low_nil (w : World) : Calls Tryd.prog 58 #[.pointer none, .int .i64 0] w fun e w' => e = .returned (.int .i64 0) ∧ Reading w w' := by
  go_enter Tryd.func58, Tryd.ntmps58
  go_wp2
  go_ret
  exact ⟨rfl, 0, rfl⟩

theorem count_any (w : World) (g q cap : Nat) (c : List Int) (x : Int) (h : TIs w g q cap c) (ok : Ok c) :
    Calls Tryd.prog 59 #[.pointer (some ⟨g, 0, none⟩), .int .i64 x] w fun e w' => e = .returned (.int .i64 (cntOf c x)) ∧ Reading w w' := by
  have K := has_any w g q cap c x h
  by_cases hh : 0 ≤ x ∧ x < c.length
  · obtain ⟨k, rfl⟩ : ∃ k : Nat, x = (k : Int) := ⟨x.toNat, by omega⟩
    have hk : k < c.length := by omega
    have cx := fun w' (b : Reading w w') => (h.read b).at k (by omega)
    have c0 := fun w' (b : Reading w w') => (h.read b).head
    have kl := fun w' (b : Reading w w') => low_any w' g q cap c (k : Int) (h.read b) ok.few
    have hb1 := ok.low_le' k
    have hb2 := ok.low_le' (k + 1)
    have hfew := ok.few
    rw [lowOf_at c k hk] at kl
    rw [cntOf_at c k hk, show c.getD k 0 = low c (k + 1) - low c k by rw [low_succ]; omega]
    rw [show decide (0 ≤ (k : Int) ∧ (k : Int) < c.length) = true by simp; omega] at K
    have HX := Lib.hid cx
    have H0 := Lib.hid c0
    have KH := Lib.hid K
    have KL := Lib.hid kl
    clear h cx c0 K hh kl ok
    generalize c.length = n at *
    generalize low c (k + 1) = s at *
    generalize low c k = t at *
    have e1 : IntKind.i64.wrap (s - t) = s - t := IntWalk.i64_in _ (by omega)
    have e3 : (k : Int) < (n : Int) := by omega
    go_enter Tryd.func59, Tryd.ntmps59
    go_wp2_with fail
    refine KH.out.mono ?_
    rintro e w1 ⟨rfl, b1⟩
    have k0 := H0.out w1 b1
    have kx := HX.out w1 b1
    have KL1 := Lib.hid (fun m => KL.out (w1.drewN m) (b1.trans ⟨m, rfl⟩))
    have B1 := Lib.hid b1
    clear b1
    go_wp2_with fail
    go_quiet ((go_at_call 58; exact Calls.quiet_of (KL1.out _)))
    go_wp2
    go_ret
    exact ⟨rfl, B1.out.trans ⟨_, rfl⟩⟩
  · rw [cntOf_out c x hh]
    rw [show decide (0 ≤ x ∧ x < c.length) = false by simpa using hh] at K
    have KH := Lib.hid K
    clear h K hh
    go_enter Tryd.func59, Tryd.ntmps59
    go_wp2_with fail
    refine KH.out.mono ?_
    rintro e w1 ⟨rfl, b1⟩
    have B1 := Lib.hid b1
    clear b1
    go_wp2
    go_ret
    exact ⟨rfl, B1.out⟩
theorem count_nil (w : World) : Calls Tryd.prog 59 #[.pointer none, .int .i64 0] w fun e w' => e = .returned (.int .i64 0) ∧ Reading w w' := by
  have K := Lib.hid (has_nil w)
  go_enter Tryd.func59, Tryd.ntmps59
  go_wp2_with fail
  refine K.out.mono ?_
  rintro e w1 ⟨rfl, b1⟩
  have B1 := Lib.hid b1
  clear b1
  go_wp2
  go_ret
  exact ⟨rfl, B1.out⟩
end Go.Proofs.YtjbfgajognnmiaaDoor

/- slices.Min of a slice of integers; New: a table of the counts, or none, and why. -/
namespace Go.Proofs.YtjbfgajognnmiaaDoor
open Go.RowKit

theorem add_none {ad : Addr} {w : World} {u : Value} (h : w.cell? (ad.add 0) = some u) : ad.add 0 = ad := by
  obtain ⟨b, off, spot⟩ := ad
  have hspot : spot = none := by simpa [Addr.add] using World.cell?_spot h
  subst hspot
  unfold Addr.add
  split <;> simp_all

def MinAt (l : List Int) (n : Nat) (m i : Value) : Prop := ∃ (k : Nat) (x : Int), 0 < k ∧ k ≤ n ∧ i = .int .i64 (k : Int) ∧ m = .int .i64 x ∧ Hid ((∃ j, j < k ∧ l.getD j 0 = x) ∧ ∀ j, j < k → x ≤ l.getD j 0)

set_option maxHeartbeats 1000000 in
set_option maxRecDepth 100000 in
theorem min_any (w : World) (A : Option Addr) (n c : Nat) (l : List Int) (h : Reads w A n (ints l)) (h0 : 0 < n) (hm : n ≤ 1000000) :
    Calls Tryd.prog 38 #[.slice A n c] w fun e w' => (∃ x, e = .returned (.int .i64 x) ∧ (∃ j, j < n ∧ l.getD j 0 = x) ∧ ∀ j, j < n → x ≤ l.getD j 0) ∧ w' = w := by
  obtain ⟨ad, rfl, c0⟩ := h.int 0 h0
  have HR := Lib.hid h
  clear h
  rw [add_none c0] at c0
  have e1 : (1 : Int) ≤ n := by omega
  have e2 : (0 : Int) < n := by omega
  go_enter Tryd.func38, Tryd.ntmps38
  go_wp2_with fail
  go_loop [3, 4] (MinAt l n) (fun _ i => n - (intOf i).toNat)
  case atStart => exact ⟨1, l.getD 0 0, by omega, by omega, rfl, rfl, Lib.hid ⟨⟨0, by omega, rfl⟩, fun j hj => by rw [show j = 0 by omega]; exact Int.le_refl _⟩⟩
  case round =>
    obtain ⟨k, x, hk0, hk, rfl, rfl, H⟩ := hrel
    by_cases hlt : k < n
    · obtain ⟨ad', he, ck⟩ := HR.out.int k hlt
      injection he with he
      subst he
      have hkn : (k : Int) < n := by omega
      obtain ⟨y, hy⟩ : ∃ y, l.getD k 0 = y := ⟨_, rfl⟩
      rw [hy] at ck
      have HY := Lib.hid hy
      clear hy c0
      go_wp2_with fail
      refine ⟨⟨k + 1, min x y, by omega, by omega, by go_num, rfl, Lib.hid ⟨?_, fun j hj => ?_⟩⟩, by simp [intOf]; omega⟩
      · obtain ⟨⟨j, hj, hx⟩, _⟩ := H.out
        by_cases hxy : x ≤ y
        · exact ⟨j, by omega, by rw [hx]; omega⟩
        · exact ⟨k, by omega, by rw [HY.out]; omega⟩
      · by_cases hjk : j = k
        · subst hjk; rw [HY.out]; omega
        · have := H.out.2 j (by omega); omega
    · obtain rfl : k = n := by omega
      go_wp2
      go_ret
      exact ⟨⟨x, rfl, H.out⟩, rfl⟩

theorem new_arg (w : World) (A : Option Addr) (n c : Nat) (h : n = 0 ∨ 256 < n) :
    Calls Tryd.prog 27 #[.slice A n c] w fun e w' => e = .returned (.tuple #[.pointer none, .int .i64 1]) ∧ w' = w := by
  rcases h with rfl | h
  · go_enter Tryd.func27, Tryd.ntmps27
    go_wp2
    go_ret2
    exact ⟨rfl, rfl⟩
  · have e1 : ((n : Int) == 0) = false := by simp; omega
    have e2 : (256 : Int) < n := by omega
    go_enter Tryd.func27, Tryd.ntmps27
    go_wp2
    go_ret2
    exact ⟨rfl, rfl⟩

theorem new_range (w : World) (A : Option Addr) (n c : Nat) (l : List Int) (h : Reads w A n (ints l)) (h0 : 0 < n) (hm : n ≤ 256) (j : Nat) (hj : j < n) (hx : l.getD j 0 < 1) :
    Calls Tryd.prog 27 #[.slice A n c] w fun e w' => e = .returned (.tuple #[.pointer none, .int .i64 2]) ∧ w' = w := by
  have K := Lib.hid (min_any w A n c l h h0 (by omega))
  have HX := Lib.hid hx
  have e1 : ((n : Int) == 0) = false := by simp; omega
  have e2 : ¬ (256 : Int) < n := by omega
  clear h hx
  go_enter Tryd.func27, Tryd.ntmps27
  go_wp2_with fail
  refine K.out.mono ?_
  rintro e w1 ⟨⟨x, rfl, _, hle⟩, rfl⟩
  have hx1 : x < 1 := by have := hle j hj; have := HX.out; omega
  clear hle
  go_wp2
  go_ret2
  exact ⟨rfl, rfl⟩

def NewAt (w : World) (l : List Int) (n : Nat) (v s i : Value) (wr : World) : Prop :=
  ∃ k : Nat, k ≤ n ∧ i = .int .i64 (k : Int) ∧ s = .int .i64 (low l k) ∧ low l k ≤ 65536 ∧ wr.ownsRow w.heap.size 3 1 v k (ints ((ends l).take k)) ∧ Below w.heap.size w wr

theorem ends_snoc (l : List Int) (k : Nat) (h : k < l.length) : ints ((ends l).take (k + 1)) = ints ((ends l).take k) ++ [.int .i64 (low l (k + 1))] := by
  have hk : k < (ends l).length := by rw [length_ends]; exact h
  have := ends_at l k h
  rw [List.getElem?_eq_getElem hk] at this
  injection this with this
  rw [List.take_succ_eq_append_getElem hk, ints_append, this]
  rfl

/-- What New leaves. -/
def Newly (w : World) (l : List Int) (e : Ending) (w' : World) : Prop :=
  if l.sum ≤ 65536 then ∃ g q cap, e = .returned (.tuple #[.pointer (some ⟨g, 0, none⟩), .int .i64 0]) ∧ TIs w' g q cap l ∧ w.heap.size ≤ g ∧ w.heap.size ≤ q ∧ Below w.heap.size w w'
  else e = .returned (.tuple #[.pointer none, .int .i64 7]) ∧ Below w.heap.size w w'

set_option maxHeartbeats 2000000 in
set_option maxRecDepth 100000 in
theorem new_any (w : World) (A : Option Addr) (n c : Nat) (l : List Int) (h : Reads w A n (ints l)) (h0 : 0 < n) (hm : n ≤ 256) (hone : ∀ x ∈ l, 1 ≤ x) :
    Calls Tryd.prog 27 #[.slice A n c] w (Newly w l) := by
  have K := Lib.hid (min_any w A n c l h h0 (by omega))
  have e1 : ((n : Int) == 0) = false := by simp; omega
  have e2 : ¬ (256 : Int) < n := by omega
  obtain ⟨i0, hi, hz0, hz1, hz2⟩ := info_parts Tryd.infoInt
  have hmk : ∀ W : World, (Instr.makeSlice 22 (.int .i64 0) (.int .i64 (n : Int))).run Tryd.prog W = .ok (.slice (some ⟨W.heap.size, 0, none⟩) 0 n) (W.alloc (.cells (madeCells #[.int .i64 0] n) 3)) := by
    intro W
    have := run_make (P := Tryd.prog) W 22 3 i0 (.int .i64 0) Tryd.underlying22 hi hz0 .i64 .i64 0 n (Int.le_refl _) (by omega) (by rw [hz2]; omega) (by omega)
    rw [hz1] at this
    simp at this
    exact this
  have O0 := Lib.hid (World.ownsRow_made (base := w.heap.size) (e := 3) (size := 1) w (madeCells #[.int .i64 0] n) n (Nat.le_refl _) (by unfold maxLen; omega) (by rw [size_madeCells]; omega))
  have B0 := Lib.hid ((Below.refl w.heap.size w).alloc (Nat.le_refl _) (.cells (madeCells #[.int .i64 0] n) 3))
  have HL := Lib.hid h.len
  have HR := Lib.hid h
  have H1 := Lib.hid hone
  have HI := Lib.hid hi
  have HZ := Lib.hid (And.intro hz0 (And.intro hz1 hz2))
  have HZERO := Lib.hid (fun x hx => show (0 : Int) ≤ x by have := hone x hx; omega)
  clear h hone hi hz0 hz1 hz2
  go_enter Tryd.func27, Tryd.ntmps27
  go_wp2_with fail
  refine K.out.mono ?_
  rintro e w1 ⟨⟨x, rfl, ⟨j, hj, hx⟩, _⟩, rfl⟩
  have hx1 : 1 ≤ x := by
    have := one_at H1.out j (by rw [HL.out]; exact hj)
    omega
  clear hx hj
  go_wp2_with fail
  go_loopw [4, 5, 24] (NewAt w1 l n) (fun _ _ i _ => n - (intOf i).toNat)
  case atStart => exact ⟨0, Nat.zero_le _, rfl, by rw [low_zero], by rw [low_zero]; omega, O0.out, B0.out⟩
  case round =>
    obtain ⟨k, hk, rfl, rfl, hlo, how, hb⟩ := hrel
    have HO := Lib.hid how
    have HB := Lib.hid hb
    have hln := low_nonneg HZERO.out k
    clear how hb
    by_cases hlt : k < n
    · obtain ⟨ad, rfl, ckw⟩ := HR.out.int k hlt
      have ck := (HB.out.cell (World.block_lt_of_cell? _ _ ckw)).trans ckw
      clear ckw
      have hs := low_succ l k
      have hy1 := one_at H1.out k (by rw [HL.out]; exact hlt)
      generalize hy : l.getD k 0 = y at *
      have hkn : (k : Int) < n := by omega
      have e5 : IntKind.i64.wrap (65536 - low l k) = 65536 - low l k := IntWalk.i64_in _ (by omega)
      by_cases hfull : 65536 - low l k < y
      · have HF := Lib.hid (show ¬ l.sum ≤ 65536 by
          have := low_sum HZERO.out (k + 1)
          omega)
        clear hs hy
        generalize low l k = t at *
        go_wp2
        go_ret2
        unfold Newly
        rw [if_neg (by have := HF.out; omega)]
        exact ⟨rfl, HB.out⟩
      · have HS := Lib.hid hs
        have HSN := Lib.hid (ends_snoc l k (by rw [HL.out]; exact hlt))
        have H6 := Lib.hid (show low l (k + 1) ≤ 65536 by omega)
        have e6 : IntKind.i64.wrap (low l k + y) = low l k + y := IntWalk.i64_in _ (by omega)
        clear hs hy
        generalize htt : low l k = t at *
        have HT := Lib.hid htt
        clear htt
        go_wp2_with (at_builtin; refine wpList_append_lies _ rfl (.tmp 35) (.tmp 37) 22 rfl w1.heap.size 3 i0 (.int .i64 0) 1 8 Tryd.underlying22 HI.out HZ.out.1 HZ.out.2.1 HZ.out.2.2 rfl (by decide) u4 k (ints ((ends l).take k)) rfl (HO.out.alloc _) ⟨wr.heap.size, 0, none⟩ 1 1 [.int .i64 (t + y)] rfl rfl (cell_one_new _ _ _) ?c2 (by decide) ?b1 ?b2 ?b3 (wr.heap.size + 1) ?b4 ?_)
        case c2 => rfl
        case b1 => unfold maxLen; omega
        case b2 => omega
        case b3 => have := HB.out.size; simp; omega
        intro q cap w2 hown hgr hq hlt1
        have O1 := Lib.hid (show w2.ownsRow w1.heap.size 3 1 (.slice (some ⟨q, 0, none⟩) (k + 1) cap) (k + 1) (ints ((ends l).take (k + 1))) by
          rw [HSN.out, HS.out]; exact hown)
        have B1 := Lib.hid ((HB.out.alloc HB.out.size (.cells #[.int .i64 (t + y)] 3)).grown hgr (by have := HB.out.size; simp; omega) (fun j e => (HO.out.lt j e).1))
        clear hown hgr hq hlt1
        go_wp2_with fail
        exact ⟨⟨k + 1, by omega, by go_num, by rw [HS.out], H6.out, O1.out, B1.out⟩, by simp [intOf]; omega⟩
    · obtain rfl : k = n := by omega
      have HF := Lib.hid (show l.sum ≤ 65536 by rw [low_all l k (by rw [HL.out]; exact Nat.le_refl _)] at hlo; exact hlo)
      have hown := HO.out
      rw [List.take_of_length_le (by rw [length_ends, HL.out]; exact Nat.le_refl _)] at hown
      obtain ⟨q, cap, rfl, hq⟩ := hown.form (by omega)
      have HW := Lib.hid hown
      clear hown
      have hbk : ¬ (k : Int) < k := by omega
      go_wp2
      go_ret2
      unfold Newly
      rw [if_pos (by have := HF.out; omega)]
      refine ⟨_, q, cap, rfl, ⟨?_, ?_⟩, HB.out.size, hq.1, HB.out.alloc HB.out.size _⟩
      · rw [heap_alloc_new, HL.out]
      · rcases HW.out.2 with ⟨h1, h2⟩ | ⟨q', cap', cur, h1, _, hh, hc, _, hs, ht⟩
        · cases h1
        · simp only [Value.slice.injEq, Option.some.injEq, Addr.mk.injEq] at h1
          obtain ⟨⟨rfl, _⟩, _, rfl⟩ := h1
          refine ⟨cur.toList.drop k, ?_⟩
          rw [Below.heap_alloc _ _ _ (heap_lt hh), hh]
          rw [Nat.mul_one] at ht
          rw [← ht, List.take_append_drop]
end Go.Proofs.YtjbfgajognnmiaaDoor

/- Find: the symbol of a number, by halving; or none. -/
namespace Go.Proofs.YtjbfgajognnmiaaDoor
open Go.RowKit

set_option maxHeartbeats 1000000 in
set_option maxRecDepth 100000 in
theorem clo_any (w : World) (bt bx g q cap : Nat) (c : List Int) (x : Int) (k : Nat) (h : TIs w g q cap c) (hk : k < c.length)
    (h1 : w.cell? ⟨bt, 0, none⟩ = some (.pointer (some ⟨g, 0, none⟩))) (h2 : w.cell? ⟨bx, 0, none⟩ = some (.int .i64 x)) :
    Calls Tryd.prog 87 #[.int .i64 (k : Int), .pointer (some ⟨bt, 0, none⟩), .pointer (some ⟨bx, 0, none⟩)] w fun e w' => e = .returned (.bool (decide (x < low c (k + 1)))) ∧ Reading w w' := by
  have c0 := h.head
  have ck := h.at k hk
  have e1 : (k : Int) < c.length := by omega
  clear h
  generalize low c (k + 1) = s at *
  generalize c.length = n at *
  go_enter Tryd.func87, Tryd.ntmps87
  go_wp2
  go_quiet (fail)
  go_wp2
  go_ret
  exact ⟨rfl, _, rfl⟩

def SearchAt (w : World) (n k : Nat) (i j : Value) (wr : World) : Prop := ∃ lo hi : Nat, i = .int .i64 (lo : Int) ∧ j = .int .i64 (hi : Int) ∧ lo ≤ k ∧ k ≤ hi ∧ hi ≤ n ∧ Reading w wr

set_option maxHeartbeats 2000000 in
set_option maxRecDepth 100000 in
theorem search_any (w : World) (n : Nat) (a b : Value) (p : Nat → Bool) (k : Nat) (hn : n ≤ 1000000) (hk : k ≤ n) (hlo : ∀ t, t < k → p t = false) (hhi : ∀ t, k ≤ t → t < n → p t = true)
    (hf : ∀ w1, Reading w w1 → ∀ i : Nat, i < n → Calls Tryd.prog 87 #[.int .i64 (i : Int), a, b] w1 fun e w' => e = .returned (.bool (p i)) ∧ Reading w1 w') :
    Calls Tryd.prog 86 #[.int .i64 (n : Int), .func (.func 87) #[] #[a, b]] w fun e w' => e = .returned (.int .i64 (k : Int)) ∧ Reading w w' := by
  have HF := Lib.hid hf
  have H1 := Lib.hid hlo
  have H2 := Lib.hid hhi
  clear hf hlo hhi
  go_enter Tryd.func86, Tryd.ntmps86
  go_wp2_with fail
  go_loopw [5, 6] (SearchAt w n k) (fun i j _ => (intOf j).toNat - (intOf i).toNat)
  case atStart => exact ⟨0, n, rfl, rfl, Nat.zero_le _, hk, Nat.le_refl _, 0, rfl⟩
  case round =>
    obtain ⟨lo, hi, rfl, rfl, h1, h2, h3, hr⟩ := hrel
    by_cases hlt : lo < hi
    · have hc := HF.out wr hr ((lo + hi) / 2) (by omega)
      have HR := Lib.hid hr
      clear hr
      have hltz : (lo : Int) < hi := by omega
      rw [show (((lo + hi) / 2 : Nat) : Int) = ((lo : Int) + (hi : Int)) / 2 by omega] at hc
      cases hp : p ((lo + hi) / 2) <;> rw [hp] at hc
      · have hmid : (lo + hi) / 2 < k := by
          rcases Nat.lt_or_ge ((lo + hi) / 2) k with h | h
          · exact h
          · have := H2.out _ h (by omega); rw [hp] at this; cases this
        have HC := Lib.hid hc
        clear hp hc
        go_wp2_with fail
        refine HC.out.mono ?_
        rintro e w1 ⟨rfl, b1⟩
        have B1 := Lib.hid b1
        clear b1
        go_wp2_with fail
        refine ⟨⟨(lo + hi) / 2 + 1, hi, by rw [show ((lo : Int) + (hi : Int)) / 2 + 1 = (((lo + hi) / 2 + 1 : Nat) : Int) by omega], rfl, by omega, h2, h3, HR.out.trans B1.out⟩, ?_⟩
        simp [intOf]; omega
      · have hmid : k ≤ (lo + hi) / 2 := by
          rcases Nat.lt_or_ge ((lo + hi) / 2) k with h | h
          · have := H1.out _ h; rw [hp] at this; cases this
          · exact h
        have HC := Lib.hid hc
        clear hp hc
        go_wp2_with fail
        refine HC.out.mono ?_
        rintro e w1 ⟨rfl, b1⟩
        have B1 := Lib.hid b1
        clear b1
        go_wp2_with fail
        refine ⟨⟨lo, (lo + hi) / 2, rfl, by rw [show ((lo : Int) + (hi : Int)) / 2 = (((lo + hi) / 2 : Nat) : Int) by omega], h1, hmid, by omega, HR.out.trans B1.out⟩, ?_⟩
        simp [intOf]; omega
    · obtain rfl : hi = lo := by omega
      obtain rfl : hi = k := by omega
      have HR := Lib.hid hr
      clear hr
      have hnl : ¬ (hi : Int) < hi := by omega
      go_wp2
      go_ret
      exact ⟨rfl, HR.out⟩

theorem two_boxes (w : World) (a b : Value) (t u : TypeId) :
    Below w.heap.size w ((w.alloc (.cells #[a] t)).alloc (.cells #[b] u)) ∧ ((w.alloc (.cells #[a] t)).alloc (.cells #[b] u)).cell? ⟨w.heap.size, 0, none⟩ = some a ∧ ((w.alloc (.cells #[a] t)).alloc (.cells #[b] u)).cell? ⟨w.heap.size + 1, 0, none⟩ = some b := by
  have h1 : (w.alloc (.cells #[a] t)).heap[w.heap.size]? = some (.cells #[a] t (0, 0)) := heap_alloc_new _ _
  have h2 : ((w.alloc (.cells #[a] t)).alloc (.cells #[b] u)).heap[w.heap.size + 1]? = some (.cells #[b] u (0, 0)) := by
    have := heap_alloc_new (w.alloc (.cells #[a] t)) (.cells #[b] u)
    simpa using this
  refine ⟨((Below.refl _ _).alloc (Nat.le_refl _) _).alloc (by simp) _, ?_, ?_⟩
  · rw [cell_in (cs := #[a]) (t := t)]
    · rfl
    · rw [Below.heap_alloc _ _ _ (heap_lt h1)]; exact h1
  · rw [cell_in h2]; rfl

/-- x is not below the total, or negative. -/
theorem find_out (w : World) (g q cap : Nat) (c : List Int) (x : Int) (h : TIs w g q cap c) (ok : Ok c) (hx : x < 0 ∨ c.sum ≤ x) :
    Calls Tryd.prog 79 #[.pointer (some ⟨g, 0, none⟩), .int .i64 x] w fun e w' => e = .returned (.tuple #[.int .i64 0, .bool false]) ∧ Below w.heap.size w w' := by
  obtain ⟨b0, k1, k2⟩ := two_boxes w (.pointer (some ⟨g, 0, none⟩)) (.int .i64 x) 51 3
  have T0 := h.below b0
  have KT := Lib.hid (fun m => total_any _ g q cap c (T0.read ⟨m, rfl⟩) ok.pos ok.few)
  have B0 := Lib.hid b0
  clear T0 b0 h ok
  generalize c.sum = s at *
  by_cases h0 : x < 0
  · have d0 : decide (x < 0) = true := by simpa using h0
    clear hx
    go_enter Tryd.func79, Tryd.ntmps79
    go_wp2_with fail
    go_quiet (fail)
    go_wp2
    go_ret2
    exact ⟨rfl, B0.out.trans (Reading.below ⟨_, rfl⟩)⟩
  · have hx : s ≤ x := by omega
    have d0 : decide (x < 0) = false := by simpa using h0
    have d1 : decide (s ≤ x) = true := by simpa using hx
    go_enter Tryd.func79, Tryd.ntmps79
    go_wp2_with fail
    go_quiet ((go_at_call 45; exact Calls.quiet_of (KT.out _)))
    go_wp2
    go_ret2
    exact ⟨rfl, B0.out.trans (Reading.below ⟨_, rfl⟩)⟩

theorem find_nil (w : World) : Calls Tryd.prog 79 #[.pointer none, .int .i64 0] w fun e w' => e = .returned (.tuple #[.int .i64 0, .bool false]) ∧ Below w.heap.size w w' := by
  obtain ⟨b0, k1, k2⟩ := two_boxes w (.pointer none) (.int .i64 0) 51 3
  have KT := Lib.hid (fun m => total_nil (((w.alloc (.cells #[.pointer none] 51)).alloc (.cells #[.int .i64 0] 3)).drewN m))
  have B0 := Lib.hid b0
  clear b0
  go_enter Tryd.func79, Tryd.ntmps79
  go_wp2_with fail
  go_quiet ((go_at_call 45; exact Calls.quiet_of (KT.out _)))
  go_wp2
  go_ret2
  exact ⟨rfl, B0.out.trans (Reading.below ⟨_, rfl⟩)⟩

theorem find_ok (w : World) (g q cap : Nat) (c : List Int) (x : Int) (k : Nat) (h : TIs w g q cap c) (ok : Ok c) (hk : k < c.length) (h1 : low c k ≤ x) (h2 : x < low c (k + 1)) :
    Calls Tryd.prog 79 #[.pointer (some ⟨g, 0, none⟩), .int .i64 x] w fun e w' => e = .returned (.tuple #[.int .i64 (k : Int), .bool true]) ∧ Below w.heap.size w w' := by
  obtain ⟨b0, k1, k2⟩ := two_boxes w (.pointer (some ⟨g, 0, none⟩)) (.int .i64 x) 51 3
  have T0 := h.below b0
  have KT := Lib.hid (fun m => total_any _ g q cap c (T0.read ⟨m, rfl⟩) ok.pos ok.few)
  have B0 := Lib.hid b0
  have hlo : ∀ t, t < k → decide (x < low c (t + 1)) = false := fun t ht => by
    have := low_le ok.zero (t + 1) k (by omega)
    simp; omega
  have hhi : ∀ t, k ≤ t → t < c.length → decide (x < low c (t + 1)) = true := fun t ht _ => by
    have := low_le ok.zero (k + 1) (t + 1) (by omega)
    simp; omega
  have d0 : decide (x < 0) = false := by
    have := low_nonneg ok.zero k
    simp; omega
  have d1 : decide (c.sum ≤ x) = false := by
    have := low_sum ok.zero (k + 1)
    simp; omega
  have KS := Lib.hid (fun W (b : Reading _ W) => search_any W c.length (.pointer (some ⟨w.heap.size, 0, none⟩)) (.pointer (some ⟨w.heap.size + 1, 0, none⟩)) (fun t => decide (x < low c (t + 1))) k (by have := ok.few; omega) (by omega) hlo hhi
    (fun w1 b1 i hi => clo_any w1 w.heap.size (w.heap.size + 1) g q cap c x i (T0.read (b.trans b1)) hi
      (by obtain ⟨m, rfl⟩ := b.trans b1; exact k1) (by obtain ⟨m, rfl⟩ := b.trans b1; exact k2)))
  have H0 := Lib.hid (fun W (b : Reading _ W) => (T0.read b).head)
  have K1 := Lib.hid (fun W (b : Reading ((w.alloc (.cells #[.pointer (some ⟨g, 0, none⟩)] 51)).alloc (.cells #[.int .i64 x] 3)) W) => show W.cell? ⟨w.heap.size, 0, none⟩ = some (.pointer (some ⟨g, 0, none⟩)) by obtain ⟨m, rfl⟩ := b; exact k1)
  clear T0 b0 h ok hlo hhi h1 h2
  generalize c.sum = s at *
  generalize c.length = n at *
  go_enter Tryd.func79, Tryd.ntmps79
  go_wp2_with fail
  go_quiet ((go_at_call 45; exact Calls.quiet_of (KT.out _)))
  have d2 := H0.out (((w.alloc (.cells #[.pointer (some ⟨g, 0, none⟩)] 51)).alloc (.cells #[.int .i64 x] 3)).drewN nq) ⟨nq, rfl⟩
  have d3 := K1.out (((w.alloc (.cells #[.pointer (some ⟨g, 0, none⟩)] 51)).alloc (.cells #[.int .i64 x] 3)).drewN nq) ⟨nq, rfl⟩
  have KS1 := Lib.hid (KS.out (((w.alloc (.cells #[.pointer (some ⟨g, 0, none⟩)] 51)).alloc (.cells #[.int .i64 x] 3)).drewN nq) ⟨nq, rfl⟩)
  have B1 := Lib.hid (B0.out.trans (Reading.below (B := w.heap.size) (w' := (((w.alloc (.cells #[.pointer (some ⟨g, 0, none⟩)] 51)).alloc (.cells #[.int .i64 x] 3)).drewN nq)) ⟨nq, rfl⟩))
  generalize (((w.alloc (.cells #[.pointer (some ⟨g, 0, none⟩)] 51)).alloc (.cells #[.int .i64 x] 3)).drewN nq) = W at *
  have hmf : ∀ (fn : Fn) (first cap : Array Value) (w : World), (Instr.makeFunc fn first cap).run Tryd.prog w = .ok (.func fn first cap) w := fun _ _ _ _ => rfl
  go_wp2_with fail
  refine KS1.out.mono ?_
  rintro e w1 ⟨rfl, b1⟩
  have B2 := Lib.hid (B1.out.trans b1.below)
  clear b1
  go_wp2
  go_ret2
  exact ⟨rfl, B2.out⟩
end Go.Proofs.YtjbfgajognnmiaaDoor

/- Bump: the count of one symbol, and all counts where the total is too great; halve. -/
namespace Go.Proofs.YtjbfgajognnmiaaDoor
open Go.RowKit

theorem grown_set {w w1 : World} {q k : Nat} (h : w.grownBy w1 (some q)) (u : Value) : w.grownBy (w1.setCell ⟨q, k, none⟩ u) (some q) :=
  ⟨h.os, h.tape, h.output, by have := h.size; simpa using this, fun j hj hne => by
    rw [Below.heap_setCell w1 ⟨q, k, none⟩ u j (fun e => hne (by rw [e]))]
    exact h.block j hj hne⟩
theorem grown_read {w w1 w2 : World} {q : Nat} (h : w.grownBy w1 (some q)) (hr : Reading w1 w2) : w.grownBy w2 (some q) := by
  obtain ⟨n, rfl⟩ := hr
  exact ⟨h.os, h.tape, h.output, h.size, h.block⟩
theorem grown_trans {w w1 w2 : World} {q : Nat} (h : w.grownBy w1 (some q)) (k : w1.grownBy w2 (some q)) : w.grownBy w2 (some q) :=
  ⟨k.os.trans h.os, k.tape.trans h.tape, k.output.trans h.output, Nat.le_trans h.size k.size, fun j hj hne => (k.block j (Nat.lt_of_lt_of_le hj h.size) hne).trans (h.block j hj hne)⟩
theorem turned_below {w w1 : World} {B q : Nat} (h : w.grownBy w1 (some q)) (hq : B ≤ q) (hB : B ≤ w.heap.size) : Below B w w1 :=
  ⟨h.os, h.tape, h.output, h.size, fun j hj => h.block j (by omega) (fun e => by injection e; omega)⟩

theorem row_set (l : List Int) (rest : List Value) (k : Nat) (x : Int) (h : k < l.length) : (ints l ++ rest).toArray.setIfInBounds k (.int .i64 x) = (ints (l.set k x) ++ rest).toArray := by
  have hk : k < (ints l).length := by rw [length_ints]; exact h
  rw [List.setIfInBounds_toArray, List.set_append_left _ _ hk]
  simp [ints, List.map_set]

/-- Block q holds the first k of a, the others of b. -/
def Half (w : World) (q : Nat) (a b : List Int) (rest : List Value) (k : Nat) (wr : World) : Prop :=
  wr.heap[q]? = some (.cells (ints (mix a b k) ++ rest).toArray 3 (0, 0)) ∧ w.grownBy wr (some q)

theorem Half.cell {w wr : World} {q : Nat} {a b : List Int} {rest : List Value} {k : Nat} (h : Half w q a b rest k wr) (hl : a.length = b.length) (x : Int) (hx : b[k]? = some x) : wr.cell? ⟨q, k, none⟩ = some (.int .i64 x) := by
  rw [cell_in h.1]
  have hk : k < b.length := (List.getElem?_eq_some_iff.1 hx).1
  have := mix_at a b k x hl hx
  rw [List.getElem?_toArray, List.getElem?_append_left (by rw [length_ints, length_mix a b k hl]; omega)]
  simp [ints, this]
theorem Half.set {w wr : World} {q : Nat} {a b : List Int} {rest : List Value} {k : Nat} (h : Half w q a b rest k wr) (hl : a.length = b.length) (x : Int) (hx : a[k]? = some x) : Half w q a b rest (k + 1) (wr.setCell ⟨q, k, none⟩ (.int .i64 x)) := by
  have hk : k < a.length := (List.getElem?_eq_some_iff.1 hx).1
  refine ⟨?_, grown_set h.2 _⟩
  rw [heap_set h.1, row_set _ _ _ _ (by rw [length_mix a b k hl]; exact hk), mix_succ a b k x hl hx]

def HalveAt (w : World) (q : Nat) (c : List Int) (rest : List Value) (n : Nat) (s t i : Value) (wr : World) : Prop :=
  ∃ k : Nat, k ≤ n ∧ i = .int .i64 (k : Int) ∧ s = .int .i64 (low c k) ∧ t = .int .i64 (low (half c) k) ∧ Half w q (ends (half c)) (ends c) rest k wr

set_option maxHeartbeats 2000000 in
set_option maxRecDepth 100000 in
theorem halve_any (w : World) (g q cap : Nat) (c : List Int) (h : TIs w g q cap c) (hone : ∀ x ∈ c, 1 ≤ x) (hs : c.sum ≤ 70000) (hm : c.length ≤ 256) :
    Calls Tryd.prog 46 #[.pointer (some ⟨g, 0, none⟩)] w fun e w' => e = .returned (.tuple #[]) ∧ TIs w' g q cap (half c) ∧ w.grownBy w' (some q) := by
  obtain ⟨rest, hrow⟩ := h.row
  have hne := h.ne
  have hz : ∀ x ∈ c, 0 ≤ x := fun x hx => by have := hone x hx; omega
  have c0w := h.head
  have HT := Lib.hid h
  have HZ := Lib.hid hz
  have HZ2 := Lib.hid (fun x hx => show (0 : Int) ≤ x by have := one_half hone x hx; omega)
  have HL := Lib.hid (show (ends (half c)).length = (ends c).length by rw [length_ends, length_ends, length_half])
  have HS := Lib.hid hs
  have HROW := Lib.hid hrow
  obtain ⟨n, hn⟩ : ∃ n, c.length = n := ⟨_, rfl⟩
  rw [hn] at c0w hm
  have HN := Lib.hid hn
  clear h hz hone hs hrow hn
  go_enter Tryd.func46, Tryd.ntmps46
  go_wp2_with fail
  go_loopw [2, 3, 11] (HalveAt w q c rest n) (fun _ _ i _ => n - (intOf i).toNat)
  case atStart => exact ⟨0, Nat.zero_le _, rfl, by rw [low_zero], by rw [low_zero], by rw [mix_zero]; exact HROW.out, World.grownBy.refl w _⟩
  case round =>
    obtain ⟨k, hk, rfl, rfl, rfl, hh⟩ := hrel
    have HH := Lib.hid hh
    have c0 := (hh.2.cell_far ⟨g, 0, none⟩ HT.out.lt (fun e => hne (by injection e))).trans c0w
    by_cases hlt : k < n
    · have hkc : k < c.length := by rw [HN.out]; exact hlt
      have ck := hh.cell HL.out _ (ends_at c k hkc)
      have fk := frozen_in hh.1 k
      have s1 := low_succ c k
      have s2 := low_succ (half c) k
      rw [half_at c k hkc] at s2
      have b1 := low_nonneg HZ.out k
      have b2 := low_sum HZ.out (k + 1)
      have b3 := zero_at HZ.out k
      have b4 := low_nonneg HZ2.out k
      have b5 := half_le c (k + 1) (by omega)
      have b6 := HS.out
      have HW := Lib.hid (hh.set HL.out _ (ends_at (half c) k (by rw [length_half]; exact hkc)))
      have hkn : (k : Int) < n := by omega
      clear hh
      obtain ⟨y, hy⟩ : ∃ y, c.getD k 0 = y := ⟨_, rfl⟩
      rw [hy] at s1 s2 b3
      have e1 : low c (k + 1) - low c k = y := by omega
      have HS2 := Lib.hid s2
      have HS1 := Lib.hid s1
      rw [s1] at ck b2
      have b7 : low (half c) (k + 1) ≤ 70000 := by omega
      rw [s2] at b7
      clear hy e1 b5 s1 s2
      generalize hA : low c k = A at *
      generalize hD : low (half c) k = D at *
      have HA := Lib.hid hA
      have HD := Lib.hid hD
      clear hA hD
      have e2 : IntKind.i64.wrap (A + y - A) = y := by rw [show A + y - A = y by omega]; exact IntWalk.i64_in _ (by omega)
      have e2' : IntKind.i64.wrap y = y := IntWalk.i64_in _ (by omega)
      have e3 : IntKind.i64.wrap (y + 1) = y + 1 := IntWalk.i64_in _ (by omega)
      have e4 : IntKind.i64.wrap ((y + 1) / 2) = (y + 1) / 2 := IntWalk.i64_in _ (by omega)
      have e5 : IntKind.i64.wrap (D + (y + 1) / 2) = D + (y + 1) / 2 := IntWalk.i64_in _ (by omega)
      go_wp2_with fail
      rw [← HS2.out]
      exact ⟨⟨k + 1, by omega, by go_num, by rw [HS1.out], rfl, HW.out⟩, by simp [intOf]; omega⟩
    · obtain rfl : k = n := by omega
      clear hh
      have hnl : ¬ (k : Int) < k := by omega
      go_wp2
      go_end0
      refine ⟨rfl, ⟨?_, ?_⟩, HH.out.2⟩
      · rw [HH.out.2.block g HT.out.lt (fun e => hne (by injection e)), HT.out.blk, length_half]
      · refine ⟨rest, ?_⟩
        have := HH.out.1
        rwa [mix_all _ _ _ HL.out (by rw [length_ends, length_half, HN.out]; exact Nat.le_refl _)] at this

theorem bump_nil (w : World) : Calls Tryd.prog 29 #[.pointer none, .int .i64 0] w fun e w' => e = .returned (.int .i64 1) ∧ Reading w w' := by
  go_enter Tryd.func29, Tryd.ntmps29
  go_wp2
  go_ret
  exact ⟨rfl, 0, rfl⟩

theorem bump_range (w : World) (g q cap : Nat) (c : List Int) (x : Int) (h : TIs w g q cap c) (hx : ¬ (0 ≤ x ∧ x < c.length)) :
    Calls Tryd.prog 29 #[.pointer (some ⟨g, 0, none⟩), .int .i64 x] w fun e w' => e = .returned (.int .i64 2) ∧ Reading w w' := by
  have K := has_any w g q cap c x h
  rw [show decide (0 ≤ x ∧ x < c.length) = false by simpa using hx] at K
  have KH := Lib.hid K
  clear h K hx
  go_enter Tryd.func29, Tryd.ntmps29
  go_wp2_with fail
  refine KH.out.mono ?_
  rintro e w1 ⟨rfl, b1⟩
  have B1 := Lib.hid b1
  clear b1
  go_wp2
  go_ret
  exact ⟨rfl, B1.out⟩

def BumpAt (w : World) (q : Nat) (a b : List Int) (rest : List Value) (s n : Nat) (i : Value) (wr : World) : Prop :=
  ∃ k : Nat, s ≤ k ∧ k ≤ n ∧ i = .int .i64 (k : Int) ∧ Half w q a b rest k wr

set_option maxHeartbeats 2000000 in
set_option maxRecDepth 100000 in
theorem bump_ok (w : World) (g q cap : Nat) (c : List Int) (s : Nat) (h : TIs w g q cap c) (ok : Ok c) (hs : s < c.length) :
    Calls Tryd.prog 29 #[.pointer (some ⟨g, 0, none⟩), .int .i64 (s : Int)] w fun e w' => e = .returned (.int .i64 0) ∧ TIs w' g q cap (bumped c s) ∧ w.grownBy w' (some q) := by
  have K := has_any w g q cap c (s : Int) h
  rw [show decide (0 ≤ (s : Int) ∧ (s : Int) < c.length) = true by simp; omega] at K
  have KH := Lib.hid K
  obtain ⟨rest, hrow⟩ := h.row
  have hne := h.ne
  have hfew := ok.few
  have HROW := Lib.hid hrow
  have HT := Lib.hid h
  have HOK := Lib.hid ok
  have HL := Lib.hid (show (ends (more c s)).length = (ends c).length by rw [length_ends, length_ends, length_more])
  have HM := Lib.hid (show mix (ends (more c s)) (ends c) s = ends c from mix_start _ _ _ fun k hk => by
    rw [ends_at c k (by omega), ends_at (more c s) k (by rw [length_more]; omega), low_more c s (k + 1) hs, if_neg (by omega)])
  have H2 := Lib.hid (fun W (t : TIs W g q cap (more c s)) => total_any W g q cap (more c s) t (by rw [length_more]; omega) (by rw [length_more]; omega))
  have H3 := Lib.hid (fun W (t : TIs W g q cap (more c s)) => halve_any W g q cap (more c s) t (one_more ok.one s hs) (by rw [sum_more c s hs]; have := ok.total; omega) (by rw [length_more]; omega))
  rw [sum_more c s hs] at H2
  have HB := Lib.hid (show bumped c s = if 65536 < c.sum + 32 then half (more c s) else more c s from rfl)
  have c0w := h.head
  obtain ⟨n, hn⟩ : ∃ n, c.length = n := ⟨_, rfl⟩
  rw [hn] at c0w hs hfew
  have HN := Lib.hid hn
  clear h K ok hrow hn
  go_enter Tryd.func29, Tryd.ntmps29
  go_wp2_with fail
  refine KH.out.mono ?_
  rintro e w1 ⟨rfl, b1⟩
  have HG := Lib.hid (show w.grownBy w1 (some q) from grown_read (World.grownBy.refl w _) b1)
  have HROW1 := Lib.hid (show w1.heap[q]? = some (.cells (ints (ends c) ++ rest).toArray 3 (0, 0)) by rw [b1.heap]; exact HROW.out)
  clear b1
  go_wp2_with fail
  go_loopw [5] (BumpAt w q (ends (more c s)) (ends c) rest s n) (fun i _ => n - (intOf i).toNat)
  case atStart => exact ⟨s, Nat.le_refl _, by omega, rfl, by rw [HM.out]; exact HROW1.out, HG.out⟩
  case round =>
    obtain ⟨k, hk0, hk, rfl, hh⟩ := hrel
    have HH := Lib.hid hh
    have c0 := (hh.2.cell_far ⟨g, 0, none⟩ HT.out.lt (fun e => hne (by injection e))).trans c0w
    by_cases hlt : k < n
    · have hkc : k < c.length := by rw [HN.out]; exact hlt
      have ck := hh.cell HL.out _ (ends_at c k hkc)
      have fk := frozen_in hh.1 k
      have HW := hh.set HL.out _ (ends_at (more c s) k (by rw [length_more]; exact hkc))
      rw [low_more c s (k + 1) (by rw [HN.out]; exact hs), if_pos (by omega)] at HW
      have HW2 := Lib.hid HW
      have hb := HOK.out.low_le' (k + 1)
      have hkn : (k : Int) < n := by omega
      clear hh HW
      generalize low c (k + 1) = y at *
      have e3 : IntKind.i64.wrap (y + 32) = y + 32 := IntWalk.i64_in _ (by omega)
      go_wp2_with fail
      exact ⟨⟨k + 1, by omega, by omega, by go_num, HW2.out⟩, by simp [intOf]; omega⟩
    · obtain rfl : k = n := by omega
      have T1 := Lib.hid (show TIs wr g q cap (more c s) from ⟨by rw [hh.2.block g HT.out.lt (fun e => hne (by injection e)), HT.out.blk, length_more], rest, by
        have := hh.1
        rwa [mix_all _ _ _ HL.out (by rw [length_ends, length_more, HN.out]; exact Nat.le_refl _)] at this⟩)
      clear hh
      have hnl : ¬ (k : Int) < k := by omega
      go_wp2_with fail
      refine (H2.out wr T1.out).mono ?_
      rintro e w2 ⟨rfl, b2⟩
      have T2 := Lib.hid (T1.out.read b2)
      have G2 := Lib.hid (grown_read HH.out.2 b2)
      clear b2
      have hbb := HB.out
      generalize c.sum + 32 = S at *
      by_cases hS : 65536 < S
      · have HE := Lib.hid (show bumped c s = half (more c s) by rw [hbb, if_pos hS])
        clear hbb
        go_wp2_with fail
        refine (H3.out w2 T2.out).mono ?_
        rintro e w3 ⟨rfl, t3, g3⟩
        have T3 := Lib.hid t3
        have G3 := Lib.hid (grown_trans G2.out g3)
        clear t3 g3
        go_wp2
        go_ret
        rw [HE.out]
        exact ⟨rfl, T3.out, G3.out⟩
      · have HE := Lib.hid (show bumped c s = more c s by rw [hbb, if_neg hS])
        clear hbb
        go_wp2
        go_ret
        rw [HE.out]
        exact ⟨rfl, T2.out, G2.out⟩
end Go.Proofs.YtjbfgajognnmiaaDoor

/- slices.Clone of a slice of integers; Clone: the same counts in blocks of their own. -/
namespace Go.Proofs.YtjbfgajognnmiaaDoor
open Go.RowKit

theorem empty_ints (w : World) : (w.alloc (.cells #[] 3)).ownsRow w.heap.size 3 1 (.slice (some ⟨w.heap.size, 0, none⟩) 0 0) 0 [] :=
  World.ownsRow_made w #[] 0 (Nat.le_refl _) (by unfold maxLen; omega) (by simp)

theorem eqlIn_nil (d : Nat) (w : World) (a : Option Addr) (n c : Nat) : (Op.equalIn (d + 1) 22 (.slice a n c) (.slice none 0 0)).run Tryd.prog w = .ok a.isNone w := by
  cases a <;> simp [Op.equalIn, run_underlying Tryd.underlying22]
theorem eql_nil (w : World) (a : Option Addr) (n c : Nat) : (binOp .eql 22 (.slice a n c) (.slice none 0 0)).run Tryd.prog w = .ok (.bool a.isNone) w := by
  have h : (Op.equal 22 (.slice a n c) (.slice none 0 0)).run Tryd.prog w = .ok a.isNone w := eqlIn_nil 9999 w a n c
  simp [binOp, h]

theorem cloneInts_any (w : World) (ad : Addr) (n c : Nat) (xs : List Int) (h : Reads w (some ad) n (ints xs)) (hn : n ≤ 1000000) :
    Calls Tryd.prog 81 #[.slice (some ad) n c] w fun e w' => ∃ v, e = .returned v ∧ w'.ownsRow w.heap.size 3 1 v n (ints xs) ∧ Below w.heap.size w w' := by
  obtain ⟨i0, hi, hz0, hz1, hz2⟩ := info_parts Tryd.infoInt
  have HI := Lib.hid hi
  have HZ := Lib.hid (And.intro hz0 (And.intro hz1 hz2))
  have N1 := Lib.hid (empty_ints w)
  have B1 := Lib.hid ((Below.refl w.heap.size w).alloc (Nat.le_refl _) (.cells #[] 3))
  have HR := Lib.hid (h.below ((Below.refl w.heap.size w).alloc (Nat.le_refl _) (.cells #[] 3)))
  clear h hi hz0 hz1 hz2
  have hq := eql_nil w (some ad) n c
  simp only [Option.isNone_some] at hq
  go_enter Tryd.func81, Tryd.ntmps81
  go_wp2_with (at_builtin; refine wpList_append_reads rfl (.tmp 5) (.tmp 6) 22 rfl w.heap.size 3 i0 (.int .i64 0) 8 Tryd.underlying22 HI.out HZ.out rfl (.slice (some ⟨w.heap.size, 0, none⟩) 0 0) 0 [] rfl N1.out (some ad) n c (ints xs) rfl HR.out (fun e => (nomatch e)) (ints_one xs) ?b1 ?b2 ?b3 ?_)
  case b1 => unfold maxLen; omega
  case b2 => omega
  case b3 => simp
  intro v' w2 hown hgr
  have O := Lib.hid (show w2.ownsRow w.heap.size 3 1 v' n (ints xs) by simpa using hown)
  have B2 := Lib.hid (own_grown_below B1.out hgr B1.out.size (fun k hk => by simp [Value.ownBlock] at hk; omega))
  clear hown hgr
  go_wp2
  go_ret
  exact ⟨v', rfl, O.out, B2.out⟩

/-- A slice of integers in a block of its own. -/
theorem own_row {w : World} {B n : Nat} {v : Value} {xs : List Int} (h : w.ownsRow B 3 1 v n (ints xs)) (h0 : 0 < n) : ∃ q cap rest, v = .slice (some ⟨q, 0, none⟩) n cap ∧ B ≤ q ∧ n ≤ cap ∧ w.heap[q]? = some (.cells (ints xs ++ rest).toArray 3 (0, 0)) := by
  rcases h.2 with ⟨_, h2⟩ | ⟨q, cap, cur, h1, hq, hh, hc, hm, hs, ht⟩
  · omega
  · refine ⟨q, cap, cur.toList.drop n, h1, hq, hc, ?_⟩
    rw [Nat.mul_one] at ht
    rw [hh, ← ht, List.take_append_drop]

theorem TIs.reads {w : World} {g q cap : Nat} {c : List Int} (h : TIs w g q cap c) : Reads w (some ⟨q, 0, none⟩) c.length (ints (ends c)) := by
  obtain ⟨r, hr⟩ := h.row
  refine ⟨by rw [length_ints, length_ends], fun _ => ⟨_, rfl, fun j u hj => ?_⟩⟩
  rw [add_zero_addr, cell_in hr, List.getElem?_toArray, List.getElem?_append_left (List.getElem?_eq_some_iff.1 hj).1]
  exact hj

theorem clone_any (w : World) (g q cap : Nat) (c : List Int) (h : TIs w g q cap c) (h0 : 0 < c.length) (hm : c.length ≤ 256) :
    Calls Tryd.prog 71 #[.pointer (some ⟨g, 0, none⟩)] w fun e w' => ∃ g1 q1 cap1, e = .returned (.pointer (some ⟨g1, 0, none⟩)) ∧ TIs w' g1 q1 cap1 c ∧ w.heap.size ≤ g1 ∧ w.heap.size ≤ q1 ∧ Below w.heap.size w w' := by
  have c0 := h.head
  have K := Lib.hid (cloneInts_any w ⟨q, 0, none⟩ c.length cap (ends c) h.reads (by omega))
  clear h
  obtain ⟨n, hn⟩ : ∃ n, c.length = n := ⟨_, rfl⟩
  rw [hn] at c0 K h0
  have HN := Lib.hid hn
  clear hn hm
  go_enter Tryd.func71, Tryd.ntmps71
  go_wp2_with fail
  refine K.out.mono ?_
  rintro e w1 ⟨v, rfl, hown, b1⟩
  obtain ⟨q1, cap1, rest, rfl, hq, _, hh⟩ := own_row hown h0
  have B1 := Lib.hid b1
  have HH := Lib.hid hh
  clear hown b1 hh
  go_wp2
  go_ret
  refine ⟨w1.heap.size, q1, cap1, rfl, ⟨?_, rest, ?_⟩, B1.out.size, hq, B1.out.alloc B1.out.size _⟩
  · rw [heap_alloc_new, HN.out]
  · rw [Below.heap_alloc _ _ _ (heap_lt HH.out), HH.out]

theorem clone_nil (w : World) : Calls Tryd.prog 71 #[.pointer none] w fun e w' => e = .returned (.pointer none) ∧ Reading w w' := by
  go_enter Tryd.func71, Tryd.ntmps71
  go_wp2
  go_ret
  exact ⟨rfl, 0, rfl⟩
end Go.Proofs.YtjbfgajognnmiaaDoor
