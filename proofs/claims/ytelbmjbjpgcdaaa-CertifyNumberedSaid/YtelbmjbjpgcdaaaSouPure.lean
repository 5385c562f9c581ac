/- Layer 8: soups as plain lists: what fits, what is renamed, picked, joined. -/
import Derived.Test.YtelbmjbjpgcdaaaBase
namespace Go.Proofs.Ytelbmjbjpgcdaaa

/-- A triangle. -/
abbrev Tr := Int × Int × Int
abbrev z3 : Tr := (0, 0, 0)
abbrev Ed := Int × Int
abbrev z2 : Ed := (0, 0)
def inN (N x : Int) : Prop := 0 ≤ x ∧ x < N
instance (N x : Int) : Decidable (inN N x) := inferInstanceAs (Decidable (_ ∧ _))
def okTri (N : Int) (t : Tr) : Prop := inN N t.1 ∧ inN N t.2.1 ∧ inN N t.2.2 ∧ t.1 ≠ t.2.1 ∧ t.2.1 ≠ t.2.2 ∧ t.1 ≠ t.2.2
instance (N : Int) (t : Tr) : Decidable (okTri N t) := inferInstanceAs (Decidable (_ ∧ _))
def Fit (N : Int) (l : List Tr) : Prop := 0 ≤ N ∧ N ≤ 4096 ∧ l.length ≤ 8192 ∧ ∀ t ∈ l, okTri N t
instance (N : Int) (l : List Tr) : Decidable (Fit N l) := inferInstanceAs (Decidable (_ ∧ _))
def allIn (N : Int) (l : List Int) : Prop := ∀ x ∈ l, inN N x
instance (N : Int) (l : List Int) : Decidable (allIn N l) := inferInstanceAs (Decidable (∀ x ∈ l, _))

theorem getD3_mem {l : List Tr} {i : Nat} (h : i < l.length) : l.getD i z3 ∈ l := by
  rw [List.getD_eq_getElem?_getD, List.getElem?_eq_getElem h]; exact List.getElem_mem h
theorem mem3_getD {l : List Tr} {x : Tr} (h : x ∈ l) : ∃ i, i < l.length ∧ l.getD i z3 = x := by
  obtain ⟨i, hi, rfl⟩ := List.mem_iff_getElem.1 h
  exact ⟨i, hi, by rw [List.getD_eq_getElem?_getD, List.getElem?_eq_getElem hi]; rfl⟩
theorem getDi_mem {l : List Int} {i : Nat} (h : i < l.length) : l.getD i 0 ∈ l := by
  rw [List.getD_eq_getElem?_getD, List.getElem?_eq_getElem h]; exact List.getElem_mem h
theorem memi_getD {l : List Int} {x : Int} (h : x ∈ l) : ∃ i, i < l.length ∧ l.getD i 0 = x := by
  obtain ⟨i, hi, rfl⟩ := List.mem_iff_getElem.1 h
  exact ⟨i, hi, by rw [List.getD_eq_getElem?_getD, List.getElem?_eq_getElem hi]; rfl⟩
theorem mem2_getD {l : List Ed} {x : Ed} (h : x ∈ l) : ∃ i, i < l.length ∧ l.getD i z2 = x := by
  obtain ⟨i, hi, rfl⟩ := List.mem_iff_getElem.1 h
  exact ⟨i, hi, by rw [List.getD_eq_getElem?_getD, List.getElem?_eq_getElem hi]; rfl⟩
theorem ext_getD {α : Type} {z : α} {a b : List α} (hl : a.length = b.length) (h : ∀ i, i < a.length → a.getD i z = b.getD i z) : a = b := by
  refine List.ext_getElem hl fun i h1 h2 => ?_
  have := h i h1
  rwa [List.getD_eq_getElem?_getD, List.getD_eq_getElem?_getD, List.getElem?_eq_getElem h1, List.getElem?_eq_getElem h2] at this

theorem told_t {p : Prop} [Decidable p] (h : p) : Ending.returned (.bool true) = .returned (.bool (decide p)) := by rw [decide_eq_true h]
theorem told_f {p : Prop} [Decidable p] (h : ¬ p) : Ending.returned (.bool false) = .returned (.bool (decide p)) := by rw [decide_eq_false h]

/-- Flat cells. -/
def flat3 (l : List Tr) : List Int := l.flatMap fun t => [t.1, t.2.1, t.2.2]
def flat2 (l : List Ed) : List Int := l.flatMap fun t => [t.1, t.2]
theorem length_flat3 (l : List Tr) : (flat3 l).length = 3 * l.length := by
  induction l with
  | nil => rfl
  | cons t l ih => simp only [flat3, List.flatMap_cons, List.length_append, List.length_cons, List.length_nil] at *; omega
theorem length_flat2 (l : List Ed) : (flat2 l).length = 2 * l.length := by
  induction l with
  | nil => rfl
  | cons t l ih => simp only [flat2, List.flatMap_cons, List.length_append, List.length_cons, List.length_nil] at *; omega
theorem flat3_append (a b : List Tr) : flat3 (a ++ b) = flat3 a ++ flat3 b := by simp [flat3]
theorem flat2_append (a b : List Ed) : flat2 (a ++ b) = flat2 a ++ flat2 b := by simp [flat2]
theorem flat3_at : ∀ (l : List Tr) (i : Nat), i < l.length → (flat3 l)[3 * i]? = some (l.getD i z3).1 ∧ (flat3 l)[3 * i + 1]? = some (l.getD i z3).2.1 ∧ (flat3 l)[3 * i + 2]? = some (l.getD i z3).2.2
  | t :: l, 0, _ => by simp [flat3]
  | t :: l, i + 1, h => by
    have := flat3_at l i (by simpa using h)
    have e : flat3 (t :: l) = t.1 :: t.2.1 :: t.2.2 :: flat3 l := by simp [flat3]
    rw [e, show 3 * (i + 1) = 3 * i + 1 + 1 + 1 by omega]
    simp only [List.getElem?_cons_succ, List.getD_cons_succ, show 3 * i + 1 + 1 + 1 + 1 = (3 * i + 1) + 1 + 1 + 1 by omega, show 3 * i + 1 + 1 + 1 + 2 = (3 * i + 2) + 1 + 1 + 1 by omega]
    exact this
theorem flat2_at : ∀ (l : List Ed) (i : Nat), i < l.length → (flat2 l)[2 * i]? = some (l.getD i z2).1 ∧ (flat2 l)[2 * i + 1]? = some (l.getD i z2).2
  | t :: l, 0, _ => by simp [flat2]
  | t :: l, i + 1, h => by
    have := flat2_at l i (by simpa using h)
    have e : flat2 (t :: l) = t.1 :: t.2 :: flat2 l := by simp [flat2]
    rw [e, show 2 * (i + 1) = 2 * i + 1 + 1 by omega]
    simp only [List.getElem?_cons_succ, List.getD_cons_succ]
    exact this

/-- A list that has each number below N once. -/
def IsPerm (N : Int) (to : List Int) : Prop := (to.length : Int) = N ∧ allIn N to ∧ to.Nodup
instance (N : Int) (to : List Int) : Decidable (IsPerm N to) := inferInstanceAs (Decidable (_ ∧ _))

/-- A triangle by other numbers; mirrored; turned to its corner k. -/
def renT (to : List Int) (t : Tr) : Tr := (to.getD t.1.toNat 0, to.getD t.2.1.toNat 0, to.getD t.2.2.toNat 0)
def mirT (t : Tr) : Tr := (t.1, t.2.2, t.2.1)
def rotT (t : Tr) (k : Nat) : Tr := if k = 0 then t else if k = 1 then (t.2.1, t.2.2, t.1) else (t.2.2, t.1, t.2.1)
end Go.Proofs.Ytelbmjbjpgcdaaa
