/- Layer 8: edges, as plain lists. -/
import Derived.Test.YtoianhaocjiffaaSouMap
import Derived.Test.YtoianhaocjiffaaSouSort
import Derived.Test.YtoianhaocjiffaaGP
namespace Go.Proofs.Ytoianhaocjiffaa
open Go.RowKit

def addE (S : List Ed) (e : Ed) : List Ed := if S.contains e then S else S ++ [e]
def dedE (S : List Ed) (xs : List Ed) : List Ed := xs.foldl addE S
theorem addE_mem (S : List Ed) (e x : Ed) : x ∈ addE S e ↔ x ∈ S ∨ x = e := by
  unfold addE
  by_cases h : S.contains e = true
  · rw [if_pos h]
    have := List.contains_iff_mem.1 h
    constructor
    · exact .inl
    · rintro (h | rfl)
      · exact h
      · exact this
  · rw [if_neg h]; simp
theorem addE_nodup {S : List Ed} (h : S.Nodup) (e : Ed) : (addE S e).Nodup := by
  unfold addE
  by_cases hc : S.contains e = true
  · rw [if_pos hc]; exact h
  · rw [if_neg hc, List.nodup_append]
    refine ⟨h, by simp, fun a ha b hb => ?_⟩
    simp at hb
    subst hb
    rintro rfl
    exact hc (List.contains_iff_mem.2 ha)
theorem dedE_mem (xs : List Ed) : ∀ (S : List Ed) (x : Ed), x ∈ dedE S xs ↔ x ∈ S ∨ x ∈ xs := by
  induction xs with
  | nil => intro S x; simp [dedE]
  | cons e xs ih =>
    intro S x
    show x ∈ dedE (addE S e) xs ↔ _
    rw [ih, addE_mem]
    simp only [List.mem_cons]
    constructor
    · rintro ((h | h) | h)
      · exact .inl h
      · exact .inr (.inl h)
      · exact .inr (.inr h)
    · rintro (h | h | h)
      · exact .inl (.inl h)
      · exact .inl (.inr h)
      · exact .inr h
theorem dedE_nodup (xs : List Ed) : ∀ (S : List Ed), S.Nodup → (dedE S xs).Nodup := by
  induction xs with
  | nil => intro S h; exact h
  | cons e xs ih => intro S h; exact ih _ (addE_nodup h e)
theorem addE_len (S : List Ed) (e : Ed) : (addE S e).length ≤ S.length + 1 := by
  unfold addE
  split <;> simp
theorem dedE_len (xs : List Ed) : ∀ (S : List Ed), (dedE S xs).length ≤ S.length + xs.length := by
  induction xs with
  | nil => intro S; simp [dedE]
  | cons e xs ih =>
    intro S
    have h1 := ih (addE S e)
    have h2 := addE_len S e
    show (dedE (addE S e) xs).length ≤ _
    simp only [List.length_cons]
    omega
theorem dedE_snoc (S xs : List Ed) (e : Ed) : dedE S (xs ++ [e]) = addE (dedE S xs) e := by simp [dedE]
theorem dedE_append (S xs ys : List Ed) : dedE S (xs ++ ys) = dedE (dedE S xs) ys := by simp [dedE]
end Go.Proofs.Ytoianhaocjiffaa
