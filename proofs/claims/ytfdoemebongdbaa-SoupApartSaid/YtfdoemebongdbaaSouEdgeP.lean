/- Layer 8: edges, as plain lists. -/
import Derived.Test.YtfdoemebongdbaaSouMap
import Derived.Test.YtfdoemebongdbaaSouSort
namespace Go.Proofs.Ytfdoemebongdbaa
open Go.RowKit

def nrm (a b : Int) : Ed := (min a b, max a b)
def sides (t : Tr) : List Ed := [nrm t.1 t.2.1, nrm t.2.1 t.2.2, nrm t.2.2 t.1]
def addE (S : List Ed) (e : Ed) : List Ed := if S.contains e then S else S ++ [e]
def dedE (S : List Ed) (xs : List Ed) : List Ed := xs.foldl addE S
def allSides (l : List Tr) : List Ed := l.flatMap sides
theorem addE_mem (S : List Ed) (e x : Ed) : x ∈ addE S e ↔ x ∈ S ∨ x = e := by
  unfold addE
  by_cases h : S.contains e = true
  · rw [if_pos h]
    have := List.contains_iff_mem.1 h
    constructor
    · exact .inl
    · rintro (h | rfl)
      · exact h
      · exact this
  · rw [if_neg h]; simp
theorem addE_nodup {S : List Ed} (h : S.Nodup) (e : Ed) : (addE S e).Nodup := by
  unfold addE
  by_cases hc : S.contains e = true
  · rw [if_pos hc]; exact h
  · rw [if_neg hc, List.nodup_append]
    refine ⟨h, by simp, fun a ha b hb => ?_⟩
    simp at hb
    subst hb
    rintro rfl
    exact hc (List.contains_iff_mem.2 ha)
theorem dedE_mem (xs : List Ed) : ∀ (S : List Ed) (x : Ed), x ∈ dedE S xs ↔ x ∈ S ∨ x ∈ xs := by
  induction xs with
  | nil => intro S x; simp [dedE]
  | cons e xs ih =>
    intro S x
    show x ∈ dedE (addE S e) xs ↔ _
    rw [ih, addE_mem]
    simp only [List.mem_cons]
    constructor
    · rintro ((h | h) | h)
      · exact .inl h
      · exact .inr (.inl h)
      · exact .inr (.inr h)
    · rintro (h | h | h)
      · exact .inl (.inl h)
      · exact .inl (.inr h)
      · exact .inr h
theorem dedE_nodup (xs : List Ed) : ∀ (S : List Ed), S.Nodup → (dedE S xs).Nodup := by
  induction xs with
  | nil => intro S h; exact h
  | cons e xs ih => intro S h; exact ih _ (addE_nodup h e)
theorem addE_len (S : List Ed) (e : Ed) : (addE S e).length ≤ S.length + 1 := by
  unfold addE
  split <;> simp
theorem dedE_len (xs : List Ed) : ∀ (S : List Ed), (dedE S xs).length ≤ S.length + xs.length := by
  induction xs with
  | nil => intro S; simp [dedE]
  | cons e xs ih =>
    intro S
    have h1 := ih (addE S e)
    have h2 := addE_len S e
    show (dedE (addE S e) xs).length ≤ _
    simp only [List.length_cons]
    omega
theorem dedE_snoc (S xs : List Ed) (e : Ed) : dedE S (xs ++ [e]) = addE (dedE S xs) e := by simp [dedE]
theorem dedE_append (S xs ys : List Ed) : dedE S (xs ++ ys) = dedE (dedE S xs) ys := by simp [dedE]
theorem allSides_len (l : List Tr) : (allSides l).length = 3 * l.length := by
  induction l with
  | nil => rfl
  | cons t l ih => simp only [allSides, List.flatMap_cons, List.length_append, List.length_cons] at *; rw [ih]; simp [sides]; omega
theorem allSides_snoc (l : List Tr) (t : Tr) : allSides (l ++ [t]) = allSides l ++ sides t := by simp [allSides]
/-- The edges of triangles: ascending, each once. -/
def IsEdges (l : List Tr) (es : List Ed) : Prop := es.Pairwise ltE ∧ ∀ e, e ∈ es ↔ e ∈ allSides l
theorem ltE_irrefl (a : Ed) : ¬ ltE a a := by unfold ltE; omega
theorem ltE_trans {a b c : Ed} (h : ltE a b) (k : ltE b c) : ltE a c := by unfold ltE at *; omega
theorem ltE_total (a b : Ed) : ltE a b ∨ a = b ∨ ltE b a := by
  unfold ltE
  rcases Int.lt_trichotomy a.1 b.1 with h | h | h
  · exact .inl (.inl h)
  · rcases Int.lt_trichotomy a.2 b.2 with k | k | k
    · exact .inl (.inr ⟨h, k⟩)
    · exact .inr (.inl (Prod.ext h k))
    · exact .inr (.inr (.inr ⟨h.symm, k⟩))
  · exact .inr (.inr (.inl h))
/-- An ascending list is told by its members. -/
theorem asc_unique : ∀ {a b : List Ed}, a.Pairwise ltE → b.Pairwise ltE → (∀ e, e ∈ a ↔ e ∈ b) → a = b
  | [], [], _, _, _ => rfl
  | [], y :: b, _, _, h => absurd ((h y).2 (List.mem_cons_self ..)) (by simp)
  | x :: a, [], _, _, h => absurd ((h x).1 (List.mem_cons_self ..)) (by simp)
  | x :: a, y :: b, ha, hb, h => by
    rw [List.pairwise_cons] at ha hb
    have hxy : x = y := by
      rcases List.mem_cons.1 ((h x).1 (List.mem_cons_self ..)) with e | e
      · exact e
      · rcases List.mem_cons.1 ((h y).2 (List.mem_cons_self ..)) with e' | e'
        · exact e'.symm
        · exact absurd (ltE_trans (ha.1 y e') (hb.1 x e)) (ltE_irrefl x)
    subst hxy
    congr 1
    refine asc_unique ha.2 hb.2 fun e => ?_
    constructor
    · intro he
      rcases List.mem_cons.1 ((h e).1 (List.mem_cons_of_mem _ he)) with e1 | e1
      · subst e1; exact absurd (ha.1 _ he) (ltE_irrefl _)
      · exact e1
    · intro he
      rcases List.mem_cons.1 ((h e).2 (List.mem_cons_of_mem _ he)) with e1 | e1
      · subst e1; exact absurd (hb.1 _ he) (ltE_irrefl _)
      · exact e1
theorem IsEdges.one {l l' : List Tr} {a b : List Ed} (ha : IsEdges l a) (hb : IsEdges l' b) (h : ∀ e, e ∈ allSides l ↔ e ∈ allSides l') : a = b :=
  asc_unique ha.1 hb.1 fun e => by rw [ha.2, hb.2, h]
/-- What is sorted, and was each once, is ascending. -/
theorem sorted_isEdges {l : List Tr} {L' L : List Ed} (hp : L'.Perm L) (hs : L'.Pairwise (fun a b => ¬ ltE b a)) (hn : L.Nodup) (hm : ∀ e, e ∈ L ↔ e ∈ allSides l) : IsEdges l L' := by
  refine ⟨?_, fun e => by rw [hp.mem_iff, hm]⟩
  have hn' : L'.Nodup := hp.nodup_iff.2 hn
  have := hs.and hn'
  refine this.imp fun {a b} h => ?_
  rcases ltE_total a b with k | k | k
  · exact k
  · exact absurd k h.2
  · exact absurd k h.1
end Go.Proofs.Ytfdoemebongdbaa
