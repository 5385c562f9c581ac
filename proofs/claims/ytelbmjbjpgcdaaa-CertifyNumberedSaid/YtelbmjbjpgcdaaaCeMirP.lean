/- Layer 9: which triangles have the same three vertices, told by an edge. -/
import Derived.Test.YtelbmjbjpgcdaaaCeTwP
namespace Go.Proofs.Ytelbmjbjpgcdaaa
open Go.RowKit

theorem vset {t u : Tr} (ht : ¬ loopT t) (h : mirrd t u) : mirrd u t := by
  obtain ⟨h0, h1, h2⟩ := h
  unfold loopT at ht
  have n1 : t.1 ≠ t.2.1 := fun e => ht (.inl e)
  have n2 : t.2.1 ≠ t.2.2 := fun e => ht (.inr (.inl e))
  have n3 : t.2.2 ≠ t.1 := fun e => ht (.inr (.inr e))
  unfold mirrd hasV at *
  rcases h0 with h0 | h0 | h0 <;> rcases h1 with h1 | h1 | h1 <;> rcases h2 with h2 | h2 | h2 <;> first
    | exact absurd (h0.symm.trans h1) n1
    | exact absurd (h1.symm.trans h2) n2
    | exact absurd (h2.symm.trans h0) n3
    | simp [h0, h1, h2]
/-- Two triangles of the same vertices have each of their edges in common, or each the other way round. -/
theorem same_vertices {t u : Tr} (ht : ¬ loopT t) (hu : ¬ loopT u) (h : mirrd t u) (hn : ¬ twice t u) : hasE t u.2.1 u.1 ∧ hasV t u.2.2 := by
  have h' := vset ht h
  refine ⟨?_, h'.2.2⟩
  obtain ⟨h0, h1, _⟩ := h'
  have n1 : u.1 ≠ u.2.1 := fun e => hu (.inl e)
  have hno : ¬ hasE t u.1 u.2.1 := fun e => hn (twice_iff.2 ⟨_, _, e, .inl ⟨rfl, rfl⟩⟩)
  unfold hasV at h0 h1
  unfold hasE at *
  rcases h0 with h0 | h0 | h0 <;> rcases h1 with h1 | h1 | h1
  · exact absurd (h0.symm.trans h1) n1
  · exact absurd (.inl ⟨h0, h1⟩) hno
  · exact .inr (.inr ⟨h1, h0⟩)
  · exact .inl ⟨h1, h0⟩
  · exact absurd (h0.symm.trans h1) n1
  · exact absurd (.inr (.inl ⟨h0, h1⟩)) hno
  · exact absurd (.inr (.inr ⟨h0, h1⟩)) hno
  · exact .inr (.inl ⟨h1, h0⟩)
  · exact absurd (h0.symm.trans h1) n1
theorem edge_vertices {t u : Tr} (hu : ¬ loopT u) (h : hasE t u.2.1 u.1) (hv : hasV t u.2.2) : mirrd t u := by
  refine vset hu ⟨(hasE_hasV h).2, (hasE_hasV h).1, hv⟩
/-- A directed edge is had by one triangle alone: the one that the map tells. -/
theorem edge_one {tl : List Tr} (hn : tl.Pairwise fun t u => ¬ twice t u) {a : Nat} (ha : a < tl.length) {e : Ed} (he : hasE (tl.getD a z3) e.1 e.2) : lastV (edL tl (3 * tl.length)) e = some (a : Int) := by
  cases hv : lastV (edL tl (3 * tl.length)) e with
  | none =>
    obtain ⟨k, hk, h⟩ := edE_has.1 he
    exact absurd rfl (lastV_none hv _ (edL_mem.2 ⟨a, k, hk, by omega, h, rfl⟩))
  | some v =>
    obtain ⟨a', k', hk', hm, hx, rfl⟩ := edL_mem.1 (lastV_some hv)
    have : a' = a := Classical.byContradiction fun hne => notwice_ne hn (show a' < tl.length by omega) ha hne (twice_iff.2 ⟨_, _, edE_has.2 ⟨k', hk', hx⟩, he⟩)
    rw [this]
theorem edge_told {tl : List Tr} {v : Int} {e : Ed} (h : lastV (edL tl (3 * tl.length)) e = some v) : ∃ a : Nat, v = (a : Int) ∧ a < tl.length ∧ hasE (tl.getD a z3) e.1 e.2 := by
  obtain ⟨a, k, hk, hm, hx, rfl⟩ := edL_mem.1 (lastV_some h)
  exact ⟨a, rfl, by omega, edE_has.2 ⟨k, hk, hx⟩⟩
theorem edge_none {tl : List Tr} {e : Ed} (h : lastV (edL tl (3 * tl.length)) e = none) : ∀ a, a < tl.length → ¬ hasE (tl.getD a z3) e.1 e.2 := fun a ha he => by
  obtain ⟨k, hk, h'⟩ := edE_has.1 he
  exact lastV_none h _ (edL_mem.2 ⟨a, k, hk, by omega, h', rfl⟩) rfl
abbrev m9 : Tr → Tr → Bool := fun t u => decide (mirrd t u)
/-- Where there is none, none is told of b. -/
theorem mirr_no {tl : List Tr} (hl : ∀ t ∈ tl, ¬ loopT t) (hn : tl.Pairwise fun t u => ¬ twice t u) {b : Nat} (hb : b < tl.length) (h : ∀ a, a < b → ¬ (hasE (tl.getD a z3) (tl.getD b z3).2.1 (tl.getD b z3).1 ∧ hasV (tl.getD a z3) (tl.getD b z3).2.2)) : pairP 4 m9 tl (b + 1) 0 = pairP 4 m9 tl b 0 := by
  rw [pairP_next]
  exact pairP_skip fun i hi => decide_eq_false fun hm => h i hi (same_vertices (hl _ (getD3_mem (by omega))) (hl _ (getD3_mem hb)) hm (notwice_ne hn (by omega) hb (by omega)))
theorem mirr_yes {tl : List Tr} (hl : ∀ t ∈ tl, ¬ loopT t) (hn : tl.Pairwise fun t u => ¬ twice t u) {a b : Nat} (hab : a < b) (hb : b < tl.length) (he : hasE (tl.getD a z3) (tl.getD b z3).2.1 (tl.getD b z3).1) (hv : hasV (tl.getD a z3) (tl.getD b z3).2.2) :
    pairP 4 m9 tl (b + 1) 0 = pairP 4 m9 tl b 0 ++ [(4, (a : Int), (b : Int))] := by
  rw [pairP_next]
  unfold pairP
  have : rowP 4 m9 tl b b = [(4, (a : Int), (b : Int))] := by
    unfold rowP
    rw [filter_one hab]
    · rfl
    · intro i hi
      rw [decide_eq_true_iff]
      constructor
      · intro hm
        have h1 := same_vertices (hl _ (getD3_mem (by omega))) (hl _ (getD3_mem hb)) hm (notwice_ne hn (by omega) hb (by omega))
        exact Classical.byContradiction fun hne => notwice_ne hn (show i < tl.length by omega) (show a < tl.length by omega) hne (twice_iff.2 ⟨_, _, h1.1, he⟩)
      · rintro rfl
        exact edge_vertices (hl _ (getD3_mem hb)) he hv
  rw [this]
  have e0 : rowP 4 m9 tl b 0 = [] := rfl
  rw [e0, List.append_nil]
end Go.Proofs.Ytelbmjbjpgcdaaa
