/- Layer 9: how many triangles there are at a vertex, and where to begin. -/
import Derived.Test.YtelbmjbjpgcdaaaCePinP
namespace Go.Proofs.Ytelbmjbjpgcdaaa
open Go.RowKit

/-- Triangle a has been met at v, when the triangles below k and m corners of k have. -/
def met9 (tl : List Tr) (k m : Nat) (v : Int) (a : Nat) : Prop := (a < k ∧ hasV (tl.getD a z3) v) ∨ (a = k ∧ ∃ j, j < m ∧ vx (tl.getD k z3) j = v)
/-- Nothing leads to triangle a around v. -/
def leads0 (tl : List Tr) (v : Int) (a : Nat) : Prop := ∀ x ∈ atV tl v, stepV tl v x ≠ some a
def cnt9 (tl : List Tr) (k m : Nat) (v : Int) : Nat := ((List.range k).filter fun a => decide (hasV (tl.getD a z3) v)).length + ((List.range m).filter fun j => decide (vx (tl.getD k z3) j = v)).length
structure Begin (tl : List Tr) (N k m : Nat) (cl sl : List Int) : Prop where
  l1 : cl.length = N
  l2 : sl.length = N
  cnt : ∀ v, v < N → cl.getD v 0 = (cnt9 tl k m (v : Int) : Int)
  at' : ∀ v, v < N → 0 < cnt9 tl k m (v : Int) → ∃ a : Nat, sl.getD v 0 = (a : Int) ∧ met9 tl k m v a ∧ (leads0 tl v a ∨ ∀ b, met9 tl k m v b → ¬ leads0 tl v b)
theorem Begin.start (tl : List Tr) (N : Nat) : Begin tl N 0 0 (List.replicate N 0) (List.replicate N 0) := by
  have g : ∀ v, v < N → (List.replicate N (0 : Int)).getD v 0 = 0 := fun v hv => by rw [List.getD_eq_getElem?_getD, List.getElem?_replicate, if_pos hv]; rfl
  exact ⟨List.length_replicate, List.length_replicate, fun v hv => by rw [g v hv]; rfl, fun v hv h => absurd h (by simp [cnt9])⟩
theorem cnt9_corner {tl : List Tr} {k m : Nat} (v : Int) : cnt9 tl k (m + 1) v = cnt9 tl k m v + (if vx (tl.getD k z3) m = v then 1 else 0) := by
  unfold cnt9
  rw [List.range_succ, List.filter_append, List.length_append, List.filter_cons]
  by_cases h : vx (tl.getD k z3) m = v
  · rw [if_pos (by simpa using h), if_pos h]; simp; omega
  · rw [if_neg (by simpa using h), if_neg h]; simp
theorem met9_corner {tl : List Tr} {k m : Nat} {v : Int} {a : Nat} : met9 tl k (m + 1) v a ↔ met9 tl k m v a ∨ (a = k ∧ vx (tl.getD k z3) m = v) := by
  unfold met9
  constructor
  · rintro (h | ⟨h, j, hj, e⟩)
    · exact .inl (.inl h)
    · by_cases hjm : j = m
      · subst hjm; exact .inr ⟨h, e⟩
      · exact .inl (.inr ⟨h, j, by omega, e⟩)
  · rintro ((h | ⟨h, j, hj, e⟩) | ⟨h, e⟩)
    · exact .inl h
    · exact .inr ⟨h, j, by omega, e⟩
    · exact .inr ⟨h, m, by omega, e⟩
theorem met9_none {tl : List Tr} {k m : Nat} {v : Int} (h : cnt9 tl k m v = 0) (a : Nat) : ¬ met9 tl k m v a := by
  unfold cnt9 at h
  have h1 := List.eq_nil_of_length_eq_zero (show ((List.range k).filter fun a => decide (hasV (tl.getD a z3) v)).length = 0 by omega)
  have h2 := List.eq_nil_of_length_eq_zero (show ((List.range m).filter fun j => decide (vx (tl.getD k z3) j = v)).length = 0 by omega)
  rw [List.filter_eq_nil_iff] at h1 h2
  rintro (⟨ha, hv⟩ | ⟨_, j, hj, e⟩)
  · exact h1 a (List.mem_range.2 ha) (decide_eq_true hv)
  · exact h2 j (List.mem_range.2 hj) (decide_eq_true e)
theorem getD_set9 {l : List Int} {i j : Nat} {x : Int} (hi : i < l.length) : (l.set i x).getD j 0 = if i = j then x else l.getD j 0 := by
  rw [List.getD_eq_getElem?_getD, List.getElem?_set, List.getD_eq_getElem?_getD]
  by_cases e : i = j
  · rw [if_pos e, if_pos e, if_pos hi]; rfl
  · rw [if_neg e, if_neg e]
/-- A corner of k at v: v is counted, and k is where to begin if it's the first, or nothing leads to it. -/
theorem Begin.corner {tl : List Tr} {N k m v : Nat} {cl sl : List Int} (h : Begin tl N k m cl sl) (hv : v < N) (hx : vx (tl.getD k z3) m = (v : Int)) {sl' : List Int} (hs : (sl' = sl.set v (k : Int) ∧ (cnt9 tl k m (v : Int) = 0 ∨ leads0 tl v k)) ∨ (sl' = sl ∧ cnt9 tl k m (v : Int) ≠ 0 ∧ ¬ leads0 tl v k)) :
    Begin tl N k (m + 1) (cl.set v (cl.getD v 0 + 1)) sl' := by
  refine ⟨by rw [List.length_set]; exact h.l1, ?_, fun u hu => ?_, fun u hu hc => ?_⟩
  · rcases hs with ⟨rfl, _⟩ | ⟨rfl, _⟩
    · rw [List.length_set]; exact h.l2
    · exact h.l2
  · rw [getD_set9 (by rw [h.l1]; exact hv), cnt9_corner, hx]
    by_cases e : v = u
    · subst e
      rw [if_pos rfl, if_pos rfl, h.cnt v hv]; omega
    · rw [if_neg e, if_neg (by omega), h.cnt u hu]; omega
  · by_cases e : v = u
    · subst e
      rcases hs with ⟨rfl, h1⟩ | ⟨rfl, h1, h2⟩
      · refine ⟨k, by rw [getD_set9 (by rw [h.l2]; exact hv), if_pos rfl], met9_corner.2 (.inr ⟨rfl, hx⟩), ?_⟩
        by_cases hk : leads0 tl v k
        · exact .inl hk
        · have h0 : cnt9 tl k m (v : Int) = 0 := h1.resolve_right hk
          refine .inr fun b hb => ?_
          rcases met9_corner.1 hb with hb | ⟨rfl, _⟩
          · exact absurd hb (met9_none h0 b)
          · exact hk
      · obtain ⟨a, e1, e2, e3⟩ := h.at' v hv (by omega)
        refine ⟨a, e1, met9_corner.2 (.inl e2), e3.imp id fun e3 b hb => ?_⟩
        rcases met9_corner.1 hb with hb | ⟨rfl, _⟩
        · exact e3 b hb
        · exact h2
    · have hsu : sl'.getD u 0 = sl.getD u 0 := by
        rcases hs with ⟨rfl, _⟩ | ⟨rfl, _⟩
        · rw [getD_set9 (by rw [h.l2]; exact hv), if_neg e]
        · rfl
      have hne : ¬ vx (tl.getD k z3) m = (u : Int) := by rw [hx]; omega
      rw [cnt9_corner, if_neg hne] at hc
      obtain ⟨a, e1, e2, e3⟩ := h.at' u hu hc
      refine ⟨a, by rw [hsu]; exact e1, met9_corner.2 (.inl e2), e3.imp id fun e3 b hb => ?_⟩
      rcases met9_corner.1 hb with hb | ⟨_, hb⟩
      · exact e3 b hb
      · exact absurd hb hne
theorem corners_len {t : Tr} (hl : ¬ loopT t) (v : Int) : ((List.range 3).filter fun j => decide (vx t j = v)).length = if hasV t v then 1 else 0 := by
  have n1 : t.1 ≠ t.2.1 := fun e => hl (.inl e)
  have n2 : t.2.1 ≠ t.2.2 := fun e => hl (.inr (.inl e))
  have n3 : t.2.2 ≠ t.1 := fun e => hl (.inr (.inr e))
  rw [show List.range 3 = [0, 1, 2] from rfl]
  simp only [List.filter_cons, List.filter_nil, vx]
  unfold hasV
  by_cases h0 : t.1 = v
  · have h1 : ¬ t.2.1 = v := fun h => n1 (h0.trans h.symm)
    have h2 : ¬ t.2.2 = v := fun h => n3 (h.trans h0.symm)
    simp [h0, h1, h2]
  · by_cases h1 : t.2.1 = v
    · have h2 : ¬ t.2.2 = v := fun h => n2 (h1.trans h.symm)
      simp [h0, h1, h2]
    · by_cases h2 : t.2.2 = v
      · simp [h0, h1, h2]
      · simp [h0, h1, h2]
theorem Begin.next {tl : List Tr} {N k : Nat} {cl sl : List Int} (h : Begin tl N k 3 cl sl) (hl : ¬ loopT (tl.getD k z3)) : Begin tl N (k + 1) 0 cl sl := by
  have hc : ∀ v : Int, cnt9 tl (k + 1) 0 v = cnt9 tl k 3 v := fun v => by
    unfold cnt9
    rw [corners_len hl v, List.range_succ, List.filter_append, List.length_append, List.filter_cons]
    by_cases hv : hasV (tl.getD k z3) v
    · rw [if_pos (decide_eq_true hv), if_pos hv]; simp
    · rw [if_neg (by simpa using hv), if_neg hv]; simp
  have hm : ∀ (v : Int) a, met9 tl (k + 1) 0 v a ↔ met9 tl k 3 v a := fun v a => by
    unfold met9
    constructor
    · rintro (⟨h1, h2⟩ | ⟨_, j, hj, _⟩)
      · by_cases hak : a = k
        · subst hak
          exact .inr ⟨rfl, vx_has.1 h2⟩
        · exact .inl ⟨by omega, h2⟩
      · omega
    · rintro (⟨h1, h2⟩ | ⟨rfl, h2⟩)
      · exact .inl ⟨by omega, h2⟩
      · exact .inl ⟨by omega, vx_has.2 h2⟩
  refine ⟨h.l1, h.l2, fun v hv => by rw [hc]; exact h.cnt v hv, fun v hv h0 => ?_⟩
  obtain ⟨a, e1, e2, e3⟩ := h.at' v hv (by rwa [hc] at h0)
  exact ⟨a, e1, (hm _ _).2 e2, e3.imp id fun e3 b hb => e3 b ((hm _ _).1 hb)⟩
/-- When all triangles have been met. -/
theorem Begin.done {tl : List Tr} {N : Nat} {cl sl : List Int} (h : Begin tl N tl.length 0 cl sl) {v : Nat} (hv : v < N) (hu : ∃ t ∈ tl, hasV t (v : Int)) :
    cl.getD v 0 = ((atV tl v).length : Int) ∧ ∃ a : Nat, sl.getD v 0 = (a : Int) ∧ a ∈ atV tl v ∧ ((∀ x ∈ atV tl v, stepV tl v x ≠ some a) ∨ ∀ y ∈ atV tl v, ∃ x ∈ atV tl v, stepV tl v x = some y) := by
  have hc : cnt9 tl tl.length 0 (v : Int) = (atV tl v).length := by unfold cnt9 atV; simp
  have hm : ∀ a, met9 tl tl.length 0 v a ↔ a ∈ atV tl v := fun a => by
    rw [mem_atV]
    unfold met9
    constructor
    · rintro (h1 | ⟨_, j, hj, _⟩)
      · exact h1
      · omega
    · exact .inl
  have h0 : 0 < cnt9 tl tl.length 0 (v : Int) := by
    obtain ⟨t, ht, htv⟩ := hu
    obtain ⟨i, hi, rfl⟩ := mem3_getD ht
    rw [hc]
    exact List.length_pos_of_mem (mem_atV.2 ⟨hi, htv⟩)
  refine ⟨by rw [h.cnt v hv, hc], ?_⟩
  obtain ⟨a, e1, e2, e3⟩ := h.at' v hv h0
  refine ⟨a, e1, (hm a).1 e2, e3.imp id fun e3 y hy => ?_⟩
  have h4 := e3 y ((hm y).2 hy)
  refine Classical.byContradiction fun hno => h4 fun x hx hs => hno ⟨x, hx, hs⟩
end Go.Proofs.Ytelbmjbjpgcdaaa
