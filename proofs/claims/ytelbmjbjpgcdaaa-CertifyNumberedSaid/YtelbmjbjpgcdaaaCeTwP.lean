/- Layer 9: pairs of triangles, one by one; which pairs have a directed edge in common. -/
import Derived.Test.YtelbmjbjpgcdaaaCeEdges
import Derived.Test.YtelbmjbjpgcdaaaCeGrp
import Derived.Test.YtelbmjbjpgcdaaaCerMore
namespace Go.Proofs.Ytelbmjbjpgcdaaa
open Go.RowKit

def rowP (kd : Int) (q : Tr → Tr → Bool) (tl : List Tr) (b a : Nat) : List Wt := ((List.range a).filter fun i => q (tl.getD i z3) (tl.getD b z3)).map fun i => (kd, ((i : Nat) : Int), ((b : Nat) : Int))
/-- What is told of the triangles below b, and of b and those below a. -/
def pairP (kd : Int) (q : Tr → Tr → Bool) (tl : List Tr) (b a : Nat) : List Wt := (List.range b).flatMap (fun b' => rowP kd q tl b' b') ++ rowP kd q tl b a
theorem rowP_succ (kd : Int) (q : Tr → Tr → Bool) (tl : List Tr) (b a : Nat) : rowP kd q tl b (a + 1) = rowP kd q tl b a ++ (if q (tl.getD a z3) (tl.getD b z3) = true then [(kd, (a : Int), (b : Int))] else []) := by
  unfold rowP
  rw [List.range_succ, List.filter_append, List.map_append]
  congr 1
  rw [List.filter_cons]
  by_cases h : q (tl.getD a z3) (tl.getD b z3) = true
  · rw [if_pos h, if_pos h]; rfl
  · rw [if_neg h, if_neg h]; rfl
theorem pairP_yes {kd : Int} {q : Tr → Tr → Bool} {tl : List Tr} {b a : Nat} (h : q (tl.getD a z3) (tl.getD b z3) = true) : pairP kd q tl b (a + 1) = pairP kd q tl b a ++ [(kd, (a : Int), (b : Int))] := by
  unfold pairP; rw [rowP_succ, if_pos h, List.append_assoc]
theorem pairP_no {kd : Int} {q : Tr → Tr → Bool} {tl : List Tr} {b a : Nat} (h : q (tl.getD a z3) (tl.getD b z3) = false) : pairP kd q tl b (a + 1) = pairP kd q tl b a := by
  unfold pairP; rw [rowP_succ, if_neg (by rw [h]; decide), List.append_nil]
theorem pairP_next (kd : Int) (q : Tr → Tr → Bool) (tl : List Tr) (b : Nat) : pairP kd q tl (b + 1) 0 = pairP kd q tl b b := by
  unfold pairP
  rw [List.range_succ, List.flatMap_append, List.flatMap_singleton]
  exact List.append_nil _
theorem pairP_zero (kd : Int) (q : Tr → Tr → Bool) (tl : List Tr) : pairP kd q tl 0 0 = [] := rfl
theorem pairP_all (kd : Int) (q : Tr → Tr → Bool) (tl : List Tr) : pairP kd q tl tl.length 0 = pairW kd q tl := by
  unfold pairP pairW rowP
  exact List.append_nil _
theorem pairP_skip {kd : Int} {q : Tr → Tr → Bool} {tl : List Tr} {b a : Nat} (h : ∀ i, i < a → q (tl.getD i z3) (tl.getD b z3) = false) : pairP kd q tl b a = pairP kd q tl b 0 := by
  induction a with
  | zero => rfl
  | succ a ih => rw [pairP_no (h a (by omega)), ih fun i hi => h i (by omega)]
theorem pairP_step (kd : Int) (q : Tr → Tr → Bool) (tl : List Tr) (b a : Nat) : pairP kd q tl b a <+: pairP kd q tl b (a + 1) := by
  unfold pairP
  rw [rowP_succ, ← List.append_assoc]
  exact List.prefix_append _ _
theorem pairP_pre (kd : Int) (q : Tr → Tr → Bool) (tl : List Tr) (b : Nat) {a a' : Nat} (h : a ≤ a') : pairP kd q tl b a <+: pairP kd q tl b a' := by
  induction h with
  | refl => exact List.prefix_refl _
  | step h ih => exact ih.trans (pairP_step _ _ _ _ _)
theorem pairP_up (kd : Int) (q : Tr → Tr → Bool) (tl : List Tr) {b n : Nat} (h : b ≤ n) : pairP kd q tl b 0 <+: pairP kd q tl n 0 := by
  induction h with
  | refl => exact List.prefix_refl _
  | step h ih => rw [pairP_next]; exact ih.trans (pairP_pre _ _ _ _ (Nat.zero_le _))
theorem pairP_in {kd : Int} {q : Tr → Tr → Bool} {tl : List Tr} {b a : Nat} (ha : a ≤ b) (hb : b < tl.length) : pairP kd q tl b a <+: pairW kd q tl := by
  refine (pairP_pre kd q tl b ha).trans ?_
  rw [← pairP_next, ← pairP_all]
  exact pairP_up _ _ _ hb

abbrev q9 : Tr → Tr → Bool := fun t u => decide (twice t u)
theorem edL_mem {tl : List Tr} {m : Nat} {e : Ed} {v : Int} : (e, v) ∈ edL tl m ↔ ∃ a k, k < 3 ∧ 3 * a + k < m ∧ edE (tl.getD a z3) k = e ∧ v = (a : Int) := by
  unfold edL
  rw [List.mem_map]
  constructor
  · rintro ⟨j, hj, h⟩
    injection h with h1 h2
    exact ⟨j / 3, j % 3, by omega, by have := List.mem_range.1 hj; omega, h1, h2.symm⟩
  · rintro ⟨a, k, hk, hm, h1, h2⟩
    refine ⟨3 * a + k, List.mem_range.2 hm, ?_⟩
    rw [show (3 * a + k) / 3 = a by omega, show (3 * a + k) % 3 = k by omega, h1, h2]
theorem edE_has {t : Tr} {a b : Int} : hasE t a b ↔ ∃ k, k < 3 ∧ edE t k = (a, b) := by
  constructor
  · rintro (⟨h1, h2⟩ | ⟨h1, h2⟩ | ⟨h1, h2⟩)
    · exact ⟨0, by omega, by simp [edE, h1, h2]⟩
    · exact ⟨1, by omega, by simp [edE, h1, h2]⟩
    · exact ⟨2, by omega, by simp [edE, h1, h2]⟩
  · rintro ⟨k, hk, h⟩
    match k, hk with
    | 0, _ => simp [edE] at h; exact .inl h
    | 1, _ => simp [edE] at h; exact .inr (.inl h)
    | 2, _ => simp [edE] at h; exact .inr (.inr h)
theorem twice_edE {t u : Tr} : twice t u ↔ ∃ k, k < 3 ∧ ∃ k', k' < 3 ∧ edE t k' = edE u k := by
  rw [twice_iff]
  constructor
  · rintro ⟨a, b, h1, h2⟩
    obtain ⟨k', hk', e'⟩ := edE_has.1 h1
    obtain ⟨k, hk, e⟩ := edE_has.1 h2
    exact ⟨k, hk, k', hk', e'.trans e.symm⟩
  · rintro ⟨k, hk, k', hk', e⟩
    exact ⟨_, _, edE_has.2 ⟨k', hk', rfl⟩, edE_has.2 ⟨k, hk, e.symm⟩⟩
/-- The triangles that have an edge in common with the first k of b's. -/
def meets (tl : List Tr) (b : Nat) : Nat → List Int
  | 0 => []
  | k + 1 => meets tl b k ++ vals (edL tl (3 * b + k)) (edE (tl.getD b z3) k)
theorem mem_meets {tl : List Tr} {b : Nat} {v : Int} : ∀ {k : Nat}, k ≤ 3 → (v ∈ meets tl b k ↔ ∃ k', k' < k ∧ (edE (tl.getD b z3) k', v) ∈ edL tl (3 * b + k'))
  | 0, _ => by simp [meets]
  | k + 1, hk => by
    unfold meets
    rw [List.mem_append, mem_meets (k := k) (by omega), mem_vals]
    constructor
    · rintro (⟨k', h1, h2⟩ | h)
      · exact ⟨k', by omega, h2⟩
      · exact ⟨k, by omega, h⟩
    · rintro ⟨k', h1, h2⟩
      by_cases h : k' = k
      · subst h; exact .inr h2
      · exact .inl ⟨k', by omega, h2⟩
theorem meets_twice {tl : List Tr} {b a : Nat} (hab : a < b) : (a : Int) ∈ meets tl b 3 ↔ twice (tl.getD a z3) (tl.getD b z3) := by
  rw [mem_meets (Nat.le_refl _), twice_edE]
  constructor
  · rintro ⟨k, hk, h⟩
    obtain ⟨a', k', hk', _, h1, h2⟩ := edL_mem.1 h
    obtain rfl : a' = a := by omega
    exact ⟨k, hk, k', hk', h1⟩
  · rintro ⟨k, hk, k', hk', h⟩
    exact ⟨k, hk, edL_mem.2 ⟨a, k', hk', by omega, h, rfl⟩⟩
theorem meets_le {tl : List Tr} {b k : Nat} (hk : k ≤ 3) {v : Int} (h : v ∈ meets tl b k) : 0 ≤ v ∧ v ≤ (b : Int) := by
  obtain ⟨k', h1, h2⟩ := (mem_meets hk).1 h
  obtain ⟨a, k2, hk2, hm, _, rfl⟩ := edL_mem.1 h2
  omega
/-- As many directed edges as three for each triangle: no two have one in common. -/
theorem full_none {tl : List Tr} (h : (keysL (edL tl (3 * tl.length))).length = 3 * tl.length) : pairW 3 (fun t u => decide (twice t u)) tl = [] := by
  have hn := keysL_full.1 (h.trans (edL_len tl _).symm)
  refine pairW_nil.2 (List.pairwise_iff_getElem.2 fun i j hi hj hij => decide_eq_false fun ht => ?_)
  obtain ⟨k, hk, k', hk', e⟩ := twice_edE.1 ht
  unfold edL at hn
  rw [List.map_map] at hn
  have hp := List.pairwise_map.1 hn
  have := List.pairwise_iff_getElem.1 hp (3 * i + k') (3 * j + k) (by simp; omega) (by simp; omega) (by omega)
  simp only [List.getElem_range, Function.comp] at this
  rw [show (3 * i + k') / 3 = i by omega, show (3 * i + k') % 3 = k' by omega, show (3 * j + k) / 3 = j by omega, show (3 * j + k) % 3 = k by omega] at this
  apply this
  rw [List.getD_eq_getElem?_getD, List.getD_eq_getElem?_getD, List.getElem?_eq_getElem hi, List.getElem?_eq_getElem hj]
  exact e

/-- Which triangles are marked: those of X, up to b. -/
structure Marks (wl : List Int) (n b : Nat) (X : List Int) : Prop where
  len : wl.length = n
  le : ∀ a, a < n → wl.getD a 0 ≤ (b : Int)
  iff : ∀ a, a < b → a < n → (wl.getD a 0 = (b : Int) ↔ (a : Int) ∈ X)
theorem Marks.start (n : Nat) : Marks (List.replicate n 0) n 0 [] := ⟨List.length_replicate, fun a ha => by rw [List.getD_eq_getElem?_getD, List.getElem?_replicate, if_pos ha]; exact Int.le_refl _, fun a h _ => absurd h (by omega)⟩
theorem Marks.next {wl : List Int} {n b : Nat} {X : List Int} (h : Marks wl n b X) : Marks wl n (b + 1) [] :=
  ⟨h.len, fun a ha => by have := h.le a ha; omega, fun a _ ha => by have := h.le a ha; constructor <;> intro hx; omega; cases hx⟩
theorem Marks.set {wl : List Int} {n b : Nat} {X : List Int} (h : Marks wl n b X) {x : Nat} (hx : x < n) : Marks (wl.set x (b : Int)) n b (X ++ [(x : Int)]) := by
  have gd : ∀ a, a < n → (wl.set x (b : Int)).getD a 0 = if x = a then (b : Int) else wl.getD a 0 := fun a ha => by
    rw [List.getD_eq_getElem?_getD, List.getElem?_set, List.getD_eq_getElem?_getD]
    by_cases e : x = a
    · rw [if_pos e, if_pos e, if_pos (by rw [h.len]; exact hx)]; rfl
    · rw [if_neg e, if_neg e]
  refine ⟨by rw [List.length_set]; exact h.len, fun a ha => ?_, fun a hab ha => ?_⟩
  · rw [gd a ha]
    split
    · exact Int.le_refl _
    · exact h.le a ha
  · rw [gd a ha, List.mem_append, List.mem_singleton]
    by_cases e : x = a
    · subst e; simp
    · rw [if_neg e, h.iff a hab ha]
      constructor
      · exact .inl
      · rintro (h1 | h1)
        · exact h1
        · omega
end Go.Proofs.Ytelbmjbjpgcdaaa
