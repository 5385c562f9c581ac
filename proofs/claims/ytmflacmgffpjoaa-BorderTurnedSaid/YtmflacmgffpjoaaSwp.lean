/- Layer 12: triangles in the other order, each turned: told, and in memory, two at a time. -/
import Derived.Test.YtmflacmgffpjoaaGM
import Derived.Test.YtmflacmgffpjoaaGP
namespace Go.Proofs.Ytmflacmgffpjoaa
open Go.RowKit

/-- Of the list in the other order, each turned: what stands at j behind k exchanges. -/
def swA (L : List Tr) (k j : Nat) : Tr := if j < k then rotT (L.getD (L.length - 1 - j) z3) 1 else if L.length - 1 - j < k then rotT (L.getD (L.length - 1 - j) z3) 2 else L.getD j z3
def swK (L : List Tr) (k : Nat) : List Tr := (List.range L.length).map (swA L k)
theorem swK_len (L : List Tr) (k : Nat) : (swK L k).length = L.length := by simp [swK]
theorem swK_at {L : List Tr} {k j : Nat} (hj : j < L.length) : (swK L k).getD j z3 = swA L k j := by
  unfold swK
  rw [List.getD_eq_getElem?_getD, List.getElem?_map, List.getElem?_range hj]; rfl
theorem swK_zero (L : List Tr) : swK L 0 = L := by
  refine ext_getD (z := z3) (swK_len L 0) fun i hi => ?_
  rw [swK_len] at hi
  rw [swK_at hi]
  unfold swA
  rw [if_neg (by omega), if_neg (by omega)]
theorem getD_set12 {α : Type} {L : List α} {k : Nat} {z : α} (x : α) (hk : k < L.length) (j : Nat) : (L.set k x).getD j z = if k = j then x else L.getD j z := by
  rw [List.getD_eq_getElem?_getD, List.getElem?_set, List.getD_eq_getElem?_getD]
  by_cases e : k = j
  · subst e; simp [hk]
  · simp [e]
theorem swK_succ {L : List Tr} {k : Nat} (hk : k + k + 2 ≤ L.length) : ((swK L k).set k (rotT (L.getD (L.length - 1 - k) z3) 1)).set (L.length - 1 - k) (rotT (L.getD k z3) 2) = swK L (k + 1) := by
  refine ext_getD (z := z3) (by rw [List.length_set, List.length_set, swK_len, swK_len]) fun i hi => ?_
  rw [List.length_set, List.length_set, swK_len] at hi
  rw [getD_set12 _ (by rw [List.length_set, swK_len]; omega), getD_set12 _ (by rw [swK_len]; omega), swK_at hi, swK_at hi]
  unfold swA
  by_cases h1 : L.length - 1 - k = i
  · rw [if_pos h1, if_neg (show ¬ i < k + 1 by omega), if_pos (show L.length - 1 - i < k + 1 by omega), show L.length - 1 - i = k by omega]
  · rw [if_neg h1]
    by_cases h2 : k = i
    · rw [if_pos h2, if_pos (show i < k + 1 by omega), ← h2]
    · rw [if_neg h2]
      by_cases h3 : i < k
      · rw [if_pos h3, if_pos (show i < k + 1 by omega)]
      · rw [if_neg h3, if_neg (show ¬ i < k + 1 by omega)]
        by_cases h4 : L.length - 1 - i < k
        · rw [if_pos h4, if_pos (show L.length - 1 - i < k + 1 by omega)]
        · rw [if_neg h4, if_neg (show ¬ L.length - 1 - i < k + 1 by omega)]
theorem swA_rot {L : List Tr} {j : Nat} (hj : j < L.length) : ∃ e, swA L (L.length / 2) j = rotT (L.getD (L.length - 1 - j) z3) e := by
  unfold swA
  by_cases h1 : j < L.length / 2
  · exact ⟨1, by rw [if_pos h1]⟩
  · rw [if_neg h1]
    by_cases h2 : L.length - 1 - j < L.length / 2
    · exact ⟨2, by rw [if_pos h2]⟩
    · exact ⟨0, by rw [if_neg h2, show L.length - 1 - j = j by omega]; rfl⟩
theorem surf_sw {N : Int} {L : List Tr} (h : Surf N L) : Surf N (swK L (L.length / 2)) := by
  refine surf_turned (surf_perm (List.reverse_perm L) h) (by rw [swK_len, List.length_reverse]) fun i hi => ?_
  rw [List.length_reverse] at hi
  obtain ⟨e, he⟩ := swA_rot hi
  refine ⟨e, ?_⟩
  rw [swK_at hi, he, List.getD_eq_getElem?_getD (l := L.reverse), List.getElem?_reverse hi, ← List.getD_eq_getElem?_getD]
theorem has_sw {L : List Tr} {p q : Int} : (∃ t ∈ swK L (L.length / 2), hasE t p q) ↔ ∃ t ∈ L, hasE t p q := by
  constructor
  · rintro ⟨t, ht, hE⟩
    unfold swK at ht
    obtain ⟨j, hj, rfl⟩ := List.mem_map.1 ht
    have hj := List.mem_range.1 hj
    obtain ⟨e, he⟩ := swA_rot hj
    rw [he, hasE_rot] at hE
    exact ⟨_, getD3_mem (by omega), hE⟩
  · rintro ⟨t, ht, hE⟩
    obtain ⟨i, hi, rfl⟩ := List.mem_iff_getElem.1 ht
    obtain ⟨e, he⟩ := swA_rot (L := L) (j := L.length - 1 - i) (by omega)
    refine ⟨swA L (L.length / 2) (L.length - 1 - i), List.mem_map.2 ⟨_, List.mem_range.2 (by omega), rfl⟩, ?_⟩
    rw [he, hasE_rot, show L.length - 1 - (L.length - 1 - i) = i by omega, List.getD_eq_getElem?_getD, List.getElem?_eq_getElem hi]
    exact hE
theorem ownK9_up {W W' : World} {B n s : Nat} {t : TypeId} {v : Value} {xs : List Value} (h : W.ownsRow B t s v n xs) (b : Below W.heap.size W W') : W'.ownsRow B t s v n xs := by
  refine ⟨h.1, ?_⟩
  rcases h.2 with h2 | ⟨q, cap, cur, h1, hq, hh, hr⟩
  · exact .inl h2
  · exact .inr ⟨q, cap, cur, h1, hq, (b.block q (heap_lt hh)).trans hh, hr⟩
/-- A soup whose triangles are put together by append, in a box and a row of its own. -/
structure One (w W : World) (gb : Nat) (K : Int) (v : Value) (nb : Nat) (lb : List Tr) : Prop where
  below : Below w.heap.size w W
  bx : W.heap[gb]? = some (.cells #[.int .i64 K, v] 24 (0, 0))
  ot : W.ownsRow w.heap.size 53 3 v nb (ints (flat3 lb))
  wo : w.heap.size ≤ gb
theorem One.up {w W W' : World} {gb : Nat} {K : Int} {v : Value} {nb : Nat} {lb : List Tr} (h : One w W gb K v nb lb) (b : Below W.heap.size W W') : One w W' gb K v nb lb :=
  ⟨up2 h.below b, (b.block gb (heap_lt h.bx)).trans h.bx, ownK9_up h.ot b, h.wo⟩
/-- An owned row whose address is known. -/
theorem own_set3 {W : World} {B q n c k : Nat} {L : List Tr} (h : W.ownsRow B 53 3 (.slice (some ⟨q, 0, none⟩) n c) n (ints (flat3 L))) (hk : k < n) (x : Tr) :
    (((W.setCell ⟨q, k * 3, none⟩ (.int .i64 x.1)).setCell ⟨q, k * 3 + 1, none⟩ (.int .i64 x.2.1)).setCell ⟨q, k * 3 + 2, none⟩ (.int .i64 x.2.2)).ownsRow B 53 3 (.slice (some ⟨q, 0, none⟩) n c) n (ints (flat3 (L.set k x))) := by
  have hl : L.length = n := by have := h.1; rw [length_ints, length_flat3] at this; omega
  rcases h.2 with ⟨h1, _⟩ | ⟨q', cap, cur, h1, hq, hh, hc, hm, hs, ht⟩
  · cases h1
  · injection h1 with h1 _ h3
    injection h1 with h1
    injection h1 with h1
    subst h1 h3
    refine ⟨by rw [length_ints, length_flat3, List.length_set, hl]; omega, .inr ⟨q, c, _, rfl, hq, heap_set (heap_set (heap_set hh _ _) _ _) _ _, hc, hm, by simp only [Array.size_setIfInBounds]; exact hs, ?_⟩⟩
    rw [flat3_set L k x (by omega), ints_set, ints_set, ints_set, ← ht]
    simp only [Array.toList_setIfInBounds, List.take_set]
theorem own_cells9 {W : World} {B q n c k : Nat} {L : List Tr} (h : W.ownsRow B 53 3 (.slice (some ⟨q, 0, none⟩) n c) n (ints (flat3 L))) (hk : k < n) :
    ∃ v0 v1 v2, (W.cell? ⟨q, k * 3, none⟩ = some v0 ∧ W.frozen? ⟨q, k * 3, none⟩ = false) ∧ (W.cell? ⟨q, k * 3 + 1, none⟩ = some v1 ∧ W.frozen? ⟨q, k * 3 + 1, none⟩ = false) ∧ (W.cell? ⟨q, k * 3 + 2, none⟩ = some v2 ∧ W.frozen? ⟨q, k * 3 + 2, none⟩ = false) := by
  rcases h.2 with ⟨h1, _⟩ | ⟨q', cap, cur, h1, hq, hh, hc, hm, hs, ht⟩
  · cases h1
  · injection h1 with h1 _ h3
    injection h1 with h1
    injection h1 with h1
    subst h1 h3
    have cell : ∀ i, i < cur.size → ∃ v, W.cell? ⟨q, i, none⟩ = some v := fun i hi => ⟨_, by rw [cell_in hh]; exact Array.getElem?_eq_getElem hi⟩
    obtain ⟨v0, a0⟩ := cell (k * 3) (by omega)
    obtain ⟨v1, a1⟩ := cell (k * 3 + 1) (by omega)
    obtain ⟨v2, a2⟩ := cell (k * 3 + 2) (by omega)
    exact ⟨v0, v1, v2, ⟨a0, frozen_in hh _⟩, ⟨a1, frozen_in hh _⟩, ⟨a2, frozen_in hh _⟩⟩
theorem own_at9 {W : World} {B n c : Nat} {A : Option Addr} {xs : List Value} (h : W.ownsRow B 53 3 (.slice A n c) n xs) (hn : 0 < n) : ∃ q, A = some ⟨q, 0, none⟩ ∧ B ≤ q ∧ ∃ cs, W.heap[q]? = some (.cells cs 53 (0, 0)) := by
  rcases h.2 with ⟨_, h1⟩ | ⟨q', cap, cur, h1, hq, hh, hc, hm, hs, ht⟩
  · omega
  · injection h1 with h1 _ h3
    exact ⟨q', h1, hq, _, hh⟩
theorem One.set3 {w W : World} {gt q n c k : Nat} {N : Int} {lt : List Tr} (h : One w W gt N (.slice (some ⟨q, 0, none⟩) n c) n lt) (hk : k < n) (x : Tr) :
    One w (((W.setCell ⟨q, k * 3, none⟩ (.int .i64 x.1)).setCell ⟨q, k * 3 + 1, none⟩ (.int .i64 x.2.1)).setCell ⟨q, k * 3 + 2, none⟩ (.int .i64 x.2.2)) gt N (.slice (some ⟨q, 0, none⟩) n c) n (lt.set k x) := by
  obtain ⟨q', e, hq, cs, hh⟩ := own_at9 h.ot (by omega)
  injection e with e
  injection e with e
  subst e
  have nt : gt ≠ q := fun e => by
    subst e
    have hb := h.bx
    rw [hb] at hh
    injection hh with hh
    injection hh with _ hh _
    exact absurd hh (by decide)
  refine ⟨?_, heap_far (heap_far (heap_far h.bx nt _) nt _) nt _, own_set3 h.ot hk x, h.wo⟩
  exact ((h.below.setCell (p := ⟨q, k * 3, none⟩) hq _).setCell (p := ⟨q, k * 3 + 1, none⟩) hq _).setCell (p := ⟨q, k * 3 + 2, none⟩) hq _
abbrev zwit : Obj := .cells #[.int .i64 0, .int .i64 0, .int .i64 0] 53
/-- An empty triangle's block, known whole. -/
def Zw (W : World) (q : Nat) : Prop := W.heap[q]? = some (.cells #[.int .i64 0, .int .i64 0, .int .i64 0] 53 (0, 0))
theorem Zw.up {W Y : World} {q : Nat} (h : Zw W q) (b : Below W.heap.size W Y) : Zw Y q := (b.block q (heap_lt h)).trans h
theorem Zw.facts {W : World} {q : Nat} (h : Zw W q) : W.frozen? ⟨q, 0, none⟩ = false ∧ W.frozen? ⟨q, 1, none⟩ = false ∧ W.frozen? ⟨q, 2, none⟩ = false := ⟨frozen_in h 0, frozen_in h 1, frozen_in h 2⟩
theorem Zw.cells {W : World} {q : Nat} (h : Zw W q) : W.cell? ⟨q, 0, none⟩ = some (.int .i64 0) ∧ W.cell? ⟨q, 1, none⟩ = some (.int .i64 0) ∧ W.cell? ⟨q, 2, none⟩ = some (.int .i64 0) := ⟨by rw [cell_in h]; rfl, by rw [cell_in h]; rfl, by rw [cell_in h]; rfl⟩
structure PreW (w W : World) (g1 g2 : Nat) : Prop where
  below : Below w.heap.size w W
  z1 : Zw W g1
  z2 : Zw W g2
  w1 : w.heap.size ≤ g1
  w2 : w.heap.size ≤ g2
  ne : g1 ≠ g2
structure MidW (w W : World) (g1 g2 : Nat) (a b c : Int) : Prop where
  below : Below w.heap.size w W
  h1 : W.heap[g1]? = some (.cells #[.int .i64 a, .int .i64 b, .int .i64 c] 53 (0, 0))
  z2 : Zw W g2
  w1 : w.heap.size ≤ g1
  w2 : w.heap.size ≤ g2
  ne : g1 ≠ g2
structure FinW (w W : World) (g1 g2 : Nat) (a b c x y z : Int) : Prop where
  below : Below w.heap.size w W
  h1 : W.heap[g1]? = some (.cells #[.int .i64 a, .int .i64 b, .int .i64 c] 53 (0, 0))
  h2 : W.heap[g2]? = some (.cells #[.int .i64 x, .int .i64 y, .int .i64 z] 53 (0, 0))
theorem PreW.mid {w W : World} {g1 g2 : Nat} (h : PreW w W g1 g2) (a b c : Int) : MidW w (((W.setCell ⟨g1, 0, none⟩ (.int .i64 a)).setCell ⟨g1, 1, none⟩ (.int .i64 b)).setCell ⟨g1, 2, none⟩ (.int .i64 c)) g1 g2 a b c :=
  ⟨below_set3 h.below h.w1 _ _ _, set3 h.z1, heap_far (heap_far (heap_far h.z2 (Ne.symm h.ne) _) (Ne.symm h.ne) _) (Ne.symm h.ne) _, h.w1, h.w2, h.ne⟩
theorem MidW.fin {w W : World} {g1 g2 : Nat} {a b c : Int} (h : MidW w W g1 g2 a b c) (x y z : Int) : FinW w (((W.setCell ⟨g2, 0, none⟩ (.int .i64 x)).setCell ⟨g2, 1, none⟩ (.int .i64 y)).setCell ⟨g2, 2, none⟩ (.int .i64 z)) g1 g2 a b c x y z :=
  ⟨below_set3 h.below h.w2 _ _ _, heap_far (heap_far (heap_far h.h1 h.ne _) h.ne _) h.ne _, set3 h.z2⟩
theorem below_st {B q i : Nat} {w x : World} (h : Below B w x) (hq : B ≤ q) (v : Value) : Below B w (x.setCell ⟨q, i, none⟩ v) := h.setCell (p := ⟨q, i, none⟩) hq v
structure SwS (w W : World) (gt : Nat) (N : Int) (q c n : Nat) (lt : List Tr) (g1 g2 : Nat) (x y : Tr) : Prop where
  one : One w W gt N (.slice (some ⟨q, 0, none⟩) n c) n lt
  h1 : W.heap[g1]? = some (.cells #[.int .i64 x.1, .int .i64 x.2.1, .int .i64 x.2.2] 53 (0, 0))
  h2 : W.heap[g2]? = some (.cells #[.int .i64 y.1, .int .i64 y.2.1, .int .i64 y.2.2] 53 (0, 0))
  n1 : g1 ≠ q
  n2 : g2 ≠ q
theorem SwS.up {w W W' : World} {gt : Nat} {N : Int} {q c n : Nat} {lt : List Tr} {g1 g2 : Nat} {x y : Tr} (h : SwS w W gt N q c n lt g1 g2 x y) (b : Below W.heap.size W W') : SwS w W' gt N q c n lt g1 g2 x y :=
  ⟨h.one.up b, (b.block g1 (heap_lt h.h1)).trans h.h1, (b.block g2 (heap_lt h.h2)).trans h.h2, h.n1, h.n2⟩
theorem SwS.set3 {w W : World} {gt : Nat} {N : Int} {q c n k : Nat} {lt : List Tr} {g1 g2 : Nat} {x y : Tr} (h : SwS w W gt N q c n lt g1 g2 x y) (hk : k < n) (t : Tr) :
    SwS w (((W.setCell ⟨q, k * 3, none⟩ (.int .i64 t.1)).setCell ⟨q, k * 3 + 1, none⟩ (.int .i64 t.2.1)).setCell ⟨q, k * 3 + 2, none⟩ (.int .i64 t.2.2)) gt N q c n (lt.set k t) g1 g2 x y :=
  ⟨h.one.set3 hk t, heap_far (heap_far (heap_far h.h1 h.n1 _) h.n1 _) h.n1 _, heap_far (heap_far (heap_far h.h2 h.n2 _) h.n2 _) h.n2 _, h.n1, h.n2⟩
theorem One.tcell {w W : World} {gt : Nat} {N : Int} {v : Value} {n : Nat} {lt : List Tr} (h : One w W gt N v n lt) : W.cell? ⟨gt, 1, none⟩ = some v := by rw [cell_in h.bx]; rfl
theorem SwS.facts {w W : World} {gt : Nat} {N : Int} {q c n : Nat} {lt : List Tr} {g1 g2 : Nat} {x0 x1 x2 y0 y1 y2 : Int} (h : SwS w W gt N q c n lt g1 g2 (x0, x1, x2) (y0, y1, y2)) :
    W.cell? ⟨gt, 1, none⟩ = some (.slice (some ⟨q, 0, none⟩) n c) ∧ W.cell? ⟨g1, 0, none⟩ = some (.int .i64 x0) ∧ W.cell? ⟨g1, 1, none⟩ = some (.int .i64 x1) ∧ W.cell? ⟨g1, 2, none⟩ = some (.int .i64 x2) ∧ W.cell? ⟨g2, 0, none⟩ = some (.int .i64 y0) ∧ W.cell? ⟨g2, 1, none⟩ = some (.int .i64 y1) ∧ W.cell? ⟨g2, 2, none⟩ = some (.int .i64 y2) :=
  ⟨h.one.tcell, by rw [cell_in h.h1]; rfl, by rw [cell_in h.h1]; rfl, by rw [cell_in h.h1]; rfl, by rw [cell_in h.h2]; rfl, by rw [cell_in h.h2]; rfl, by rw [cell_in h.h2]; rfl⟩
end Go.Proofs.Ytmflacmgffpjoaa
