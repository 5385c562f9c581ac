/- Layer 12: how often each vertex stood. -/
import Derived.Test.YtmflacmgffpjoaaGP
import Derived.Test.YtmflacmgffpjoaaGM
import Derived.Test.YtmflacmgffpjoaaBdRows
namespace Go.Proofs.Ytmflacmgffpjoaa
open Go.RowKit

/-- A row that reads so, in a block from B on. -/
def ReadsB (w : World) (B : Nat) (A : Option Addr) (n : Nat) (xs : List Int) : Prop := Reads w A n (ints xs) ∧ ∀ a, A = some a → B ≤ a.block
theorem ReadsB.keep {w w' : World} {B n : Nat} {A : Option Addr} {xs : List Int} (h : ReadsB w B A n xs) (hk : ∀ b, B ≤ b → b < w.heap.size → w'.heap[b]? = w.heap[b]?) : ReadsB w' B A n xs := by
  refine ⟨⟨h.1.1, fun hm => ?_⟩, h.2⟩
  obtain ⟨a, ha, hr⟩ := h.1.2 hm
  refine ⟨a, ha, fun j u hj => ?_⟩
  have e := hk (a.add j).block (by rw [block_add]; exact h.2 a ha) (World.block_lt_of_cell? w _ (hr j u hj))
  rw [← hr j u hj]
  simp only [World.cell?, e]
theorem set_keep (w : World) {q B : Nat} (i : Nat) (u : Value) (hq : q < B) : ∀ b, B ≤ b → b < w.heap.size → (w.setCell ⟨q, i, none⟩ u).heap[b]? = w.heap[b]? := fun b hb _ => Below.heap_setCell w ⟨q, i, none⟩ u b (show b ≠ q by omega)
/-- How often each number below n stands in F. -/
def mkC (n : Nat) (F : List Nat) : List Int := (List.range n).map fun v => ((F.count v : Nat) : Int)
theorem mkC_len (n : Nat) (F : List Nat) : (mkC n F).length = n := by simp [mkC]
theorem mkC_nil (n : Nat) : mkC n [] = List.replicate n 0 := by
  unfold mkC
  refine ext_getD (z := (0 : Int)) (by simp) fun i hi => ?_
  rw [List.length_map, List.length_range] at hi
  rw [List.getD_eq_getElem?_getD, List.getD_eq_getElem?_getD, List.getElem?_map, List.getElem?_eq_getElem (by simpa using hi), List.getElem?_eq_getElem (by simpa using hi)]
  simp
theorem mkC_at {n : Nat} (F : List Nat) {v : Nat} (hv : v < n) : (mkC n F).getD v 0 = ((F.count v : Nat) : Int) := by
  unfold mkC
  rw [List.getD_eq_getElem?_getD, List.getElem?_map, List.getElem?_eq_getElem (by simpa using hv)]
  simp
theorem mkC_snoc {n : Nat} (F : List Nat) {x : Nat} (_hx : x < n) : mkC n (F ++ [x]) = (mkC n F).set x ((F.count x : Nat) + 1) := by
  refine ext_getD (z := (0 : Int)) (by rw [List.length_set, mkC_len, mkC_len]) fun i hi => ?_
  rw [mkC_len] at hi
  rw [mkC_at _ hi, List.getD_eq_getElem?_getD, List.getElem?_set, mkC_len, List.count_append]
  by_cases e : x = i
  · subst e
    rw [if_pos rfl, if_pos hi]
    simp
  · rw [if_neg e]
    have := mkC_at F hi
    rw [List.getD_eq_getElem?_getD] at this
    rw [this, List.count_eq_zero_of_not_mem (show i ∉ [x] by simp; omega)]
    simp
theorem count_nodup : ∀ {L : List Nat} {x : Nat}, L.Nodup → x ∈ L → L.count x = 1
  | [], _, _, h => by cases h
  | a :: L, x, h, hm => by
    rw [List.nodup_cons] at h
    by_cases e : a = x
    · subst e
      rw [List.count_cons_self, List.count_eq_zero_of_not_mem h.1]
    · rw [List.count_cons_of_ne e]
      rcases List.mem_cons.1 hm with g | g
      · exact absurd g.symm e
      · exact count_nodup h.2 g
/-- The vertices of the first k loops. -/
def flUp (LL : List (List Nat)) (k : Nat) : List Nat := (LL.take k).flatten
theorem flUp_zero (LL : List (List Nat)) : flUp LL 0 = [] := by simp [flUp]
theorem flUp_succ {LL : List (List Nat)} {k : Nat} (h : k < LL.length) : flUp LL (k + 1) = flUp LL k ++ LL.getD k [] := by
  unfold flUp
  rw [List.take_add_one, List.getElem?_eq_getElem h, List.flatten_append, List.getD_eq_getElem?_getD, List.getElem?_eq_getElem h]
  simp
theorem flUp_all (LL : List (List Nat)) : flUp LL LL.length = LL.flatten := by simp [flUp]
theorem flUp_len_le {N : Int} {l : List Tr} (hs : Surf N l) {LL : List (List Nat)} (h : IsLoops N l LL) (k : Nat) : (flUp LL k).length ≤ 3 * l.length := by
  have hsub : (flUp LL k).length ≤ LL.flatten.length := by
    unfold flUp
    conv => rhs; rw [← List.take_append_drop k LL, List.flatten_append]
    rw [List.length_append]; omega
  rw [h.total hs] at hsub
  have : (bEdges l).length ≤ 3 * l.length := by
    unfold bEdges
    exact Nat.le_trans (List.length_filter_le _ _) (by simp)
  omega
theorem loops_count {N : Int} {l : List Tr} (hs : Surf N l) {LL : List (List Nat)} (h : IsLoops N l LL) {v : Nat} : (LL.flatten.count v : Nat) = if v ∈ bV N l then 1 else 0 := by
  obtain ⟨h1, h2⟩ := h.flat hs
  by_cases hv : v ∈ bV N l
  · rw [if_pos hv]
    exact count_nodup h1 ((h2 v).2 hv)
  · rw [if_neg hv]
    exact List.count_eq_zero_of_not_mem fun hm => hv ((h2 v).1 hm)
end Go.Proofs.Ytmflacmgffpjoaa
