/- Layer 8: what a part of a soup is, and what the parts of two joined soups are, as plain lists. -/
import Derived.Test.YtfdoemebongdbaaSouTell
import Derived.Test.YtfdoemebongdbaaSouRJoin
namespace Go.Proofs.Ytfdoemebongdbaa
open Go.RowKit

def upto (o n : Nat) : List Int := (List.range n).map fun (i : Nat) => ((o + i : Nat) : Int)
theorem upto_len (o n : Nat) : (upto o n).length = n := by simp [upto]
theorem upto_succ (o n : Nat) : upto o (n + 1) = upto o n ++ [((o + n : Nat) : Int)] := by simp [upto, List.range_succ]
theorem upto_mem {o n : Nat} {x : Int} (h : x ∈ upto o n) : (o : Int) ≤ x ∧ x < (o : Int) + n := by
  unfold upto at h
  obtain ⟨i, hi, rfl⟩ := List.mem_map.1 h
  have := List.mem_range.1 hi
  omega
theorem upto_getD (o n k : Nat) (hk : k < n) : (upto o n).getD k 0 = ((o + k : Nat) : Int) := by
  unfold upto
  rw [List.getD_eq_getElem?_getD, List.getElem?_map, List.getElem?_range hk]
  rfl
theorem upto_sorted (o n : Nat) : (upto o n).Pairwise (· < ·) := by
  unfold upto
  rw [List.pairwise_map]
  exact List.pairwise_lt_range.imp (fun h => by omega)
theorem upto_nodup (o n : Nat) : (upto o n).Nodup := (upto_sorted o n).imp (fun h => by omega)
theorem upto_idx (o n k : Nat) (hk : k < n) : (upto o n).idxOf ((o + k : Nat) : Int) = k := by
  have := idxOf_getD (upto_nodup o n) (k := k) (by rw [upto_len]; exact hk)
  rwa [upto_getD o n k hk] at this
theorem verts_split (l : List Tr) (cs : List Int) (N M : Nat) : vertsUp l cs (N + M) = ((upto 0 N).filter fun v => (usedOf l cs).contains v) ++ ((upto N M).filter fun v => (usedOf l cs).contains v) := by
  unfold vertsUp upto
  rw [List.range_add, List.map_append, List.filter_append, List.map_map]
  congr 2
  simp

/-- The part of the first of two soups that were joined. -/
theorem used_first (la lb : List Tr) : usedOf (la ++ lb) (upto 0 la.length) = la.flatMap triL := by
  have h : ∀ k, k ≤ la.length → usedOf (la ++ lb) (upto 0 k) = (la.take k).flatMap triL := by
    intro k
    induction k with
    | zero => intro _; simp [upto, usedOf]
    | succ k ih =>
      intro hk
      rw [upto_succ, usedOf_snoc, ih (by omega), List.take_add_one, List.flatMap_append]
      congr 1
      have e : (la ++ lb).getD (((0 + k : Nat) : Int)).toNat z3 = la[k]'(by omega) := by
        rw [show (((0 + k : Nat) : Int)).toNat = k by omega, List.getD_eq_getElem?_getD, List.getElem?_append_left (by omega), List.getElem?_eq_getElem (by omega)]
        rfl
      rw [e, List.getElem?_eq_getElem (by omega)]
      simp
  have := h la.length (Nat.le_refl _)
  rwa [List.take_length] at this
theorem used_second (la lb : List Tr) : usedOf (la ++ lb) (upto la.length lb.length) = lb.flatMap triL := by
  have h : ∀ k, k ≤ lb.length → usedOf (la ++ lb) (upto la.length k) = (lb.take k).flatMap triL := by
    intro k
    induction k with
    | zero => intro _; simp [upto, usedOf]
    | succ k ih =>
      intro hk
      rw [upto_succ, usedOf_snoc, ih (by omega), List.take_add_one, List.flatMap_append]
      congr 1
      have e : (la ++ lb).getD (((la.length + k : Nat) : Int)).toNat z3 = lb[k]'(by omega) := by
        rw [show (((la.length + k : Nat) : Int)).toNat = la.length + k by omega, List.getD_eq_getElem?_getD, List.getElem?_append_right (by omega), Nat.add_sub_cancel_left, List.getElem?_eq_getElem (by omega)]
        rfl
      rw [e, List.getElem?_eq_getElem (by omega)]
      simp
  have := h lb.length (Nat.le_refl _)
  rwa [List.take_length] at this
theorem tri_in {N : Int} {l : List Tr} (hf : ∀ t ∈ l, okTri N t) {v : Int} (hv : v ∈ l.flatMap triL) : inN N v := by
  obtain ⟨t, ht, hv⟩ := List.mem_flatMap.1 hv
  have ok := hf t ht
  simp only [triL, List.mem_cons, List.not_mem_nil, or_false] at hv
  rcases hv with rfl | rfl | rfl
  · exact ok.1
  · exact ok.2.1
  · exact ok.2.2.1
theorem shift_in {o : Int} {l : List Tr} {v : Int} (hv : v ∈ (l.map (shT o)).flatMap triL) : v - o ∈ l.flatMap triL := by
  rw [List.flatMap_map] at hv
  obtain ⟨t, ht, hv⟩ := List.mem_flatMap.1 hv
  refine List.mem_flatMap.2 ⟨t, ht, ?_⟩
  simp only [triL, shT, List.mem_cons, List.not_mem_nil, or_false] at hv ⊢
  omega
theorem parts_first {N M : Nat} {la lb : List Tr} (ha : ∀ t ∈ la, okTri (N : Int) t) : (vertsUp (la ++ lb) (upto 0 la.length) (N + M)).length ≤ N ∧
    ((vertsUp (la ++ lb) (upto 0 la.length) (N + M)).length = N → partL (la ++ lb) (vertsUp (la ++ lb) (upto 0 la.length) (N + M)) (upto 0 la.length) = la) := by
  have e2 : ((upto N M).filter fun v => (usedOf (la ++ lb) (upto 0 la.length)).contains v) = [] := by
    rw [List.filter_eq_nil_iff]
    intro v hv hc
    rw [List.contains_iff_mem, used_first] at hc
    have h1 := tri_in ha hc
    have h2 := upto_mem hv
    have := h1.2
    omega
  rw [verts_split, e2, List.append_nil]
  have hle := List.length_filter_le (fun v => (usedOf (la ++ lb) (upto 0 la.length)).contains v) (upto 0 N)
  rw [upto_len] at hle
  refine ⟨hle, fun he => ?_⟩
  have hall := List.filter_eq_self.2 (List.length_filter_eq_length_iff.1 (by rw [he, upto_len] : (List.filter (fun v => (usedOf (la ++ lb) (upto 0 la.length)).contains v) (upto 0 N)).length = (upto 0 N).length))
  rw [hall]
  refine ext_getD (z := z3) (by rw [partL, List.length_map, upto_len]) fun i hi => ?_
  rw [partL, List.length_map, upto_len] at hi
  rw [partL, List.getD_eq_getElem?_getD, List.getElem?_map, List.getElem?_eq_getElem (by rw [upto_len]; exact hi)]
  have eu : (upto 0 la.length)[i]'(by rw [upto_len]; exact hi) = ((0 + i : Nat) : Int) := by
    have := upto_getD 0 la.length i hi
    rwa [List.getD_eq_getElem?_getD, List.getElem?_eq_getElem (by rw [upto_len]; exact hi)] at this
  simp only [Option.map_some, Option.getD_some, eu]
  have ex : (la ++ lb).getD (((0 + i : Nat) : Int)).toNat z3 = la.getD i z3 := by
    rw [show (((0 + i : Nat) : Int)).toNat = i by omega, List.getD_eq_getElem?_getD, List.getD_eq_getElem?_getD, List.getElem?_append_left hi]
  rw [ex]
  have ok := ha _ (getD3_mem hi)
  generalize la.getD i z3 = t at ok
  obtain ⟨x0, x1, x2⟩ := t
  have key : ∀ x : Int, inN N x → (((upto 0 N).idxOf x : Nat) : Int) = x := fun x hx => by
    have h0 := hx.1
    have h1 := hx.2
    have := upto_idx 0 N x.toNat (by omega)
    rw [show (((0 + x.toNat : Nat)) : Int) = x by omega] at this
    omega
  unfold idxT
  rw [key x0 ok.1, key x1 ok.2.1, key x2 ok.2.2.1]
theorem parts_second {N M : Nat} {la lb : List Tr} (hb : ∀ t ∈ lb, okTri (M : Int) t) : (vertsUp (la ++ lb.map (shT (N : Int))) (upto la.length lb.length) (N + M)).length ≤ M ∧
    ((vertsUp (la ++ lb.map (shT (N : Int))) (upto la.length lb.length) (N + M)).length = M → partL (la ++ lb.map (shT (N : Int))) (vertsUp (la ++ lb.map (shT (N : Int))) (upto la.length lb.length) (N + M)) (upto la.length lb.length) = lb) := by
  have hus := used_second la (lb.map (shT (N : Int)))
  rw [List.length_map] at hus
  have e2 : ((upto 0 N).filter fun v => (usedOf (la ++ lb.map (shT (N : Int))) (upto la.length lb.length)).contains v) = [] := by
    rw [List.filter_eq_nil_iff]
    intro v hv hc
    rw [List.contains_iff_mem, hus] at hc
    have h1 := tri_in hb (shift_in hc)
    have h2 := upto_mem hv
    have := h1.1
    omega
  rw [verts_split, e2, List.nil_append]
  have hle := List.length_filter_le (fun v => (usedOf (la ++ lb.map (shT (N : Int))) (upto la.length lb.length)).contains v) (upto N M)
  rw [upto_len] at hle
  refine ⟨hle, fun he => ?_⟩
  have hall := List.filter_eq_self.2 (List.length_filter_eq_length_iff.1 (by rw [he, upto_len] : (List.filter (fun v => (usedOf (la ++ lb.map (shT (N : Int))) (upto la.length lb.length)).contains v) (upto N M)).length = (upto N M).length))
  rw [hall]
  refine ext_getD (z := z3) (by rw [partL, List.length_map, upto_len]) fun i hi => ?_
  rw [partL, List.length_map, upto_len] at hi
  rw [partL, List.getD_eq_getElem?_getD, List.getElem?_map, List.getElem?_eq_getElem (by rw [upto_len]; exact hi)]
  have eu : (upto la.length lb.length)[i]'(by rw [upto_len]; exact hi) = ((la.length + i : Nat) : Int) := by
    have := upto_getD la.length lb.length i hi
    rwa [List.getD_eq_getElem?_getD, List.getElem?_eq_getElem (by rw [upto_len]; exact hi)] at this
  simp only [Option.map_some, Option.getD_some, eu]
  have ex : (la ++ lb.map (shT (N : Int))).getD (((la.length + i : Nat) : Int)).toNat z3 = shT (N : Int) (lb.getD i z3) := by
    rw [show (((la.length + i : Nat) : Int)).toNat = la.length + i by omega, List.getD_eq_getElem?_getD, List.getD_eq_getElem?_getD, List.getElem?_append_right (by omega), Nat.add_sub_cancel_left, List.getElem?_map, List.getElem?_eq_getElem hi]
    rfl
  rw [ex]
  have ok := hb _ (getD3_mem hi)
  generalize lb.getD i z3 = t at ok
  obtain ⟨x0, x1, x2⟩ := t
  have key : ∀ x : Int, inN M x → (((upto N M).idxOf ((N : Int) + x) : Nat) : Int) = x := fun x hx => by
    have h0 := hx.1
    have h1 := hx.2
    have := upto_idx N M x.toNat (by omega)
    rw [show (((N + x.toNat : Nat)) : Int) = (N : Int) + x by omega] at this
    omega
  unfold idxT shT
  simp only
  rw [key x0 ok.1, key x1 ok.2.1, key x2 ok.2.2.1]
theorem join_two (N M : Int) (la lb : List Tr) : joinT [(N, la), (M, lb)] 2 = la ++ lb.map (shT N) ∧ sumN [(N, la), (M, lb)] 2 = N + M := by
  have h0 : la.map (shT 0) = la := by
    conv => rhs; rw [← List.map_id la]
    exact List.map_congr_left fun t _ => by simp [shT]
  constructor
  · simp only [joinT, sumN, List.getD_cons_zero, List.getD_cons_succ, List.nil_append, h0, Int.zero_add]
  · simp only [sumN, List.getD_cons_zero, List.getD_cons_succ, Int.zero_add]
theorem fit_join {N M : Nat} {la lb : List Tr} (ha : Fit (N : Int) la) (hb : Fit (M : Int) lb) (hs : N + M ≤ 4096) (hl : la.length + lb.length ≤ 8192) : Fit ((N : Int) + M) (la ++ lb.map (shT (N : Int))) := by
  refine ⟨by omega, by omega, by rw [List.length_append, List.length_map]; exact hl, fun t ht => ?_⟩
  rcases List.mem_append.1 ht with h | h
  · obtain ⟨h0, h1, h2, h3⟩ := ha.2.2.2 t h
    exact ⟨⟨h0.1, by have := h0.2; omega⟩, ⟨h1.1, by have := h1.2; omega⟩, ⟨h2.1, by have := h2.2; omega⟩, h3⟩
  · obtain ⟨t', ht', rfl⟩ := List.mem_map.1 h
    obtain ⟨h0, h1, h2, h3, h4, h5⟩ := hb.2.2.2 t' ht'
    simp only [inN] at h0 h1 h2
    exact ⟨⟨by simp only [shT]; omega, by simp only [shT]; omega⟩, ⟨by simp only [shT]; omega, by simp only [shT]; omega⟩, ⟨by simp only [shT]; omega, by simp only [shT]; omega⟩, by simp only [shT]; omega, by simp only [shT]; omega, by simp only [shT]; omega⟩

/-- A part fits, and its triangles are what they were. -/
theorem part_tri {N : Nat} {l : List Tr} {cs : List Int} (hf : Fit (N : Int) l) (hi : allIn (l.length : Int) cs) {i : Nat} (hk : i < cs.length) :
    okTri ((vertsUp l cs N).length : Int) ((partL l (vertsUp l cs N) cs).getD i z3) ∧ (vertsUp l cs N).getD ((partL l (vertsUp l cs N) cs).getD i z3).1.toNat 0 = (l.getD (cs.getD i 0).toNat z3).1 ∧
    (vertsUp l cs N).getD ((partL l (vertsUp l cs N) cs).getD i z3).2.1.toNat 0 = (l.getD (cs.getD i 0).toNat z3).2.1 ∧ (vertsUp l cs N).getD ((partL l (vertsUp l cs N) cs).getD i z3).2.2.toNat 0 = (l.getD (cs.getD i 0).toNat z3).2.2 := by
  have hm := getDi_mem hk
  have hin := hi _ hm
  have ep : (partL l (vertsUp l cs N) cs).getD i z3 = idxT (vertsUp l cs N) (l.getD (cs.getD i 0).toNat z3) := by
    rw [partL, List.getD_eq_getElem?_getD, List.getElem?_map, List.getElem?_eq_getElem hk, List.getD_eq_getElem?_getD (l := cs), List.getElem?_eq_getElem hk]
    rfl
  rw [ep]
  have hok := hf.2.2.2 _ (getD3_mem (show (cs.getD i 0).toNat < l.length by have := hin.1; have := hin.2; omega))
  have hu := used_of_mem (l := l) hm
  generalize l.getD (cs.getD i 0).toNat z3 = t at hok hu
  obtain ⟨x0, x1, x2⟩ := t
  have key : ∀ x : Int, inN N x → x ∈ triL (x0, x1, x2) → x ∈ vertsUp l cs N := fun x h1 h2 => (vertsUp_mem _ _ _ _).2 ⟨h1.1, h1.2, hu x h2⟩
  have m0 := key x0 hok.1 (by simp [triL])
  have m1 := key x1 hok.2.1 (by simp [triL])
  have m2 := key x2 hok.2.2.1 (by simp [triL])
  generalize vertsUp l cs N = vs at m0 m1 m2
  have lt : ∀ x : Int, x ∈ vs → inN (vs.length : Int) ((vs.idxOf x : Nat) : Int) := fun x h => ⟨by omega, by have := List.idxOf_lt_length_of_mem h; omega⟩
  have at' : ∀ x : Int, x ∈ vs → vs.getD (((vs.idxOf x : Nat) : Int)).toNat 0 = x := fun x h => by
    have hl := List.idxOf_lt_length_of_mem h
    rw [show (((vs.idxOf x : Nat) : Int)).toNat = vs.idxOf x by omega, List.getD_eq_getElem?_getD, List.getElem?_eq_getElem hl]
    exact List.getElem_idxOf hl
  have ne : ∀ x y : Int, x ∈ vs → y ∈ vs → x ≠ y → ((vs.idxOf x : Nat) : Int) ≠ ((vs.idxOf y : Nat) : Int) := fun x y hx hy hne e => hne (by rw [← at' x hx, e, at' y hy])
  obtain ⟨_, _, _, h3, h4, h5⟩ := hok
  exact ⟨⟨lt _ m0, lt _ m1, lt _ m2, ne _ _ m0 m1 h3, ne _ _ m1 m2 h4, ne _ _ m0 m2 h5⟩, at' _ m0, at' _ m1, at' _ m2⟩
theorem part_fit {N : Nat} {l : List Tr} {cs : List Int} (hf : Fit (N : Int) l) (hi : allIn (l.length : Int) cs) (hc : cs.length ≤ 8192) : Fit ((vertsUp l cs N).length : Int) (partL l (vertsUp l cs N) cs) := by
  have h1 := vertsUp_le l cs N
  have h2 := hf.2.1
  refine ⟨by omega, by omega, by rw [partL, List.length_map]; exact hc, fun t ht => ?_⟩
  obtain ⟨i, hi', rfl⟩ := mem3_getD ht
  rw [partL, List.length_map] at hi'
  exact (part_tri hf hi hi').1
end Go.Proofs.Ytfdoemebongdbaa
