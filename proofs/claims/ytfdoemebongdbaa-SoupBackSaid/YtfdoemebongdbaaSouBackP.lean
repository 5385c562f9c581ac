/- Layer 8: mirrored, turned and renamed soups, as plain lists. -/
import Derived.Test.YtfdoemebongdbaaSouPart
import Derived.Test.YtfdoemebongdbaaSouEdgeP
namespace Go.Proofs.Ytfdoemebongdbaa
open Go.RowKit

theorem nrm_comm (a b : Int) : nrm a b = nrm b a := by unfold nrm; rw [Int.min_comm, Int.max_comm]
theorem sides_iff {f : Tr → Tr} (hf : ∀ t e, e ∈ sides (f t) ↔ e ∈ sides t) (l : List Tr) (e : Ed) : e ∈ allSides (l.map f) ↔ e ∈ allSides l := by
  unfold allSides
  simp only [List.mem_flatMap, List.mem_map]
  constructor
  · rintro ⟨_, ⟨t, ht, rfl⟩, h⟩; exact ⟨t, ht, (hf t e).1 h⟩
  · rintro ⟨t, ht, h⟩; exact ⟨_, ⟨t, ht, rfl⟩, (hf t e).2 h⟩
theorem sides_mir (t : Tr) (e : Ed) : e ∈ sides (mirT t) ↔ e ∈ sides t := by
  unfold sides mirT
  simp only [List.mem_cons, List.not_mem_nil, or_false]
  rw [nrm_comm t.1 t.2.2, nrm_comm t.2.2 t.2.1, nrm_comm t.2.1 t.1]
  constructor
  · rintro (h | h | h)
    · exact .inr (.inr h)
    · exact .inr (.inl h)
    · exact .inl h
  · rintro (h | h | h)
    · exact .inr (.inr h)
    · exact .inr (.inl h)
    · exact .inl h
def rot1 (t : Tr) : Tr := (t.2.1, t.2.2, t.1)
theorem sides_rot (t : Tr) (e : Ed) : e ∈ sides (rot1 t) ↔ e ∈ sides t := by
  unfold sides rot1
  simp only [List.mem_cons, List.not_mem_nil, or_false]
  constructor
  · rintro (h | h | h)
    · exact .inr (.inl h)
    · exact .inr (.inr h)
    · exact .inl h
  · rintro (h | h | h)
    · exact .inr (.inr h)
    · exact .inl h
    · exact .inr (.inl h)
theorem fit_map {f : Tr → Tr} {N : Int} (hf : ∀ t, okTri N t → okTri N (f t)) {l : List Tr} (h : Fit N l) : Fit N (l.map f) := by
  refine ⟨h.1, h.2.1, by rw [List.length_map]; exact h.2.2.1, fun t ht => ?_⟩
  obtain ⟨s, hs, rfl⟩ := List.mem_map.1 ht
  exact hf s (h.2.2.2 s hs)
theorem ok_mir {N : Int} (t : Tr) (h : okTri N t) : okTri N (mirT t) := ⟨h.1, h.2.2.1, h.2.1, h.2.2.2.2.2, fun e => h.2.2.2.2.1 e.symm, h.2.2.2.1⟩
theorem ok_rot {N : Int} (t : Tr) (h : okTri N t) : okTri N (rot1 t) := ⟨h.2.1, h.2.2.1, h.1, h.2.2.2.2.1, fun e => h.2.2.2.2.2 e.symm, fun e => h.2.2.2.1 e.symm⟩
theorem mir_mir (l : List Tr) : (l.map mirT).map mirT = l := by
  rw [List.map_map]
  exact List.map_id'' (fun _ => rfl) l
/-- Turned k times. -/
def rotK : Nat → List Tr → List Tr
  | 0, l => l
  | k + 1, l => (rotK k l).map rot1
theorem rotK_len (k : Nat) (l : List Tr) : (rotK k l).length = l.length := by
  induction k with
  | zero => rfl
  | succ k ih => rw [rotK, List.length_map, ih]
theorem rotK_three (l : List Tr) : rotK 3 l = l := by
  show ((l.map rot1).map rot1).map rot1 = l
  rw [List.map_map, List.map_map]
  exact List.map_id'' (fun _ => rfl) l
theorem rotK_fit {N : Int} {l : List Tr} (h : Fit N l) : ∀ k, Fit N (rotK k l)
  | 0 => h
  | k + 1 => fit_map ok_rot (rotK_fit h k)
theorem rotK_sides (l : List Tr) (e : Ed) : ∀ k, e ∈ allSides (rotK k l) ↔ e ∈ allSides l
  | 0 => Iff.rfl
  | k + 1 => (sides_iff sides_rot (rotK k l) e).trans (rotK_sides l e k)
/-- The second corner of each triangle. -/
def cor1 (n : Nat) : List Int := (List.range n).map fun (t : Nat) => 3 * (t : Int) + 1
theorem cor1_len (n : Nat) : (cor1 n).length = n := by simp [cor1]
theorem cor1_succ (n : Nat) : cor1 (n + 1) = cor1 n ++ [3 * (n : Int) + 1] := by simp [cor1, List.range_succ]
theorem cor1_in (n : Nat) : allIn (3 * (n : Int)) (cor1 n) := by
  intro x hx
  obtain ⟨t, ht, rfl⟩ := List.mem_map.1 hx
  rw [List.mem_range] at ht
  exact ⟨by omega, by omega⟩
theorem pick_cor1 (l : List Tr) (n : Nat) (hn : l.length = n) : (cor1 n).map (pickT l) = l.map rot1 := by
  subst hn
  unfold cor1
  rw [List.map_map]
  apply List.ext_getElem?
  intro i
  by_cases h : i < l.length
  · have e1 : (3 * (i : Int) + 1).toNat / 3 = i := by omega
    have e2 : (3 * (i : Int) + 1).toNat % 3 = 1 := by omega
    simp [h, pickT, e1, e2, rotT, rot1]
  · simp [h]
/-- Lists that have each thing once, and the same things, are as long. -/
theorem nodup_sub_len : ∀ {a b : List Ed}, a.Nodup → (∀ e ∈ a, e ∈ b) → a.length ≤ b.length
  | [], _, _, _ => Nat.zero_le _
  | x :: a, b, hn, hs => by
    rw [List.nodup_cons] at hn
    have hxb := hs x (List.mem_cons_self ..)
    have := nodup_sub_len (a := a) (b := b.erase x) hn.2 (fun e he => (List.mem_erase_of_ne (show e ≠ x from fun h => hn.1 (by rw [← h]; exact he))).2 (hs e (List.mem_cons_of_mem _ he)))
    rw [List.length_erase_of_mem hxb] at this
    have := List.length_pos_of_mem hxb
    simp only [List.length_cons]
    omega
theorem perm_at {N : Nat} {to : List Int} (hp : IsPerm N to) {v : Int} (hv : inN N v) : inN N (to.getD v.toNat 0) := by
  refine hp.2.1 _ (getDi_mem ?_)
  have := hp.1
  have := hv.1
  have := hv.2
  omega
theorem perm_inj {N : Nat} {to : List Int} (hp : IsPerm N to) {v u : Int} (hv : inN N v) (hu : inN N u) (h : to.getD v.toNat 0 = to.getD u.toNat 0) : v = u := by
  have h0 := hp.1
  have h1 := idxOf_getD hp.2.2 (k := v.toNat) (by have := hv.1; have := hv.2; omega)
  have h2 := idxOf_getD hp.2.2 (k := u.toNat) (by have := hu.1; have := hu.2; omega)
  rw [h, h2] at h1
  have := hv.1
  have := hu.1
  omega
theorem ok_ren {N : Nat} {to : List Int} (hp : IsPerm N to) (t : Tr) (h : okTri N t) : okTri N (renT to t) :=
  ⟨perm_at hp h.1, perm_at hp h.2.1, perm_at hp h.2.2.1, fun e => h.2.2.2.1 (perm_inj hp h.1 h.2.1 e), fun e => h.2.2.2.2.1 (perm_inj hp h.2.1 h.2.2.1 e), fun e => h.2.2.2.2.2 (perm_inj hp h.1 h.2.2.1 e)⟩
theorem perm_mem {N : Nat} {to : List Int} (hp : IsPerm N to) {v : Nat} (hv : v < N) : (v : Int) ∈ to := by
  have hl : to.length = N := by have := hp.1; omega
  have key : ∀ (a b : List Int), a.Nodup → (∀ e ∈ a, e ∈ b) → a.length ≤ b.length := by
    intro a
    induction a with
    | nil => intro b _ _; exact Nat.zero_le _
    | cons x a ih =>
      intro b hn hs
      rw [List.nodup_cons] at hn
      have hxb := hs x (List.mem_cons_self ..)
      have := ih (b.erase x) hn.2 (fun e he => (List.mem_erase_of_ne (show e ≠ x from fun h => hn.1 (by rw [← h]; exact he))).2 (hs e (List.mem_cons_of_mem _ he)))
      rw [List.length_erase_of_mem hxb] at this
      have := List.length_pos_of_mem hxb
      simp only [List.length_cons]
      omega
  refine Classical.byContradiction fun hm => ?_
  have hr : ((v : Int) :: to).Nodup := List.nodup_cons.2 ⟨hm, hp.2.2⟩
  have := key ((v : Int) :: to) ((List.range N).map fun (i : Nat) => (i : Int)) hr (fun e he => by
    rcases List.mem_cons.1 he with rfl | he
    · exact List.mem_map.2 ⟨v, List.mem_range.2 hv, rfl⟩
    · have h5 := hp.2.1 e he
      have h6 := h5.1
      have h7 := h5.2
      exact List.mem_map.2 ⟨e.toNat, List.mem_range.2 (by omega), by omega⟩)
  rw [List.length_cons, List.length_map, List.length_range, hl] at this
  omega
theorem back_at {N : Nat} {to : List Int} (hp : IsPerm N to) {v : Nat} (hv : v < N) : (toL N to N).getD v 0 = ((to.idxOf (v : Int) : Nat) : Int) := by
  have hl : to.length = N := by have := hp.1; omega
  have := toL_full N to v hv (perm_mem hp hv)
  rwa [hl] at this
theorem back_perm {N : Nat} {to : List Int} (hp : IsPerm N to) : IsPerm N (toL N to N) := by
  have hl : to.length = N := by have := hp.1; omega
  refine ⟨by rw [toL_len], fun x hx => ?_, ?_⟩
  · obtain ⟨i, hi, rfl⟩ := memi_getD hx
    rw [toL_len] at hi
    rw [back_at hp hi]
    have := List.idxOf_lt_length_of_mem (perm_mem hp hi)
    exact ⟨by omega, by omega⟩
  · rw [List.nodup_iff_pairwise_ne, List.pairwise_iff_getElem]
    intro i j hi hj hij he
    rw [toL_len] at hi hj
    have e1 : (toL N to N).getD i 0 = (toL N to N).getD j 0 := by
      rw [List.getD_eq_getElem?_getD, List.getD_eq_getElem?_getD, List.getElem?_eq_getElem (by rw [toL_len]; exact hi), List.getElem?_eq_getElem (by rw [toL_len]; exact hj), he]
    rw [back_at hp hi, back_at hp hj] at e1
    have g1 := List.getElem_idxOf (List.idxOf_lt_length_of_mem (perm_mem hp hi))
    have g2 := List.getElem_idxOf (List.idxOf_lt_length_of_mem (perm_mem hp hj))
    have e2 : to.idxOf (i : Int) = to.idxOf (j : Int) := by omega
    have : (i : Int) = (j : Int) := by rw [← g1, ← g2]; simp only [e2]
    omega
theorem ren_back {N : Nat} {to : List Int} (hp : IsPerm N to) {l : List Tr} (hf : Fit N l) : (l.map (renT to)).map (renT (toL N to N)) = l := by
  have hl : to.length = N := by have := hp.1; omega
  rw [List.map_map]
  have key : ∀ v : Int, inN N v → (toL N to N).getD (to.getD v.toNat 0).toNat 0 = v := by
    intro v hv
    have h1 := perm_at hp hv
    have e : (((to.getD v.toNat 0).toNat : Nat) : Int) = to.getD v.toNat 0 := by have := h1.1; omega
    rw [back_at hp (by have := h1.1; have := h1.2; omega), e, idxOf_getD hp.2.2 (by have := hv.1; have := hv.2; omega)]
    have := hv.1
    omega
  calc l.map (renT (toL N to N) ∘ renT to) = l.map id := List.map_congr_left fun t ht => by
        have h := hf.2.2.2 t ht
        show ((toL N to N).getD (to.getD t.1.toNat 0).toNat 0, (toL N to N).getD (to.getD t.2.1.toNat 0).toNat 0, (toL N to N).getD (to.getD t.2.2.toNat 0).toNat 0) = t
        rw [key _ h.1, key _ h.2.1, key _ h.2.2.1]
    _ = l := List.map_id l
def renE (to : List Int) (e : Ed) : Ed := nrm (to.getD e.1.toNat 0) (to.getD e.2.toNat 0)
theorem sides_ren (to : List Int) (l : List Tr) (e : Ed) : e ∈ allSides (l.map (renT to)) ↔ ∃ x ∈ allSides l, renE to x = e := by
  have hn : ∀ a b : Int, renE to (nrm a b) = nrm (to.getD a.toNat 0) (to.getD b.toNat 0) := by
    intro a b
    unfold renE nrm
    rcases Int.le_total a b with h | h
    · rw [Int.min_eq_left h, Int.max_eq_right h]
    · rw [Int.min_eq_right h, Int.max_eq_left h, Int.min_comm, Int.max_comm]
  have hs : ∀ t, sides (renT to t) = (sides t).map (renE to) := fun t => by simp [sides, renT, hn]
  unfold allSides
  simp only [List.mem_flatMap, List.mem_map]
  constructor
  · rintro ⟨_, ⟨t, ht, rfl⟩, h⟩
    rw [hs] at h
    obtain ⟨x, hx, rfl⟩ := List.mem_map.1 h
    exact ⟨x, ⟨t, ht, hx⟩, rfl⟩
  · rintro ⟨x, ⟨t, ht, hx⟩, rfl⟩
    exact ⟨_, ⟨t, ht, rfl⟩, by rw [hs]; exact List.mem_map.2 ⟨x, hx, rfl⟩⟩
theorem side_range {N : Int} {l : List Tr} (hf : Fit N l) {e : Ed} (he : e ∈ allSides l) : inN N e.1 ∧ inN N e.2 ∧ e.1 < e.2 := by
  obtain ⟨t, ht, h⟩ := List.mem_flatMap.1 he
  have ok := hf.2.2.2 t ht
  have key : ∀ a b : Int, inN N a → inN N b → a ≠ b → inN N (nrm a b).1 ∧ inN N (nrm a b).2 ∧ (nrm a b).1 < (nrm a b).2 := by
    intro a b ha hb hne
    unfold nrm
    simp only [inN] at *
    omega
  simp only [sides, List.mem_cons, List.not_mem_nil, or_false] at h
  rcases h with rfl | rfl | rfl
  · exact key _ _ ok.1 ok.2.1 ok.2.2.2.1
  · exact key _ _ ok.2.1 ok.2.2.1 ok.2.2.2.2.1
  · exact key _ _ ok.2.2.1 ok.1 (fun e => ok.2.2.2.2.2 e.symm)
theorem ren_edges_len {N : Nat} {to : List Int} (hp : IsPerm N to) {l : List Tr} (hf : Fit N l) {es fs : List Ed} (he : IsEdges l es) (hg : IsEdges (l.map (renT to)) fs) : fs.length = es.length := by
  have inj : ∀ x ∈ es, ∀ y ∈ es, renE to x = renE to y → x = y := by
    intro x hx y hy h
    obtain ⟨x1, x2, x3⟩ := side_range hf ((he.2 x).1 hx)
    obtain ⟨y1, y2, y3⟩ := side_range hf ((he.2 y).1 hy)
    unfold renE nrm at h
    simp only [Prod.mk.injEq] at h
    obtain ⟨h1, h2⟩ := h
    have cases2 : (to.getD x.1.toNat 0 = to.getD y.1.toNat 0 ∧ to.getD x.2.toNat 0 = to.getD y.2.toNat 0) ∨ (to.getD x.1.toNat 0 = to.getD y.2.toNat 0 ∧ to.getD x.2.toNat 0 = to.getD y.1.toNat 0) := by omega
    rcases cases2 with ⟨a, b⟩ | ⟨a, b⟩
    · exact Prod.ext (perm_inj hp x1 y1 a) (perm_inj hp x2 y2 b)
    · have := perm_inj hp x1 y2 a
      have := perm_inj hp x2 y1 b
      omega
  have nd : ∀ {a : List Ed}, a.Pairwise ltE → a.Nodup := fun h => h.imp (fun {a b} k (e : a = b) => ltE_irrefl b (by rw [e] at k; exact k))
  have ndm : (es.map (renE to)).Nodup := by
    rw [List.nodup_iff_pairwise_ne, List.pairwise_map]
    refine (List.Pairwise.and_mem.1 (nd he.1)).imp fun {a b} h e => h.2.2 (inj a h.1 b h.2.1 e)
  have mem : ∀ e, e ∈ fs ↔ e ∈ es.map (renE to) := by
    intro e
    rw [hg.2, sides_ren, List.mem_map]
    constructor
    · rintro ⟨x, hx, rfl⟩; exact ⟨x, (he.2 x).2 hx, rfl⟩
    · rintro ⟨x, hx, rfl⟩; exact ⟨x, (he.2 x).1 hx, rfl⟩
  have h1 := nodup_sub_len (nd hg.1) (fun e h => (mem e).1 h)
  have h2 := nodup_sub_len ndm (fun e h => (mem e).2 h)
  rw [List.length_map] at h1 h2
  omega
end Go.Proofs.Ytfdoemebongdbaa
