/- Layer 11: numbers in a ring or in a row: a step that is one-to-one leads from the first one through all that hang together. -/
import Derived.Test.YtelbmjbjpgcdaaaCorPick
namespace Go.Proofs.Ytelbmjbjpgcdaaa

/-- A row of numbers, each the step of the one before it. -/
structure Chain (T : Nat → Option Nat) (C : List Nat) (c0 : Nat) (L : List Nat) : Prop where
  ne : 0 < L.length
  hd : L.getD 0 0 = c0
  nd : L.Nodup
  sub : ∀ x ∈ L, x ∈ C
  st : ∀ i, i + 1 < L.length → T (L.getD i 0) = some (L.getD (i + 1) 0)
theorem getDn_mem {l : List Nat} {i : Nat} (h : i < l.length) : l.getD i 0 ∈ l := by
  rw [List.getD_eq_getElem?_getD, List.getElem?_eq_getElem h]; exact List.getElem_mem h
theorem memn_getD {l : List Nat} {x : Nat} (h : x ∈ l) : ∃ i, i < l.length ∧ l.getD i 0 = x := by
  obtain ⟨i, hi, rfl⟩ := List.mem_iff_getElem.1 h
  exact ⟨i, hi, by rw [List.getD_eq_getElem?_getD, List.getElem?_eq_getElem hi]; rfl⟩
theorem nodup_at {l : List Nat} (h : l.Nodup) {i j : Nat} (hi : i < l.length) (hj : j < l.length) (e : l.getD i 0 = l.getD j 0) : i = j := by
  rw [List.getD_eq_getElem?_getD, List.getD_eq_getElem?_getD, List.getElem?_eq_getElem hi, List.getElem?_eq_getElem hj] at e
  have e : l[i] = l[j] := e
  rw [← h.idxOf_getElem i hi, ← h.idxOf_getElem j hj, e]
theorem nodup_subN {a b : List Nat} (ha : a.Nodup) (h : ∀ e ∈ a, e ∈ b) : a.length ≤ b.length := by
  have inj : (a.map fun (n : Nat) => (n : Int)).Nodup := by
    rw [List.nodup_iff_pairwise_ne] at *
    rw [List.pairwise_map]
    exact ha.imp fun hne e => hne (by omega)
  have := nodup_sub inj (b := b.map fun (n : Nat) => (n : Int)) (fun e he => by
    obtain ⟨x, hx, rfl⟩ := List.mem_map.1 he
    exact List.mem_map.2 ⟨x, h x hx, rfl⟩)
  simpa using this
theorem nodup_allN {a b : List Nat} (ha : a.Nodup) (h : ∀ e ∈ a, e ∈ b) (hl : b.length ≤ a.length) : ∀ e ∈ b, e ∈ a := by
  intro e he
  refine Classical.byContradiction fun hn => ?_
  have := nodup_subN (a := e :: a) (b := b) (List.nodup_cons.2 ⟨hn, ha⟩) (fun x hx => by
    rcases List.mem_cons.1 hx with rfl | hx
    · exact he
    · exact h x hx)
  simp only [List.length_cons] at this
  omega
theorem Chain.more {T : Nat → Option Nat} {C : List Nat} {c0 : Nat} {L : List Nat} (h : Chain T C c0 L) {y : Nat} (hT : T (L.getD (L.length - 1) 0) = some y) (hy : y ∈ C) (hn : y ∉ L) : Chain T C c0 (L ++ [y]) := by
  have hne := h.ne
  have g1 : ∀ i, i < L.length → (L ++ [y]).getD i 0 = L.getD i 0 := fun i hi => by
    rw [List.getD_eq_getElem?_getD, List.getD_eq_getElem?_getD, List.getElem?_append_left hi]
  have g2 : (L ++ [y]).getD L.length 0 = y := by
    rw [List.getD_eq_getElem?_getD, List.getElem?_append_right (Nat.le_refl _), Nat.sub_self]; rfl
  refine ⟨by simp, by rw [g1 0 hne]; exact h.hd, ?_, fun x hx => ?_, fun i hi => ?_⟩
  · rw [List.nodup_append]
    refine ⟨h.nd, by simp, fun a ha b hb e => ?_⟩
    rw [List.mem_singleton.1 hb] at e
    exact hn (e ▸ ha)
  · rcases List.mem_append.1 hx with h1 | h1
    · exact h.sub x h1
    · rw [List.mem_singleton.1 h1]; exact hy
  · rw [List.length_append, List.length_singleton] at hi
    rw [g1 i (by omega)]
    by_cases hc : i + 1 < L.length
    · rw [g1 _ hc]; exact h.st i hc
    · obtain rfl : i = L.length - 1 := by omega
      rw [show L.length - 1 + 1 = L.length by omega, g2]
      exact hT
/-- A row that goes no further: its last one has no step, or one to the first. -/
theorem chain_full {T : Nat → Option Nat} {C : List Nat} {c0 : Nat} (hcl : ∀ x ∈ C, ∀ y, T x = some y → y ∈ C) (hinj : ∀ x ∈ C, ∀ x' ∈ C, ∀ y, T x = some y → T x' = some y → x = x') : ∀ (k : Nat) (L : List Nat), Chain T C c0 L → C.length - L.length = k → ∃ L', Chain T C c0 L' ∧ (T (L'.getD (L'.length - 1) 0) = none ∨ T (L'.getD (L'.length - 1) 0) = some c0) := by
  intro k
  induction k using Nat.strongRecOn with
  | _ k ih =>
    intro L h hk
    have hne := h.ne
    have hlast : L.getD (L.length - 1) 0 ∈ L := getDn_mem (by omega)
    cases hT : T (L.getD (L.length - 1) 0) with
    | none => exact ⟨L, h, .inl hT⟩
    | some y =>
      have hyC := hcl _ (h.sub _ hlast) y hT
      by_cases hyL : y ∈ L
      · obtain ⟨j, hj, rfl⟩ := memn_getD hyL
        refine ⟨L, h, .inr ?_⟩
        rcases Nat.eq_zero_or_pos j with rfl | h0
        · rw [hT, h.hd]
        · exfalso
          obtain ⟨i, rfl⟩ : ∃ i, j = i + 1 := ⟨j - 1, by omega⟩
          have := hinj _ (h.sub _ (getDn_mem (show i < L.length by omega))) _ (h.sub _ hlast) _ (h.st i hj) hT
          have := nodup_at h.nd (by omega) (by omega) this
          omega
      · have h' := h.more hT hyC hyL
        have hle := nodup_subN h'.nd h'.sub
        rw [List.length_append, List.length_singleton] at hle
        exact ih (C.length - (L ++ [y]).length) (by rw [List.length_append, List.length_singleton]; omega) _ h' rfl
/-- All in one row: where what hangs together is all, and the row begins where nothing leads to, if there is such a place. -/
theorem chain_all {T : Nat → Option Nat} {C : List Nat} {c0 : Nat} (hcl : ∀ x ∈ C, ∀ y, T x = some y → y ∈ C) (hinj : ∀ x ∈ C, ∀ x' ∈ C, ∀ y, T x = some y → T x' = some y → x = x') (hC : C.Nodup) (h0 : c0 ∈ C)
    (hcon : ∀ P : Nat → Prop, P c0 → (∀ x ∈ C, ∀ y, T x = some y → (P x ↔ P y)) → ∀ x ∈ C, P x) (hst : (∀ x ∈ C, T x ≠ some c0) ∨ ∀ y ∈ C, ∃ x ∈ C, T x = some y) :
    ∃ L, Chain T C c0 L ∧ (∀ x, x ∈ L ↔ x ∈ C) ∧ L.length = C.length ∧ ((∀ x ∈ C, T x ≠ some c0) → T (L.getD (L.length - 1) 0) = none) ∧ ((∀ y ∈ C, ∃ x ∈ C, T x = some y) → T (L.getD (L.length - 1) 0) = some c0) := by
  have hc1 : Chain T C c0 [c0] := ⟨by simp, rfl, by simp, fun x hx => by rw [List.mem_singleton.1 hx]; exact h0, fun i hi => by simp at hi⟩
  obtain ⟨L, hL, hend⟩ := chain_full (c0 := c0) hcl hinj _ [c0] hc1 rfl
  have hne := hL.ne
  have hlast : L.getD (L.length - 1) 0 ∈ L := getDn_mem (by omega)
  -- where each has one that leads to it, each leads to one
  have total : (∀ y ∈ C, ∃ x ∈ C, T x = some y) → T (L.getD (L.length - 1) 0) = some c0 := by
    intro hall
    rcases hend with h | h
    · exfalso
      obtain ⟨g, hg⟩ := Classical.axiomOfChoice (fun y : {y // y ∈ C} => hall y.1 y.2)
      have nd : (C.attach.map g).Nodup := by
        rw [List.nodup_iff_pairwise_ne, List.pairwise_map]
        have : C.attach.Nodup := by
          have : (C.attach.map Subtype.val).Nodup := by rw [List.attach_map_subtype_val]; exact hC
          rw [List.nodup_iff_pairwise_ne] at *
          rw [List.pairwise_map] at this
          exact this.imp fun hne e => hne (by rw [e])
        rw [List.nodup_iff_pairwise_ne] at this
        refine this.imp fun {a b} hne e => hne (Subtype.ext ?_)
        have h1 := (hg a).2
        have h2 := (hg b).2
        rw [e, h2] at h1
        exact (Option.some.inj h1).symm
      have := nodup_allN nd (b := C) (fun e he => by
        obtain ⟨y, _, rfl⟩ := List.mem_map.1 he
        exact (hg y).1) (by simp) _ (hL.sub _ hlast)
      obtain ⟨y, _, e⟩ := List.mem_map.1 this
      have h1 := (hg y).2
      rw [e, h] at h1
      cases h1
    · exact h
  have mem : ∀ x ∈ C, x ∈ L := by
    refine hcon (fun x => x ∈ L) (by have := getDn_mem hne; rwa [hL.hd] at this) fun x hx y hT => ?_
    constructor
    · intro hxL
      obtain ⟨i, hi, rfl⟩ := memn_getD hxL
      by_cases hc : i + 1 < L.length
      · rw [hL.st i hc] at hT
        rw [← Option.some.inj hT]
        exact getDn_mem hc
      · obtain rfl : i = L.length - 1 := by omega
        rcases hend with h | h
        · rw [h] at hT; cases hT
        · rw [h] at hT
          rw [← Option.some.inj hT]
          have := getDn_mem hne
          rwa [hL.hd] at this
    · intro hyL
      obtain ⟨i, hi, rfl⟩ := memn_getD hyL
      rcases Nat.eq_zero_or_pos i with rfl | hp
      · rw [hL.hd] at hT
        rcases hst with h | h
        · exact absurd hT (h x hx)
        · rw [hinj x hx _ (hL.sub _ hlast) _ hT (total h)]
          exact hlast
      · obtain ⟨j, rfl⟩ : ∃ j, i = j + 1 := ⟨i - 1, by omega⟩
        have hj := getDn_mem (show j < L.length by omega)
        rw [hinj x hx _ (hL.sub _ hj) _ hT (hL.st j hi)]
        exact hj
  have hmem : ∀ x, x ∈ L ↔ x ∈ C := fun x => ⟨hL.sub x, mem x⟩
  refine ⟨L, hL, hmem, Nat.le_antisymm (nodup_subN hL.nd hL.sub) (nodup_subN hC mem), fun hno => ?_, total⟩
  rcases hend with h | h
  · exact h
  · exact absurd h (hno _ (hL.sub _ hlast))
/-- There is but one such row. -/
theorem chain_one {T : Nat → Option Nat} {C : List Nat} {c0 : Nat} {L M : List Nat} (hL : Chain T C c0 L) (hM : Chain T C c0 M) (hl : L.length = M.length) : L = M := by
  have key : ∀ i, i < L.length → L.getD i 0 = M.getD i 0 := by
    intro i
    induction i with
    | zero => intro _; rw [hL.hd, hM.hd]
    | succ i ih =>
      intro hi
      have h1 := hL.st i hi
      have h2 := hM.st i (by omega)
      rw [ih (by omega), h2] at h1
      exact (Option.some.inj h1).symm
  exact ext_getD hl key
end Go.Proofs.Ytelbmjbjpgcdaaa
