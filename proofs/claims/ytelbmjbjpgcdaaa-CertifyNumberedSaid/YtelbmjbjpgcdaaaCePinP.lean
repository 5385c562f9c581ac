/- Layer 9: around a vertex, from triangle to triangle. -/
import Derived.Test.YtelbmjbjpgcdaaaCeMirP
import Derived.Test.YtelbmjbjpgcdaaaCeLone
import Derived.Test.YtelbmjbjpgcdaaaRingPure
import Derived.Test.YtelbmjbjpgcdaaaCerPinch
namespace Go.Proofs.Ytelbmjbjpgcdaaa
open Go.RowKit

/-- The vertex ahead of v, and the one behind it. -/
def pv (t : Tr) (v : Int) : Int := if t.1 = v then t.2.2 else if t.2.1 = v then t.1 else t.2.1
def nw (t : Tr) (v : Int) : Int := if t.1 = v then t.2.1 else if t.2.1 = v then t.2.2 else t.1
theorem pv_has {t : Tr} {v : Int} (h : hasV t v) : hasE t (pv t v) v := by
  unfold pv
  rcases h with h | h | h
  · rw [if_pos h]; exact .inr (.inr ⟨rfl, h⟩)
  · by_cases h1 : t.1 = v
    · rw [if_pos h1]; exact .inr (.inr ⟨rfl, h1⟩)
    · rw [if_neg h1, if_pos h]; exact .inl ⟨rfl, h⟩
  · by_cases h1 : t.1 = v
    · rw [if_pos h1]; exact .inr (.inr ⟨rfl, h1⟩)
    · rw [if_neg h1]
      by_cases h2 : t.2.1 = v
      · rw [if_pos h2]; exact .inl ⟨rfl, h2⟩
      · rw [if_neg h2]; exact .inr (.inl ⟨rfl, h⟩)
theorem nw_has {t : Tr} {v : Int} (h : hasV t v) : hasE t v (nw t v) := by
  unfold nw
  by_cases h1 : t.1 = v
  · rw [if_pos h1]; exact .inl ⟨h1, rfl⟩
  · rw [if_neg h1]
    by_cases h2 : t.2.1 = v
    · rw [if_pos h2]; exact .inr (.inl ⟨h2, rfl⟩)
    · rw [if_neg h2]
      rcases h with h | h | h
      · exact absurd h h1
      · exact absurd h h2
      · exact .inr (.inr ⟨h, rfl⟩)
theorem pv_one {t : Tr} (hl : ¬ loopT t) {u v : Int} (h : hasE t u v) : pv t v = u := by
  have n1 : t.1 ≠ t.2.1 := fun e => hl (.inl e)
  have n2 : t.2.1 ≠ t.2.2 := fun e => hl (.inr (.inl e))
  have n3 : t.2.2 ≠ t.1 := fun e => hl (.inr (.inr e))
  unfold pv
  rcases h with ⟨h1, h2⟩ | ⟨h1, h2⟩ | ⟨h1, h2⟩
  · rw [if_neg (by rw [← h2]; exact n1), if_pos h2, h1]
  · rw [if_neg (by rw [← h2]; exact Ne.symm n3), if_neg (by rw [← h2]; exact n2), h1]
  · rw [if_pos h2, h1]
theorem nw_one {t : Tr} (hl : ¬ loopT t) {u v : Int} (h : hasE t v u) : nw t v = u := by
  have n1 : t.1 ≠ t.2.1 := fun e => hl (.inl e)
  have n2 : t.2.1 ≠ t.2.2 := fun e => hl (.inr (.inl e))
  have n3 : t.2.2 ≠ t.1 := fun e => hl (.inr (.inr e))
  unfold nw
  rcases h with ⟨h1, h2⟩ | ⟨h1, h2⟩ | ⟨h1, h2⟩
  · rw [if_pos h1, h2]
  · rw [if_neg (by rw [← h1]; exact n1), if_pos h1, h2]
  · rw [if_neg (by rw [← h1]; exact Ne.symm n3), if_neg (by rw [← h1]; exact n2), h2]
/-- Two vertices of a triangle: one leads to the other. -/
theorem side_of {t : Tr} {v w : Int} (hv : hasV t v) (hw : hasV t w) (hne : w ≠ v) : w = nw t v ∨ w = pv t v := by
  unfold nw pv
  by_cases h1 : t.1 = v
  · rw [if_pos h1, if_pos h1]
    rcases hw with h | h | h
    · exact absurd (h.symm.trans h1) hne
    · exact .inl h.symm
    · exact .inr h.symm
  · rw [if_neg h1, if_neg h1]
    by_cases h2 : t.2.1 = v
    · rw [if_pos h2, if_pos h2]
      rcases hw with h | h | h
      · exact .inr h.symm
      · exact absurd (h.symm.trans h2) hne
      · exact .inl h.symm
    · rw [if_neg h2, if_neg h2]
      rcases hv with h | h | h
      · exact absurd h h1
      · exact absurd h h2
      · rcases hw with h' | h' | h'
        · exact .inl h'.symm
        · exact .inr h'.symm
        · exact absurd (h'.symm.trans h) hne
theorem pv_ne {t : Tr} (hl : ¬ loopT t) {v : Int} (h : hasV t v) : pv t v ≠ v := fun e => by
  have := pv_has h
  rw [e] at this
  exact hl (loopT_iff.2 ⟨v, this⟩)
theorem nw_ne {t : Tr} (hl : ¬ loopT t) {v : Int} (h : hasV t v) : nw t v ≠ v := fun e => by
  have := nw_has h
  rw [e] at this
  exact hl (loopT_iff.2 ⟨v, this⟩)
/-- The triangle that comes next around v. -/
def stepV (tl : List Tr) (v : Int) (i : Nat) : Option Nat := (lastV (edL tl (3 * tl.length)) (v, pv (tl.getD i z3) v)).map Int.toNat
def atV (tl : List Tr) (v : Int) : List Nat := (List.range tl.length).filter fun i => decide (hasV (tl.getD i z3) v)
theorem mem_atV {tl : List Tr} {v : Int} {i : Nat} : i ∈ atV tl v ↔ i < tl.length ∧ hasV (tl.getD i z3) v := by
  unfold atV
  rw [List.mem_filter, List.mem_range, decide_eq_true_iff]
theorem atV_nodup (tl : List Tr) (v : Int) : (atV tl v).Nodup := List.Nodup.sublist List.filter_sublist List.nodup_range
section
variable {tl : List Tr} (hl : ∀ t ∈ tl, ¬ loopT t) (hn : tl.Pairwise fun t u => ¬ twice t u) {v : Int}
include hl hn
theorem stepV_iff {i j : Nat} : stepV tl v i = some j ↔ j < tl.length ∧ hasV (tl.getD j z3) v ∧ nw (tl.getD j z3) v = pv (tl.getD i z3) v := by
  unfold stepV
  constructor
  · intro h
    obtain ⟨x, hx, rfl⟩ := Option.map_eq_some_iff.1 h
    obtain ⟨a, rfl, ha, he⟩ := edge_told hx
    rw [Int.toNat_natCast]
    exact ⟨ha, (hasE_hasV he).1, nw_one (hl _ (getD3_mem ha)) he⟩
  · rintro ⟨hj, hv, he⟩
    have h1 := nw_has hv
    rw [he] at h1
    rw [edge_one hn hj (e := (v, pv (tl.getD i z3) v)) h1]
    rfl
theorem stepV_none {i : Nat} : stepV tl v i = none ↔ ∀ j, j < tl.length → hasV (tl.getD j z3) v → nw (tl.getD j z3) v ≠ pv (tl.getD i z3) v := by
  constructor
  · intro h j hj hv he
    rw [(stepV_iff hl hn).2 ⟨hj, hv, he⟩] at h
    cases h
  · intro h
    cases hx : stepV tl v i with
    | none => rfl
    | some j =>
      obtain ⟨hj, hv, he⟩ := (stepV_iff hl hn).1 hx
      exact absurd he (h j hj hv)
theorem stepV_in {i j : Nat} (h : stepV tl v i = some j) : j ∈ atV tl v := by
  obtain ⟨h1, h2, _⟩ := (stepV_iff hl hn).1 h
  exact mem_atV.2 ⟨h1, h2⟩
theorem stepV_inj {x x' y : Nat} (hx : x ∈ atV tl v) (hx' : x' ∈ atV tl v) (h : stepV tl v x = some y) (h' : stepV tl v x' = some y) : x = x' := by
  obtain ⟨h1, h2⟩ := mem_atV.1 hx
  obtain ⟨h3, h4⟩ := mem_atV.1 hx'
  have e1 := ((stepV_iff hl hn).1 h).2.2
  have e2 := ((stepV_iff hl hn).1 h').2.2
  have e3 := pv_has h2
  have e4 := pv_has h4
  rw [← e2, e1] at e4
  exact Classical.byContradiction fun hne => notwice_ne hn h1 h3 hne (twice_iff.2 ⟨_, _, e3, e4⟩)
theorem step_adj {i j : Nat} (hi : i ∈ atV tl v) (h : stepV tl v i = some j) : adjV v (tl.getD i z3) (tl.getD j z3) := by
  obtain ⟨h1, h2⟩ := mem_atV.1 hi
  obtain ⟨h3, h4, h5⟩ := (stepV_iff hl hn).1 h
  refine ⟨pv (tl.getD i z3) v, pv_ne (hl _ (getD3_mem h1)) h2, (hasE_hasV (pv_has h2)).1, ?_⟩
  rw [← h5]
  exact (hasE_hasV (nw_has h4)).2
/-- Two triangles at v that hang together directly: the same one, or one follows the other. -/
theorem adj_step {i j : Nat} (hi : i ∈ atV tl v) (hj : j ∈ atV tl v) (h : adjV v (tl.getD i z3) (tl.getD j z3)) : i = j ∨ stepV tl v i = some j ∨ stepV tl v j = some i := by
  obtain ⟨h1, h2⟩ := mem_atV.1 hi
  obtain ⟨h3, h4⟩ := mem_atV.1 hj
  obtain ⟨w, hw, hi', hj'⟩ := h
  rcases side_of h2 hi' hw with e1 | e1 <;> rcases side_of h4 hj' hw with e2 | e2
  · refine .inl (Classical.byContradiction fun hne => notwice_ne hn h1 h3 hne (twice_iff.2 ⟨v, w, ?_, ?_⟩))
    · rw [e1]; exact nw_has h2
    · rw [e2]; exact nw_has h4
  · exact .inr (.inr ((stepV_iff hl hn).2 ⟨h1, h2, e1.symm.trans e2⟩))
  · exact .inr (.inl ((stepV_iff hl hn).2 ⟨h3, h4, e2.symm.trans e1⟩))
  · refine .inl (Classical.byContradiction fun hne => notwice_ne hn h1 h3 hne (twice_iff.2 ⟨w, v, ?_, ?_⟩))
    · rw [e1]; exact pv_has h2
    · rw [e2]; exact pv_has h4
theorem conn_all (hc : Conn tl v) {c0 : Nat} (h0 : c0 ∈ atV tl v) (P : Nat → Prop) (hP : P c0) (hcl : ∀ x ∈ atV tl v, ∀ y, stepV tl v x = some y → (P x ↔ P y)) : ∀ x ∈ atV tl v, P x := by
  intro x hx
  obtain ⟨h1, h2⟩ := mem_atV.1 hx
  obtain ⟨h3, h4⟩ := mem_atV.1 h0
  have same : ∀ {i j}, i ∈ atV tl v → j ∈ atV tl v → adjV v (tl.getD i z3) (tl.getD j z3) → P i → P j := fun {i j} hi hj hadj hPi => by
    rcases adj_step hl hn hi hj hadj with rfl | h | h
    · exact hPi
    · exact (hcl i hi j h).1 hPi
    · exact (hcl j hj i h).2 hPi
  obtain ⟨i, hi, e, hPi⟩ := hc (fun t => ∃ i, i ∈ atV tl v ∧ tl.getD i z3 = t ∧ P i) ⟨_, getD3_mem h3, h4, c0, h0, rfl, hP⟩ (fun t ht u hu htv huv ⟨i, hi, e, hPi⟩ hadj => by
    obtain ⟨j, hj, rfl⟩ := mem3_getD hu
    subst e
    exact ⟨j, mem_atV.2 ⟨hj, huv⟩, rfl, same hi (mem_atV.2 ⟨hj, huv⟩) hadj hPi⟩) _ (getD3_mem h1) h2
  refine same hi hx ?_ hPi
  rw [e]
  exact adjV_self (hl _ (getD3_mem h1))
theorem conn_chain {c0 : Nat} {L : List Nat} (hL : Chain (stepV tl v) (atV tl v) c0 L) (hall : ∀ x ∈ atV tl v, x ∈ L) : Conn tl v := by
  intro P hex hcl u hu huv
  have key : ∀ i, i < L.length → (P (tl.getD (L.getD i 0) z3) ↔ P (tl.getD c0 z3)) := by
    intro i
    induction i with
    | zero => intro _; rw [hL.hd]
    | succ i ih =>
      intro hi
      rw [← ih (by omega)]
      have hm := hL.sub _ (getDn_mem (show i < L.length by omega))
      have hm' := hL.sub _ (getDn_mem hi)
      have hs := step_adj hl hn hm (hL.st i hi)
      obtain ⟨a1, a2⟩ := mem_atV.1 hm
      obtain ⟨b1, b2⟩ := mem_atV.1 hm'
      exact ⟨fun h => hcl _ (getD3_mem b1) _ (getD3_mem a1) b2 a2 h (adjV_symm hs), fun h => hcl _ (getD3_mem a1) _ (getD3_mem b1) a2 b2 h hs⟩
  have all : ∀ x ∈ atV tl v, (P (tl.getD x z3) ↔ P (tl.getD c0 z3)) := fun x hx => by
    obtain ⟨i, hi, rfl⟩ := memn_getD (hall x hx)
    exact key i hi
  obtain ⟨t, ht, htv, hP⟩ := hex
  obtain ⟨i, hi, rfl⟩ := mem3_getD ht
  obtain ⟨j, hj, rfl⟩ := mem3_getD hu
  exact (all j (mem_atV.2 ⟨hj, huv⟩)).2 ((all i (mem_atV.2 ⟨hi, htv⟩)).1 hP)
/-- A row as long as may be, from a place where nothing leads to, if there is one: it goes through all just if all hang together. -/
theorem met_iff {c0 : Nat} {L : List Nat} (hL : Chain (stepV tl v) (atV tl v) c0 L) (hend : stepV tl v (L.getD (L.length - 1) 0) = none ∨ stepV tl v (L.getD (L.length - 1) 0) = some c0)
    (hst : (∀ x ∈ atV tl v, stepV tl v x ≠ some c0) ∨ ∀ y ∈ atV tl v, ∃ x ∈ atV tl v, stepV tl v x = some y) : L.length < (atV tl v).length ↔ ¬ Conn tl v := by
  have hne := hL.ne
  have h0 : c0 ∈ atV tl v := by have := hL.sub _ (getDn_mem hne); rwa [hL.hd] at this
  have hle := nodup_subN hL.nd hL.sub
  constructor
  · intro hlt hc
    obtain ⟨M, hM, hmem, hlen, hno, hyes⟩ := chain_all (fun x _ y h => stepV_in hl hn h) (fun x hx x' hx' y h h' => stepV_inj hl hn hx hx' h h') (atV_nodup tl v) h0 (fun P hP hcl => conn_all hl hn hc h0 P hP hcl) hst
    -- L is M's beginning, and goes on
    have key : ∀ i, i < L.length → L.getD i 0 = M.getD i 0 := by
      intro i
      induction i with
      | zero => intro _; rw [hL.hd, hM.hd]
      | succ i ih =>
        intro hi
        have h1 := hL.st i hi
        have h2 := hM.st i (by omega)
        rw [ih (by omega), h2] at h1
        exact (Option.some.inj h1).symm
    have hs := hM.st (L.length - 1) (by omega)
    rw [← key (L.length - 1) (by omega), show L.length - 1 + 1 = L.length by omega] at hs
    rcases hend with h | h
    · rw [h] at hs; cases hs
    · rw [h] at hs
      have h3 := Option.some.inj hs
      have h4 := nodup_at hM.nd (show 0 < M.length by omega) (show L.length < M.length by omega) (by rw [hM.hd]; exact h3)
      omega
  · intro hc
    refine Nat.lt_of_le_of_ne hle fun e => hc (conn_chain hl hn hL fun x hx => nodup_allN hL.nd hL.sub (by omega) x hx)
/-- Nothing leads to i: its edge out of v has no other side. -/
theorem lead_iff {i : Nat} (hi : i ∈ atV tl v) : (∀ x ∈ atV tl v, stepV tl v x ≠ some i) ↔ lastV (edL tl (3 * tl.length)) (nw (tl.getD i z3) v, v) = none := by
  obtain ⟨h1, h2⟩ := mem_atV.1 hi
  constructor
  · intro h
    cases hx : lastV (edL tl (3 * tl.length)) (nw (tl.getD i z3) v, v) with
    | none => rfl
    | some y =>
      obtain ⟨a, rfl, ha, he⟩ := edge_told hx
      exact absurd ((stepV_iff hl hn).2 ⟨h1, h2, (pv_one (hl _ (getD3_mem ha)) he).symm⟩) (h a (mem_atV.2 ⟨ha, (hasE_hasV he).2⟩))
  · intro h x hx hs
    obtain ⟨a1, a2⟩ := mem_atV.1 hx
    have e := ((stepV_iff hl hn).1 hs).2.2
    have hp := pv_has a2
    rw [← e] at hp
    exact edge_none h x a1 hp
theorem chain_from {c0 : Nat} (h0 : c0 ∈ atV tl v) : ∃ L, Chain (stepV tl v) (atV tl v) c0 L ∧ (stepV tl v (L.getD (L.length - 1) 0) = none ∨ stepV tl v (L.getD (L.length - 1) 0) = some c0) :=
  chain_full (fun _ _ _ h => stepV_in hl hn h) (fun _ hx _ hx' _ h h' => stepV_inj hl hn hx hx' h h') _ [c0] ⟨by simp, rfl, by simp, fun x hx => by rw [List.mem_singleton.1 hx]; exact h0, fun i hi => by simp at hi⟩ rfl
end
/-- Which number stands on the other side of the edge j (counted through all triangles). -/
def acr (tl : List Tr) (j : Nat) : Int := (lastV (edL tl (3 * tl.length)) ((edE (tl.getD (j / 3) z3) (j % 3)).2, (edE (tl.getD (j / 3) z3) (j % 3)).1)).getD (-1)
theorem edE_at {t : Tr} (hl : ¬ loopT t) {k : Nat} (hk : k < 3) : edE t k = (vx t k, nw t (vx t k)) ∧ edE t ((k + 2) % 3) = (pv t (vx t k), vx t k) := by
  have n1 : t.1 ≠ t.2.1 := fun e => hl (.inl e)
  have n2 : t.2.1 ≠ t.2.2 := fun e => hl (.inr (.inl e))
  have n3 : t.2.2 ≠ t.1 := fun e => hl (.inr (.inr e))
  match k, hk with
  | 0, _ => simp [edE, vx, nw, pv]
  | 1, _ => simp [edE, vx, nw, pv, n1]
  | 2, _ => simp [edE, vx, nw, pv, n2, Ne.symm n3]
theorem acr_next {tl : List Tr} (hl : ∀ t ∈ tl, ¬ loopT t) {i k : Nat} (hi : i < tl.length) (hk : k < 3) : acr tl (3 * i + (k + 2) % 3) = ((stepV tl (vx (tl.getD i z3) k) i).map fun j => (j : Int)).getD (-1) := by
  unfold acr stepV
  rw [show (3 * i + (k + 2) % 3) / 3 = i by omega, show (3 * i + (k + 2) % 3) % 3 = (k + 2) % 3 by omega, (edE_at (hl _ (getD3_mem hi)) hk).2]
  cases hx : lastV (edL tl (3 * tl.length)) (vx (tl.getD i z3) k, pv (tl.getD i z3) (vx (tl.getD i z3) k)) with
  | none => rfl
  | some x =>
    obtain ⟨a, rfl, _, _⟩ := edge_told hx
    rfl
theorem acr_lead {tl : List Tr} (hl : ∀ t ∈ tl, ¬ loopT t) (hn : tl.Pairwise fun t u => ¬ twice t u) {i k : Nat} (hi : i < tl.length) (hk : k < 3) : acr tl (3 * i + k) < 0 ↔ ∀ x ∈ atV tl (vx (tl.getD i z3) k), stepV tl (vx (tl.getD i z3) k) x ≠ some i := by
  rw [lead_iff hl hn (mem_atV.2 ⟨hi, vx_has.2 ⟨k, hk, rfl⟩⟩)]
  unfold acr
  rw [show (3 * i + k) / 3 = i by omega, show (3 * i + k) % 3 = k by omega, (edE_at (hl _ (getD3_mem hi)) hk).1]
  cases hx : lastV (edL tl (3 * tl.length)) (nw (tl.getD i z3) (vx (tl.getD i z3) k), vx (tl.getD i z3) k) with
  | none => simp
  | some x =>
    obtain ⟨a, rfl, _, _⟩ := edge_told hx
    simp
end Go.Proofs.Ytelbmjbjpgcdaaa
