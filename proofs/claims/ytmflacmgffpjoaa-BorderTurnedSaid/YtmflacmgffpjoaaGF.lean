/- Texts laid one behind the other: CePinP, CeStart, CeAcr, CeMet, CePinch, CeRepP, CeRep, CeChk. -/
import Derived.Test.YtmflacmgffpjoaaGD
import Derived.Test.YtmflacmgffpjoaaGP
import Derived.Deep.DeepCutAuto
import Derived.Test.YtmflacmgffpjoaaGC

/- Layer 9: around a vertex, from triangle to triangle. -/
namespace Go.Proofs.Ytmflacmgffpjoaa
open Go.RowKit

/-- The vertex ahead of v, and the one behind it. -/
def pv (t : Tr) (v : Int) : Int := if t.1 = v then t.2.2 else if t.2.1 = v then t.1 else t.2.1
def nw (t : Tr) (v : Int) : Int := if t.1 = v then t.2.1 else if t.2.1 = v then t.2.2 else t.1
theorem pv_has {t : Tr} {v : Int} (h : hasV t v) : hasE t (pv t v) v := by
  unfold pv
  rcases h with h | h | h
  · rw [if_pos h]; exact .inr (.inr ⟨rfl, h⟩)
  · by_cases h1 : t.1 = v
    · rw [if_pos h1]; exact .inr (.inr ⟨rfl, h1⟩)
    · rw [if_neg h1, if_pos h]; exact .inl ⟨rfl, h⟩
  · by_cases h1 : t.1 = v
    · rw [if_pos h1]; exact .inr (.inr ⟨rfl, h1⟩)
    · rw [if_neg h1]
      by_cases h2 : t.2.1 = v
      · rw [if_pos h2]; exact .inl ⟨rfl, h2⟩
      · rw [if_neg h2]; exact .inr (.inl ⟨rfl, h⟩)
theorem nw_has {t : Tr} {v : Int} (h : hasV t v) : hasE t v (nw t v) := by
  unfold nw
  by_cases h1 : t.1 = v
  · rw [if_pos h1]; exact .inl ⟨h1, rfl⟩
  · rw [if_neg h1]
    by_cases h2 : t.2.1 = v
    · rw [if_pos h2]; exact .inr (.inl ⟨h2, rfl⟩)
    · rw [if_neg h2]
      rcases h with h | h | h
      · exact absurd h h1
      · exact absurd h h2
      · exact .inr (.inr ⟨h, rfl⟩)
theorem pv_one {t : Tr} (hl : ¬ loopT t) {u v : Int} (h : hasE t u v) : pv t v = u := by
  have n1 : t.1 ≠ t.2.1 := fun e => hl (.inl e)
  have n2 : t.2.1 ≠ t.2.2 := fun e => hl (.inr (.inl e))
  have n3 : t.2.2 ≠ t.1 := fun e => hl (.inr (.inr e))
  unfold pv
  rcases h with ⟨h1, h2⟩ | ⟨h1, h2⟩ | ⟨h1, h2⟩
  · rw [if_neg (by rw [← h2]; exact n1), if_pos h2, h1]
  · rw [if_neg (by rw [← h2]; exact Ne.symm n3), if_neg (by rw [← h2]; exact n2), h1]
  · rw [if_pos h2, h1]
theorem nw_one {t : Tr} (hl : ¬ loopT t) {u v : Int} (h : hasE t v u) : nw t v = u := by
  have n1 : t.1 ≠ t.2.1 := fun e => hl (.inl e)
  have n2 : t.2.1 ≠ t.2.2 := fun e => hl (.inr (.inl e))
  have n3 : t.2.2 ≠ t.1 := fun e => hl (.inr (.inr e))
  unfold nw
  rcases h with ⟨h1, h2⟩ | ⟨h1, h2⟩ | ⟨h1, h2⟩
  · rw [if_pos h1, h2]
  · rw [if_neg (by rw [← h1]; exact n1), if_pos h1, h2]
  · rw [if_neg (by rw [← h1]; exact Ne.symm n3), if_neg (by rw [← h1]; exact n2), h2]
/-- Two vertices of a triangle: one leads to the other. -/
theorem side_of {t : Tr} {v w : Int} (hv : hasV t v) (hw : hasV t w) (hne : w ≠ v) : w = nw t v ∨ w = pv t v := by
  unfold nw pv
  by_cases h1 : t.1 = v
  · rw [if_pos h1, if_pos h1]
    rcases hw with h | h | h
    · exact absurd (h.symm.trans h1) hne
    · exact .inl h.symm
    · exact .inr h.symm
  · rw [if_neg h1, if_neg h1]
    by_cases h2 : t.2.1 = v
    · rw [if_pos h2, if_pos h2]
      rcases hw with h | h | h
      · exact .inr h.symm
      · exact absurd (h.symm.trans h2) hne
      · exact .inl h.symm
    · rw [if_neg h2, if_neg h2]
      rcases hv with h | h | h
      · exact absurd h h1
      · exact absurd h h2
      · rcases hw with h' | h' | h'
        · exact .inl h'.symm
        · exact .inr h'.symm
        · exact absurd (h'.symm.trans h) hne
theorem pv_ne {t : Tr} (hl : ¬ loopT t) {v : Int} (h : hasV t v) : pv t v ≠ v := fun e => by
  have := pv_has h
  rw [e] at this
  exact hl (loopT_iff.2 ⟨v, this⟩)
theorem nw_ne {t : Tr} (hl : ¬ loopT t) {v : Int} (h : hasV t v) : nw t v ≠ v := fun e => by
  have := nw_has h
  rw [e] at this
  exact hl (loopT_iff.2 ⟨v, this⟩)
/-- The triangle that comes next around v. -/
def stepV (tl : List Tr) (v : Int) (i : Nat) : Option Nat := (lastV (edL tl (3 * tl.length)) (v, pv (tl.getD i z3) v)).map Int.toNat
def atV (tl : List Tr) (v : Int) : List Nat := (List.range tl.length).filter fun i => decide (hasV (tl.getD i z3) v)
theorem mem_atV {tl : List Tr} {v : Int} {i : Nat} : i ∈ atV tl v ↔ i < tl.length ∧ hasV (tl.getD i z3) v := by
  unfold atV
  rw [List.mem_filter, List.mem_range, decide_eq_true_iff]
theorem atV_nodup (tl : List Tr) (v : Int) : (atV tl v).Nodup := List.Nodup.sublist List.filter_sublist List.nodup_range
section
variable {tl : List Tr} (hl : ∀ t ∈ tl, ¬ loopT t) (hn : tl.Pairwise fun t u => ¬ twice t u) {v : Int}
include hl hn
theorem stepV_iff {i j : Nat} : stepV tl v i = some j ↔ j < tl.length ∧ hasV (tl.getD j z3) v ∧ nw (tl.getD j z3) v = pv (tl.getD i z3) v := by
  unfold stepV
  constructor
  · intro h
    obtain ⟨x, hx, rfl⟩ := Option.map_eq_some_iff.1 h
    obtain ⟨a, rfl, ha, he⟩ := edge_told hx
    rw [Int.toNat_natCast]
    exact ⟨ha, (hasE_hasV he).1, nw_one (hl _ (getD3_mem ha)) he⟩
  · rintro ⟨hj, hv, he⟩
    have h1 := nw_has hv
    rw [he] at h1
    rw [edge_one hn hj (e := (v, pv (tl.getD i z3) v)) h1]
    rfl
theorem stepV_none {i : Nat} : stepV tl v i = none ↔ ∀ j, j < tl.length → hasV (tl.getD j z3) v → nw (tl.getD j z3) v ≠ pv (tl.getD i z3) v := by
  constructor
  · intro h j hj hv he
    rw [(stepV_iff hl hn).2 ⟨hj, hv, he⟩] at h
    cases h
  · intro h
    cases hx : stepV tl v i with
    | none => rfl
    | some j =>
      obtain ⟨hj, hv, he⟩ := (stepV_iff hl hn).1 hx
      exact absurd he (h j hj hv)
theorem stepV_in {i j : Nat} (h : stepV tl v i = some j) : j ∈ atV tl v := by
  obtain ⟨h1, h2, _⟩ := (stepV_iff hl hn).1 h
  exact mem_atV.2 ⟨h1, h2⟩
theorem stepV_inj {x x' y : Nat} (hx : x ∈ atV tl v) (hx' : x' ∈ atV tl v) (h : stepV tl v x = some y) (h' : stepV tl v x' = some y) : x = x' := by
  obtain ⟨h1, h2⟩ := mem_atV.1 hx
  obtain ⟨h3, h4⟩ := mem_atV.1 hx'
  have e1 := ((stepV_iff hl hn).1 h).2.2
  have e2 := ((stepV_iff hl hn).1 h').2.2
  have e3 := pv_has h2
  have e4 := pv_has h4
  rw [← e2, e1] at e4
  exact Classical.byContradiction fun hne => notwice_ne hn h1 h3 hne (twice_iff.2 ⟨_, _, e3, e4⟩)
theorem step_adj {i j : Nat} (hi : i ∈ atV tl v) (h : stepV tl v i = some j) : adjV v (tl.getD i z3) (tl.getD j z3) := by
  obtain ⟨h1, h2⟩ := mem_atV.1 hi
  obtain ⟨h3, h4, h5⟩ := (stepV_iff hl hn).1 h
  refine ⟨pv (tl.getD i z3) v, pv_ne (hl _ (getD3_mem h1)) h2, (hasE_hasV (pv_has h2)).1, ?_⟩
  rw [← h5]
  exact (hasE_hasV (nw_has h4)).2
/-- Two triangles at v that hang together directly: the same one, or one follows the other. -/
theorem adj_step {i j : Nat} (hi : i ∈ atV tl v) (hj : j ∈ atV tl v) (h : adjV v (tl.getD i z3) (tl.getD j z3)) : i = j ∨ stepV tl v i = some j ∨ stepV tl v j = some i := by
  obtain ⟨h1, h2⟩ := mem_atV.1 hi
  obtain ⟨h3, h4⟩ := mem_atV.1 hj
  obtain ⟨w, hw, hi', hj'⟩ := h
  rcases side_of h2 hi' hw with e1 | e1 <;> rcases side_of h4 hj' hw with e2 | e2
  · refine .inl (Classical.byContradiction fun hne => notwice_ne hn h1 h3 hne (twice_iff.2 ⟨v, w, ?_, ?_⟩))
    · rw [e1]; exact nw_has h2
    · rw [e2]; exact nw_has h4
  · exact .inr (.inr ((stepV_iff hl hn).2 ⟨h1, h2, e1.symm.trans e2⟩))
  · exact .inr (.inl ((stepV_iff hl hn).2 ⟨h3, h4, e2.symm.trans e1⟩))
  · refine .inl (Classical.byContradiction fun hne => notwice_ne hn h1 h3 hne (twice_iff.2 ⟨w, v, ?_, ?_⟩))
    · rw [e1]; exact pv_has h2
    · rw [e2]; exact pv_has h4
theorem conn_all (hc : Conn tl v) {c0 : Nat} (h0 : c0 ∈ atV tl v) (P : Nat → Prop) (hP : P c0) (hcl : ∀ x ∈ atV tl v, ∀ y, stepV tl v x = some y → (P x ↔ P y)) : ∀ x ∈ atV tl v, P x := by
  intro x hx
  obtain ⟨h1, h2⟩ := mem_atV.1 hx
  obtain ⟨h3, h4⟩ := mem_atV.1 h0
  have same : ∀ {i j}, i ∈ atV tl v → j ∈ atV tl v → adjV v (tl.getD i z3) (tl.getD j z3) → P i → P j := fun {i j} hi hj hadj hPi => by
    rcases adj_step hl hn hi hj hadj with rfl | h | h
    · exact hPi
    · exact (hcl i hi j h).1 hPi
    · exact (hcl j hj i h).2 hPi
  obtain ⟨i, hi, e, hPi⟩ := hc (fun t => ∃ i, i ∈ atV tl v ∧ tl.getD i z3 = t ∧ P i) ⟨_, getD3_mem h3, h4, c0, h0, rfl, hP⟩ (fun t ht u hu htv huv ⟨i, hi, e, hPi⟩ hadj => by
    obtain ⟨j, hj, rfl⟩ := mem3_getD hu
    subst e
    exact ⟨j, mem_atV.2 ⟨hj, huv⟩, rfl, same hi (mem_atV.2 ⟨hj, huv⟩) hadj hPi⟩) _ (getD3_mem h1) h2
  refine same hi hx ?_ hPi
  rw [e]
  exact adjV_self (hl _ (getD3_mem h1))
theorem conn_chain {c0 : Nat} {L : List Nat} (hL : Chain (stepV tl v) (atV tl v) c0 L) (hall : ∀ x ∈ atV tl v, x ∈ L) : Conn tl v := by
  intro P hex hcl u hu huv
  have key : ∀ i, i < L.length → (P (tl.getD (L.getD i 0) z3) ↔ P (tl.getD c0 z3)) := by
    intro i
    induction i with
    | zero => intro _; rw [hL.hd]
    | succ i ih =>
      intro hi
      rw [← ih (by omega)]
      have hm := hL.sub _ (getDn_mem (show i < L.length by omega))
      have hm' := hL.sub _ (getDn_mem hi)
      have hs := step_adj hl hn hm (hL.st i hi)
      obtain ⟨a1, a2⟩ := mem_atV.1 hm
      obtain ⟨b1, b2⟩ := mem_atV.1 hm'
      exact ⟨fun h => hcl _ (getD3_mem b1) _ (getD3_mem a1) b2 a2 h (adjV_symm hs), fun h => hcl _ (getD3_mem a1) _ (getD3_mem b1) a2 b2 h hs⟩
  have all : ∀ x ∈ atV tl v, (P (tl.getD x z3) ↔ P (tl.getD c0 z3)) := fun x hx => by
    obtain ⟨i, hi, rfl⟩ := memn_getD (hall x hx)
    exact key i hi
  obtain ⟨t, ht, htv, hP⟩ := hex
  obtain ⟨i, hi, rfl⟩ := mem3_getD ht
  obtain ⟨j, hj, rfl⟩ := mem3_getD hu
  exact (all j (mem_atV.2 ⟨hj, huv⟩)).2 ((all i (mem_atV.2 ⟨hi, htv⟩)).1 hP)
/-- A row as long as may be, from a place where nothing leads to, if there is one: it goes through all just if all hang together. -/
theorem met_iff {c0 : Nat} {L : List Nat} (hL : Chain (stepV tl v) (atV tl v) c0 L) (hend : stepV tl v (L.getD (L.length - 1) 0) = none ∨ stepV tl v (L.getD (L.length - 1) 0) = some c0)
    (hst : (∀ x ∈ atV tl v, stepV tl v x ≠ some c0) ∨ ∀ y ∈ atV tl v, ∃ x ∈ atV tl v, stepV tl v x = some y) : L.length < (atV tl v).length ↔ ¬ Conn tl v := by
  have hne := hL.ne
  have h0 : c0 ∈ atV tl v := by have := hL.sub _ (getDn_mem hne); rwa [hL.hd] at this
  have hle := nodup_subN hL.nd hL.sub
  constructor
  · intro hlt hc
    obtain ⟨M, hM, hmem, hlen, hno, hyes⟩ := chain_all (fun x _ y h => stepV_in hl hn h) (fun x hx x' hx' y h h' => stepV_inj hl hn hx hx' h h') (atV_nodup tl v) h0 (fun P hP hcl => conn_all hl hn hc h0 P hP hcl) hst
    -- L is M's beginning, and goes on
    have key : ∀ i, i < L.length → L.getD i 0 = M.getD i 0 := by
      intro i
      induction i with
      | zero => intro _; rw [hL.hd, hM.hd]
      | succ i ih =>
        intro hi
        have h1 := hL.st i hi
        have h2 := hM.st i (by omega)
        rw [ih (by omega), h2] at h1
        exact (Option.some.inj h1).symm
    have hs := hM.st (L.length - 1) (by omega)
    rw [← key (L.length - 1) (by omega), show L.length - 1 + 1 = L.length by omega] at hs
    rcases hend with h | h
    · rw [h] at hs; cases hs
    · rw [h] at hs
      have h3 := Option.some.inj hs
      have h4 := nodup_at hM.nd (show 0 < M.length by omega) (show L.length < M.length by omega) (by rw [hM.hd]; exact h3)
      omega
  · intro hc
    refine Nat.lt_of_le_of_ne hle fun e => hc (conn_chain hl hn hL fun x hx => nodup_allN hL.nd hL.sub (by omega) x hx)
/-- Nothing leads to i: its edge out of v has no other side. -/
theorem lead_iff {i : Nat} (hi : i ∈ atV tl v) : (∀ x ∈ atV tl v, stepV tl v x ≠ some i) ↔ lastV (edL tl (3 * tl.length)) (nw (tl.getD i z3) v, v) = none := by
  obtain ⟨h1, h2⟩ := mem_atV.1 hi
  constructor
  · intro h
    cases hx : lastV (edL tl (3 * tl.length)) (nw (tl.getD i z3) v, v) with
    | none => rfl
    | some y =>
      obtain ⟨a, rfl, ha, he⟩ := edge_told hx
      exact absurd ((stepV_iff hl hn).2 ⟨h1, h2, (pv_one (hl _ (getD3_mem ha)) he).symm⟩) (h a (mem_atV.2 ⟨ha, (hasE_hasV he).2⟩))
  · intro h x hx hs
    obtain ⟨a1, a2⟩ := mem_atV.1 hx
    have e := ((stepV_iff hl hn).1 hs).2.2
    have hp := pv_has a2
    rw [← e] at hp
    exact edge_none h x a1 hp
theorem chain_from {c0 : Nat} (h0 : c0 ∈ atV tl v) : ∃ L, Chain (stepV tl v) (atV tl v) c0 L ∧ (stepV tl v (L.getD (L.length - 1) 0) = none ∨ stepV tl v (L.getD (L.length - 1) 0) = some c0) :=
  chain_full (fun _ _ _ h => stepV_in hl hn h) (fun _ hx _ hx' _ h h' => stepV_inj hl hn hx hx' h h') _ [c0] ⟨by simp, rfl, by simp, fun x hx => by rw [List.mem_singleton.1 hx]; exact h0, fun i hi => by simp at hi⟩ rfl
end
/-- Which number stands on the other side of the edge j (counted through all triangles). -/
def acr (tl : List Tr) (j : Nat) : Int := (lastV (edL tl (3 * tl.length)) ((edE (tl.getD (j / 3) z3) (j % 3)).2, (edE (tl.getD (j / 3) z3) (j % 3)).1)).getD (-1)
theorem edE_at {t : Tr} (hl : ¬ loopT t) {k : Nat} (hk : k < 3) : edE t k = (vx t k, nw t (vx t k)) ∧ edE t ((k + 2) % 3) = (pv t (vx t k), vx t k) := by
  have n1 : t.1 ≠ t.2.1 := fun e => hl (.inl e)
  have n2 : t.2.1 ≠ t.2.2 := fun e => hl (.inr (.inl e))
  have n3 : t.2.2 ≠ t.1 := fun e => hl (.inr (.inr e))
  match k, hk with
  | 0, _ => simp [edE, vx, nw, pv]
  | 1, _ => simp [edE, vx, nw, pv, n1]
  | 2, _ => simp [edE, vx, nw, pv, n2, Ne.symm n3]
theorem acr_next {tl : List Tr} (hl : ∀ t ∈ tl, ¬ loopT t) {i k : Nat} (hi : i < tl.length) (hk : k < 3) : acr tl (3 * i + (k + 2) % 3) = ((stepV tl (vx (tl.getD i z3) k) i).map fun j => (j : Int)).getD (-1) := by
  unfold acr stepV
  rw [show (3 * i + (k + 2) % 3) / 3 = i by omega, show (3 * i + (k + 2) % 3) % 3 = (k + 2) % 3 by omega, (edE_at (hl _ (getD3_mem hi)) hk).2]
  cases hx : lastV (edL tl (3 * tl.length)) (vx (tl.getD i z3) k, pv (tl.getD i z3) (vx (tl.getD i z3) k)) with
  | none => rfl
  | some x =>
    obtain ⟨a, rfl, _, _⟩ := edge_told hx
    rfl
theorem acr_lead {tl : List Tr} (hl : ∀ t ∈ tl, ¬ loopT t) (hn : tl.Pairwise fun t u => ¬ twice t u) {i k : Nat} (hi : i < tl.length) (hk : k < 3) : acr tl (3 * i + k) < 0 ↔ ∀ x ∈ atV tl (vx (tl.getD i z3) k), stepV tl (vx (tl.getD i z3) k) x ≠ some i := by
  rw [lead_iff hl hn (mem_atV.2 ⟨hi, vx_has.2 ⟨k, hk, rfl⟩⟩)]
  unfold acr
  rw [show (3 * i + k) / 3 = i by omega, show (3 * i + k) % 3 = k by omega, (edE_at (hl _ (getD3_mem hi)) hk).1]
  cases hx : lastV (edL tl (3 * tl.length)) (nw (tl.getD i z3) (vx (tl.getD i z3) k), vx (tl.getD i z3) k) with
  | none => simp
  | some x =>
    obtain ⟨a, rfl, _, _⟩ := edge_told hx
    simp
end Go.Proofs.Ytmflacmgffpjoaa

/- Layer 9: how many triangles there are at a vertex, and where to begin. -/
namespace Go.Proofs.Ytmflacmgffpjoaa
open Go.RowKit

/-- Triangle a has been met at v, when the triangles below k and m corners of k have. -/
def met9 (tl : List Tr) (k m : Nat) (v : Int) (a : Nat) : Prop := (a < k ∧ hasV (tl.getD a z3) v) ∨ (a = k ∧ ∃ j, j < m ∧ vx (tl.getD k z3) j = v)
/-- Nothing leads to triangle a around v. -/
def leads0 (tl : List Tr) (v : Int) (a : Nat) : Prop := ∀ x ∈ atV tl v, stepV tl v x ≠ some a
def cnt9 (tl : List Tr) (k m : Nat) (v : Int) : Nat := ((List.range k).filter fun a => decide (hasV (tl.getD a z3) v)).length + ((List.range m).filter fun j => decide (vx (tl.getD k z3) j = v)).length
structure Begin (tl : List Tr) (N k m : Nat) (cl sl : List Int) : Prop where
  l1 : cl.length = N
  l2 : sl.length = N
  cnt : ∀ v, v < N → cl.getD v 0 = (cnt9 tl k m (v : Int) : Int)
  at' : ∀ v, v < N → 0 < cnt9 tl k m (v : Int) → ∃ a : Nat, sl.getD v 0 = (a : Int) ∧ met9 tl k m v a ∧ (leads0 tl v a ∨ ∀ b, met9 tl k m v b → ¬ leads0 tl v b)
theorem Begin.start (tl : List Tr) (N : Nat) : Begin tl N 0 0 (List.replicate N 0) (List.replicate N 0) := by
  have g : ∀ v, v < N → (List.replicate N (0 : Int)).getD v 0 = 0 := fun v hv => by rw [List.getD_eq_getElem?_getD, List.getElem?_replicate, if_pos hv]; rfl
  exact ⟨List.length_replicate, List.length_replicate, fun v hv => by rw [g v hv]; rfl, fun v hv h => absurd h (by simp [cnt9])⟩
theorem cnt9_corner {tl : List Tr} {k m : Nat} (v : Int) : cnt9 tl k (m + 1) v = cnt9 tl k m v + (if vx (tl.getD k z3) m = v then 1 else 0) := by
  unfold cnt9
  rw [List.range_succ, List.filter_append, List.length_append, List.filter_cons]
  by_cases h : vx (tl.getD k z3) m = v
  · rw [if_pos (by simpa using h), if_pos h]; simp; omega
  · rw [if_neg (by simpa using h), if_neg h]; simp
theorem met9_corner {tl : List Tr} {k m : Nat} {v : Int} {a : Nat} : met9 tl k (m + 1) v a ↔ met9 tl k m v a ∨ (a = k ∧ vx (tl.getD k z3) m = v) := by
  unfold met9
  constructor
  · rintro (h | ⟨h, j, hj, e⟩)
    · exact .inl (.inl h)
    · by_cases hjm : j = m
      · subst hjm; exact .inr ⟨h, e⟩
      · exact .inl (.inr ⟨h, j, by omega, e⟩)
  · rintro ((h | ⟨h, j, hj, e⟩) | ⟨h, e⟩)
    · exact .inl h
    · exact .inr ⟨h, j, by omega, e⟩
    · exact .inr ⟨h, m, by omega, e⟩
theorem met9_none {tl : List Tr} {k m : Nat} {v : Int} (h : cnt9 tl k m v = 0) (a : Nat) : ¬ met9 tl k m v a := by
  unfold cnt9 at h
  have h1 := List.eq_nil_of_length_eq_zero (show ((List.range k).filter fun a => decide (hasV (tl.getD a z3) v)).length = 0 by omega)
  have h2 := List.eq_nil_of_length_eq_zero (show ((List.range m).filter fun j => decide (vx (tl.getD k z3) j = v)).length = 0 by omega)
  rw [List.filter_eq_nil_iff] at h1 h2
  rintro (⟨ha, hv⟩ | ⟨_, j, hj, e⟩)
  · exact h1 a (List.mem_range.2 ha) (decide_eq_true hv)
  · exact h2 j (List.mem_range.2 hj) (decide_eq_true e)
theorem getD_set9 {l : List Int} {i j : Nat} {x : Int} (hi : i < l.length) : (l.set i x).getD j 0 = if i = j then x else l.getD j 0 := by
  rw [List.getD_eq_getElem?_getD, List.getElem?_set, List.getD_eq_getElem?_getD]
  by_cases e : i = j
  · rw [if_pos e, if_pos e, if_pos hi]; rfl
  · rw [if_neg e, if_neg e]
/-- A corner of k at v: v is counted, and k is where to begin if it's the first, or nothing leads to it. -/
theorem Begin.corner {tl : List Tr} {N k m v : Nat} {cl sl : List Int} (h : Begin tl N k m cl sl) (hv : v < N) (hx : vx (tl.getD k z3) m = (v : Int)) {sl' : List Int} (hs : (sl' = sl.set v (k : Int) ∧ (cnt9 tl k m (v : Int) = 0 ∨ leads0 tl v k)) ∨ (sl' = sl ∧ cnt9 tl k m (v : Int) ≠ 0 ∧ ¬ leads0 tl v k)) :
    Begin tl N k (m + 1) (cl.set v (cl.getD v 0 + 1)) sl' := by
  refine ⟨by rw [List.length_set]; exact h.l1, ?_, fun u hu => ?_, fun u hu hc => ?_⟩
  · rcases hs with ⟨rfl, _⟩ | ⟨rfl, _⟩
    · rw [List.length_set]; exact h.l2
    · exact h.l2
  · rw [getD_set9 (by rw [h.l1]; exact hv), cnt9_corner, hx]
    by_cases e : v = u
    · subst e
      rw [if_pos rfl, if_pos rfl, h.cnt v hv]; omega
    · rw [if_neg e, if_neg (by omega), h.cnt u hu]; omega
  · by_cases e : v = u
    · subst e
      rcases hs with ⟨rfl, h1⟩ | ⟨rfl, h1, h2⟩
      · refine ⟨k, by rw [getD_set9 (by rw [h.l2]; exact hv), if_pos rfl], met9_corner.2 (.inr ⟨rfl, hx⟩), ?_⟩
        by_cases hk : leads0 tl v k
        · exact .inl hk
        · have h0 : cnt9 tl k m (v : Int) = 0 := h1.resolve_right hk
          refine .inr fun b hb => ?_
          rcases met9_corner.1 hb with hb | ⟨rfl, _⟩
          · exact absurd hb (met9_none h0 b)
          · exact hk
      · obtain ⟨a, e1, e2, e3⟩ := h.at' v hv (by omega)
        refine ⟨a, e1, met9_corner.2 (.inl e2), e3.imp id fun e3 b hb => ?_⟩
        rcases met9_corner.1 hb with hb | ⟨rfl, _⟩
        · exact e3 b hb
        · exact h2
    · have hsu : sl'.getD u 0 = sl.getD u 0 := by
        rcases hs with ⟨rfl, _⟩ | ⟨rfl, _⟩
        · rw [getD_set9 (by rw [h.l2]; exact hv), if_neg e]
        · rfl
      have hne : ¬ vx (tl.getD k z3) m = (u : Int) := by rw [hx]; omega
      rw [cnt9_corner, if_neg hne] at hc
      obtain ⟨a, e1, e2, e3⟩ := h.at' u hu hc
      refine ⟨a, by rw [hsu]; exact e1, met9_corner.2 (.inl e2), e3.imp id fun e3 b hb => ?_⟩
      rcases met9_corner.1 hb with hb | ⟨_, hb⟩
      · exact e3 b hb
      · exact absurd hb hne
theorem corners_len {t : Tr} (hl : ¬ loopT t) (v : Int) : ((List.range 3).filter fun j => decide (vx t j = v)).length = if hasV t v then 1 else 0 := by
  have n1 : t.1 ≠ t.2.1 := fun e => hl (.inl e)
  have n2 : t.2.1 ≠ t.2.2 := fun e => hl (.inr (.inl e))
  have n3 : t.2.2 ≠ t.1 := fun e => hl (.inr (.inr e))
  rw [show List.range 3 = [0, 1, 2] from rfl]
  simp only [List.filter_cons, List.filter_nil, vx]
  unfold hasV
  by_cases h0 : t.1 = v
  · have h1 : ¬ t.2.1 = v := fun h => n1 (h0.trans h.symm)
    have h2 : ¬ t.2.2 = v := fun h => n3 (h.trans h0.symm)
    simp [h0, h1, h2]
  · by_cases h1 : t.2.1 = v
    · have h2 : ¬ t.2.2 = v := fun h => n2 (h1.trans h.symm)
      simp [h0, h1, h2]
    · by_cases h2 : t.2.2 = v
      · simp [h0, h1, h2]
      · simp [h0, h1, h2]
theorem Begin.next {tl : List Tr} {N k : Nat} {cl sl : List Int} (h : Begin tl N k 3 cl sl) (hl : ¬ loopT (tl.getD k z3)) : Begin tl N (k + 1) 0 cl sl := by
  have hc : ∀ v : Int, cnt9 tl (k + 1) 0 v = cnt9 tl k 3 v := fun v => by
    unfold cnt9
    rw [corners_len hl v, List.range_succ, List.filter_append, List.length_append, List.filter_cons]
    by_cases hv : hasV (tl.getD k z3) v
    · rw [if_pos (decide_eq_true hv), if_pos hv]; simp
    · rw [if_neg (by simpa using hv), if_neg hv]; simp
  have hm : ∀ (v : Int) a, met9 tl (k + 1) 0 v a ↔ met9 tl k 3 v a := fun v a => by
    unfold met9
    constructor
    · rintro (⟨h1, h2⟩ | ⟨_, j, hj, _⟩)
      · by_cases hak : a = k
        · subst hak
          exact .inr ⟨rfl, vx_has.1 h2⟩
        · exact .inl ⟨by omega, h2⟩
      · omega
    · rintro (⟨h1, h2⟩ | ⟨rfl, h2⟩)
      · exact .inl ⟨by omega, h2⟩
      · exact .inl ⟨by omega, vx_has.2 h2⟩
  refine ⟨h.l1, h.l2, fun v hv => by rw [hc]; exact h.cnt v hv, fun v hv h0 => ?_⟩
  obtain ⟨a, e1, e2, e3⟩ := h.at' v hv (by rwa [hc] at h0)
  exact ⟨a, e1, (hm _ _).2 e2, e3.imp id fun e3 b hb => e3 b ((hm _ _).1 hb)⟩
/-- When all triangles have been met. -/
theorem Begin.done {tl : List Tr} {N : Nat} {cl sl : List Int} (h : Begin tl N tl.length 0 cl sl) {v : Nat} (hv : v < N) (hu : ∃ t ∈ tl, hasV t (v : Int)) :
    cl.getD v 0 = ((atV tl v).length : Int) ∧ ∃ a : Nat, sl.getD v 0 = (a : Int) ∧ a ∈ atV tl v ∧ ((∀ x ∈ atV tl v, stepV tl v x ≠ some a) ∨ ∀ y ∈ atV tl v, ∃ x ∈ atV tl v, stepV tl v x = some y) := by
  have hc : cnt9 tl tl.length 0 (v : Int) = (atV tl v).length := by unfold cnt9 atV; simp
  have hm : ∀ a, met9 tl tl.length 0 v a ↔ a ∈ atV tl v := fun a => by
    rw [mem_atV]
    unfold met9
    constructor
    · rintro (h1 | ⟨_, j, hj, _⟩)
      · exact h1
      · omega
    · exact .inl
  have h0 : 0 < cnt9 tl tl.length 0 (v : Int) := by
    obtain ⟨t, ht, htv⟩ := hu
    obtain ⟨i, hi, rfl⟩ := mem3_getD ht
    rw [hc]
    exact List.length_pos_of_mem (mem_atV.2 ⟨hi, htv⟩)
  refine ⟨by rw [h.cnt v hv, hc], ?_⟩
  obtain ⟨a, e1, e2, e3⟩ := h.at' v hv h0
  refine ⟨a, e1, (hm a).1 e2, e3.imp id fun e3 y hy => ?_⟩
  have h4 := e3 y ((hm y).2 hy)
  refine Classical.byContradiction fun hno => h4 fun x hx hs => hno ⟨x, hx, hs⟩
end Go.Proofs.Ytmflacmgffpjoaa

/- Layer 9: which triangles stand on the other side of each edge. -/
namespace Go.Proofs.Ytmflacmgffpjoaa
open Go.RowKit

def halfI (f : Nat → Int) (n k : Nat) : List Int := (List.range n).map fun i => if i < k then f i else 0
theorem halfI_zero (f : Nat → Int) (n : Nat) : halfI f n 0 = List.replicate n 0 := by
  unfold halfI
  apply List.ext_getElem? ; intro i; by_cases h : i < n <;> simp [h]
theorem halfI_len (f : Nat → Int) (n k : Nat) : (halfI f n k).length = n := by simp [halfI]
theorem halfI_set (f : Nat → Int) (n k : Nat) : (halfI f n k).set k (f k) = halfI f n (k + 1) := by
  unfold halfI
  apply List.ext_getElem?
  intro i
  by_cases h : i < n
  · by_cases e : k = i
    · subst e; simp [h]
    · have : (i < k + 1) ↔ i < k := by omega
      simp [e, h, this]
  · simp [h]
theorem halfI_at (f : Nat → Int) (n : Nat) {i : Nat} (hi : i < n) : (halfI f n n).getD i 0 = f i := by
  unfold halfI
  rw [List.getD_eq_getElem?_getD]
  simp [hi]
/-- Numbers in a block of triples. -/
def TripRow (w : World) (q : Nat) (l : List Int) : Prop := w.heap[q]? = some (.cells (ints l).toArray 52 (0, 0))
theorem TripRow.cell {w : World} {q : Nat} {l : List Int} (h : TripRow w q l) (k : Nat) (hk : k < l.length) : w.cell? ⟨q, k, none⟩ = some (.int .i64 (l.getD k 0)) := by
  rw [cell_in h, List.getElem?_toArray, ints_at, List.getD_eq_getElem?_getD, List.getElem?_eq_getElem hk]; rfl
theorem TripRow.set {w : World} {q : Nat} {l : List Int} (h : TripRow w q l) (k : Nat) (v : Int) : TripRow (w.setCell ⟨q, k, none⟩ (.int .i64 v)) q (l.set k v) := by
  unfold TripRow
  rw [heap_set h k _, ints_set]
  simp
theorem Try.infoArr : (Try.prog.info? 52).map (fun i => (i.zero, i.size, i.bytes)) = some (some (.agg #[.int .i64 0, .int .i64 0, .int .i64 0]), 3, 24) := by kernel_rfl
theorem makeR9 (n : Nat) (hn : n ≤ 1000000) (W : World) : (Instr.makeSlice 98 (.int .i64 (n : Int)) (.int .i64 (n : Int))).run Try.prog W = .ok (.slice (some ⟨W.heap.size, 0, none⟩) n n) (W.alloc (.cells (ints (List.replicate (3 * n) 0)).toArray 52)) := by
  obtain ⟨i0, hi, hz0, hz1, hz2⟩ := info_parts Try.infoArr
  have := run_make (P := Try.prog) W 98 52 i0 _ Try.underlying98 hi hz0 .i64 .i64 (n : Int) (n : Int) (by omega) (by omega) (by rw [hz2]; omega) (by omega)
  rw [this, hz1]
  have e : madeCells (Value.agg #[.int .i64 0, .int .i64 0, .int .i64 0]).cells ((n : Int).toNat * 3) = (ints (List.replicate (3 * n) 0)).toArray := by
    apply Array.toList_inj.1
    show (madeCells #[.int .i64 0, .int .i64 0, .int .i64 0] (n * 3)).toList = _
    rw [made_zero, Nat.mul_comm]; simp [ints]
  rw [e]
  rfl
def AcOut (w : World) (ab n : Nat) (tl : List Tr) (i : Value) (wr : World) : Prop := ∃ k : Nat, k ≤ n ∧ i = .int .i64 (k : Int) ∧ Below w.heap.size w wr ∧ TripRow wr ab (halfI (acr tl) (3 * n) (3 * k))
def AcIn (w : World) (ab n r : Nat) (tl : List Tr) (k : Nat) (x : Tr) (j : Value) (wr : World) : Prop := ∃ m : Nat, m ≤ 3 ∧ j = .int .i64 (m : Int) ∧ Below w.heap.size w wr ∧ TripRow wr ab (halfI (acr tl) (3 * n) (3 * k + m)) ∧ wr.heap[r]? = some (.cells #[.int .i64 x.1, .int .i64 x.2.1, .int .i64 x.2.2] 53 (0, 0)) ∧ ab < r
def AcTold (w : World) (n : Nat) (tl : List Tr) (e : Ending) (w' : World) : Prop := ∃ ab, e = .returned (.slice (some ⟨ab, 0, none⟩) n n) ∧ TripRow w' ab (halfI (acr tl) (3 * n) (3 * n)) ∧ Below w.heap.size w w' ∧ w.heap.size ≤ ab

set_option maxHeartbeats 8000000 in
set_option maxRecDepth 100000 in
theorem cacross_any (S : Nat → Prop) (w : World) (g b : Nat) (N : Int) (A : Option Addr) (n c : Nat) (tl : List Tr) (hs : Full S g N A n c b tl w) (hn : n ≤ 8192) (hN : N ≤ 4096) (hin : ∀ t ∈ tl, inN N t.1 ∧ inN N t.2.1 ∧ inN N t.2.2) : Calls Try.prog 83 #[.pointer (some ⟨g, 0, none⟩)] w (AcTold w n tl) := by
  have HL := Lib.hid hs.seen.t3.1
  have HS := Lib.hid hs
  have HIN := Lib.hid hin
  have c1 := hs.seen.c1
  have KE := Lib.hid (fun W (h : W.heap[g]? = some (.cells #[.int .i64 N, .slice A n c, .map (some b)] 88 (0, 0))) => cedges_set W g b N A n c h)
  have hmk := fun W => makeR9 n (by omega) W
  obtain ⟨ab, hab⟩ : ∃ ab, w.heap.size = ab := ⟨_, rfl⟩
  obtain ⟨w1, hw1⟩ : ∃ w1, w.alloc (.cells (ints (List.replicate (3 * n) 0)).toArray 52) = w1 := ⟨_, rfl⟩
  have b1 : Below w.heap.size w w1 := by rw [← hw1]; exact (Below.refl _ w).alloc (Nat.le_refl _) _
  have row1 : TripRow w1 ab (halfI (acr tl) (3 * n) (3 * 0)) := by rw [halfI_zero, ← hw1, ← hab]; exact heap_alloc_new w _
  have c2 := (hs.chg (.of_below b1)).seen.c1
  have ST := Lib.hid (And.intro b1 row1)
  have HAB := Lib.hid hab
  clear hs hin b1 row1
  go_enter Try.func83, Try.ntmps83
  go_wp2_with fail
  clear hw1 hab hmk c1 c2
  go_loopw [23] (AcOut w ab n tl) (fun i _ => n - (intOf i).toNat)
  case atStart => exact ⟨0, Nat.zero_le _, rfl, ST.out⟩
  case round =>
    obtain ⟨k, hk, rfl, hbw, hrow⟩ := hrel
    have HR := Lib.hid (And.intro hbw hrow)
    clear hbw hrow
    by_cases hlt : k < n
    case neg =>
      obtain rfl : k = n := by omega
      have b1 : ¬ (k : Int) < k := by omega
      go_wp2
      go_ret
      exact ⟨ab, rfl, HR.out.2, HR.out.1, by rw [HAB.out]; exact Nat.le_refl _⟩
    have b1 : (k : Int) < n := by omega
    have fr := HS.out.chg (.of_below HR.out.1)
    obtain ⟨bA, off, rfl, hat⟩ := fr.seen.t3.2 (by omega)
    obtain ⟨c0, c1, c2⟩ := hat k hlt
    clear hat
    obtain ⟨x, hx⟩ : ∃ x, tl.getD k z3 = x := ⟨_, rfl⟩
    rw [hx] at c0 c1 c2
    have hinx := HIN.out _ (show x ∈ tl by rw [← hx]; exact getD3_mem (by rw [HL.out]; exact hlt))
    have HX := Lib.hid (And.intro hx hinx)
    clear hx hinx fr
    obtain ⟨x0, x1, x2⟩ := x
    obtain ⟨w2, hw2⟩ : ∃ w2, wr.alloc (.cells #[.int .i64 x0, .int .i64 x1, .int .i64 x2] 53) = w2 := ⟨_, rfl⟩
    have b2 : Below wr.heap.size wr w2 := by rw [← hw2]; exact (Below.refl _ wr).alloc (Nat.le_refl _) _
    obtain ⟨r, hr⟩ : ∃ r, wr.heap.size = r := ⟨_, rfl⟩
    have r0 : w2.heap[r]? = some (.cells #[.int .i64 x0, .int .i64 x1, .int .i64 x2] 53 (0, 0)) := by rw [← hw2, ← hr]; exact heap_alloc_new wr _
    have hrab : ab < r := by rw [← hr]; exact heap_lt HR.out.2
    have T2 := Lib.hid (show Below w.heap.size w w2 ∧ TripRow w2 ab (halfI (acr tl) (3 * n) (3 * k)) ∧ w2.heap[r]? = some (.cells #[.int .i64 x0, .int .i64 x1, .int .i64 x2] 53 (0, 0)) ∧ ab < r from ⟨HR.out.1.trans (b2.mono HR.out.1.size), (b2.block ab (heap_lt HR.out.2)).trans HR.out.2, r0, hrab⟩)
    clear b2 r0 hrab
    go_wp2_with fail
    clear hw2 hr c0 c1 c2
    go_loopw [28] (AcIn w ab n r tl k (x0, x1, x2)) (fun j _ => 3 - (intOf j).toNat)
    case atStart => exact ⟨0, by omega, rfl, T2.out⟩
    case round =>
      obtain ⟨m, hm, rfl, hbw, hrow, r0, hrab⟩ := hrel
      by_cases hm3 : m < 3
      case neg =>
        obtain rfl : m = 3 := by omega
        have HM := Lib.hid (And.intro hbw hrow)
        clear hbw hrow r0 hrab
        go_wp2_with fail
        refine ⟨⟨k + 1, by omega, by go_num, HM.out.1, ?_⟩, by simp [intOf]; omega⟩
        rw [Nat.mul_add]
        exact HM.out.2
      have m1 : (m : Int) < 3 := by omega
      have q0 : wr.cell? ⟨r, 0, none⟩ = some (.int .i64 x0) := by rw [cell_in r0]; rfl
      have q1 : wr.cell? ⟨r, 1, none⟩ = some (.int .i64 x1) := by rw [cell_in r0]; rfl
      have q2 : wr.cell? ⟨r, 2, none⟩ = some (.int .i64 x2) := by rw [cell_in r0]; rfl
      have K2 := Lib.hid (cedge_any wr x0 x1 x2 m hm3)
      have HM := Lib.hid (And.intro hbw (And.intro hrow (And.intro r0 hrab)))
      clear hbw hrow r0 hrab
      go_wp2_with fail
      refine K2.out.mono ?_
      rintro e w9 ⟨rfl, b9⟩
      have hwf := edE_wf (x := (x0, x1, x2)) HX.out.2 hN m
      obtain ⟨d, hd⟩ : ∃ d, edE (x0, x1, x2) m = d := ⟨_, rfl⟩
      rw [hd] at hwf
      have HD := Lib.hid hd
      simp only [hd]
      clear hd q0 q1 q2
      obtain ⟨d0, d1⟩ := d
      obtain ⟨w10, hw10⟩ : ∃ w10, w9.alloc (.cells #[.int .i64 d0, .int .i64 d1] 59) = w10 := ⟨_, rfl⟩
      have b10 : Below w9.heap.size w9 w10 := by rw [← hw10]; exact (Below.refl _ w9).alloc (Nat.le_refl _) _
      obtain ⟨q, hq⟩ : ∃ q, w9.heap.size = q := ⟨_, rfl⟩
      have e0 : w10.heap[q]? = some (.cells #[.int .i64 d0, .int .i64 d1] 59 (0, 0)) := by rw [← hw10, ← hq]; exact heap_alloc_new w9 _
      have b11 := b9.trans (b10.mono b9.size)
      have B11 := Lib.hid (HM.out.1.trans (b11.mono HM.out.1.size))
      have row11 : TripRow w10 ab (halfI (acr tl) (3 * n) (3 * k + m)) := (b11.block ab (heap_lt HM.out.2.1)).trans HM.out.2.1
      have r11 := (b11.block r (heap_lt HM.out.2.2.1)).trans HM.out.2.2.1
      have fr := HS.out.chg (.of_below B11.out)
      have hlk := fun s => (show MapL (w10.drewN s) b (edL tl (3 * n)) from fr.mp.kept rfl).look (d1, d0) ⟨hwf.2, hwf.1⟩
      have KE1 := Lib.hid (fun s => KE.out (w10.drewN s) fr.seen.lb)
      have E0 : w10.cell? ⟨q, 0, none⟩ = some (.int .i64 d0) := by rw [cell_in e0]; rfl
      have E1 : w10.cell? ⟨q, 1, none⟩ = some (.int .i64 d1) := by rw [cell_in e0]; rfl
      have hac : acr tl (3 * k + m) = (lastV (edL tl (3 * n)) (d1, d0)).getD (-1) := by
        unfold acr
        rw [show (3 * k + m) / 3 = k by omega, show (3 * k + m) % 3 = m by omega, HX.out.1, HD.out, HL.out]
      obtain ⟨v, hv⟩ : ∃ v, lastV (edL tl (3 * n)) (d1, d0) = v := ⟨_, rfl⟩
      simp only [hv] at hlk
      rw [hv] at hac
      have N11 := Lib.hid (And.intro row11 (And.intro r11 hac))
      clear row11 r11 fr e0 b9 b10 b11 hwf hac hv
      go_wp2_with fail
      go_quiet ((go_at_call 80; exact Calls.quiet_of_same (KE1.out _)))
      obtain ⟨W, hW⟩ : ∃ W, w10.drewN nq = W := ⟨_, rfl⟩
      have rW : Reading w10 W := ⟨nq, hW.symm⟩
      have rowW : TripRow W ab (halfI (acr tl) (3 * n) (3 * k + m)) := (rW.below.block (B := w10.heap.size) ab (heap_lt N11.out.1)).trans N11.out.1
      have rW0 := (rW.below.block (B := w10.heap.size) r (heap_lt N11.out.2.1)).trans N11.out.2.1
      have y0 := rowW.cell (k * 3 + m) (by rw [halfI_len]; omega)
      have y1 := frozen_in rowW (k * 3 + m)
      have BW := Lib.hid (B11.out.trans rW.below)
      have R12 := Lib.hid (And.intro rowW rW0)
      simp only [hW]
      clear hW rW rowW rW0 hlk KE1
      have m2 : 0 ≤ (m : Int) := by omega
      have N12 : ∀ z : Int, acr tl (3 * k + m) = z → Below w.heap.size w (W.setCell ⟨ab, k * 3 + m, none⟩ (.int .i64 z)) ∧ TripRow (W.setCell ⟨ab, k * 3 + m, none⟩ (.int .i64 z)) ab (halfI (acr tl) (3 * n) (3 * k + (m + 1))) ∧ (W.setCell ⟨ab, k * 3 + m, none⟩ (.int .i64 z)).heap[r]? = some (.cells #[.int .i64 x0, .int .i64 x1, .int .i64 x2] 53 (0, 0)) ∧ ab < r := fun z hz => by
        refine ⟨BW.out.setCell (p := ⟨ab, k * 3 + m, none⟩) (by have := HAB.out; show w.heap.size ≤ ab; omega) _, ?_, heap_far R12.out.2 (p := ⟨ab, k * 3 + m, none⟩) (show r ≠ ab by have := HM.out.2.2.2; omega) _, HM.out.2.2.2⟩
        have := R12.out.1.set (k * 3 + m) z
        rw [show k * 3 + m = 3 * k + m by omega] at this ⊢
        rw [← hz, halfI_set] at this
        rw [← hz]
        exact this
      cases v with
      | none =>
        have N12 := Lib.hid (N12 (-1) N11.out.2.2)
        simp only [Option.getD_none, Option.isSome_none]
        go_wp2_with fail
        exact ⟨⟨m + 1, by omega, by go_num, N12.out⟩, by simp [intOf]; omega⟩
      | some z =>
        have N12 := Lib.hid (N12 z N11.out.2.2)
        simp only [Option.getD_some, Option.isSome_some]
        go_wp2_with fail
        exact ⟨⟨m + 1, by omega, by go_num, N12.out⟩, by simp [intOf]; omega⟩
end Go.Proofs.Ytmflacmgffpjoaa

/- Layer 9: how many triangles are met on the way around a vertex. -/
namespace Go.Proofs.Ytmflacmgffpjoaa
open Go.RowKit

/-- The s-th triangle on the way, or what stands at its end. -/
def wayV (tl : List Tr) (v : Int) (L : List Nat) (s : Nat) : Int := if s < L.length then ((L.getD s 0 : Nat) : Int) else ((stepV tl v (L.getD (L.length - 1) 0)).map fun j => (j : Int)).getD (-1)
theorem wayV_next {tl : List Tr} {v : Int} {c0 : Nat} {L : List Nat} (hL : Chain (stepV tl v) (atV tl v) c0 L) {s : Nat} (hs : s < L.length) : ((stepV tl v (L.getD s 0)).map fun j => (j : Int)).getD (-1) = wayV tl v L (s + 1) := by
  unfold wayV
  by_cases h : s + 1 < L.length
  · rw [if_pos h, hL.st s h]; rfl
  · rw [if_neg h, show L.length - 1 = s by omega]
def MetAt (w : World) (tl : List Tr) (v : Int) (L : List Nat) (c i : Value) (wr : World) : Prop := w = wr ∧ ∃ s : Nat, s ≤ L.length ∧ c = .int .i64 (s : Int) ∧ i = .int .i64 (wayV tl v L s)
theorem cont_has (x : Tr) (v : Int) : v ∈ [x.1, x.2.1, x.2.2] ↔ hasV x v := by
  simp only [List.mem_cons, List.not_mem_nil, or_false]
  exact ⟨fun h => h.imp Eq.symm (Or.imp Eq.symm Eq.symm), fun h => h.imp Eq.symm (Or.imp Eq.symm Eq.symm)⟩

set_option maxHeartbeats 4000000 in
set_option maxRecDepth 100000 in
theorem cmet_any (S : Nat → Prop) (w : World) (g b ab : Nat) (N : Int) (A : Option Addr) (n c : Nat) (tl : List Tr) (v : Int) (c0 : Nat) (L : List Nat) (hs : Full S g N A n c b tl w) (hn : n ≤ 8192) (hrow : TripRow w ab (halfI (acr tl) (3 * n) (3 * n))) (hlp : ∀ t ∈ tl, ¬ loopT t)
    (hL : Chain (stepV tl v) (atV tl v) c0 L) (hend : stepV tl v (L.getD (L.length - 1) 0) = none ∨ stepV tl v (L.getD (L.length - 1) 0) = some c0) :
    Calls Try.prog 84 #[.pointer (some ⟨g, 0, none⟩), .int .i64 v, .int .i64 (c0 : Int), .slice (some ⟨ab, 0, none⟩) n n] w fun e w' => e = .returned (.int .i64 (L.length : Int)) ∧ w' = w := by
  have HL := Lib.hid hs.seen.t3.1
  have c1 := hs.seen.c1
  have hle : L.length ≤ n := by
    have h1 := nodup_subN hL.nd hL.sub
    have h2 : (atV tl v).length ≤ tl.length := by
      unfold atV
      have := List.length_filter_le (fun i => decide (hasV (tl.getD i z3) v)) (List.range tl.length)
      rwa [List.length_range] at this
    rw [hs.seen.t3.1] at h2
    omega
  have HS := Lib.hid (And.intro hs (And.intro hrow hlp))
  have HC := Lib.hid (And.intro hL hend)
  have h00 : wayV tl v L 0 = (c0 : Int) := by
    unfold wayV
    rw [if_pos hL.ne, hL.hd]
  have H00 := Lib.hid h00
  clear hs hrow hlp hL hend h00
  go_enter Try.func84, Try.ntmps84
  go_wp2_with fail
  go_loopw [9, 10] (MetAt w tl v L) (fun cc _ _ => L.length - (intOf cc).toNat)
  case atStart => exact ⟨rfl, 0, Nat.zero_le _, rfl, by rw [H00.out]⟩
  case round =>
    obtain ⟨rfl, s, hs, rfl, rfl⟩ := hrel
    by_cases hsl : s < L.length
    case neg =>
      obtain rfl : s = L.length := by omega
      have hne := HC.out.1.ne
      have hz' : ((L.length : Int) == 0) = false := by rw [beq_eq_false_iff_ne]; omega
      have hw : wayV tl v L L.length = ((stepV tl v (L.getD (L.length - 1) 0)).map fun j => (j : Int)).getD (-1) := by unfold wayV; rw [if_neg (by omega)]
      rcases HC.out.2 with h | h
      · have hw' : wayV tl v L L.length = -1 := by rw [hw, h]; rfl
        rw [hw']
        clear hw hw' h
        go_wp2
        go_ret
        exact ⟨rfl, rfl⟩
      · have hw' : wayV tl v L L.length = (c0 : Int) := by rw [hw, h]; rfl
        rw [hw']
        have hc0 : 0 ≤ (c0 : Int) := by omega
        clear hw hw' h
        go_wp2
        go_ret
        exact ⟨rfl, rfl⟩
    have hwt : wayV tl v L s = ((L.getD s 0 : Nat) : Int) := by unfold wayV; rw [if_pos hsl]
    have hmem := mem_atV.1 (HC.out.1.sub _ (getDn_mem hsl))
    have hnx := wayV_next HC.out.1 hsl
    have hne0 : s ≠ 0 → ((L.getD s 0 : Nat) : Int) ≠ (c0 : Int) := fun h0 e => by
      have h1 : L.getD s 0 = L.getD 0 0 := by rw [HC.out.1.hd]; omega
      exact h0 (nodup_at HC.out.1.nd hsl HC.out.1.ne h1)
    rw [hwt]
    obtain ⟨t, ht⟩ : ∃ t, L.getD s 0 = t := ⟨_, rfl⟩
    rw [ht] at hmem hnx hne0 hwt ⊢
    have htn : t < n := by have := hmem.1; rw [HL.out] at this; exact this
    obtain ⟨bA, off, rfl, _⟩ := HS.out.1.seen.t3.2 (by omega)
    have hrd := HS.out.1.seen.t3.slice t htn
    have hnl := HS.out.2.2 _ (getD3_mem hmem.1)
    obtain ⟨x, hx⟩ : ∃ x, tl.getD t z3 = x := ⟨_, rfl⟩
    rw [hx] at hrd hnl
    have hv : v ∈ [x.1, x.2.1, x.2.2] := (cont_has x v).2 (by rw [← hx]; exact hmem.2)
    have KI := Lib.hid (indI_any w (some ⟨bA, off + t * 3, none⟩) 3 3 _ v hrd (by omega))
    have HX := Lib.hid (And.intro hx (And.intro hmem (And.intro hnx hv)))
    have m1 : (t : Int) < n := by omega
    have m2 : 0 ≤ (t : Int) := by omega
    clear hrd hx hmem hnx hv hnl ht hwt
    by_cases h0 : s = 0
    · have hz' : ((s : Int) == 0) = true := by simp; omega
      clear hne0
      go_wp2_with fail
      refine KI.out.mono ?_
      rintro e w1 ⟨kk, rfl, hk, rfl⟩
      obtain ⟨j, hj3, rfl, hjv⟩ : ∃ j : Nat, j < 3 ∧ kk = (j : Int) ∧ vx x j = v := by
        rcases hk with ⟨j, hj, h1, h2, _⟩ | ⟨_, h⟩
        · refine ⟨j, h1, hj, ?_⟩
          match j, h1 with
          | 0, _ => exact h2
          | 1, _ => exact h2
          | 2, _ => exact h2
        · exact absurd HX.out.2.2.2 h
      obtain ⟨j', hj'⟩ : ∃ j', (j + 2) % 3 = j' := ⟨_, rfl⟩
      have hj3' : j' < 3 := by omega
      have wa : IntKind.i64.wrap ((j : Int) + 2) = (j : Int) + 2 := IntWalk.i64_in _ (by omega)
      have pm : ((j : Int) + 2) % 3 = (j' : Int) := by omega
      have tm : ((j : Int) + 2).tmod 3 = (j' : Int) := by rw [Int.tmod_eq_emod_of_nonneg (by omega)]; exact pm
      have y0 := HS.out.2.1.cell (t * 3 + j') (by rw [halfI_len]; omega)
      have hz : (halfI (acr tl) (3 * n) (3 * n)).getD (t * 3 + j') 0 = wayV tl v L (s + 1) := by
        rw [halfI_at _ _ (by omega), ← HX.out.2.2.1, show t * 3 + j' = 3 * t + (j + 2) % 3 by omega, acr_next HS.out.2.2 HX.out.2.1.1 hj3, HX.out.1, hjv]
      rw [hz] at y0
      have m3 : (j' : Int) < 3 := by omega
      have m4 : 0 ≤ (j' : Int) := by omega
      clear hz hk hjv
      obtain ⟨z, hzz⟩ : ∃ z, wayV tl v L (s + 1) = z := ⟨_, rfl⟩
      rw [hzz] at y0
      have HZ := Lib.hid hzz
      clear hzz hj'
      go_wp2_with fail
      exact ⟨⟨rfl, s + 1, by omega, by first | go_num | (congr 1; omega), by rw [HZ.out]⟩, by simp [intOf]; omega⟩
    · have hz' : ((s : Int) == 0) = false := by simp; omega
      have hne1 := hne0 h0
      have hne2 : ((t : Int) == (c0 : Int)) = false := by simpa using hne1
      clear hne0
      go_wp2_with fail
      refine KI.out.mono ?_
      rintro e w1 ⟨kk, rfl, hk, rfl⟩
      obtain ⟨j, hj3, rfl, hjv⟩ : ∃ j : Nat, j < 3 ∧ kk = (j : Int) ∧ vx x j = v := by
        rcases hk with ⟨j, hj, h1, h2, _⟩ | ⟨_, h⟩
        · refine ⟨j, h1, hj, ?_⟩
          match j, h1 with
          | 0, _ => exact h2
          | 1, _ => exact h2
          | 2, _ => exact h2
        · exact absurd HX.out.2.2.2 h
      obtain ⟨j', hj'⟩ : ∃ j', (j + 2) % 3 = j' := ⟨_, rfl⟩
      have hj3' : j' < 3 := by omega
      have wa : IntKind.i64.wrap ((j : Int) + 2) = (j : Int) + 2 := IntWalk.i64_in _ (by omega)
      have pm : ((j : Int) + 2) % 3 = (j' : Int) := by omega
      have tm : ((j : Int) + 2).tmod 3 = (j' : Int) := by rw [Int.tmod_eq_emod_of_nonneg (by omega)]; exact pm
      have y0 := HS.out.2.1.cell (t * 3 + j') (by rw [halfI_len]; omega)
      have hz : (halfI (acr tl) (3 * n) (3 * n)).getD (t * 3 + j') 0 = wayV tl v L (s + 1) := by
        rw [halfI_at _ _ (by omega), ← HX.out.2.2.1, show t * 3 + j' = 3 * t + (j + 2) % 3 by omega, acr_next HS.out.2.2 HX.out.2.1.1 hj3, HX.out.1, hjv]
      rw [hz] at y0
      have m3 : (j' : Int) < 3 := by omega
      have m4 : 0 ≤ (j' : Int) := by omega
      clear hz hk hjv
      obtain ⟨z, hzz⟩ : ∃ z, wayV tl v L (s + 1) = z := ⟨_, rfl⟩
      rw [hzz] at y0
      have HZ := Lib.hid hzz
      clear hzz hj'
      go_wp2_with fail
      exact ⟨⟨rfl, s + 1, by omega, by first | go_num | (congr 1; omega), by rw [HZ.out]⟩, by simp [intOf]; omega⟩
end Go.Proofs.Ytmflacmgffpjoaa

/- Layer 9: the examiner of the kind Pinch. -/
namespace Go.Proofs.Ytmflacmgffpjoaa
open Go.RowKit

/-- The state while vertices are counted: three rows. -/
structure PiSt (S : Nat → Prop) (Inv : List Wt → World → Prop) (go : List Wt → Bool) (w wr : World) (ab tb sb : Nat) (al cl sl : List Int) (l : List Wt) : Prop where
  tri : TriSt S Inv go l w wr
  ra : TripRow wr ab al
  rc : wr.heap[tb]? = some (.cells (ints cl).toArray 3 (0, 0))
  rs : wr.heap[sb]? = some (.cells (ints sl).toArray 3 (0, 0))
  b1 : w.heap.size ≤ ab
  b2 : ab < tb
  b4 : ab < sb
  b3 : tb ≠ sb
section
variable {f : FuncId} {caps : List Value} {ws : List Wt} {go : List Wt → Bool} {S : Nat → Prop} {Inv : List Wt → World → Prop} {w wr w' : World} {ab tb sb : Nat} {al cl sl : List Int} {l : List Wt}
theorem PiSt.below (H : Taker f caps ws go S Inv) (h : PiSt S Inv go w wr ab tb sb al cl sl l) (hb : Below wr.heap.size wr w') : PiSt S Inv go w w' ab tb sb al cl sl l :=
  ⟨h.tri.below H hb, (hb.block ab (heap_lt h.ra)).trans h.ra, (hb.block tb (heap_lt h.rc)).trans h.rc, (hb.block sb (heap_lt h.rs)).trans h.rs, h.b1, h.b2, h.b4, h.b3⟩
theorem PiSt.setS (H : Taker f caps ws go S Inv) (hS : ∀ b, S b → b < w.heap.size) (h : PiSt S Inv go w wr ab tb sb al cl sl l) (a : Nat) (v : Int) : PiSt S Inv go w (wr.setCell ⟨sb, a, none⟩ (.int .i64 v)) ab tb sb al cl (sl.set a v) l := by
  have h1 := h.b1
  have h2 := h.b2
  have h3 := h.b3
  have h4 := h.b4
  refine ⟨h.tri.set H ⟨sb, a, none⟩ _ (show w.heap.size ≤ sb by omega) (fun hs => by have := hS _ hs; have : sb < w.heap.size := this; omega), heap_far h.ra (p := ⟨sb, a, none⟩) (show ab ≠ sb by omega) _, heap_far h.rc (p := ⟨sb, a, none⟩) (show tb ≠ sb by omega) _, ?_, h.b1, h.b2, h.b4, h.b3⟩
  rw [heap_set h.rs a _, ints_set]
  simp
theorem PiSt.setC (H : Taker f caps ws go S Inv) (hS : ∀ b, S b → b < w.heap.size) (h : PiSt S Inv go w wr ab tb sb al cl sl l) (a : Nat) (v : Int) : PiSt S Inv go w (wr.setCell ⟨tb, a, none⟩ (.int .i64 v)) ab tb sb al (cl.set a v) sl l := by
  have h1 := h.b1
  have h2 := h.b2
  have h3 := h.b3
  have h4 := h.b4
  refine ⟨h.tri.set H ⟨tb, a, none⟩ _ (show w.heap.size ≤ tb by omega) (fun hs => by have := hS _ hs; have : tb < w.heap.size := this; omega), heap_far h.ra (p := ⟨tb, a, none⟩) (show ab ≠ tb by omega) _, ?_, heap_far h.rs (p := ⟨tb, a, none⟩) (show sb ≠ tb by omega) _, h.b1, h.b2, h.b4, h.b3⟩
  rw [heap_set h.rc a _, ints_set]
  simp
theorem PiSt.gone (hS : ∀ b, S b → b < w.heap.size) (h : PiSt S Inv go w wr ab tb sb al cl sl l) {l' : List Wt} (hg : TriSt S Inv go l' w w') (hc : Chg S wr w') : PiSt S Inv go w w' ab tb sb al cl sl l' := by
  have h1 := h.b1
  have h2 := h.b2
  have h3 := h.b3
  have h4 := h.b4
  have k : ∀ q, w.heap.size ≤ q → ¬ S q := fun q hq hs => by have := hS q hs; omega
  exact ⟨hg, (hc.far ab (heap_lt h.ra) (k _ (by omega))).trans h.ra, (hc.far tb (heap_lt h.rc) (k _ (by omega))).trans h.rc, (hc.far sb (heap_lt h.rs) (k _ (by omega))).trans h.rs, h.b1, h.b2, h.b4, h.b3⟩
end
def PiOut (S : Nat → Prop) (Inv : List Wt → World → Prop) (go : List Wt → Bool) (w : World) (ab tb sb N n : Nat) (al : List Int) (tl : List Tr) (i : Value) (wr : World) : Prop := ∃ k : Nat, k ≤ n ∧ i = .int .i64 (k : Int) ∧ ∃ cl sl, PiSt S Inv go w wr ab tb sb al cl sl [] ∧ Begin tl N k 0 cl sl
def PiIn (S : Nat → Prop) (Inv : List Wt → World → Prop) (go : List Wt → Bool) (w : World) (ab tb sb N k : Nat) (al : List Int) (tl : List Tr) (j : Value) (wr : World) : Prop := ∃ m : Nat, m ≤ 3 ∧ j = .int .i64 (m : Int) ∧ ∃ cl sl, PiSt S Inv go w wr ab tb sb al cl sl [] ∧ Begin tl N k m cl sl
def PiV (S : Nat → Prop) (Inv : List Wt → World → Prop) (go : List Wt → Bool) (w : World) (ab tb sb N : Nat) (al cl sl : List Int) (q : Int → Bool) (i : Value) (wr : World) : Prop := ∃ v : Nat, v ≤ N ∧ i = .int .i64 (v : Int) ∧ PiSt S Inv go w wr ab tb sb al cl sl (vertP 6 q v)

def PiReady (S : Nat → Prop) (Inv : List Wt → World → Prop) (go : List Wt → Bool) (w : World) (ab N : Nat) (al : List Int) (t5 t6 : Value) (wr : World) : Prop := ∃ tb sb, t5 = .slice (some ⟨tb, 0, none⟩) N N ∧ t6 = .slice (some ⟨sb, 0, none⟩) N N ∧ PiSt S Inv go w wr ab tb sb al (List.replicate N 0) (List.replicate N 0) []
theorem pi_ready {f : FuncId} {caps : List Value} {ws : List Wt} {go : List Wt → Bool} {S : Nat → Prop} {Inv : List Wt → World → Prop} (H : Taker f caps ws go S Inv) {w w1 : World} {ab N : Nat} {al : List Int} (h : TriSt S Inv go [] w w1) (ra : TripRow w1 ab al) (hab : w.heap.size ≤ ab) {tb sb : Nat} (hts : (tb = w1.heap.size ∧ sb = w1.heap.size + 1) ∨ (tb = w1.heap.size + 1 ∧ sb = w1.heap.size)) :
    PiSt S Inv go w ((w1.alloc (.cells (ints (List.replicate N 0)).toArray 3)).alloc (.cells (ints (List.replicate N 0)).toArray 3)).drew ab tb sb al (List.replicate N 0) (List.replicate N 0) [] := by
  have hlt := heap_lt ra
  have b1 := (Below.refl _ w1).alloc (Nat.le_refl _) (.cells (ints (List.replicate N 0)).toArray 3)
  have b2 := (Below.refl _ (w1.alloc (.cells (ints (List.replicate N 0)).toArray 3))).alloc (Nat.le_refl _) (.cells (ints (List.replicate N 0)).toArray 3)
  have b3 : Below w1.heap.size w1 ((w1.alloc (.cells (ints (List.replicate N 0)).toArray 3)).alloc (.cells (ints (List.replicate N 0)).toArray 3)).drew := upd (b1.trans (b2.mono b1.size))
  have r1 : ((w1.alloc (.cells (ints (List.replicate N 0)).toArray 3)).alloc (.cells (ints (List.replicate N 0)).toArray 3)).drew.heap[w1.heap.size]? = some (.cells (ints (List.replicate N 0)).toArray 3 (0, 0)) := heap_alloc2_old w1 _ _
  have r2 : ((w1.alloc (.cells (ints (List.replicate N 0)).toArray 3)).alloc (.cells (ints (List.replicate N 0)).toArray 3)).drew.heap[w1.heap.size + 1]? = some (.cells (ints (List.replicate N 0)).toArray 3 (0, 0)) := heap_alloc2_new w1 _ _
  rcases hts with ⟨rfl, rfl⟩ | ⟨rfl, rfl⟩
  · exact ⟨h.below H b3, (b3.block ab hlt).trans ra, r1, r2, hab, by omega, by omega, by omega⟩
  · exact ⟨h.below H b3, (b3.block ab hlt).trans ra, r2, r1, hab, by omega, by omega, by omega⟩

set_option maxHeartbeats 8000000 in
set_option maxRecDepth 100000 in
theorem cpinch_any {f : FuncId} {caps : List Value} {ws : List Wt} {go : List Wt → Bool} {S : Nat → Prop} {Inv : List Wt → World → Prop} (H : Taker f caps ws go S Inv) (w : World) (g b N : Nat) (A : Option Addr) (n c : Nat) (tl : List Tr) (p : Int → Bool) (hs : Full S g (N : Int) A n c b tl w) (hi : Inv [] w)
    (hp : IsPin tl p) (hws : ws = vertW 6 p (N : Int)) (hn : n ≤ 8192) (hN : N ≤ 4096) (hin : ∀ t ∈ tl, inN N t.1 ∧ inN N t.2.1 ∧ inN N t.2.2) (hlp : ∀ t ∈ tl, ¬ loopT t) (htw : tl.Pairwise fun t u => ¬ twice t u) (hus : ∀ v : Int, inN N v → ∃ t ∈ tl, hasV t v) : Calls Try.prog 79 #[.pointer (some ⟨g, 0, none⟩), .func (.func f) #[] caps.toArray] w (Ended ws go S Inv w) := by
  have HL := Lib.hid hs.seen.t3.1
  have HW := Lib.hid (show ws = vertP 6 p N from hws)
  have hen := H.enter
  have hSS := H.lt _ _ hi
  have KA := Lib.hid (cacross_any S w g b (N : Int) A n c tl hs hn (by omega) hin)
  have HS := Lib.hid hs
  have HSS := Lib.hid hSS
  have HP := Lib.hid (And.intro hin (And.intro hlp (And.intro htw (And.intro hus hp))))
  have HI := Lib.hid hi
  have hmi := fun W => makeI9 N (by omega) W
  clear hs hi hws hSS hin hlp htw hus hp
  go_enter Try.func79, Try.ntmps79
  go_wp2_with fail
  refine KA.out.mono ?_
  rintro e w1 ⟨ab, rfl, row1, b1, hab⟩
  have fr1 := HS.out.chg (.of_below b1)
  have z0 := fr1.seen.c0
  have z1 := fr1.seen.c1
  have T1 := Lib.hid (And.intro ((TriSt.mk HI.out (AllGo.nil go) (Chg.refl S w)).below H b1) (And.intro row1 (And.intro b1 hab)))
  have G1 := heap_lt fr1.seen.lb
  clear row1 b1 hab fr1
  go_upto_region 1 with fail
  go_cut [5, 6] (PiReady S Inv go w ab N (halfI (acr tl) (3 * n) (3 * n)))
  case first =>
    go_wp2_with fail
    go_region
    · go_wp2_with fail
      go_meet
      exact ⟨_, _, rfl, rfl, pi_ready H T1.out.1 T1.out.2.1 T1.out.2.2.2 (.inl ⟨rfl, rfl⟩)⟩
    · go_wp2_with fail
      go_meet
      exact ⟨_, _, rfl, rfl, pi_ready H T1.out.1 T1.out.2.1 T1.out.2.2.2 (.inr ⟨rfl, rfl⟩)⟩
  case rest =>
    obtain ⟨tb, sb, rfl, rfl, hst0⟩ := hcut
    have z2 := (HS.out.chg hst0.tri.chg).seen.c1

    have S0 := Lib.hid hst0
    clear hst0 hmi z0 z1
    obtain ⟨al, hal⟩ : ∃ al, halfI (acr tl) (3 * n) (3 * n) = al := ⟨_, rfl⟩
    have HAL := Lib.hid hal
    rw [hal] at S0
    clear hal
    go_wp2_with fail
    clear z2
    go_loopw [32] (PiOut S Inv go w ab tb sb N n al tl) (fun i _ => n - (intOf i).toNat)
    case atStart => exact ⟨0, Nat.zero_le _, rfl, _, _, S0.out, Begin.start tl N⟩
    case round =>
      obtain ⟨k, hk, rfl, cl, sl, hst, hbg⟩ := hrel
      have HR := Lib.hid (And.intro hst hbg)
      clear hst hbg
      by_cases hlt : k < n
      case neg =>
        obtain rfl : k = n := by omega
        have b1 : ¬ (k : Int) < k := by omega
        have z4 := (HS.out.chg HR.out.1.tri.chg).seen.c0
        go_wp2_with fail
        clear z4
        go_loopw [73] (PiV S Inv go w ab tb sb N al cl sl p) (fun i _ => N - (intOf i).toNat)
        case atStart => exact ⟨0, Nat.zero_le _, rfl, HR.out.1⟩
        case round =>
          obtain ⟨v, hv, rfl, hst⟩ := hrel
          by_cases hvN : v < N
          case neg =>
            obtain rfl : v = N := by omega
            have b2 : ¬ (v : Int) < v := by omega
            have HV := Lib.hid hst
            clear hst
            go_wp2
            refine bodyPost_ret (results_none rfl _ _ _) rfl ?_
            exact ⟨rfl, _, .inl ⟨HW.out.symm, HV.out.tri.all⟩, HV.out.tri.inv, HV.out.tri.chg⟩
          have b2 : (v : Int) < N := by omega
          have hb9 : Begin tl N tl.length 0 cl sl := by rw [HL.out]; exact HR.out.2
          obtain ⟨hcl, a0, hsl, ha0, hst9⟩ := hb9.done hvN (HP.out.2.2.2.1 (v : Int) ⟨by omega, b2⟩)
          obtain ⟨L, hLc, hLe⟩ := chain_from HP.out.2.1 HP.out.2.2.1 ha0
          have hmi := met_iff HP.out.2.1 HP.out.2.2.1 hLc hLe hst9
          have hpv := HP.out.2.2.2.2 (v : Int)
          have y0 := row_cell hst.rc v (by rw [hb9.l1]; exact hvN)
          have y1 := row_cell hst.rs v (by rw [hb9.l2]; exact hvN)
          rw [hcl] at y0
          rw [hsl] at y1
          have fr := HS.out.chg hst.tri.chg
          have KM := Lib.hid (fun s => cmet_any S (wr.drewN s) g b ab (N : Int) A k c tl (v : Int) a0 L (fr.chg (.of_read ⟨s, rfl⟩)) hn (by rw [HAL.out]; exact hst.ra) HP.out.2.1 hLc hLe)
          have HV := Lib.hid hst
          obtain ⟨M, hM⟩ : ∃ M, L.length = M := ⟨_, rfl⟩
          obtain ⟨C, hC⟩ : ∃ C, (atV tl (v : Int)).length = C := ⟨_, rfl⟩
          rw [hM, hC] at hmi
          rw [hC] at y0
          simp only [hM] at KM
          clear hst hb9 hcl hsl ha0 hst9 hLc hLe fr hM hC
          by_cases hlt9 : M < C
          · have e1 := vertP_yes (kd := 6) (q := p) (a := v) (hpv.2 (hmi.1 hlt9))
            have hc := fun (W : World) (hW : Reading wr W) => (HV.out.tri.below H hW.below).hand H e1 (by rw [HW.out]; exact vertP_pre _ _ (by omega))
            obtain ⟨bb, hb⟩ : ∃ bb, go (vertP 6 p (v + 1)) = bb := ⟨_, rfl⟩
            simp only [hb] at hc
            have HC := Lib.hid hc
            have d1 : decide ((M : Int) < (C : Int)) = true := by simp; omega
            have d2 : decide (M < C) = true := by simp; omega
            have m1 : (M : Int) < C := by omega
            clear hc hb e1 hmi hpv
            go_wp2_with fail
            refine wp_region_still_tail 17 (by kernel_rfl) (by kernel_rfl) ?_
            simp only [List.take_succ_cons, List.take_zero, List.drop_succ_cons, List.drop_zero]
            repeat still_step
            still_call (KM.out 1)
            repeat still_step
            try refine wpStill_nil ?_
            change wpList _ _ _ _ _ (wr.drewN 1)
            go_wp2_with fail
            refine (HC.out _ ⟨1, rfl⟩).mono ?_
            rintro e w9 ⟨rfl, hy, hn, hstep⟩
            have HY := Lib.hid (And.intro hy (And.intro hn hstep))
            clear hy hn hstep
            cases bb
            · go_wp2_with fail
              refine bodyPost_ret (results_none rfl _ _ _) rfl ?_
              exact ⟨rfl, HY.out.2.1 (by trivial)⟩
            · go_wp2_with fail
              exact ⟨⟨v + 1, by omega, by go_num, (HV.out.below H (Reading.below ⟨1, rfl⟩)).gone HSS.out (HY.out.1 (by trivial)) HY.out.2.2⟩, by simp [intOf]; omega⟩
          · have EP := Lib.hid (vertP_no (kd := 6) (q := p) (a := v) (by
              have h1 : ¬ p (v : Int) = true := fun h => hlt9 (hmi.2 (hpv.1 h))
              simpa using h1))
            have d1 : decide ((M : Int) < (C : Int)) = false := by simp; omega
            have d2 : decide (M < C) = false := by simp; omega
            clear hmi hpv
            go_wp2_with fail
            go_quiet ((go_at_call 84; exact Calls.quiet_of_same (KM.out _)))
            go_wp2_with fail
            refine ⟨⟨v + 1, by omega, by go_num, ?_⟩, by simp [intOf]; omega⟩
            rw [EP.out]
            exact HV.out.below H (Reading.below ⟨_, rfl⟩)
      have b1 : (k : Int) < n := by omega
      obtain ⟨bA, off, rfl, hat⟩ := (HS.out.chg HR.out.1.tri.chg).seen.t3.2 (by omega)
      obtain ⟨c0, c1, c2⟩ := hat k hlt
      clear hat
      obtain ⟨x, hx⟩ : ∃ x, tl.getD k z3 = x := ⟨_, rfl⟩
      rw [hx] at c0 c1 c2
      have hmx : x ∈ tl := by rw [← hx]; exact getD3_mem (by rw [HL.out]; exact hlt)
      have HX := Lib.hid (And.intro hx (And.intro (HP.out.1 _ hmx) (HP.out.2.1 _ hmx)))
      clear hx hmx
      obtain ⟨x0, x1, x2⟩ := x
      obtain ⟨w2, hw2⟩ : ∃ w2, wr.alloc (.cells #[.int .i64 x0, .int .i64 x1, .int .i64 x2] 53) = w2 := ⟨_, rfl⟩
      have b2 : Below wr.heap.size wr w2 := by rw [← hw2]; exact (Below.refl _ wr).alloc (Nat.le_refl _) _
      obtain ⟨q, hq⟩ : ∃ q, wr.heap.size = q := ⟨_, rfl⟩
      have q0 : w2.heap[q]? = some (.cells #[.int .i64 x0, .int .i64 x1, .int .i64 x2] 53 (0, 0)) := by rw [← hw2, ← hq]; exact heap_alloc_new wr _
      have q1 := cell_in q0 0
      have q2 := cell_in q0 1
      have q3 := cell_in q0 2
      simp only [List.getElem?_toArray, List.getElem?_cons_zero, List.getElem?_cons_succ] at q1 q2 q3
      have T2 := Lib.hid (And.intro (HR.out.1.below H b2) HR.out.2)
      clear b2 q0
      go_wp2_with fail
      clear hw2 hq q1 q2 q3 c0 c1 c2
      go_loopw [38] (PiIn S Inv go w ab tb sb N k al tl) (fun i _ => 3 - (intOf i).toNat)
      case atStart => exact ⟨0, by omega, rfl, _, _, T2.out⟩
      case round =>
        obtain ⟨m, hm, rfl, cl2, sl2, hst2, hbg2⟩ := hrel
        by_cases hm3 : m < 3
        case neg =>
          obtain rfl : m = 3 := by omega
          have HM := Lib.hid (And.intro hst2 hbg2)
          clear hst2 hbg2
          go_wp2_with fail
          exact ⟨⟨k + 1, by omega, by go_num, _, _, HM.out.1, HM.out.2.next (by rw [HX.out.1]; exact HX.out.2.2)⟩, by simp [intOf]; omega⟩
        have m1 : (m : Int) < 3 := by omega
        have m0 : 0 ≤ (m : Int) := by omega
        have hix := fun W => index9 x0 x1 x2 m hm3 W
        have hvi := vx_in (x := (x0, x1, x2)) HX.out.2.1 m
        obtain ⟨v, hv⟩ : ∃ v : Nat, vx (x0, x1, x2) m = (v : Int) := ⟨(vx (x0, x1, x2) m).toNat, by have := hvi.1; omega⟩
        rw [hv] at hix hvi
        have hvN : v < N := by have := hvi.2; omega
        have m2 : (v : Int) < N := by omega
        have m3 : 0 ≤ (v : Int) := by omega
        have hvx : vx (tl.getD k z3) m = (v : Int) := by rw [HX.out.1]; exact hv
        have y0 := row_cell hst2.rc v (by rw [hbg2.l1]; exact hvN)
        have hcn := hbg2.cnt v hvN
        have hle : cnt9 tl k m (v : Int) ≤ k + m := by
          unfold cnt9
          have h1 := List.length_filter_le (fun a => decide (hasV (tl.getD a z3) (v : Int))) (List.range k)
          have h2 := List.length_filter_le (fun j => decide (vx (tl.getD k z3) j = (v : Int))) (List.range m)
          rw [List.length_range] at h1 h2
          omega
        rw [hcn] at y0
        have a0 := hst2.ra.cell (k * 3 + m) (by rw [← HAL.out, halfI_len]; omega)
        have ha : al.getD (k * 3 + m) 0 = acr tl (3 * k + m) := by rw [← HAL.out, halfI_at _ _ (by omega), Nat.mul_comm]
        have hld := acr_lead HP.out.2.1 HP.out.2.2.1 (i := k) (k := m) (by rw [HL.out]; exact hlt) hm3
        rw [hvx] at hld
        rw [ha] at a0
        obtain ⟨cn, hcn'⟩ : ∃ cn, cnt9 tl k m (v : Int) = cn := ⟨_, rfl⟩
        obtain ⟨az, haz⟩ : ∃ az, acr tl (3 * k + m) = az := ⟨_, rfl⟩
        rw [hcn'] at y0 hle hcn
        rw [haz] at a0 hld
        have s0 := row_cell hst2.rs v (by rw [hbg2.l2]; exact hvN)
        have s1 := frozen_in hst2.rs v
        have t1 := frozen_in hst2.rc v
        have HM := Lib.hid (And.intro hst2 (And.intro hbg2 (And.intro hvx (And.intro hcn (And.intro hcn' hld)))))
        have wa : IntKind.i64.wrap ((cn : Int) + 1) = (cn : Int) + 1 := IntWalk.i64_in _ (by omega)
        have st1 := hst2.setS H HSS.out v (k : Int)
        obtain ⟨w3, hw3⟩ : ∃ w3, wr.setCell ⟨sb, v, none⟩ (.int .i64 (k : Int)) = w3 := ⟨_, rfl⟩
        rw [hw3] at st1
        have y3 : w3.cell? ⟨tb, v, none⟩ = some (.int .i64 (cn : Int)) := by rw [row_cell st1.rc v (by rw [hbg2.l1]; exact hvN), hcn]
        have t3 := frozen_in st1.rc v
        have ST1 := Lib.hid st1
        clear hst2 hbg2 hv hvi hvx hcn hcn' ha haz hld st1
        by_cases hz : cn = 0
        · have g1 : ((cn : Int) == 0) = true := by simp; omega
          go_wp2_with fail
          have N1 := HM.out.2.1.corner hvN HM.out.2.2.1 (sl' := sl2.set v (k : Int)) (.inl ⟨rfl, .inl (by rw [HM.out.2.2.2.2.1]; exact hz)⟩)
          have N2 := ST1.out.setC H HSS.out v ((cn : Int) + 1)
          rw [HM.out.2.2.2.1] at N1
          rw [show (cn : Int) + 1 = 1 by omega] at N1 N2
          exact ⟨⟨m + 1, by omega, by go_num, _, _, N2, N1⟩, by simp [intOf]; omega⟩
        · have g1 : ((cn : Int) == 0) = false := by simp; omega
          by_cases hneg : az < 0
          · go_wp2_with fail
            have N1 := HM.out.2.1.corner hvN HM.out.2.2.1 (sl' := sl2.set v (k : Int)) (.inl ⟨rfl, .inr (HM.out.2.2.2.2.2.1 hneg)⟩)
            have N2 := ST1.out.setC H HSS.out v ((cn : Int) + 1)
            rw [HM.out.2.2.2.1] at N1
            exact ⟨⟨m + 1, by omega, by go_num, _, _, N2, N1⟩, by simp [intOf]; omega⟩
          · clear hw3
            go_wp2_with fail
            have N1 := HM.out.2.1.corner hvN HM.out.2.2.1 (sl' := sl2) (.inr ⟨rfl, by rw [HM.out.2.2.2.2.1]; exact hz, fun h => hneg (HM.out.2.2.2.2.2.2 h)⟩)
            have N2 := HM.out.1.setC H HSS.out v ((cn : Int) + 1)
            rw [HM.out.2.2.2.1] at N1
            exact ⟨⟨m + 1, by omega, by go_num, _, _, N2, N1⟩, by simp [intOf]; omega⟩
end Go.Proofs.Ytmflacmgffpjoaa

/- Layer 9: the kinds in their order: the first that has something. -/
namespace Go.Proofs.Ytmflacmgffpjoaa
open Go.RowKit

/-- What is told of each kind. -/
def stgs (p : Int → Bool) (N : Int) (tl : List Tr) : List (List Wt) := [indexW N tl, idxW 2 (fun t => decide (loopT t)) tl, pairW 3 q9 tl, pairW 4 m9 tl, vertW 5 (lonely tl) N, vertW 6 p N]
theorem wits_stgs (p : Int → Bool) (N : Int) (tl : List Tr) : wits p N tl = firstL (stgs p N tl) := by
  unfold wits stgs indexW
  by_cases h : N < 0 ∨ 4096 < N ∨ 8192 < tl.length
  · rw [if_pos h, if_pos h]; rfl
  · rw [if_neg h, if_neg h]; rfl
theorem firstL_at : ∀ (L : List (List Wt)) (k : Nat), (∀ j, j < k → L.getD j [] = []) → L.getD k [] = [] ∨ L.getD k [] = firstL L
  | [], k, _ => .inl (by simp)
  | [] :: r, 0, _ => .inl rfl
  | (x :: a) :: r, 0, _ => .inr rfl
  | [] :: r, k + 1, h => firstL_at r k fun j hj => h (j + 1) (by omega)
  | (x :: a) :: r, k + 1, h => by have := h 0 (by omega); cases this
theorem stage_at {p : Int → Bool} {N : Int} {tl : List Tr} {k : Nat} (h : ∀ j, j < k → (stgs p N tl).getD j [] = []) : (stgs p N tl).getD k [] = [] ∨ (stgs p N tl).getD k [] = wits p N tl := by
  rw [wits_stgs]; exact firstL_at _ _ h
theorem stage_none {p : Int → Bool} {N : Int} {tl : List Tr} (h : ∀ j, j < 6 → (stgs p N tl).getD j [] = []) : wits p N tl = [] := by
  rw [wits_stgs, firstL_nil]
  intro a ha
  simp only [stgs, List.mem_cons, List.not_mem_nil, or_false] at ha
  rcases ha with rfl | rfl | rfl | rfl | rfl | rfl
  · exact h 0 (by omega)
  · exact h 1 (by omega)
  · exact h 2 (by omega)
  · exact h 3 (by omega)
  · exact h 4 (by omega)
  · exact h 5 (by omega)
theorem stage0 {N : Int} {tl : List Tr} (h : indexW N tl = []) : 0 ≤ N ∧ N ≤ 4096 ∧ tl.length ≤ 8192 ∧ ∀ t ∈ tl, inN N t.1 ∧ inN N t.2.1 ∧ inN N t.2.2 := by
  unfold indexW at h
  by_cases hr : N < 0 ∨ 4096 < N ∨ 8192 < tl.length
  · rw [if_pos hr] at h; cases h
  · rw [if_neg hr] at h
    exact ⟨by omega, by omega, by omega, fun t ht => by have := idxW_nil.1 h t ht; simpa [badT] using this⟩
theorem stage1 {tl : List Tr} (h : idxW 2 (fun t => decide (loopT t)) tl = []) : ∀ t ∈ tl, ¬ loopT t := fun t ht => by have := idxW_nil.1 h t ht; simpa using this
theorem stage2 {tl : List Tr} (h : pairW 3 q9 tl = []) : tl.Pairwise fun t u => ¬ twice t u := (pairW_nil.1 h).imp fun h => by simpa using h
theorem stage4 {N : Int} {tl : List Tr} (h : vertW 5 (lonely tl) N = []) : ∀ v : Int, inN N v → ∃ t ∈ tl, hasV t v := fun v hv => lonely_false.1 (vertW_nil.1 h v hv)
theorem Taker.stage {f : FuncId} {caps : List Value} {ws ws' : List Wt} {go : List Wt → Bool} {S : Nat → Prop} {Inv : List Wt → World → Prop} (H : Taker f caps ws go S Inv) (h : ws' = [] ∨ ws' = ws) : Taker f caps ws' go S Inv := by
  rcases h with rfl | rfl
  · exact ⟨fun l x w hp _ => by have := hp.length_le; simp at this, H.keep, H.lt, H.enter⟩
  · exact H
theorem Handed.none {ws : List Wt} {go : List Wt → Bool} (h : Handed ws go []) : ws = [] := by
  rcases h with ⟨h, _⟩ | ⟨m, x, h, _⟩
  · exact h.symm
  · cases m <;> cases h
end Go.Proofs.Ytmflacmgffpjoaa

/- Layer 9: report: one examiner after the other. -/
namespace Go.Proofs.Ytmflacmgffpjoaa
open Go.RowKit

def exRow : Array Value := #[.func (.func 74) #[] #[], .func (.func 75) #[] #[], .func (.func 76) #[] #[], .func (.func 77) #[] #[], .func (.func 78) #[] #[], .func (.func 79) #[] #[]]
set_option maxRecDepth 100000 in
theorem cexams_any (w : World) : Calls Try.prog 71 #[] w fun e w' => ∃ q, e = .returned (.slice (some ⟨q, 0, none⟩) 6 6) ∧ w'.heap[q]? = some (.cells exRow 92 (0, 0)) ∧ Below w.heap.size w w' ∧ w.heap.size ≤ q := by
  go_enter Try.func71, Try.ntmps71
  go_wp2
  go_ret
  exact ⟨_, rfl, heap_alloc_new w _, (Below.refl _ w).alloc (Nat.le_refl _) _, Nat.le_refl _⟩
/-- Between two examiners: nothing was handed yet. -/
structure RpSt (S : Nat → Prop) (Inv : List Wt → World → Prop) (w wr : World) (f : FuncId) (caps : List Value) (fb eb g : Nat) (N : Int) (A : Option Addr) (n c : Nat) (tl : List Tr) (mo : Option Nat) : Prop where
  inv : Inv [] wr
  chg : Chg S w wr
  found : wr.heap[fb]? = some (.cells #[.func (.func f) #[] caps.toArray] 85 (0, 0))
  exs : wr.heap[eb]? = some (.cells exRow 92 (0, 0))
  lb : wr.heap[g]? = some (.cells #[.int .i64 N, .slice A n c, .map mo] 88 (0, 0))
  mp : ∀ b, mo = some b → MapL wr b (edL tl (3 * n)) ∧ w.heap.size ≤ b
  hf : w.heap.size ≤ fb
  he : w.heap.size ≤ eb
  hg : w.heap.size ≤ g
  n1 : g ≠ fb
  n2 : eb ≠ fb
  n3 : eb ≠ g
  nb : ∀ b, mo = some b → b ≠ fb
def RpAt (S : Nat → Prop) (Inv : List Wt → World → Prop) (w : World) (f : FuncId) (caps : List Value) (fb eb g : Nat) (N : Int) (A : Option Addr) (n c : Nat) (tl : List Tr) (p : Int → Bool) (i : Value) (wr : World) : Prop :=
  ∃ k : Nat, k ≤ 6 ∧ i = .int .i64 (k : Int) ∧ (∃ mo, RpSt S Inv w wr f caps fb eb g N A n c tl mo ∧ (k ≤ 2 → mo = none) ∧ (3 ≤ k → ∃ b, mo = some b)) ∧ ∀ j, j < k → (stgs p N tl).getD j [] = []
section
variable {f : FuncId} {caps : List Value} {ws : List Wt} {go : List Wt → Bool} {S : Nat → Prop} {Inv : List Wt → World → Prop} {w wr w1 w2 : World} {fb eb g : Nat} {N : Int} {A : Option Addr} {n c : Nat} {tl : List Tr} {mo : Option Nat}
theorem RpSt.below (H : Taker f caps ws go S Inv) (h : RpSt S Inv w wr f caps fb eb g N A n c tl mo) (hb : Below wr.heap.size wr w1) : RpSt S Inv w w1 f caps fb eb g N A n c tl mo :=
  ⟨H.keep _ _ _ h.inv (Sam.of_below hb (H.lt _ _ h.inv)), h.chg.trans (.of_below hb), (hb.block fb (heap_lt h.found)).trans h.found, (hb.block eb (heap_lt h.exs)).trans h.exs, (hb.block g (heap_lt h.lb)).trans h.lb,
   fun b e => ⟨(h.mp b e).1.kept (hb.block b (h.mp b e).1.lt), (h.mp b e).2⟩, h.hf, h.he, h.hg, h.n1, h.n2, h.n3, h.nb⟩
/-- What the examiner's closure may turn. -/
abbrev S9 (S : Nat → Prop) (sb fb : Nat) : Nat → Prop := fun b => S b ∨ b = sb ∨ b = fb
theorem RpSt.seen (hS : ∀ b, S b → b < w.heap.size) (ht : T3 w A n tl) (hA : 0 < n → ∀ b off, A = some ⟨b, off, none⟩ → ¬ S b) (h : RpSt S Inv w w1 f caps fb eb g N A n c tl mo) {sb : Nat} (hsb : w.heap.size ≤ sb) (hgs : g ≠ sb) : Seen (S9 S sb fb) g N A n c mo tl w1 := by
  have hf := h.hf
  have hg := h.hg
  have hAw : 0 < n → ∀ b off, A = some ⟨b, off, none⟩ → b < w.heap.size := fun hn b off e => by
    obtain ⟨b', off', e', hc⟩ := ht.2 hn
    rw [e] at e'
    injection e' with e'
    injection e' with e1 e2
    subst e1
    exact World.block_lt_of_cell? w _ (hc 0 hn).1
  refine ⟨h.lb, ht.chg h.chg hA, ?_, fun hn b off e => ?_⟩
  · rintro (hs | hs | hs)
    · have := hS g hs; omega
    · exact hgs hs
    · exact h.n1 hs
  · have := hAw hn b off e
    rintro (hs | hs | hs)
    · exact hA hn b off e hs
    · omega
    · omega
theorem RpSt.full (hS : ∀ b, S b → b < w.heap.size) (ht : T3 w A n tl) (hA : 0 < n → ∀ b off, A = some ⟨b, off, none⟩ → ¬ S b) {b : Nat} (h : RpSt S Inv w w1 f caps fb eb g N A n c tl (some b)) {sb : Nat} (hsb : w.heap.size ≤ sb) (hgs : g ≠ sb) (hbs : b ≠ sb) : Full (S9 S sb fb) g N A n c b tl w1 := by
  refine ⟨h.seen hS ht hA hsb hgs, (h.mp b rfl).1, ?_⟩
  have := (h.mp b rfl).2
  rintro (hs | hs | hs)
  · have := hS b hs; omega
  · exact hbs hs
  · exact h.nb b rfl hs
end
/-- What an examiner leaves. -/
def ExEnd (S : Nat → Prop) (Inv : List Wt → World → Prop) (go : List Wt → Bool) (w : World) (f : FuncId) (caps : List Value) (sb fb eb g : Nat) (N : Int) (A : Option Addr) (n c : Nat) (tl : List Tr) (k : Nat) (stage ws : List Wt) (e : Ending) (w' : World) : Prop :=
  e = .returned (.tuple #[]) ∧ ((w'.heap[sb]? = some (.cells #[.bool true] 4 (0, 0)) ∧ ∃ l, Handed ws go l ∧ Inv l w' ∧ Chg S w w') ∨
    (w'.heap[sb]? = some (.cells #[.bool false] 4 (0, 0)) ∧ stage = [] ∧ ∃ mo, RpSt S Inv w w' f caps fb eb g N A n c tl mo ∧ (k + 1 ≤ 2 → mo = none) ∧ (3 ≤ k + 1 → ∃ b, mo = some b)))
section
variable {f : FuncId} {caps : List Value} {ws : List Wt} {go : List Wt → Bool} {S : Nat → Prop} {Inv : List Wt → World → Prop} {w wr w1 : World} {fb eb g : Nat} {N : Int} {A : Option Addr} {n c : Nat} {tl : List Tr} {mo : Option Nat}
theorem ex_end (hS : ∀ b, S b → b < w.heap.size) (h : RpSt S Inv w w1 f caps fb eb g N A n c tl mo) {sb k : Nat} (hsb : w.heap.size ≤ sb) (hgs : g ≠ sb) (hes : eb ≠ sb) (hbs : ∀ b, mo = some b → b ≠ sb) {stage : List Wt} (hst : stage = [] ∨ stage = ws) (hk1 : k + 1 ≤ 2 → mo = none) (hk2 : 3 ≤ k + 1 → ∃ b, mo = some b)
    {e : Ending} {w' : World} (he : Ended stage go (S9 S sb fb) (RepInv Inv f caps sb fb) w1 e w') : ExEnd S Inv go w f caps sb fb eb g N A n c tl k stage ws e w' := by
  obtain ⟨rfl, l, hl, hi, hc⟩ := he
  have hf := h.hf
  have hg := h.hg
  have he := h.he
  have far : ∀ b, w.heap.size ≤ b → b ≠ sb → b ≠ fb → ¬ S9 S sb fb b := fun b hb h1 h2 hs => by
    rcases hs with hs | hs | hs
    · have := hS b hs; omega
    · exact h1 hs
    · exact h2 hs
  have ch : Chg S w w' := h.chg.trans' hc fun b hb hs => by
    rcases hs with hs | hs | hs
    · exact hs
    · omega
    · omega
  refine ⟨rfl, ?_⟩
  cases l with
  | nil =>
    have hn := hl.none
    refine .inr ⟨hi.told, hn, mo, ⟨hi.inv, ch, hi.found, (hc.far eb (heap_lt h.exs) (far _ he hes h.n2)).trans h.exs, (hc.far g (heap_lt h.lb) (far _ hg hgs h.n1)).trans h.lb, fun b e => ⟨(h.mp b e).1.kept (hc.far b (h.mp b e).1.lt (far _ (h.mp b e).2 (hbs b e) (h.nb b e))), (h.mp b e).2⟩, h.hf, h.he, h.hg, h.n1, h.n2, h.n3, h.nb⟩, hk1, hk2⟩
  | cons x r =>
    refine .inl ⟨hi.told, _, ?_, hi.inv, ch⟩
    rcases hst with rfl | rfl
    · rcases hl with ⟨h1, _⟩ | ⟨m, y, _, h2, _⟩
      · cases h1
      · have := h2.length_le; simp at this
    · exact hl
theorem ex_end2 (hS : ∀ b, S b → b < w.heap.size) (h : RpSt S Inv w w1 f caps fb eb g N A n c tl mo) {sb : Nat} (hsb : w.heap.size ≤ sb) (hes : eb ≠ sb) {stage : List Wt} (hst : stage = [] ∨ stage = ws)
    {e : Ending} {w' : World} (he : TwEnd stage go (S9 S sb fb) (RepInv Inv f caps sb fb) w1 g N A n c tl e w') : ExEnd S Inv go w f caps sb fb eb g N A n c tl 2 stage ws e w' := by
  obtain ⟨rfl, ⟨l, hl, hi⟩, hc, b, hb⟩ := he
  have hf := h.hf
  have hg := h.hg
  have he := h.he
  have hlt := heap_lt h.found
  have hsz := h.chg.size
  have ch : Chg S w w' := h.chg.trans' hc fun b hb hs => by
    rcases hs with (hs | hs | hs) | hs
    · exact hs
    · omega
    · omega
    · omega
  have hex : ¬ (S9 S sb fb eb ∨ eb = g) := by
    rintro ((hs | hs | hs) | hs)
    · have := hS eb hs; omega
    · exact hes hs
    · exact h.n2 hs
    · exact h.n3 hs
  refine ⟨rfl, ?_⟩
  cases l with
  | nil =>
    have hn := hl.none
    have hbl := hb.le
    refine .inr ⟨hi.told, hn, some b, ⟨hi.inv, ch, hi.found, (hc.far eb (heap_lt h.exs) hex).trans h.exs, hb.lb, fun b' e => by injection e with e; subst e; exact ⟨hb.mp, by omega⟩, h.hf, h.he, h.hg, h.n1, h.n2, h.n3, fun b' e => by injection e with e; subst e; omega⟩, fun h => absurd h (by omega), fun _ => ⟨b, rfl⟩⟩
  | cons x r =>
    refine .inl ⟨hi.told, _, ?_, hi.inv, ch⟩
    rcases hst with rfl | rfl
    · rcases hl with ⟨h1, _⟩ | ⟨m, y, _, h2, _⟩
      · cases h1
      · have := h2.length_le; simp at this
    · exact hl
end
theorem set_same9 {w : World} {q : Nat} {v : Value} {t : TypeId} (h : w.heap[q]? = some (.cells #[v] t (0, 0))) : w.setCell ⟨q, 0, none⟩ v = w := by
  rw [setCell_eq_setRow w q 0 _ t (0, 0) v h]
  exact setRow_self w q _ t (0, 0) h

set_option maxHeartbeats 8000000 in
set_option maxRecDepth 100000 in
theorem creport_any {f : FuncId} {caps : List Value} {ws : List Wt} {go : List Wt → Bool} {S : Nat → Prop} {Inv : List Wt → World → Prop} (H : Taker f caps ws go S Inv) (w : World) (N : Int) (A : Option Addr) (n c : Nat) (tl : List Tr) (p : Int → Bool) (ht : T3 w A n tl) (hi : Inv [] w) (hA : 0 < n → ∀ b off, A = some ⟨b, off, none⟩ → ¬ S b)
    (hp : IsPin tl p) (hws : ws = wits p N tl) (hn : n ≤ 1000000) : Calls Try.prog 66 #[.agg #[.int .i64 N, .slice A n c], .func (.func f) #[] caps.toArray] w (Ended ws go S Inv w) := by
  have hSS := H.lt _ _ hi
  obtain ⟨w1, hw1⟩ : ∃ w1, w.alloc (.cells #[.int .i64 N, .slice A n c] 24) = w1 := ⟨_, rfl⟩
  obtain ⟨a, ha⟩ : ∃ a, w.heap.size = a := ⟨_, rfl⟩
  have b1 : Below w.heap.size w w1 := by rw [← hw1]; exact (Below.refl _ w).alloc (Nat.le_refl _) _
  have x1 : Bx w1 a N A n c := by rw [← hw1, ← ha]; exact Bx.made w N A n c
  obtain ⟨w2, hw2⟩ : ∃ w2, w1.alloc (.cells #[.func (.func f) #[] caps.toArray] 85) = w2 := ⟨_, rfl⟩
  obtain ⟨fb, hfb⟩ : ∃ fb, w1.heap.size = fb := ⟨_, rfl⟩
  have b2 : Below w1.heap.size w1 w2 := by rw [← hw2]; exact (Below.refl _ w1).alloc (Nat.le_refl _) _
  have f2 : w2.heap[fb]? = some (.cells #[.func (.func f) #[] caps.toArray] 85 (0, 0)) := by rw [← hw2, ← hfb]; exact heap_alloc_new w1 _
  have x2 := x1.below b2
  have z0 := x2.c0
  have z1 := x2.c1
  obtain ⟨w3, hw3⟩ : ∃ w3, w2.alloc (.cells #[.int .i64 N, .slice A n c, .map none] 88) = w3 := ⟨_, rfl⟩
  obtain ⟨g, hg⟩ : ∃ g, w2.heap.size = g := ⟨_, rfl⟩
  have b3 : Below w2.heap.size w2 w3 := by rw [← hw3]; exact (Below.refl _ w2).alloc (Nat.le_refl _) _
  have l3 : w3.heap[g]? = some (.cells #[.int .i64 N, .slice A n c, .map none] 88 (0, 0)) := by rw [← hw3, ← hg]; exact heap_alloc_new w2 _
  have f3 := (b3.block fb (heap_lt f2)).trans f2
  have B3 := Lib.hid (b1.trans ((b2.trans (b3.mono b2.size)).mono b1.size))
  have F3 := Lib.hid (And.intro l3 (And.intro f3 (And.intro (show w.heap.size ≤ fb by rw [← hfb]; exact b1.size) (show fb < g by rw [← hg]; exact heap_lt f2))))
  have HT := Lib.hid (And.intro ht (And.intro hi (And.intro hA (And.intro hp hws))))
  have HSS := Lib.hid hSS
  have KX := Lib.hid (cexams_any w3)
  have hmf : ∀ (fn : Fn) (first cap : Array Value) (w : World), (Instr.makeFunc fn first cap).run Try.prog w = .ok (.func fn first cap) w := fun _ _ _ _ => rfl
  clear b1 b2 b3 x1 x2 f2 l3 f3 ht hi hA hp hws hSS
  go_enter Try.func66, Try.ntmps66
  go_wp2_with fail
  clear hw1 ha hw2 hfb hw3 hg z0 z1
  refine KX.out.mono ?_
  rintro e w4 ⟨eb, rfl, e4, b4, heb⟩
  have st4 : RpSt S Inv w w4 f caps fb eb g N A n c tl none := by
    have h1 := B3.out.trans (b4.mono B3.out.size)
    have h2 := F3.out.2.2.1
    have h3 := F3.out.2.2.2
    have h4 := heap_lt F3.out.1
    exact ⟨H.keep _ _ _ HT.out.2.1 (Sam.of_below h1 HSS.out), .of_below h1, (b4.block fb (heap_lt F3.out.2.1)).trans F3.out.2.1, e4, (b4.block g h4).trans F3.out.1, (fun b e => by cases e), h2, by omega, by omega, by omega, by omega, by omega, (fun b e => by cases e)⟩
  have ST := Lib.hid st4
  clear st4 e4 b4 heb
  go_wp2_with fail
  go_loopw [13] (RpAt S Inv w f caps fb eb g N A n c tl p) (fun i _ => 6 - (intOf i).toNat)
  case atStart => exact ⟨0, by omega, rfl, ⟨_, ST.out, fun _ => rfl, fun h => absurd h (by omega)⟩, fun j hj => absurd hj (by omega)⟩
  case round =>
    obtain ⟨k, hk, rfl, ⟨mo, hst, hm1, hm2⟩, hnone⟩ := hrel
    by_cases hk6 : k < 6
    case neg =>
      obtain rfl : k = 6 := by omega
      have HR := Lib.hid (And.intro hst hnone)
      clear hst hnone hm1 hm2
      go_wp2
      refine bodyPost_ret (results_none rfl _ _ _) rfl ?_
      have hw0 : ws = [] := by rw [HT.out.2.2.2.2]; exact stage_none HR.out.2
      exact ⟨rfl, [], .inl ⟨hw0.symm, AllGo.nil _⟩, HR.out.1.inv, HR.out.1.chg⟩
    obtain ⟨sb, hsb⟩ : ∃ sb, wr.heap.size = sb := ⟨_, rfl⟩
    obtain ⟨w5, hw5⟩ : ∃ w5, wr.alloc (.cells #[.bool false] 4) = w5 := ⟨_, rfl⟩
    have b5 : Below wr.heap.size wr w5 := by rw [← hw5]; exact (Below.refl _ wr).alloc (Nat.le_refl _) _
    have s5 : w5.heap[sb]? = some (.cells #[.bool false] 4 (0, 0)) := by rw [← hw5, ← hsb]; exact heap_alloc_new wr _
    have st5 := hst.below H b5
    have hsz := hst.chg.size
    have hsb1 : w.heap.size ≤ sb := by omega
    have hgs : g ≠ sb := by have := heap_lt hst.lb; omega
    have hes : eb ≠ sb := by have := heap_lt hst.exs; omega
    have hfs : sb ≠ fb := by have := heap_lt hst.found; omega
    have hbs : ∀ b, mo = some b → b ≠ sb := fun b e => by have := (hst.mp b e).1.lt; omega
    have i5 : RepInv Inv f caps sb fb [] w5 := ⟨st5.inv, s5, st5.found⟩
    have stg := stage_at hnone
    rw [← HT.out.2.2.2.2] at stg
    have HT5 : Taker 72 [.pointer (some ⟨sb, 0, none⟩), .pointer (some ⟨fb, 0, none⟩)] ((stgs p N tl).getD k []) go (S9 S sb fb) (RepInv Inv f caps sb fb) :=
      rep_taker (H.stage stg) (fun hs => by have := HSS.out sb hs; omega) (fun hs => by have := HSS.out fb hs; have := hst.hf; omega) hfs
    have KK : ∃ F : FuncId, exRow[k]? = some (.func (.func F) #[] #[]) ∧ (∀ args W, (callFunc F args).run Try.prog W = .ok (.enter F args) W) ∧
        Calls Try.prog F #[.pointer (some ⟨g, 0, none⟩), .func (.func 72) #[] #[.pointer (some ⟨sb, 0, none⟩), .pointer (some ⟨fb, 0, none⟩)]] w5 (ExEnd S Inv go w f caps sb fb eb g N A n c tl k ((stgs p N tl).getD k []) ws) := by
      have hl := HT.out.1.1
      have g0 : 1 ≤ k → 0 ≤ N ∧ N ≤ 4096 ∧ tl.length ≤ 8192 ∧ ∀ t ∈ tl, inN N t.1 ∧ inN N t.2.1 ∧ inN N t.2.2 := fun h => stage0 (hnone 0 (by omega))
      have g1 : 2 ≤ k → ∀ t ∈ tl, ¬ loopT t := fun h => stage1 (hnone 1 (by omega))
      have g2 : 3 ≤ k → tl.Pairwise fun t u => ¬ twice t u := fun h => stage2 (hnone 2 (by omega))
      have g4 : 5 ≤ k → ∀ v : Int, inN N v → ∃ t ∈ tl, hasV t v := fun h => stage4 (hnone 4 (by omega))
      match k, hk6 with
      | 0, _ =>
        obtain rfl := hm1 (by omega)
        exact ⟨74, rfl, fun _ _ => by kernel_rfl, (cindex_any HT5 w5 g N A n c none tl (st5.seen HSS.out HT.out.1 HT.out.2.2.1 hsb1 hgs) i5 rfl hn).mono fun _ _ h => ex_end HSS.out st5 hsb1 hgs hes hbs stg (fun _ => rfl) (fun h => absurd h (by omega)) h⟩
      | 1, _ =>
        obtain rfl := hm1 (by omega)
        exact ⟨75, rfl, fun _ _ => by kernel_rfl, (cloop_any HT5 w5 g N A n c none tl (st5.seen HSS.out HT.out.1 HT.out.2.2.1 hsb1 hgs) i5 rfl hn).mono fun _ _ h => ex_end HSS.out st5 hsb1 hgs hes hbs stg (fun _ => rfl) (fun h => absurd h (by omega)) h⟩
      | 2, _ =>
        obtain rfl := hm1 (by omega)
        obtain ⟨n0, n1, n2, n3⟩ := g0 (by omega)
        have hAg : 0 < n → ∀ b off, A = some ⟨b, off, none⟩ → b ≠ g := fun h0 b off e => by
          obtain ⟨b', off', e', hc⟩ := HT.out.1.2 h0
          rw [e] at e'
          injection e' with e'
          injection e' with e1 e2
          subst e1
          have h1 : b < w.heap.size := World.block_lt_of_cell? w _ (hc 0 h0).1
          have := st5.hg
          omega
        exact ⟨76, rfl, fun _ _ => by kernel_rfl, (ctwice_any HT5 w5 g N A n c tl (st5.seen HSS.out HT.out.1 HT.out.2.2.1 hsb1 hgs) i5 rfl (by omega) n1 n3 hAg).mono fun _ _ h => ex_end2 HSS.out st5 hsb1 hes stg h⟩
      | 3, _ =>
        obtain ⟨b, rfl⟩ := hm2 (by omega)
        obtain ⟨n0, n1, n2, n3⟩ := g0 (by omega)
        exact ⟨77, rfl, fun _ _ => by kernel_rfl, (cmirr_any HT5 w5 g b N A n c tl (st5.full HSS.out HT.out.1 HT.out.2.2.1 hsb1 hgs (hbs b rfl)) i5 rfl (by omega) n1 n3 (g1 (by omega)) (g2 (by omega))).mono fun _ _ h => ex_end HSS.out st5 hsb1 hgs hes hbs stg (fun h => absurd h (by omega)) (fun _ => ⟨b, rfl⟩) h⟩
      | 4, _ =>
        obtain ⟨b, rfl⟩ := hm2 (by omega)
        obtain ⟨n0, n1, n2, n3⟩ := g0 (by omega)
        obtain ⟨M, rfl⟩ : ∃ M : Nat, N = (M : Int) := ⟨N.toNat, by omega⟩
        exact ⟨78, rfl, fun _ _ => by kernel_rfl, (clonely_any HT5 w5 g M A n c (some b) tl (st5.seen HSS.out HT.out.1 HT.out.2.2.1 hsb1 hgs) i5 rfl (by omega) (by omega) n3).mono fun _ _ h => ex_end HSS.out st5 hsb1 hgs hes hbs stg (fun h => absurd h (by omega)) (fun _ => ⟨b, rfl⟩) h⟩
      | 5, _ =>
        obtain ⟨b, rfl⟩ := hm2 (by omega)
        obtain ⟨n0, n1, n2, n3⟩ := g0 (by omega)
        obtain ⟨M, rfl⟩ : ∃ M : Nat, N = (M : Int) := ⟨N.toNat, by omega⟩
        exact ⟨79, rfl, fun _ _ => by kernel_rfl, (cpinch_any HT5 w5 g b M A n c tl p (st5.full HSS.out HT.out.1 HT.out.2.2.1 hsb1 hgs (hbs b rfl)) i5 HT.out.2.2.2.1 rfl (by omega) (by omega) n3 (g1 (by omega)) (g2 (by omega)) (g4 (by omega))).mono fun _ _ h => ex_end HSS.out st5 hsb1 hgs hes hbs stg (fun h => absurd h (by omega)) (fun _ => ⟨b, rfl⟩) h⟩
    obtain ⟨F, hF, hen, KF⟩ := KK
    have c6 : wr.cell? ⟨eb, k, none⟩ = some (.func (.func F) #[] #[]) := by rw [cell_in hst.exs]; exact hF
    have m1 : (k : Int) < 6 := by omega
    have KF := Lib.hid KF
    have HN := Lib.hid hnone
    have z5 : w5.cell? ⟨sb, 0, none⟩ = some (.bool false) := by rw [cell_in s5]; rfl
    have z5f := frozen_in s5 0
    have z5s := set_same9 s5
    clear hF st5 hst hsz hsb1 hgs hes hfs hbs i5 stg HT5 hm1 hm2 hnone b5 s5
    go_wp2_with fail
    refine KF.out.mono ?_
    rintro e w6 ⟨rfl, ⟨hs6, l, hl, hi6, hc6⟩ | ⟨hs6, hstg, hmo⟩⟩
    · have y6 : w6.cell? ⟨sb, 0, none⟩ = some (.bool true) := by rw [cell_in hs6]; rfl
      have HE := Lib.hid (And.intro hl (And.intro hi6 hc6))
      clear hs6 hl hi6 hc6
      go_wp2_with fail
      refine bodyPost_ret (results_none rfl _ _ _) rfl ?_
      exact ⟨rfl, l, HE.out⟩
    · have y6 : w6.cell? ⟨sb, 0, none⟩ = some (.bool false) := by rw [cell_in hs6]; rfl
      have HE := Lib.hid (And.intro hstg hmo)
      clear hs6 hstg hmo
      go_wp2_with fail
      refine ⟨⟨k + 1, by omega, by go_num, HE.out.2, fun j hj => ?_⟩, by simp [intOf]; omega⟩
      by_cases hjk : j = k
      · rw [hjk]; exact HE.out.1
      · exact HN.out j (by omega)
end Go.Proofs.Ytmflacmgffpjoaa

/- Layer 9: Check, and the words for All, Is and True (out of CeAll). -/
namespace Go.Proofs.Ytmflacmgffpjoaa
open Go.RowKit


theorem kind_idx {k : Int} {q : Tr → Bool} {l : List Tr} {x : Wt} (h : x ∈ idxW k q l) : x.1 = k := by
  unfold idxW at h
  obtain ⟨i, _, rfl⟩ := List.mem_map.1 h
  rfl
theorem kind_pair {k : Int} {q : Tr → Tr → Bool} {l : List Tr} {x : Wt} (h : x ∈ pairW k q l) : x.1 = k := by
  unfold pairW at h
  obtain ⟨b, _, h2⟩ := List.mem_flatMap.1 h
  obtain ⟨i, _, rfl⟩ := List.mem_map.1 h2
  rfl
theorem kind_vert {k : Int} {q : Int → Bool} {N : Int} {x : Wt} (h : x ∈ vertW k q N) : x.1 = k := by
  unfold vertW at h
  obtain ⟨i, _, rfl⟩ := List.mem_map.1 h
  rfl
theorem firstL_in : ∀ (L : List (List Wt)), firstL L = [] ∨ firstL L ∈ L
  | [] => .inl rfl
  | [] :: r => by rcases firstL_in r with h | h
                  · exact .inl h
                  · exact .inr (List.mem_cons_of_mem _ h)
  | (x :: a) :: r => .inr (List.mem_cons_self)
/-- All that is told at once is of one kind, which is none of 0. -/
theorem wits_kind (p : Int → Bool) (N : Int) (tl : List Tr) : ∃ k : Int, 1 ≤ k ∧ ∀ x ∈ wits p N tl, x.1 = k := by
  rw [wits_stgs]
  rcases firstL_in (stgs p N tl) with h | h
  · exact ⟨1, by omega, fun x hx => by rw [h] at hx; cases hx⟩
  · generalize firstL (stgs p N tl) = ws at *
    simp only [stgs, List.mem_cons, List.not_mem_nil, or_false] at h
    rcases h with rfl | rfl | rfl | rfl | rfl | rfl
    · refine ⟨1, by omega, fun x hx => ?_⟩
      unfold indexW at hx
      split at hx
      · rw [List.mem_singleton.1 hx]
      · exact kind_idx hx
    · exact ⟨2, by omega, fun x hx => kind_idx hx⟩
    · exact ⟨3, by omega, fun x hx => kind_pair hx⟩
    · exact ⟨4, by omega, fun x hx => kind_pair hx⟩
    · exact ⟨5, by omega, fun x hx => kind_vert hx⟩
    · exact ⟨6, by omega, fun x hx => kind_vert hx⟩
theorem idxW_len9 (k : Int) (q : Tr → Bool) (l : List Tr) : (idxW k q l).length ≤ l.length := by
  unfold idxW
  rw [List.length_map]
  have := List.length_filter_le (fun i => q (l.getD i z3)) (List.range l.length)
  rwa [List.length_range] at this
theorem pairW_len9 (k : Int) (q : Tr → Tr → Bool) (l : List Tr) : (pairW k q l).length ≤ l.length * l.length := by
  have key : ∀ m, ((List.range m).flatMap fun b => ((List.range b).filter fun a => q (l.getD a z3) (l.getD b z3)).map fun a => ((k, ((a : Nat) : Int), ((b : Nat) : Int)) : Wt)).length ≤ m * m := by
    intro m
    induction m with
    | zero => simp
    | succ m ih =>
      rw [List.range_succ, List.flatMap_append, List.length_append, List.flatMap_singleton, List.length_map]
      have := List.length_filter_le (fun a => q (l.getD a z3) (l.getD m z3)) (List.range m)
      rw [List.length_range] at this
      rw [Nat.mul_add, Nat.add_mul]
      omega
  exact key _
theorem vertW_len9 (k : Int) (q : Int → Bool) (N : Int) : (vertW k q N).length ≤ N.toNat := by
  unfold vertW
  rw [List.length_map]
  have := List.length_filter_le (fun v : Nat => q v) (List.range N.toNat)
  rwa [List.length_range] at this
theorem wits_len (p : Int → Bool) (N : Int) (tl : List Tr) : (wits p N tl).length ≤ 67108864 := by
  unfold wits
  by_cases hr : N < 0 ∨ 4096 < N ∨ 8192 < tl.length
  · rw [if_pos hr]; simp
  · rw [if_neg hr]
    rcases firstL_in (stagesW p N tl) with h | h
    · rw [h]; simp
    · generalize firstL (stagesW p N tl) = ws at *
      have hm : tl.length * tl.length ≤ 8192 * 8192 := Nat.mul_le_mul (by omega) (by omega)
      have hm1 := pairW_len9 3 (fun t u => decide (twice t u)) tl
      have hm2 := pairW_len9 4 (fun t u => decide (mirrd t u)) tl
      have hm3 := idxW_len9 1 (fun t => decide (badT N t)) tl
      have hm4 := idxW_len9 2 (fun t => decide (loopT t)) tl
      have hm5 := vertW_len9 5 (lonely tl) N
      have hm6 := vertW_len9 6 p N
      simp only [stagesW, List.mem_cons, List.not_mem_nil, or_false] at h
      rcases h with rfl | rfl | rfl | rfl | rfl | rfl <;> omega
theorem handed_all {ws l : List Wt} (h : Handed ws (fun _ => true) l) : l = ws := by
  rcases h with ⟨h, _⟩ | ⟨m, x, _, _, _, h⟩
  · exact h
  · cases h
theorem handed_first {ws l : List Wt} (h : Handed ws (fun _ => false) l) : l.getLastD (0, 0, 0) = ws.headD (0, 0, 0) := by
  rcases h with ⟨rfl, h⟩ | ⟨m, x, rfl, hp, hm, _⟩
  · cases l with
    | nil => rfl
    | cons x r => exact absurd (h [x] ⟨r, rfl⟩ (by simp)) (by simp)
  · cases m with
    | nil =>
      obtain ⟨t, rfl⟩ := hp
      rfl
    | cons y r => exact absurd (hm [y] ⟨r, rfl⟩ (by simp)) (by simp)
theorem handed_among {ws l : List Wt} {y : Wt} (h : Handed ws (fun l => !decide (l.getLast? = some y)) l) : decide (l.getLast? = some y) = decide (y ∈ ws) := by
  have no : ∀ {m : List Wt}, AllGo (fun l => !decide (l.getLast? = some y)) m → y ∉ m := fun {m} hm hy => by
    obtain ⟨a, b, rfl⟩ := List.append_of_mem hy
    have := hm (a ++ [y]) ⟨b, by simp⟩ (by simp)
    simp at this
  rcases h with ⟨rfl, h⟩ | ⟨m, x, rfl, hp, hm, hx⟩
  · have hn := no h
    have : ¬ l.getLast? = some y := fun e => hn (List.mem_of_getLast? e)
    simp [this, hn]
  · have hx' : (m ++ [x]).getLast? = some y := by simpa using hx
    rw [List.getLast?_concat] at hx'
    injection hx' with hx'
    subst hx'
    have : x ∈ ws := hp.subset (by simp)
    simp [this]

theorem A_far {w : World} {A : Option Addr} {n : Nat} {tl : List Tr} (ht : T3 w A n tl) {S : Nat → Prop} (hS : ∀ b, S b → w.heap.size ≤ b) : 0 < n → ∀ b off, A = some ⟨b, off, none⟩ → ¬ S b := fun hn b off e hs => by
  obtain ⟨b', off', e', hc⟩ := ht.2 hn
  rw [e] at e'
  injection e' with e'
  injection e' with e1 e2
  subst e1
  have h1 : b < w.heap.size := World.block_lt_of_cell? w _ (hc 0 hn).1
  have := hS b hs
  omega
def CheckTold (w : World) (ws : List Wt) (e : Ending) (w' : World) : Prop := e = .returned (wv (ws.headD (0, 0, 0))) ∧ Below w.heap.size w w'
def AllTold (w : World) (ws : List Wt) (e : Ending) (w' : World) : Prop := ∃ q, e = .returned (.slice (some ⟨q, 0, none⟩) ws.length ws.length) ∧ T3 w' (some ⟨q, 0, none⟩) ws.length ws ∧ Below w.heap.size w w' ∧ w.heap.size ≤ q
def BoolTold9 (w : World) (b : Bool) (e : Ending) (w' : World) : Prop := e = .returned (.bool b) ∧ Below w.heap.size w w'

set_option maxHeartbeats 4000000 in
set_option maxRecDepth 100000 in
theorem ccheck_any (w : World) (N : Int) (A : Option Addr) (n c : Nat) (tl : List Tr) (p : Int → Bool) (ht : T3 w A n tl) (hp : IsPin tl p) (hn : n ≤ 1000000) : Calls Try.prog 53 #[.agg #[.int .i64 N, .slice A n c]] w (CheckTold w (wits p N tl)) := by
  obtain ⟨w1, hw1⟩ : ∃ w1, w.alloc (.cells #[.int .i64 N, .slice A n c] 24) = w1 := ⟨_, rfl⟩
  obtain ⟨a, ha⟩ : ∃ a, w.heap.size = a := ⟨_, rfl⟩
  have b1 : Below w.heap.size w w1 := by rw [← hw1]; exact (Below.refl _ w).alloc (Nat.le_refl _) _
  have x1 : Bx w1 a N A n c := by rw [← hw1, ← ha]; exact Bx.made w N A n c
  obtain ⟨w2, hw2⟩ : ∃ w2, w1.alloc (.cells #[.int .i64 0, .int .i64 0, .int .i64 0] 61) = w2 := ⟨_, rfl⟩
  obtain ⟨rb, hrb⟩ : ∃ rb, w1.heap.size = rb := ⟨_, rfl⟩
  have b2 : Below w1.heap.size w1 w2 := by rw [← hw2]; exact (Below.refl _ w1).alloc (Nat.le_refl _) _
  have r2 : w2.heap[rb]? = some (.cells #[.int .i64 0, .int .i64 0, .int .i64 0] 61 (0, 0)) := by rw [← hw2, ← hrb]; exact heap_alloc_new w1 _
  obtain ⟨w3, hw3⟩ : ∃ w3, w2.alloc (.cells #[.int .i64 0, .int .i64 0, .int .i64 0] 61) = w3 := ⟨_, rfl⟩
  obtain ⟨q, hq⟩ : ∃ q, w2.heap.size = q := ⟨_, rfl⟩
  have b3 : Below w2.heap.size w2 w3 := by rw [← hw3]; exact (Below.refl _ w2).alloc (Nat.le_refl _) _
  have q3 : w3.heap[q]? = some (.cells #[.int .i64 0, .int .i64 0, .int .i64 0] 61 (0, 0)) := by rw [← hw3, ← hq]; exact heap_alloc_new w2 _
  have hrq : rb < q := by rw [← hq]; exact heap_lt r2
  have r3 := (b3.block rb (heap_lt r2)).trans r2
  have b13 := b1.trans ((b2.trans (b3.mono b2.size)).mono b1.size)
  have x3 := x1.below (b2.trans (b3.mono b2.size))
  have z0 := x3.c0
  have z1 := x3.c1
  have hwq : w.heap.size ≤ q := by have := b1.size; omega
  have hwr : w.heap.size ≤ rb := by rw [← hrb]; exact b1.size
  have KR := Lib.hid (creport_any (check1_taker q (wits p N tl)) w3 N A n c tl p (ht.below b13) (show CheckSt q [] w3 from q3) (A_far ht fun b hb => by rw [show b = q from hb]; exact hwq) hp rfl hn)
  have HB := Lib.hid (And.intro b13 (And.intro r3 (And.intro hrq (And.intro hwq hwr))))
  have hmf : ∀ (fn : Fn) (first cap : Array Value) (w : World), (Instr.makeFunc fn first cap).run Try.prog w = .ok (.func fn first cap) w := fun _ _ _ _ => rfl
  clear b1 b2 b3 x1 x3 r2 r3 q3 hrq b13 hwq hwr ht hp
  go_enter Try.func53, Try.ntmps53
  go_wp2_with fail
  refine KR.out.mono ?_
  rintro e w4 ⟨rfl, l, hl, hi, hc⟩
  have hfi := handed_first hl
  unfold CheckSt at hi
  rw [hfi] at hi
  obtain ⟨y, hy⟩ : ∃ y, (wits p N tl).headD (0, 0, 0) = y := ⟨_, rfl⟩
  rw [hy] at hi
  have y0 : w4.cell? ⟨q, 0, none⟩ = some (.int .i64 y.1) := by rw [cell_in hi]; rfl
  have y1 : w4.cell? ⟨q, 1, none⟩ = some (.int .i64 y.2.1) := by rw [cell_in hi]; rfl
  have y2 : w4.cell? ⟨q, 2, none⟩ = some (.int .i64 y.2.2) := by rw [cell_in hi]; rfl
  have r4 := (hc.far rb (heap_lt HB.out.2.1) (fun e => by have h1 := HB.out.2.2.1; have : rb = q := e; omega)).trans HB.out.2.1
  have d0 : w4.cell? ⟨rb, 0, none⟩ = some (.int .i64 0) := by rw [cell_in r4]; rfl
  have d1 : w4.cell? ⟨rb, 1, none⟩ = some (.int .i64 0) := by rw [cell_in r4]; rfl
  have d2 : w4.cell? ⟨rb, 2, none⟩ = some (.int .i64 0) := by rw [cell_in r4]; rfl
  have f0 := frozen_in r4 0
  have f1 := frozen_in r4 1
  have f2 := frozen_in r4 2
  have HE := Lib.hid (And.intro r4 (And.intro (HB.out.1.trans (hc.below HB.out.1.size (fun b hb => by rw [show b = q from hb]; exact HB.out.2.2.2.1))) hy))
  clear hi hl hfi hc r4 hy
  go_wp2_with fail
  refine bodyPost_ret (results_cell_row rfl _ _ rb 61 #[.int .i64 y.1, .int .i64 y.2.1, .int .i64 y.2.2] (0, 0) _ rfl (set3 (w := w4) HE.out.1) under_wit rfl (by kernel_rfl)) rfl ?_
  exact ⟨by rw [HE.out.2.2], below_set3 HE.out.2.1 HB.out.2.2.2.2 _ _ _⟩
theorem field9 (W : World) (a b c : Int) : (Instr.field 61 (.agg #[.int .i64 a, .int .i64 b, .int .i64 c]) 0).run Try.prog W = .ok (.int .i64 a) W := by kernel_rfl
end Go.Proofs.Ytmflacmgffpjoaa
