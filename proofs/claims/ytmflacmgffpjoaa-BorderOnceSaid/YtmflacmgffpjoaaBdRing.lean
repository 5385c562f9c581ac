/- Layer 12: the border and the rings: a vertex is inner just if nothing is behind it; the link of a border vertex begins and ends on the border. -/
import Derived.Test.YtmflacmgffpjoaaGP
import Derived.Test.YtmflacmgffpjoaaGY
namespace Go.Proofs.Ytmflacmgffpjoaa

theorem ring_ne {N : Int} {l : List Tr} (h : Surf N l) {v : Int} (hv : inN N v) {L : List Nat} (hL : IsRing l v L) : ∃ c0, IsFirst l v c0 ∧ IsAround l v c0 L := by
  rcases hL with ⟨e, _⟩ | hL
  · obtain ⟨t, ht, hh⟩ := h.used v hv
    obtain ⟨i, hi, rfl⟩ := mem3_getD ht
    obtain ⟨c, hc, _⟩ := hasV_corner hi hh
    rw [e] at hc; cases hc
  · exact hL
theorem inner_border {N : Int} {l : List Tr} (h : Surf N l) {v : Int} (hv : inN N v) {L : List Nat} (hL : IsRing l v L) : InnerL l L ↔ afterV l v < 0 := by
  obtain ⟨c0, hf, ha⟩ := ring_ne h hv hL
  have hi : InnerL l L ↔ oppC l (prv c0) ≠ -1 := by
    unfold InnerL
    rw [ha.chain.hd]
    exact ⟨fun h => h.2, fun k => ⟨ha.chain.ne, k⟩⟩
  obtain ⟨h0, hb⟩ := hf
  obtain ⟨g1, g2⟩ := cAt_mem.1 h0
  rw [hi]
  constructor
  · intro hn
    refine Classical.byContradiction fun hc => ?_
    have hu := (after_iff h (u := afterV l v) (by omega)).1 rfl
    obtain ⟨w, hw⟩ := (bdry_both h).1 ⟨_, hu⟩
    obtain ⟨c, hc', he, ho⟩ := bdry_at hw
    rcases hb with hb | ⟨hb, _⟩
    · exact hn hb
    · refine hb (nxt c) (cAt_mem.2 ⟨nxt_lt hc', congrArg Prod.fst he⟩) ?_
      rw [prv_nxt]; exact ho
  · intro hlt e
    have hbd := (bdry_corner (prv_lt g1)).2 e
    rw [edge_prv, g2] at hbd
    obtain ⟨u, hu⟩ := (bdry_both h).2 ⟨_, hbd⟩
    have h1 := (bdry_in h hu).1.1
    have h2 : afterV l v = u := (after_iff h h1).2 hu
    omega
/-- The link of a border vertex: it begins with the one ahead, and ends with the one behind. -/
theorem link_ends {N : Int} {l : List Tr} (h : Surf N l) {v : Int} (hv : inN N v) {L : List Nat} (hL : IsRing l v L) (h0 : 0 ≤ afterV l v) :
    ∃ k, (linkL l L).length = k + 2 ∧ (linkL l L).getD (k + 1) 0 = afterV l v ∧ afterV l ((linkL l L).getD 0 0) = v := by
  have hni : ¬ InnerL l L := fun hi => by have := (inner_border h hv hL).1 hi; omega
  obtain ⟨c0, hf, ha⟩ := ring_ne h hv hL
  have hne := ha.chain.ne
  have hb : oppC l (prv c0) = -1 := Classical.byContradiction fun hn => hni ⟨hne, by rw [ha.chain.hd]; exact hn⟩
  obtain ⟨k, hk⟩ : ∃ k, L.length = k + 1 := ⟨L.length - 1, by omega⟩
  have hlen : (linkL l L).length = k + 2 := by
    unfold linkL
    rw [if_pos ⟨hne, hni⟩, List.length_append, List.length_map, hk]; rfl
  refine ⟨k, hlen, ?_, ?_⟩
  · have hT := ha.out hb
    have hm := cAt_mem.1 (ha.chain.sub _ (getDn_mem (show L.length - 1 < L.length by omega)))
    have ho := turn_none.1 hT
    have hbd := (bdry_corner (nxt_lt hm.1)).2 ho
    rw [edge_nxt, hm.2] at hbd
    have e1 : (linkL l L).getD (k + 1) 0 = vtx l (prv (L.getD (L.length - 1) 0)) := by
      unfold linkL
      rw [if_pos ⟨hne, hni⟩, List.getD_eq_getElem?_getD, List.getElem?_append_right (by rw [List.length_map]; omega), List.length_map, hk]
      simp
    rw [e1]
    exact ((after_iff h (bdry_in h hbd).1.1).2 hbd).symm
  · obtain ⟨g1, g2⟩ := cAt_mem.1 hf.1
    have hbd := (bdry_corner (prv_lt g1)).2 hb
    rw [edge_prv, g2] at hbd
    have e1 : (linkL l L).getD 0 0 = vtx l (nxt c0) := by
      unfold linkL
      rw [List.getD_eq_getElem?_getD, List.getElem?_append_left (by rw [List.length_map]; exact hne), List.getElem?_map, List.getElem?_eq_getElem hne]
      have := ha.chain.hd
      rw [List.getD_eq_getElem?_getD, List.getElem?_eq_getElem hne] at this
      simp only [Option.getD_some] at this
      simp [this]
    rw [e1]
    exact (after_iff h hv.1).2 hbd
end Go.Proofs.Ytmflacmgffpjoaa
