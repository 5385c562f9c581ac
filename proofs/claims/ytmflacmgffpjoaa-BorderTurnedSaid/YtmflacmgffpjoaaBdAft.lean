/- Layer 12: the developers' After: of any table, and of none; any number. -/
import Derived.Test.YtmflacmgffpjoaaGR
import Derived.Test.YtmflacmgffpjoaaGP
namespace Go.Proofs.Ytmflacmgffpjoaa
open Go.RowKit Go.Shelf

attribute [local go_sem] Oper.semAt_some

/-- What is seen at a corner of a vertex, from the least one on. -/
theorem aft_go {N : Int} {l : List Tr} (h : Surf N l) {v : Int} {c0 : Nat} {L : List Nat} (hL : IsAround l v c0 L) {j : Nat} (hj : j < L.length) (hj0 : oppC l (prv c0) ≠ -1 → j = 0) {i : Nat} (hij : j ≤ i) (hi : i < L.length) :
    L.getD i 0 < 3 * l.length ∧ ((oppC l (nxt (L.getD i 0)) = -1 ∧ afterV l v = (edgeC l (nxt (L.getD i 0))).1) ∨
      ∃ o : Nat, oppC l (nxt (L.getD i 0)) = (o : Int) ∧ o < 3 * l.length ∧ ((i + 1 < L.length ∧ nxt o = L.getD (i + 1) 0 ∧ nxt o ≠ L.getD j 0) ∨ (nxt o = L.getD j 0 ∧ afterV l v = -1))) := by
  have hm := cAt_mem.1 (hL.chain.sub _ (getDn_mem hi))
  refine ⟨hm.1, ?_⟩
  have hn := nxt_lt hm.1
  rcases facing_cases l ((edgeC l (nxt (L.getD i 0))).2, (edgeC l (nxt (L.getD i 0))).1) with e | ⟨o, e, ho, _⟩
  · have e' : oppC l (nxt (L.getD i 0)) = -1 := e
    refine .inl ⟨e', ?_⟩
    have hb := (bdry_corner hn).2 e'
    have h2 : (edgeC l (nxt (L.getD i 0))).2 = v := by rw [edge_nxt]; exact hm.2
    rw [h2] at hb
    exact (after_iff h (bdry_in h hb).1.1).2 hb
  · have e' : oppC l (nxt (L.getD i 0)) = (o : Int) := e
    refine .inr ⟨o, e', ho, ?_⟩
    have ht : turnC l (L.getD i 0) = some (nxt o) := by unfold turnC; rw [e', if_neg (by omega), Int.toNat_natCast]
    rcases Nat.lt_or_ge (i + 1) L.length with g | g
    · have hs := hL.chain.st i g
      rw [ht] at hs
      have hs := Option.some.inj hs
      exact .inl ⟨g, hs, fun he => by rw [hs] at he; have := nodup_at hL.chain.nd g hj he; omega⟩
    · obtain rfl : i = L.length - 1 := by omega
      have hin : oppC l (prv c0) ≠ -1 := fun hb => by rw [hL.out hb] at ht; cases ht
      have hb := hL.inn hin
      rw [ht] at hb
      have hb := Option.some.inj hb
      refine .inr ⟨by rw [hj0 hin, hL.chain.hd]; exact hb, (after_none (surf_pos h)).2 fun u hu => ?_⟩
      obtain ⟨c, hc, hec, hoc⟩ := bdry_at hu
      have hx : prv c ∈ L := (hL.all _).2 (cAt_mem.2 ⟨prv_lt hc, by have := congrArg Prod.snd hec; exact this⟩)
      obtain ⟨m, hml, hmx⟩ := memn_getD hx
      have hno : turnC l (L.getD m 0) = none := by unfold turnC; rw [hmx, nxt_prv, hoc]; rfl
      rcases Nat.lt_or_ge (m + 1) L.length with g' | g'
      · rw [hL.chain.st m g'] at hno; cases hno
      · obtain rfl : m = L.length - 1 := by omega
        rw [hL.inn hin] at hno; cases hno
theorem after_lone {l : List Tr} {v : Int} (hno : cAt l v = []) : afterV l v = -1 := by
  unfold afterV afterC
  rw [List.find?_eq_none.2 fun c hc => ?_]
  intro hp
  have hp := of_decide_eq_true hp
  have : prv c ∈ cAt l v := cAt_mem.2 ⟨prv_lt (List.mem_range.1 hc), hp.1⟩
  rw [hno] at this; cases this
theorem RT.edge {w : World} {p : Option Addr} {l : List Tr} (h : RT w p l) (x : Int) : Calls Try.prog 37 #[.pointer p, .int .i64 x] w (EdTold w (edgI l l.length x)) := by
  rcases h with ⟨rfl, rfl⟩ | ⟨B, g, N, rfl, h⟩
  · rw [show edgI ([] : List Tr) ([] : List Tr).length x = (-1, -1) from if_neg (notC0 x)]; exact kedge_nil w x
  · exact h.edge x
theorem RT.tris {w : World} {p : Option Addr} {l : List Tr} (h : RT w p l) : Calls Try.prog 35 #[.pointer p] w (IntSame w (l.length : Int)) := by
  rcases h with ⟨rfl, rfl⟩ | ⟨B, g, N, rfl, h⟩
  · exact ktris_nil w
  · exact h.tris
def AftR (L : List Nat) (j : Nat) (c : Value) : Prop := ∃ i, j ≤ i ∧ i < L.length ∧ c = .int .i64 ((L.getD i 0 : Nat) : Int)
set_option maxHeartbeats 2000000 in
set_option maxRecDepth 100000 in
theorem bdafter_of (w : World) (p : Option Addr) (l : List Tr) (h : RT w p l) (v : Int) : Calls Try.prog 16 #[.pointer p, .int .i64 v] w (IntTold w (afterV l v)) := by
  have KC := Lib.hid (h.corner v)
  by_cases hno : cAt l v = []
  · have e0 : cornerAt l v = -1 := findC_none.2 fun c hc => decide_eq_false fun e => by have := cAt_mem.2 ⟨hc, e⟩; rw [hno] at this; cases this
    rw [e0] at KC
    rw [after_lone hno]
    clear hno e0 h
    have d0 : decide ((-1 : Int) ≥ 0) = false := rfl
    go_enter Try.func16, Try.ntmps16
    go_wp2_with fail
    refine KC.out.mono ?_
    rintro e w1 ⟨rfl, rfl⟩
    go_wp2_with fail
    go_loop [6] (fun c => c = .int .i64 (-1)) (fun _ => 0)
    case atStart => rfl
    case round =>
      obtain rfl := hrel
      go_wp2_with fail
      go_ret
      exact ⟨rfl, Below.refl _ _⟩
  have KN := Lib.hid (fun x => h.next x)
  have KO := Lib.hid (fun x => h.opp x)
  have KE := Lib.hid (fun x => h.edge x)
  obtain ⟨N, hs⟩ : ∃ N, Surf N l := by
    rcases h.surf with rfl | hs
    · exact absurd rfl hno
    · exact hs
  obtain ⟨c0, hf⟩ := bord_first hno
  obtain ⟨L, hL⟩ := around_exists hs hf
  obtain ⟨j, hj, e0, hj0⟩ := least_in hf hL
  have HG := Lib.hid (fun i hij hi => aft_go hs hL hj hj0 (i := i) hij hi)
  rw [e0] at KC
  have HS := Lib.hid (show AftR L j (.int .i64 ((L.getD j 0 : Nat) : Int)) from ⟨j, Nat.le_refl _, hj, rfl⟩)
  have HND := Lib.hid hL.chain.nd
  clear hf hL hs e0 hj0 hj hno h
  obtain ⟨y, hy⟩ : ∃ y, L.getD j 0 = y := ⟨_, rfl⟩
  rw [hy] at KC HS
  have HY := Lib.hid hy
  clear hy
  go_enter Try.func16, Try.ntmps16
  go_wp2_with fail
  refine KC.out.mono ?_
  rintro e w1 ⟨rfl, rfl⟩
  go_wp2_with fail
  go_loop [6] (AftR L j) (fun c => L.length - idxC L (intOf c).toNat)
  case atStart => exact HS.out
  case round =>
    obtain ⟨i, hij, hi, rfl⟩ := hrel
    obtain ⟨hx0, hg⟩ := HG.out i hij hi
    have hix := idxC_at HND.out hi
    obtain ⟨x, hx⟩ : ∃ x, L.getD i 0 = x := ⟨_, rfl⟩
    rw [hx] at hg hx0 hix
    simp only [hx]
    have d0 : decide ((x : Int) ≥ 0) = true := by simp
    have K1 := Lib.hid (by have := KN.out (x : Int); rwa [nxtI_nat hx0] at this)
    have K2 := Lib.hid (by have := KO.out ((nxt x : Nat) : Int); rwa [oppI_nat (nxt_lt hx0)] at this)
    rcases hg with ⟨h1, h2⟩ | ⟨o, h1, h2, h3⟩
    · have K3 := Lib.hid (by have := KE.out ((nxt x : Nat) : Int); rwa [show edgI l l.length ((nxt x : Nat) : Int) = edgeC l (nxt x) by unfold edgI; rw [if_pos (isC_nat (nxt_lt hx0)), Int.toNat_natCast]] at this)
      rw [h1] at K2
      obtain ⟨u, hu⟩ : ∃ u, edgeC l (nxt x) = u := ⟨_, rfl⟩
      rw [hu] at K3 h2
      obtain ⟨s, hs⟩ : ∃ s, nxt x = s := ⟨_, rfl⟩
      rw [hs] at K1 K2 K3
      have HR := Lib.hid h2
      have d1 : decide ((-1 : Int) < 0) = true := rfl
      have ix0 : ∀ W, (Instr.index 59 (.agg #[.int .i64 u.1, .int .i64 u.2]) (.int .i64 0)).run Try.prog W = .ok (.int .i64 u.1) W := fun _ => by kernel_rfl
      clear h1 h2 hu hs hx hi hij hx0 hix
      go_wp2_with fail
      refine K1.out.mono ?_
      rintro e w1 ⟨rfl, rfl⟩
      go_wp2_with fail
      refine K2.out.mono ?_
      rintro e w1 ⟨rfl, rfl⟩
      go_wp2_with fail
      refine K3.out.mono ?_
      rintro e w1 ⟨rfl, b1⟩
      have B1 := Lib.hid b1
      clear b1
      go_wp2_with fail
      go_ret
      exact ⟨by rw [HR.out]; rfl, B1.out⟩
    · rw [h1] at K2
      have K3 := Lib.hid (by have := KN.out (o : Int); rwa [nxtI_nat h2] at this)
      have d1 : decide ((o : Int) < 0) = false := by simp
      obtain ⟨s, hs⟩ : ∃ s, nxt x = s := ⟨_, rfl⟩
      rw [hs] at K1 K2
      obtain ⟨z, hz⟩ : ∃ z, nxt o = z := ⟨_, rfl⟩
      rw [hz] at K3 h3
      rcases h3 with ⟨g1, g2, g3⟩ | ⟨g1, g2⟩
      · have HREL := Lib.hid (show AftR L j (.int .i64 (z : Int)) from ⟨i + 1, by omega, g1, by rw [g2]⟩)
        have HM := Lib.hid (show L.length - idxC L z < L.length - idxC L x by rw [hix, g2, idxC_at HND.out g1]; omega)
        have d2 : ((z : Int) == (y : Int)) = false := by
          rw [HY.out] at g3
          rw [beq_eq_false_iff_ne]
          omega
        clear h1 h2 hs hz hx hi hij hx0 hix g1 g2 g3
        go_wp2_with fail
        refine K1.out.mono ?_
        rintro e w1 ⟨rfl, rfl⟩
        go_wp2_with fail
        refine K2.out.mono ?_
        rintro e w1 ⟨rfl, rfl⟩
        go_wp2_with fail
        refine K3.out.mono ?_
        rintro e w1 ⟨rfl, rfl⟩
        go_wp2_with fail
        exact ⟨HREL.out, by simpa [intOf] using HM.out⟩
      · rw [HY.out] at g1
        subst g1
        have HR := Lib.hid g2
        clear h1 h2 hs hz hx hi hij hx0 hix g2
        go_wp2_with fail
        refine K1.out.mono ?_
        rintro e w1 ⟨rfl, rfl⟩
        go_wp2_with fail
        refine K2.out.mono ?_
        rintro e w1 ⟨rfl, rfl⟩
        go_wp2_with fail
        refine K3.out.mono ?_
        rintro e w1 ⟨rfl, rfl⟩
        go_wp2_with fail
        go_ret
        exact ⟨by rw [HR.out]; rfl, Below.refl _ _⟩
end Go.Proofs.Ytmflacmgffpjoaa
