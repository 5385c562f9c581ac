/- Layer 11: the developers' ring: the corner that follows, the one that is followed, the first one; is a vertex inner, are two near one another: of a table, and of none. -/
import Derived.Test.YtoianhaocjiffaaGR
import Derived.Test.YtoianhaocjiffaaGN
namespace Go.Proofs.Ytoianhaocjiffaa
open Go.RowKit

/-- A table, or none. -/
def RT (w : World) (p : Option Addr) (l : List Tr) : Prop := (p = none ∧ l = []) ∨ ∃ B g N, p = some ⟨g, 0, none⟩ ∧ KTab w B g N l
section methods
variable {w : World} {p : Option Addr} {l : List Tr}
theorem RT.below {w' : World} (h : RT w p l) (hb : Below w.heap.size w w') : RT w' p l := by
  rcases h with h | ⟨B, g, N, e, h⟩
  · exact .inl h
  · exact .inr ⟨B, g, N, e, h.below hb⟩
theorem RT.surf (h : RT w p l) : l = [] ∨ ∃ N, Surf N l := by
  rcases h with h | ⟨B, g, N, e, h⟩
  · exact .inl h.2
  · exact .inr ⟨N, h.surf⟩
theorem notC0 (x : Int) : ¬ IsC 0 x := fun h => by have := h.1; have := h.2; omega
theorem RT.next (h : RT w p l) (x : Int) : Calls Try.prog 24 #[.pointer p, .int .i64 x] w (IntSame w (nxtI l.length x)) := by
  rcases h with ⟨rfl, rfl⟩ | ⟨B, g, N, rfl, h⟩
  · rw [show nxtI ([] : List Tr).length x = -1 from nxtI_none x]; exact knext_nil w x
  · exact h.next x
theorem RT.prev (h : RT w p l) (x : Int) : Calls Try.prog 25 #[.pointer p, .int .i64 x] w (IntSame w (prvI l.length x)) := by
  rcases h with ⟨rfl, rfl⟩ | ⟨B, g, N, rfl, h⟩
  · rw [show prvI ([] : List Tr).length x = -1 from prvI_none x]; exact kprev_nil w x
  · exact h.prev x
theorem RT.opp (h : RT w p l) (x : Int) : Calls Try.prog 23 #[.pointer p, .int .i64 x] w (IntSame w (oppI l l.length x)) := by
  rcases h with ⟨rfl, rfl⟩ | ⟨B, g, N, rfl, h⟩
  · rw [show oppI ([] : List Tr) ([] : List Tr).length x = -1 from if_neg (notC0 x)]; exact kopp_nil w x
  · exact h.opp x
theorem RT.vertex (h : RT w p l) (x : Int) : Calls Try.prog 22 #[.pointer p, .int .i64 x] w (IntSame w (vtxI l l.length x)) := by
  rcases h with ⟨rfl, rfl⟩ | ⟨B, g, N, rfl, h⟩
  · rw [show vtxI ([] : List Tr) ([] : List Tr).length x = -1 from if_neg (notC0 x)]; exact kvertex_nil w x
  · exact h.vertex x
theorem RT.corner (h : RT w p l) (x : Int) : Calls Try.prog 48 #[.pointer p, .int .i64 x] w (IntSame w (cornerAt l x)) := by
  rcases h with ⟨rfl, rfl⟩ | ⟨B, g, N, rfl, h⟩
  · rw [show cornerAt ([] : List Tr) x = -1 from rfl]; exact kcorner_nil w x
  · exact h.corner x
theorem RT.facing (h : RT w p l) (a b : Int) (hw : wfE (a, b)) : Calls Try.prog 36 #[.pointer p, .agg #[.int .i64 a, .int .i64 b]] w (IntTold w (facing l (a, b))) := by
  rcases h with ⟨rfl, rfl⟩ | ⟨B, g, N, rfl, h⟩
  · rw [show facing ([] : List Tr) (a, b) = -1 from rfl]; exact kfacing_nil w a b
  · exact h.facing a b hw
end methods

/-- The corner that follows c, and the one that it follows: -1, if there is none. -/
def aftI (l : List Tr) (x : Int) : Int := nxtI l.length (oppI l l.length (nxtI l.length x))
def befI (l : List Tr) (x : Int) : Int := prvI l.length (oppI l l.length (prvI l.length x))
theorem aftI_none (l : List Tr) : aftI l (-1) = -1 := by
  unfold aftI
  have h : ¬ IsC l.length (-1) := not_isC _
  rw [show nxtI l.length (-1) = -1 from if_neg h, show oppI l l.length (-1) = -1 from if_neg h, show nxtI l.length (-1) = -1 from if_neg h]
theorem befI_none (l : List Tr) : befI l (-1) = -1 := by
  unfold befI
  have h : ¬ IsC l.length (-1) := not_isC _
  rw [show prvI l.length (-1) = -1 from if_neg h, show oppI l l.length (-1) = -1 from if_neg h, show prvI l.length (-1) = -1 from if_neg h]
theorem isC_nat {n k : Nat} (h : k < 3 * n) : IsC n (k : Int) := ⟨by omega, by omega⟩
theorem nxtI_nat {n k : Nat} (h : k < 3 * n) : nxtI n (k : Int) = ((nxt k : Nat) : Int) := by unfold nxtI; rw [if_pos (isC_nat h), Int.toNat_natCast]
theorem prvI_nat {n k : Nat} (h : k < 3 * n) : prvI n (k : Int) = ((prv k : Nat) : Int) := by unfold prvI; rw [if_pos (isC_nat h), Int.toNat_natCast]
theorem oppI_nat {l : List Tr} {k : Nat} (h : k < 3 * l.length) : oppI l l.length (k : Int) = oppC l k := by unfold oppI; rw [if_pos (isC_nat h), Int.toNat_natCast]
theorem aftI_at {l : List Tr} {c : Nat} (hc : c < 3 * l.length) : (turnC l c = none ∧ aftI l (c : Int) = -1) ∨ ∃ d : Nat, turnC l c = some d ∧ aftI l (c : Int) = (d : Int) := by
  have hn := nxt_lt hc
  unfold aftI turnC
  rw [nxtI_nat hc, oppI_nat hn]
  rcases facing_cases l ((edgeC l (nxt c)).2, (edgeC l (nxt c)).1) with h | ⟨o, h, ho, _⟩
  · rw [show oppC l (nxt c) = -1 from h]
    exact .inl ⟨rfl, if_neg (not_isC _)⟩
  · rw [show oppC l (nxt c) = (o : Int) from h, if_neg (by omega), nxtI_nat ho, Int.toNat_natCast]
    exact .inr ⟨_, rfl, rfl⟩
theorem befI_turn {N : Int} {l : List Tr} (h : Surf N l) {c d : Nat} (hc : c < 3 * l.length) (ht : turnC l c = some d) : befI l (d : Int) = (c : Int) := by
  have hn := nxt_lt hc
  unfold turnC at ht
  rcases facing_cases l ((edgeC l (nxt c)).2, (edgeC l (nxt c)).1) with e | ⟨o, e, ho, _⟩
  · rw [show oppC l (nxt c) = -1 from e, if_pos (by omega)] at ht; cases ht
  · have e' : oppC l (nxt c) = (o : Int) := e
    rw [e', if_neg (by omega), Int.toNat_natCast] at ht
    obtain rfl := Option.some.inj ht
    obtain ⟨_, hb, _⟩ := opp_back h hn e'
    unfold befI
    rw [prvI_nat (nxt_lt ho), prv_nxt, oppI_nat ho, hb, prvI_nat hn, prv_nxt]
theorem befI_border {l : List Tr} {c : Nat} (hc : c < 3 * l.length) (h : oppC l (prv c) = -1) : befI l (c : Int) = -1 := by
  unfold befI
  rw [prvI_nat hc, oppI_nat (prv_lt hc), h]
  exact if_neg (not_isC _)

/-- The first corner of a ring; -1: it has none. -/
def frsI (L : List Nat) : Int := if L.length = 0 then -1 else ((L.getD 0 0 : Nat) : Int)
/-- What the k-th corner of a ring follows. -/
theorem back_step {N : Int} {l : List Tr} (h : Surf N l) {v : Int} {c0 : Nat} {L : List Nat} (hL : IsAround l v c0 L) {i : Nat} (hi : i < L.length) :
    (i = 0 ∧ oppC l (prv c0) = -1 ∧ befI l ((L.getD i 0 : Nat) : Int) = -1) ∨ (0 < i ∧ befI l ((L.getD i 0 : Nat) : Int) = ((L.getD (i - 1) 0 : Nat) : Int)) ∨
      (i = 0 ∧ oppC l (prv c0) ≠ -1 ∧ befI l ((L.getD i 0 : Nat) : Int) = ((L.getD (L.length - 1) 0 : Nat) : Int)) := by
  have cm : ∀ {j}, j < L.length → L.getD j 0 < 3 * l.length := fun hj => (cAt_mem.1 (hL.chain.sub _ (getDn_mem hj))).1
  rcases Nat.eq_zero_or_pos i with rfl | h0
  · by_cases hb : oppC l (prv c0) = -1
    · exact .inl ⟨rfl, hb, befI_border (cm hi) (by rw [hL.chain.hd]; exact hb)⟩
    · exact .inr (.inr ⟨rfl, hb, befI_turn h (cm (by omega)) (by rw [hL.chain.hd]; exact hL.inn hb)⟩)
  · obtain ⟨k, rfl⟩ : ∃ k, i = k + 1 := ⟨i - 1, by omega⟩
    exact .inr (.inl ⟨h0, befI_turn h (cm (by omega)) (hL.chain.st k hi)⟩)
/-- Where the least corner stands in a ring. -/
theorem least_in {l : List Tr} {v : Int} {c0 : Nat} {L : List Nat} (hf : IsFirst l v c0) (hL : IsAround l v c0 L) : ∃ j, j < L.length ∧ cornerAt l v = ((L.getD j 0 : Nat) : Int) ∧ (oppC l (prv c0) ≠ -1 → j = 0) := by
  obtain ⟨h0, hb⟩ := hf
  obtain ⟨h1, h2⟩ := cAt_mem.1 h0
  rcases findC_cases (3 * l.length) (fun c => decide (vtx l c = v)) with e | ⟨c, e, hc, hp⟩
  · have := findC_none.1 e c0 h1
    rw [decide_eq_false_iff_not] at this
    exact absurd h2 this
  · obtain ⟨_, _, hmin⟩ := findC_spec.1 e
    obtain ⟨j, hj, hjc⟩ := memn_getD ((hL.all c).2 (cAt_mem.2 ⟨hc, of_decide_eq_true hp⟩))
    refine ⟨j, hj, by rw [hjc]; exact e, fun hin => ?_⟩
    rcases hb with hb | ⟨_, hle⟩
    · exact absurd hb hin
    · have h3 := hle c (cAt_mem.2 ⟨hc, of_decide_eq_true hp⟩)
      have h4 : ¬ c0 < c := fun hlt => by
        have := hmin c0 hlt
        rw [decide_eq_false_iff_not] at this
        exact this h2
      exact nodup_at hL.chain.nd hj hL.chain.ne (by rw [hjc, hL.chain.hd]; omega)
def idxC (L : List Nat) (c : Nat) : Nat := (findC L.length fun i => decide (L.getD i 0 = c)).toNat
theorem idxC_at {L : List Nat} (h : L.Nodup) {i : Nat} (hi : i < L.length) : idxC L (L.getD i 0) = i := by
  unfold idxC
  rw [findC_one hi (decide_eq_true rfl) fun a ha he => nodup_at h ha hi (of_decide_eq_true he)]
  rfl
/-- How many steps back there are at most. -/
def backM (l : List Tr) (L : List Nat) (c : Nat) : Nat := if idxC L c = 0 ∧ oppC l (prv (L.getD 0 0)) ≠ -1 then L.length else idxC L c
def FsI (l : List Tr) (L : List Nat) (j : Nat) (c : Value) : Prop := ∃ i, i < L.length ∧ c = .int .i64 ((L.getD i 0 : Nat) : Int) ∧ (oppC l (prv (L.getD 0 0)) ≠ -1 ∨ i ≤ j)
theorem back_go {N : Int} {l : List Tr} (h : Surf N l) {v : Int} {c0 : Nat} {L : List Nat} (hL : IsAround l v c0 L) {j : Nat} (hj : j < L.length) (hj0 : oppC l (prv c0) ≠ -1 → j = 0) {i : Nat} (hi : i < L.length) (hij : oppC l (prv (L.getD 0 0)) ≠ -1 ∨ i ≤ j) :
    (L.getD i 0 = L.getD 0 0 ∧ befI l ((L.getD i 0 : Nat) : Int) = -1) ∨ ∃ d : Nat, befI l ((L.getD i 0 : Nat) : Int) = (d : Int) ∧ ((d = L.getD j 0 ∧ d = L.getD 0 0) ∨
      (d ≠ L.getD j 0 ∧ FsI l L j (.int .i64 (d : Int)) ∧ backM l L d < backM l L (L.getD i 0))) := by
  have nd := hL.chain.nd
  have hd : L.getD 0 0 = c0 := hL.chain.hd
  rw [hd] at hij
  rcases back_step h hL hi with ⟨rfl, _, e⟩ | ⟨h0, e⟩ | ⟨rfl, hin, e⟩
  · exact .inl ⟨rfl, e⟩
  · refine .inr ⟨_, e, ?_⟩
    by_cases hc : i - 1 = j
    · refine .inl ⟨by rw [hc], ?_⟩
      rcases hij with hij | hij
      · rw [hc, hj0 hij]
      · omega
    · refine .inr ⟨fun he => hc (nodup_at nd (by omega) hj he), ⟨i - 1, by omega, rfl, ?_⟩, ?_⟩
      · rw [hd]; exact hij.imp id fun h => by omega
      · unfold backM
        rw [idxC_at nd (by omega), idxC_at nd hi, hd, if_neg (fun h => by omega)]
        split
        · next h => exact absurd (hj0 h.2) (by omega)
        · omega
  · refine .inr ⟨_, e, ?_⟩
    by_cases hc : L.length - 1 = j
    · exact .inl ⟨by rw [hc], by rw [hc, hj0 hin]⟩
    · refine .inr ⟨fun he => hc (nodup_at nd (by omega) hj he), ⟨_, by omega, rfl, .inl (by rw [hd]; exact hin)⟩, ?_⟩
      have := hj0 hin
      unfold backM
      rw [idxC_at nd (by omega), idxC_at nd hi, hd, if_neg (fun h => by omega), if_pos ⟨rfl, hin⟩]
      omega

set_option maxRecDepth 100000 in
theorem rgafter_any (w : World) (p : Option Addr) (l : List Tr) (h : RT w p l) (x : Int) : Calls Try.prog 33 #[.pointer p, .int .i64 x] w (IntSame w (aftI l x)) := by
  have K1 := Lib.hid (h.next x)
  have K2 := Lib.hid (h.opp (nxtI l.length x))
  have K3 := Lib.hid (h.next (oppI l l.length (nxtI l.length x)))
  clear h
  go_enter Try.func33, Try.ntmps33
  go_wp2_with fail
  refine K1.out.mono ?_
  rintro e w1 ⟨rfl, rfl⟩
  go_wp2_with fail
  refine K2.out.mono ?_
  rintro e w1 ⟨rfl, rfl⟩
  go_wp2_with fail
  refine K3.out.mono ?_
  rintro e w1 ⟨rfl, rfl⟩
  go_wp2
  go_ret
  exact ⟨rfl, rfl⟩
set_option maxRecDepth 100000 in
theorem rgbefore_any (w : World) (p : Option Addr) (l : List Tr) (h : RT w p l) (x : Int) : Calls Try.prog 34 #[.pointer p, .int .i64 x] w (IntSame w (befI l x)) := by
  have K1 := Lib.hid (h.prev x)
  have K2 := Lib.hid (h.opp (prvI l.length x))
  have K3 := Lib.hid (h.prev (oppI l l.length (prvI l.length x)))
  clear h
  go_enter Try.func34, Try.ntmps34
  go_wp2_with fail
  refine K1.out.mono ?_
  rintro e w1 ⟨rfl, rfl⟩
  go_wp2_with fail
  refine K2.out.mono ?_
  rintro e w1 ⟨rfl, rfl⟩
  go_wp2_with fail
  refine K3.out.mono ?_
  rintro e w1 ⟨rfl, rfl⟩
  go_wp2
  go_ret
  exact ⟨rfl, rfl⟩
set_option maxHeartbeats 2000000 in
set_option maxRecDepth 100000 in
theorem rgfirst_any (w : World) (p : Option Addr) (l : List Tr) (h : RT w p l) (v : Int) (L : List Nat) (hL : IsRing l v L) : Calls Try.prog 35 #[.pointer p, .int .i64 v] w (IntSame w (frsI L)) := by
  have KC := Lib.hid (h.corner v)
  have KB := Lib.hid (fun x => rgbefore_any w p l h x)
  have hs := h.surf
  clear h
  rcases hL with ⟨hno, rfl⟩ | ⟨c0, hf, hL⟩
  · have e0 : cornerAt l v = -1 := findC_none.2 fun c hc => decide_eq_false fun e => by have := cAt_mem.2 ⟨hc, e⟩; rw [hno] at this; cases this
    have KB1 := Lib.hid (by have := KB.out (-1); rwa [befI_none] at this)
    rw [e0] at KC
    clear hs hno e0 KB
    have d0 : decide ((-1 : Int) ≥ 0) = false := rfl
    go_enter Try.func35, Try.ntmps35
    go_wp2_with fail
    refine KC.out.mono ?_
    rintro e w1 ⟨rfl, rfl⟩
    go_wp2_with fail
    go_loop [6] (fun c => c = .int .i64 (-1)) (fun _ => 0)
    case atStart => rfl
    case round =>
      obtain rfl := hrel
      go_wp2_with fail
      refine KB1.out.mono ?_
      rintro e w1 ⟨rfl, rfl⟩
      go_wp2_with fail
      go_ret
      exact ⟨rfl, rfl⟩
  obtain ⟨N, hs⟩ : ∃ N, Surf N l := by
    rcases hs with rfl | hs
    · exact absurd (cAt_mem.1 hf.1).1 (by simp)
    · exact hs
  obtain ⟨j, hj, e0, hj0⟩ := least_in hf hL
  have h0 := hL.chain.ne
  have HG := Lib.hid (fun i hi hij => back_go hs hL hj hj0 (i := i) hi hij)
  have HF := Lib.hid (show frsI L = ((L.getD 0 0 : Nat) : Int) from if_neg (by omega))
  rw [e0] at KC
  have HS := Lib.hid (show FsI l L j (.int .i64 ((L.getD j 0 : Nat) : Int)) from ⟨j, hj, rfl, .inr (Nat.le_refl _)⟩)
  clear hf hL hs e0 h0 hj0 hj
  obtain ⟨y, hy⟩ : ∃ y, L.getD j 0 = y := ⟨_, rfl⟩
  rw [hy] at KC HS
  have HY := Lib.hid hy
  clear hy
  go_enter Try.func35, Try.ntmps35
  go_wp2_with fail
  refine KC.out.mono ?_
  rintro e w1 ⟨rfl, rfl⟩
  go_wp2_with fail
  go_loop [6] (FsI l L j) (fun c => backM l L (intOf c).toNat)
  case atStart => exact HS.out
  case round =>
    obtain ⟨i, hi, rfl, hij⟩ := hrel
    have hg := HG.out i hi hij
    obtain ⟨x, hx⟩ : ∃ x, L.getD i 0 = x := ⟨_, rfl⟩
    rw [hx] at hg
    simp only [hx]
    have HX := Lib.hid hx
    clear hx hi hij
    rcases hg with ⟨h1, h2⟩ | ⟨d, h2, h3⟩
    · have K1 := Lib.hid (by have := KB.out (x : Int); rwa [h2] at this)
      have H1 := Lib.hid h1
      have d0 : decide ((-1 : Int) ≥ 0) = false := rfl
      clear h1 h2
      go_wp2_with fail
      refine K1.out.mono ?_
      rintro e w1 ⟨rfl, rfl⟩
      go_wp2_with fail
      go_ret
      exact ⟨by rw [HF.out, ← H1.out]; rfl, rfl⟩
    · have K1 := Lib.hid (by have := KB.out (x : Int); rwa [h2] at this)
      have d0 : decide ((d : Int) ≥ 0) = true := by simp
      rcases h3 with ⟨h3, h4⟩ | ⟨h3, h4, h5⟩
      · have H4 := Lib.hid h4
        rw [HY.out] at h3
        subst h3
        clear h2 h4
        go_wp2_with fail
        refine K1.out.mono ?_
        rintro e w1 ⟨rfl, rfl⟩
        go_wp2_with fail
        refine K1.out.mono ?_
        rintro e w1 ⟨rfl, rfl⟩
        go_wp2_with fail
        go_ret
        exact ⟨by rw [HF.out, ← H4.out]; rfl, rfl⟩
      · have H4 := Lib.hid (And.intro h4 h5)
        have d1 : ((d : Int) == (y : Int)) = false := by
          rw [HY.out] at h3
          rw [beq_eq_false_iff_ne]
          omega
        clear h2 h3 h4 h5
        go_wp2_with fail
        refine K1.out.mono ?_
        rintro e w1 ⟨rfl, rfl⟩
        go_wp2_with fail
        refine K1.out.mono ?_
        rintro e w1 ⟨rfl, rfl⟩
        go_wp2_with fail
        exact ⟨H4.out.1, by simpa [intOf] using H4.out.2⟩
set_option maxRecDepth 100000 in
theorem rginner_of (w : World) (p : Option Addr) (l : List Tr) (h : RT w p l) (v : Int) (L : List Nat) (hL : IsRing l v L) : Calls Try.prog 16 #[.pointer p, .int .i64 v] w (BoolTold10 w (decide (InnerL l L))) := by
  have K1 := Lib.hid (rgfirst_any w p l h v L hL)
  have hin : decide (befI l (frsI L) ≥ 0) = decide (InnerL l L) := by
    refine decide_eq_decide.2 ?_
    rcases hL with ⟨hno, rfl⟩ | ⟨c0, hf, hL⟩
    · rw [show frsI [] = -1 from rfl, befI_none]
      exact ⟨fun h => by omega, fun h => absurd h.1 (by simp)⟩
    · obtain ⟨N, hs⟩ : ∃ N, Surf N l := by
        rcases h.surf with rfl | hs
        · exact absurd (cAt_mem.1 hf.1).1 (by simp)
        · exact hs
      rw [show frsI L = ((L.getD 0 0 : Nat) : Int) from if_neg (by have := hL.chain.ne; omega)]
      rcases back_step hs hL hL.chain.ne with ⟨_, hb, e⟩ | ⟨h0, _⟩ | ⟨_, hb, e⟩
      · rw [e]
        exact ⟨fun h => by omega, fun h => absurd hb (by have := h.2; rwa [hL.chain.hd] at this)⟩
      · omega
      · rw [e]
        exact ⟨fun _ => ⟨hL.chain.ne, by rw [hL.chain.hd]; exact hb⟩, fun _ => by omega⟩
  have K2 := Lib.hid (rgbefore_any w p l h (frsI L))
  obtain ⟨y, hy⟩ : ∃ y, frsI L = y := ⟨_, rfl⟩
  rw [hy] at K1 K2 hin
  obtain ⟨z, hz⟩ : ∃ z, befI l y = z := ⟨_, rfl⟩
  rw [hz] at K2 hin
  have HI := Lib.hid hin
  clear h hL hy hz hin
  go_enter Try.func16, Try.ntmps16
  go_wp2_with fail
  refine K1.out.mono ?_
  rintro e w1 ⟨rfl, rfl⟩
  go_wp2_with fail
  refine K2.out.mono ?_
  rintro e w1 ⟨rfl, rfl⟩
  go_wp2_with fail
  go_ret
  exact ⟨by rw [← HI.out]; rfl, Below.refl _ _⟩
theorem wf64 {a : Int} (h : -9223372036854775808 ≤ a ∧ a ≤ 9223372036854775807) : (Lit.int .i64 a).wf = true := by
  show (decide ((-9223372036854775808 : Int) ≤ a) && decide (a ≤ (9223372036854775807 : Int))) = true
  simp [h.1, h.2]
theorem wfE_of {a b : Int} (ha : -9223372036854775808 ≤ a ∧ a ≤ 9223372036854775807) (hb : -9223372036854775808 ≤ b ∧ b ≤ 9223372036854775807) : wfE (a, b) := ⟨wf64 ha, wf64 hb⟩
set_option maxRecDepth 100000 in
theorem rgnear_of (w : World) (p : Option Addr) (l : List Tr) (h : RT w p l) (a b : Int) (ha : -9223372036854775808 ≤ a ∧ a ≤ 9223372036854775807) (hb : -9223372036854775808 ≤ b ∧ b ≤ 9223372036854775807) : Calls Try.prog 18 #[.pointer p, .int .i64 a, .int .i64 b] w (BoolTold10 w (decide (NearC l a b))) := by
  have wf : ∀ {a b : Int}, -9223372036854775808 ≤ a ∧ a ≤ 9223372036854775807 → -9223372036854775808 ≤ b ∧ b ≤ 9223372036854775807 → wfE (a, b) := wfE_of
  have K1 := Lib.hid (h.facing a b (wf ha hb))
  have K2 := Lib.hid (fun W (d : Below w.heap.size w W) => (h.below d).facing b a (wf hb ha))
  have nn : ∀ e : Ed, 0 ≤ facing l e ↔ facing l e ≠ -1 := fun e => by
    rcases facing_cases l e with h | ⟨c, h, _⟩ <;> rw [h] <;> omega
  have hX := nn (a, b)
  have hY := nn (b, a)
  obtain ⟨x, hx⟩ : ∃ x, facing l (a, b) = x := ⟨_, rfl⟩
  obtain ⟨y, hy⟩ : ∃ y, facing l (b, a) = y := ⟨_, rfl⟩
  have hN : NearC l a b ↔ 0 ≤ x ∨ 0 ≤ y := by unfold NearC; rw [← hX, ← hY, hx, hy]
  rw [hx] at K1
  simp only [hy] at K2
  have HN := Lib.hid hN
  clear h ha hb wf nn hX hY hx hy hN
  go_enter Try.func18, Try.ntmps18
  go_wp2_with fail
  refine K1.out.mono ?_
  rintro e w2 ⟨rfl, b2⟩
  have B2 := Lib.hid b2
  clear b2
  by_cases h0 : 0 ≤ x
  · have d0 : decide (x ≥ 0) = true := by simpa using h0
    have HD := Lib.hid (decide_eq_true (HN.out.2 (.inl h0)))
    clear h0
    go_wp2_with fail
    go_ret
    exact ⟨by rw [HD.out]; rfl, B2.out⟩
  · have d0 : decide (x ≥ 0) = false := by simpa using h0
    have H0 := Lib.hid h0
    clear h0
    go_wp2_with fail
    refine (K2.out _ B2.out).mono ?_
    rintro e w3 ⟨rfl, b3⟩
    have B3 := Lib.hid (up2 B2.out b3)
    clear b3
    by_cases h1 : 0 ≤ y
    · have d1 : decide (y ≥ 0) = true := by simpa using h1
      have HD := Lib.hid (decide_eq_true (HN.out.2 (.inr h1)))
      clear h1
      go_wp2_with fail
      go_ret
      exact ⟨by rw [HD.out]; rfl, B3.out⟩
    · have d1 : decide (y ≥ 0) = false := by simpa using h1
      have HD := Lib.hid (decide_eq_false fun h => (HN.out.1 h).elim (fun h => absurd h (by have := H0.out; omega)) h1)
      clear h1
      go_wp2_with fail
      go_ret
      exact ⟨by rw [HD.out]; rfl, B3.out⟩
end Go.Proofs.Ytoianhaocjiffaa
