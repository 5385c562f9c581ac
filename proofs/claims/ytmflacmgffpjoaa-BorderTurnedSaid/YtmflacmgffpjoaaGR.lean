/- Texts laid one behind the other: RgFst, RgArd, RgLink. -/
import Derived.Test.YtmflacmgffpjoaaGY
import Derived.Test.YtmflacmgffpjoaaGN

/- Layer 11: the developers' ring: the corner that follows, the one that is followed, the first one; is a vertex inner: of a table, and of none. -/
namespace Go.Proofs.Ytmflacmgffpjoaa
open Go.RowKit

/-- A table, or none. -/
def RT (w : World) (p : Option Addr) (l : List Tr) : Prop := (p = none ∧ l = []) ∨ ∃ B g N, p = some ⟨g, 0, none⟩ ∧ KTab w B g N l
section methods
variable {w : World} {p : Option Addr} {l : List Tr}
theorem RT.below {w' : World} (h : RT w p l) (hb : Below w.heap.size w w') : RT w' p l := by
  rcases h with h | ⟨B, g, N, e, h⟩
  · exact .inl h
  · exact .inr ⟨B, g, N, e, h.below hb⟩
theorem RT.surf (h : RT w p l) : l = [] ∨ ∃ N, Surf N l := by
  rcases h with h | ⟨B, g, N, e, h⟩
  · exact .inl h.2
  · exact .inr ⟨N, h.surf⟩
theorem notC0 (x : Int) : ¬ IsC 0 x := fun h => by have := h.1; have := h.2; omega
theorem RT.next (h : RT w p l) (x : Int) : Calls Try.prog 43 #[.pointer p, .int .i64 x] w (IntSame w (nxtI l.length x)) := by
  rcases h with ⟨rfl, rfl⟩ | ⟨B, g, N, rfl, h⟩
  · rw [show nxtI ([] : List Tr).length x = -1 from nxtI_none x]; exact knext_nil w x
  · exact h.next x
theorem RT.prev (h : RT w p l) (x : Int) : Calls Try.prog 52 #[.pointer p, .int .i64 x] w (IntSame w (prvI l.length x)) := by
  rcases h with ⟨rfl, rfl⟩ | ⟨B, g, N, rfl, h⟩
  · rw [show prvI ([] : List Tr).length x = -1 from prvI_none x]; exact kprev_nil w x
  · exact h.prev x
theorem RT.opp (h : RT w p l) (x : Int) : Calls Try.prog 36 #[.pointer p, .int .i64 x] w (IntSame w (oppI l l.length x)) := by
  rcases h with ⟨rfl, rfl⟩ | ⟨B, g, N, rfl, h⟩
  · rw [show oppI ([] : List Tr) ([] : List Tr).length x = -1 from if_neg (notC0 x)]; exact kopp_nil w x
  · exact h.opp x
theorem RT.vertex (h : RT w p l) (x : Int) : Calls Try.prog 50 #[.pointer p, .int .i64 x] w (IntSame w (vtxI l l.length x)) := by
  rcases h with ⟨rfl, rfl⟩ | ⟨B, g, N, rfl, h⟩
  · rw [show vtxI ([] : List Tr) ([] : List Tr).length x = -1 from if_neg (notC0 x)]; exact kvertex_nil w x
  · exact h.vertex x
theorem RT.corner (h : RT w p l) (x : Int) : Calls Try.prog 42 #[.pointer p, .int .i64 x] w (IntSame w (cornerAt l x)) := by
  rcases h with ⟨rfl, rfl⟩ | ⟨B, g, N, rfl, h⟩
  · rw [show cornerAt ([] : List Tr) x = -1 from rfl]; exact kcorner_nil w x
  · exact h.corner x
theorem RT.facing (h : RT w p l) (a b : Int) (hw : wfE (a, b)) : Calls Try.prog 69 #[.pointer p, .agg #[.int .i64 a, .int .i64 b]] w (IntTold w (facing l (a, b))) := by
  rcases h with ⟨rfl, rfl⟩ | ⟨B, g, N, rfl, h⟩
  · rw [show facing ([] : List Tr) (a, b) = -1 from rfl]; exact kfacing_nil w a b
  · exact h.facing a b hw
end methods

/-- The corner that follows c, and the one that it follows: -1, if there is none. -/
def aftI (l : List Tr) (x : Int) : Int := nxtI l.length (oppI l l.length (nxtI l.length x))
def befI (l : List Tr) (x : Int) : Int := prvI l.length (oppI l l.length (prvI l.length x))
theorem aftI_none (l : List Tr) : aftI l (-1) = -1 := by
  unfold aftI
  have h : ¬ IsC l.length (-1) := not_isC _
  rw [show nxtI l.length (-1) = -1 from if_neg h, show oppI l l.length (-1) = -1 from if_neg h, show nxtI l.length (-1) = -1 from if_neg h]
theorem befI_none (l : List Tr) : befI l (-1) = -1 := by
  unfold befI
  have h : ¬ IsC l.length (-1) := not_isC _
  rw [show prvI l.length (-1) = -1 from if_neg h, show oppI l l.length (-1) = -1 from if_neg h, show prvI l.length (-1) = -1 from if_neg h]
theorem isC_nat {n k : Nat} (h : k < 3 * n) : IsC n (k : Int) := ⟨by omega, by omega⟩
theorem nxtI_nat {n k : Nat} (h : k < 3 * n) : nxtI n (k : Int) = ((nxt k : Nat) : Int) := by unfold nxtI; rw [if_pos (isC_nat h), Int.toNat_natCast]
theorem prvI_nat {n k : Nat} (h : k < 3 * n) : prvI n (k : Int) = ((prv k : Nat) : Int) := by unfold prvI; rw [if_pos (isC_nat h), Int.toNat_natCast]
theorem oppI_nat {l : List Tr} {k : Nat} (h : k < 3 * l.length) : oppI l l.length (k : Int) = oppC l k := by unfold oppI; rw [if_pos (isC_nat h), Int.toNat_natCast]
theorem aftI_at {l : List Tr} {c : Nat} (hc : c < 3 * l.length) : (turnC l c = none ∧ aftI l (c : Int) = -1) ∨ ∃ d : Nat, turnC l c = some d ∧ aftI l (c : Int) = (d : Int) := by
  have hn := nxt_lt hc
  unfold aftI turnC
  rw [nxtI_nat hc, oppI_nat hn]
  rcases facing_cases l ((edgeC l (nxt c)).2, (edgeC l (nxt c)).1) with h | ⟨o, h, ho, _⟩
  · rw [show oppC l (nxt c) = -1 from h]
    exact .inl ⟨rfl, if_neg (not_isC _)⟩
  · rw [show oppC l (nxt c) = (o : Int) from h, if_neg (by omega), nxtI_nat ho, Int.toNat_natCast]
    exact .inr ⟨_, rfl, rfl⟩
theorem befI_turn {N : Int} {l : List Tr} (h : Surf N l) {c d : Nat} (hc : c < 3 * l.length) (ht : turnC l c = some d) : befI l (d : Int) = (c : Int) := by
  have hn := nxt_lt hc
  unfold turnC at ht
  rcases facing_cases l ((edgeC l (nxt c)).2, (edgeC l (nxt c)).1) with e | ⟨o, e, ho, _⟩
  · rw [show oppC l (nxt c) = -1 from e, if_pos (by omega)] at ht; cases ht
  · have e' : oppC l (nxt c) = (o : Int) := e
    rw [e', if_neg (by omega), Int.toNat_natCast] at ht
    obtain rfl := Option.some.inj ht
    obtain ⟨_, hb, _⟩ := opp_back h hn e'
    unfold befI
    rw [prvI_nat (nxt_lt ho), prv_nxt, oppI_nat ho, hb, prvI_nat hn, prv_nxt]
theorem befI_border {l : List Tr} {c : Nat} (hc : c < 3 * l.length) (h : oppC l (prv c) = -1) : befI l (c : Int) = -1 := by
  unfold befI
  rw [prvI_nat hc, oppI_nat (prv_lt hc), h]
  exact if_neg (not_isC _)

/-- The first corner of a ring; -1: it has none. -/
def frsI (L : List Nat) : Int := if L.length = 0 then -1 else ((L.getD 0 0 : Nat) : Int)
/-- What the k-th corner of a ring follows. -/
theorem back_step {N : Int} {l : List Tr} (h : Surf N l) {v : Int} {c0 : Nat} {L : List Nat} (hL : IsAround l v c0 L) {i : Nat} (hi : i < L.length) :
    (i = 0 ∧ oppC l (prv c0) = -1 ∧ befI l ((L.getD i 0 : Nat) : Int) = -1) ∨ (0 < i ∧ befI l ((L.getD i 0 : Nat) : Int) = ((L.getD (i - 1) 0 : Nat) : Int)) ∨
      (i = 0 ∧ oppC l (prv c0) ≠ -1 ∧ befI l ((L.getD i 0 : Nat) : Int) = ((L.getD (L.length - 1) 0 : Nat) : Int)) := by
  have cm : ∀ {j}, j < L.length → L.getD j 0 < 3 * l.length := fun hj => (cAt_mem.1 (hL.chain.sub _ (getDn_mem hj))).1
  rcases Nat.eq_zero_or_pos i with rfl | h0
  · by_cases hb : oppC l (prv c0) = -1
    · exact .inl ⟨rfl, hb, befI_border (cm hi) (by rw [hL.chain.hd]; exact hb)⟩
    · exact .inr (.inr ⟨rfl, hb, befI_turn h (cm (by omega)) (by rw [hL.chain.hd]; exact hL.inn hb)⟩)
  · obtain ⟨k, rfl⟩ : ∃ k, i = k + 1 := ⟨i - 1, by omega⟩
    exact .inr (.inl ⟨h0, befI_turn h (cm (by omega)) (hL.chain.st k hi)⟩)
/-- Where the least corner stands in a ring. -/
theorem least_in {l : List Tr} {v : Int} {c0 : Nat} {L : List Nat} (hf : IsFirst l v c0) (hL : IsAround l v c0 L) : ∃ j, j < L.length ∧ cornerAt l v = ((L.getD j 0 : Nat) : Int) ∧ (oppC l (prv c0) ≠ -1 → j = 0) := by
  obtain ⟨h0, hb⟩ := hf
  obtain ⟨h1, h2⟩ := cAt_mem.1 h0
  rcases findC_cases (3 * l.length) (fun c => decide (vtx l c = v)) with e | ⟨c, e, hc, hp⟩
  · have := findC_none.1 e c0 h1
    rw [decide_eq_false_iff_not] at this
    exact absurd h2 this
  · obtain ⟨_, _, hmin⟩ := findC_spec.1 e
    obtain ⟨j, hj, hjc⟩ := memn_getD ((hL.all c).2 (cAt_mem.2 ⟨hc, of_decide_eq_true hp⟩))
    refine ⟨j, hj, by rw [hjc]; exact e, fun hin => ?_⟩
    rcases hb with hb | ⟨_, hle⟩
    · exact absurd hb hin
    · have h3 := hle c (cAt_mem.2 ⟨hc, of_decide_eq_true hp⟩)
      have h4 : ¬ c0 < c := fun hlt => by
        have := hmin c0 hlt
        rw [decide_eq_false_iff_not] at this
        exact this h2
      exact nodup_at hL.chain.nd hj hL.chain.ne (by rw [hjc, hL.chain.hd]; omega)
def idxC (L : List Nat) (c : Nat) : Nat := (findC L.length fun i => decide (L.getD i 0 = c)).toNat
theorem idxC_at {L : List Nat} (h : L.Nodup) {i : Nat} (hi : i < L.length) : idxC L (L.getD i 0) = i := by
  unfold idxC
  rw [findC_one hi (decide_eq_true rfl) fun a ha he => nodup_at h ha hi (of_decide_eq_true he)]
  rfl
/-- How many steps back there are at most. -/
def backM (l : List Tr) (L : List Nat) (c : Nat) : Nat := if idxC L c = 0 ∧ oppC l (prv (L.getD 0 0)) ≠ -1 then L.length else idxC L c
def FsI (l : List Tr) (L : List Nat) (j : Nat) (c : Value) : Prop := ∃ i, i < L.length ∧ c = .int .i64 ((L.getD i 0 : Nat) : Int) ∧ (oppC l (prv (L.getD 0 0)) ≠ -1 ∨ i ≤ j)
theorem back_go {N : Int} {l : List Tr} (h : Surf N l) {v : Int} {c0 : Nat} {L : List Nat} (hL : IsAround l v c0 L) {j : Nat} (hj : j < L.length) (hj0 : oppC l (prv c0) ≠ -1 → j = 0) {i : Nat} (hi : i < L.length) (hij : oppC l (prv (L.getD 0 0)) ≠ -1 ∨ i ≤ j) :
    (L.getD i 0 = L.getD 0 0 ∧ befI l ((L.getD i 0 : Nat) : Int) = -1) ∨ ∃ d : Nat, befI l ((L.getD i 0 : Nat) : Int) = (d : Int) ∧ ((d = L.getD j 0 ∧ d = L.getD 0 0) ∨
      (d ≠ L.getD j 0 ∧ FsI l L j (.int .i64 (d : Int)) ∧ backM l L d < backM l L (L.getD i 0))) := by
  have nd := hL.chain.nd
  have hd : L.getD 0 0 = c0 := hL.chain.hd
  rw [hd] at hij
  rcases back_step h hL hi with ⟨rfl, _, e⟩ | ⟨h0, e⟩ | ⟨rfl, hin, e⟩
  · exact .inl ⟨rfl, e⟩
  · refine .inr ⟨_, e, ?_⟩
    by_cases hc : i - 1 = j
    · refine .inl ⟨by rw [hc], ?_⟩
      rcases hij with hij | hij
      · rw [hc, hj0 hij]
      · omega
    · refine .inr ⟨fun he => hc (nodup_at nd (by omega) hj he), ⟨i - 1, by omega, rfl, ?_⟩, ?_⟩
      · rw [hd]; exact hij.imp id fun h => by omega
      · unfold backM
        rw [idxC_at nd (by omega), idxC_at nd hi, hd, if_neg (fun h => by omega)]
        split
        · next h => exact absurd (hj0 h.2) (by omega)
        · omega
  · refine .inr ⟨_, e, ?_⟩
    by_cases hc : L.length - 1 = j
    · exact .inl ⟨by rw [hc], by rw [hc, hj0 hin]⟩
    · refine .inr ⟨fun he => hc (nodup_at nd (by omega) hj he), ⟨_, by omega, rfl, .inl (by rw [hd]; exact hin)⟩, ?_⟩
      have := hj0 hin
      unfold backM
      rw [idxC_at nd (by omega), idxC_at nd hi, hd, if_neg (fun h => by omega), if_pos ⟨rfl, hin⟩]
      omega

set_option maxRecDepth 100000 in
theorem rgafter_any (w : World) (p : Option Addr) (l : List Tr) (h : RT w p l) (x : Int) : Calls Try.prog 51 #[.pointer p, .int .i64 x] w (IntSame w (aftI l x)) := by
  have K1 := Lib.hid (h.next x)
  have K2 := Lib.hid (h.opp (nxtI l.length x))
  have K3 := Lib.hid (h.next (oppI l l.length (nxtI l.length x)))
  clear h
  go_enter Try.func51, Try.ntmps51
  go_wp2_with fail
  refine K1.out.mono ?_
  rintro e w1 ⟨rfl, rfl⟩
  go_wp2_with fail
  refine K2.out.mono ?_
  rintro e w1 ⟨rfl, rfl⟩
  go_wp2_with fail
  refine K3.out.mono ?_
  rintro e w1 ⟨rfl, rfl⟩
  go_wp2
  go_ret
  exact ⟨rfl, rfl⟩
set_option maxRecDepth 100000 in
theorem rgbefore_any (w : World) (p : Option Addr) (l : List Tr) (h : RT w p l) (x : Int) : Calls Try.prog 46 #[.pointer p, .int .i64 x] w (IntSame w (befI l x)) := by
  have K1 := Lib.hid (h.prev x)
  have K2 := Lib.hid (h.opp (prvI l.length x))
  have K3 := Lib.hid (h.prev (oppI l l.length (prvI l.length x)))
  clear h
  go_enter Try.func46, Try.ntmps46
  go_wp2_with fail
  refine K1.out.mono ?_
  rintro e w1 ⟨rfl, rfl⟩
  go_wp2_with fail
  refine K2.out.mono ?_
  rintro e w1 ⟨rfl, rfl⟩
  go_wp2_with fail
  refine K3.out.mono ?_
  rintro e w1 ⟨rfl, rfl⟩
  go_wp2
  go_ret
  exact ⟨rfl, rfl⟩
set_option maxHeartbeats 2000000 in
set_option maxRecDepth 100000 in
theorem rgfirst_any (w : World) (p : Option Addr) (l : List Tr) (h : RT w p l) (v : Int) (L : List Nat) (hL : IsRing l v L) : Calls Try.prog 47 #[.pointer p, .int .i64 v] w (IntSame w (frsI L)) := by
  have KC := Lib.hid (h.corner v)
  have KB := Lib.hid (fun x => rgbefore_any w p l h x)
  have hs := h.surf
  clear h
  rcases hL with ⟨hno, rfl⟩ | ⟨c0, hf, hL⟩
  · have e0 : cornerAt l v = -1 := findC_none.2 fun c hc => decide_eq_false fun e => by have := cAt_mem.2 ⟨hc, e⟩; rw [hno] at this; cases this
    have KB1 := Lib.hid (by have := KB.out (-1); rwa [befI_none] at this)
    rw [e0] at KC
    clear hs hno e0 KB
    have d0 : decide ((-1 : Int) ≥ 0) = false := rfl
    go_enter Try.func47, Try.ntmps47
    go_wp2_with fail
    refine KC.out.mono ?_
    rintro e w1 ⟨rfl, rfl⟩
    go_wp2_with fail
    go_loop [6] (fun c => c = .int .i64 (-1)) (fun _ => 0)
    case atStart => rfl
    case round =>
      obtain rfl := hrel
      go_wp2_with fail
      refine KB1.out.mono ?_
      rintro e w1 ⟨rfl, rfl⟩
      go_wp2_with fail
      go_ret
      exact ⟨rfl, rfl⟩
  obtain ⟨N, hs⟩ : ∃ N, Surf N l := by
    rcases hs with rfl | hs
    · exact absurd (cAt_mem.1 hf.1).1 (by simp)
    · exact hs
  obtain ⟨j, hj, e0, hj0⟩ := least_in hf hL
  have h0 := hL.chain.ne
  have HG := Lib.hid (fun i hi hij => back_go hs hL hj hj0 (i := i) hi hij)
  have HF := Lib.hid (show frsI L = ((L.getD 0 0 : Nat) : Int) from if_neg (by omega))
  rw [e0] at KC
  have HS := Lib.hid (show FsI l L j (.int .i64 ((L.getD j 0 : Nat) : Int)) from ⟨j, hj, rfl, .inr (Nat.le_refl _)⟩)
  clear hf hL hs e0 h0 hj0 hj
  obtain ⟨y, hy⟩ : ∃ y, L.getD j 0 = y := ⟨_, rfl⟩
  rw [hy] at KC HS
  have HY := Lib.hid hy
  clear hy
  go_enter Try.func47, Try.ntmps47
  go_wp2_with fail
  refine KC.out.mono ?_
  rintro e w1 ⟨rfl, rfl⟩
  go_wp2_with fail
  go_loop [6] (FsI l L j) (fun c => backM l L (intOf c).toNat)
  case atStart => exact HS.out
  case round =>
    obtain ⟨i, hi, rfl, hij⟩ := hrel
    have hg := HG.out i hi hij
    obtain ⟨x, hx⟩ : ∃ x, L.getD i 0 = x := ⟨_, rfl⟩
    rw [hx] at hg
    simp only [hx]
    have HX := Lib.hid hx
    clear hx hi hij
    rcases hg with ⟨h1, h2⟩ | ⟨d, h2, h3⟩
    · have K1 := Lib.hid (by have := KB.out (x : Int); rwa [h2] at this)
      have H1 := Lib.hid h1
      have d0 : decide ((-1 : Int) ≥ 0) = false := rfl
      clear h1 h2
      go_wp2_with fail
      refine K1.out.mono ?_
      rintro e w1 ⟨rfl, rfl⟩
      go_wp2_with fail
      go_ret
      exact ⟨by rw [HF.out, ← H1.out]; rfl, rfl⟩
    · have K1 := Lib.hid (by have := KB.out (x : Int); rwa [h2] at this)
      have d0 : decide ((d : Int) ≥ 0) = true := by simp
      rcases h3 with ⟨h3, h4⟩ | ⟨h3, h4, h5⟩
      · have H4 := Lib.hid h4
        rw [HY.out] at h3
        subst h3
        clear h2 h4
        go_wp2_with fail
        refine K1.out.mono ?_
        rintro e w1 ⟨rfl, rfl⟩
        go_wp2_with fail
        refine K1.out.mono ?_
        rintro e w1 ⟨rfl, rfl⟩
        go_wp2_with fail
        go_ret
        exact ⟨by rw [HF.out, ← H4.out]; rfl, rfl⟩
      · have H4 := Lib.hid (And.intro h4 h5)
        have d1 : ((d : Int) == (y : Int)) = false := by
          rw [HY.out] at h3
          rw [beq_eq_false_iff_ne]
          omega
        clear h2 h3 h4 h5
        go_wp2_with fail
        refine K1.out.mono ?_
        rintro e w1 ⟨rfl, rfl⟩
        go_wp2_with fail
        refine K1.out.mono ?_
        rintro e w1 ⟨rfl, rfl⟩
        go_wp2_with fail
        exact ⟨H4.out.1, by simpa [intOf] using H4.out.2⟩
set_option maxRecDepth 100000 in
theorem rginner_of (w : World) (p : Option Addr) (l : List Tr) (h : RT w p l) (v : Int) (L : List Nat) (hL : IsRing l v L) : Calls Try.prog 25 #[.pointer p, .int .i64 v] w (BoolTold10 w (decide (InnerL l L))) := by
  have K1 := Lib.hid (rgfirst_any w p l h v L hL)
  have hin : decide (befI l (frsI L) ≥ 0) = decide (InnerL l L) := by
    refine decide_eq_decide.2 ?_
    rcases hL with ⟨hno, rfl⟩ | ⟨c0, hf, hL⟩
    · rw [show frsI [] = -1 from rfl, befI_none]
      exact ⟨fun h => by omega, fun h => absurd h.1 (by simp)⟩
    · obtain ⟨N, hs⟩ : ∃ N, Surf N l := by
        rcases h.surf with rfl | hs
        · exact absurd (cAt_mem.1 hf.1).1 (by simp)
        · exact hs
      rw [show frsI L = ((L.getD 0 0 : Nat) : Int) from if_neg (by have := hL.chain.ne; omega)]
      rcases back_step hs hL hL.chain.ne with ⟨_, hb, e⟩ | ⟨h0, _⟩ | ⟨_, hb, e⟩
      · rw [e]
        exact ⟨fun h => by omega, fun h => absurd hb (by have := h.2; rwa [hL.chain.hd] at this)⟩
      · omega
      · rw [e]
        exact ⟨fun _ => ⟨hL.chain.ne, by rw [hL.chain.hd]; exact hb⟩, fun _ => by omega⟩
  have K2 := Lib.hid (rgbefore_any w p l h (frsI L))
  obtain ⟨y, hy⟩ : ∃ y, frsI L = y := ⟨_, rfl⟩
  rw [hy] at K1 K2 hin
  obtain ⟨z, hz⟩ : ∃ z, befI l y = z := ⟨_, rfl⟩
  rw [hz] at K2 hin
  have HI := Lib.hid hin
  clear h hL hy hz hin
  go_enter Try.func25, Try.ntmps25
  go_wp2_with fail
  refine K1.out.mono ?_
  rintro e w1 ⟨rfl, rfl⟩
  go_wp2_with fail
  refine K2.out.mono ?_
  rintro e w1 ⟨rfl, rfl⟩
  go_wp2_with fail
  go_ret
  exact ⟨by rw [← HI.out]; rfl, Below.refl _ _⟩
end Go.Proofs.Ytmflacmgffpjoaa

/- Layer 11: the developers' Around: the function over which one ranges yields the corners around a vertex, in order, of any table, and of none. -/
namespace Go.Proofs.Ytmflacmgffpjoaa
open Go.RowKit Go.Shelf

attribute [local go_sem] Oper.semAt_some

/-- What follows the k-th corner of a ring. -/
theorem aft_step {N : Int} {l : List Tr} (_h : Surf N l) {v : Int} {c0 : Nat} {L : List Nat} (hL : IsAround l v c0 L) {k : Nat} (hk : k < L.length) :
    (k + 1 < L.length ∧ aftI l ((L.getD k 0 : Nat) : Int) = ((L.getD (k + 1) 0 : Nat) : Int)) ∨ (k + 1 = L.length ∧ oppC l (prv c0) = -1 ∧ aftI l ((L.getD k 0 : Nat) : Int) = -1) ∨
      (k + 1 = L.length ∧ oppC l (prv c0) ≠ -1 ∧ aftI l ((L.getD k 0 : Nat) : Int) = ((L.getD 0 0 : Nat) : Int)) := by
  have cm : L.getD k 0 < 3 * l.length := (cAt_mem.1 (hL.chain.sub _ (getDn_mem hk))).1
  rcases Nat.lt_or_ge (k + 1) L.length with hlt | hge
  · rcases aftI_at cm with ⟨h1, _⟩ | ⟨d, h1, h2⟩
    · rw [hL.chain.st k hlt] at h1; cases h1
    · rw [hL.chain.st k hlt] at h1
      obtain rfl := Option.some.inj h1
      exact .inl ⟨hlt, h2⟩
  · obtain rfl : k = L.length - 1 := by omega
    by_cases hb : oppC l (prv c0) = -1
    · rcases aftI_at cm with ⟨_, h2⟩ | ⟨d, h1, _⟩
      · exact .inr (.inl ⟨by omega, hb, h2⟩)
      · rw [hL.out hb] at h1; cases h1
    · rcases aftI_at cm with ⟨h1, _⟩ | ⟨d, h1, h2⟩
      · rw [hL.inn hb] at h1; cases h1
      · rw [hL.inn hb] at h1
        obtain rfl := Option.some.inj h1
        exact .inr (.inr ⟨by omega, hb, by rw [hL.chain.hd]; exact h2⟩)
def leftA (L : List Nat) (c : Int) : Nat := if c < 0 then 0 else L.length - idxC L c.toNat
/-- What lies while the corners are yielded: the table's place, the vertex, all that the table needs. -/
def LayA (M q1 q2 : Nat) (p : Option Addr) (v : Int) (w W : World) : Prop := W.cell? ⟨q1, 0, none⟩ = some (.pointer p) ∧ W.cell? ⟨q2, 0, none⟩ = some (.int .i64 v) ∧ Below M w W
theorem LayA.keep {X : Nat → Prop} {m M q1 q2 : Nat} {p : Option Addr} {v : Int} {w W W' : World} (h : LayA M q1 q2 p v w W) (k : KeepX X m W W') (hm : M ≤ m) (hs : M ≤ w.heap.size) (h1 : q1 < m) (h2 : q2 < m) (x1 : ¬ X q1) (x2 : ¬ X q2) (hX : ∀ b, X b → M ≤ b) : LayA M q1 q2 p v w W' :=
  ⟨k.cell h1 x1 h.1, k.cell h2 x2 h.2.1, h.2.2.trans (k.below hm (Nat.le_trans hs h.2.2.size) hX)⟩
def ArdR (M q1 q2 : Nat) (p : Option Addr) (v : Int) (w : World) (L : List Nat) (J : List Int → World → Prop) (c : Value) (wr : World) : Prop :=
  LayA M q1 q2 p v w wr ∧ ∃ k : Nat, J (natsI (L.take k)) wr ∧ ((k < L.length ∧ c = .int .i64 ((L.getD k 0 : Nat) : Int)) ∨ (k = L.length ∧ c = .int .i64 (-1)))
set_option maxHeartbeats 4000000 in
set_option maxRecDepth 100000 in
theorem around1_stops (w : World) (p : Option Addr) (l : List Tr) (h : RT w p l) (v : Int) (L : List Nat) (hL : IsRing l v L) (w2 : World) (q1 q2 : Nat) (hlay : LayA w.heap.size q1 q2 p v w w2)
    (X : Nat → Prop) (m n : Nat) (hn1 : 1 ≤ n) (hX : ∀ b, X b → w.heap.size ≤ b) (x1 : ¬ X q1) (x2 : ¬ X q2) (h1 : q1 < m) (h2 : q2 < m) (hm : w.heap.size ≤ m) :
    SeqStopsK Fence.wide n Try.prog 65 #[.pointer (some ⟨q1, 0, none⟩), .pointer (some ⟨q2, 0, none⟩)] (fun x : Int => #[.int .i64 x]) (KeepX X m) (fun ys => ys = natsI L) (fun pre => pre <+: natsI L) (natsI L).length w2 := by
  intro l0 J Jx W hW hJ hJx hY h0
  have hlW : LayA w.heap.size q1 q2 p v w W := ⟨(hW.cell (World.block_lt_of_cell? _ _ hlay.1)).trans hlay.1, (hW.cell (World.block_lt_of_cell? _ _ hlay.2.1)).trans hlay.2.1, up2 hlay.2.2 hW⟩
  have HLAY := Lib.hid (fun W W' (a : LayA w.heap.size q1 q2 p v w W) (k : KeepX X m W W') => a.keep k hm (Nat.le_refl _) h1 h2 x1 x2 hX)
  have KF := Lib.hid (rgfirst_any W p l (h.below hlW.2.2) v L hL)
  have KA := Lib.hid (fun W' (a : LayA w.heap.size q1 q2 p v w W') x => rgafter_any W' p l (h.below a.2.2) x)
  have HY := Lib.hid hY
  have HR := Lib.hid hL
  have HS := Lib.hid h.surf
  have c1 := hlW.1
  have c2 := hlW.2.1
  have HW := Lib.hid (And.intro hlW h0)
  clear h hL hlay hX x1 x2 h1 h2 hm hW hJ hJx hY hlW h0
  refine callsIn_of_wp Try.func65 rfl trivial ?_ rfl
  simp only [Try.ntmps65, List.size_toArray, List.length_cons, List.length_nil, Nat.reduceAdd, Nat.reduceSub, Array.replicate_succ, Array.replicate_zero, List.push_toArray, List.append_toArray, List.nil_append, List.cons_append]
  gi_wp2_with (refine ⟨trivial, ?_⟩; gi_at_call 47; refine (callsIn_wide.2 KF.out).mono ?_; rintro e w3 ⟨rfl, rfl⟩)
  have HST := Lib.hid (show ArdR w.heap.size q1 q2 p v w L J (.int .i64 (frsI L)) w3 from ⟨HW.out.1, 0, HW.out.2, by
    rcases Nat.eq_zero_or_pos L.length with h | h
    · exact .inr ⟨h.symm, by unfold frsI; rw [if_pos h]⟩
    · exact .inl ⟨h, by unfold frsI; rw [if_neg (by omega)]⟩⟩)
  obtain ⟨s, hs⟩ : ∃ s, frsI L = s := ⟨_, rfl⟩
  rw [hs] at HST
  simp only [hs]
  have HSS := Lib.hid hs
  clear hs c1 c2
  gi_loopw [5] (ArdR w.heap.size q1 q2 p v w L J) (fun c _ => leftA L (intOf c))
  case atStart => exact HST.out
  case round =>
    obtain ⟨hlay, k, hJ, ⟨hk, rfl⟩ | ⟨hk, rfl⟩⟩ := hrel
    · obtain ⟨x, hx⟩ : ∃ x, L.getD k 0 = x := ⟨_, rfl⟩
      obtain ⟨fn, tmps, assign, body, hy, hR⟩ := HY.out _ (x : Int) wr hJ (by rw [natsI_len, natsI_len, List.length_take]; omega)
      have H1 := Lib.hid (And.intro hlay (And.intro hk hx))
      have HRR := Lib.hid hR
      simp only [hx]

      have d0 : decide ((x : Int) ≥ 0) = true := by simp
      clear hlay hJ hk hx hR
      gi_wp2_with fail
      refine HRR.out.mono ?_
      rintro e W3 (⟨rfl, hJ3, hk3⟩ | ⟨rfl, hJx3⟩)
      · have hl3 := HLAY.out _ _ H1.out.1 hk3
        have c1 := hl3.1
        have K1 := Lib.hid (KA.out W3 hl3 (x : Int))
        have hJ4 : J (natsI (L.take (k + 1))) W3 := by rw [take_snocN H1.out.2.1, natsI_snoc, H1.out.2.2]; exact hJ3
        have HJ := Lib.hid (And.intro hl3 hJ4)
        have hst : (k + 1 < L.length ∧ aftI l (x : Int) = ((L.getD (k + 1) 0 : Nat) : Int) ∧ L.getD (k + 1) 0 ≠ L.getD 0 0) ∨ (k + 1 = L.length ∧ aftI l (x : Int) = -1) ∨ (k + 1 = L.length ∧ aftI l (x : Int) = ((L.getD 0 0 : Nat) : Int)) := by
          have hk := H1.out.2.1
          rcases HR.out with ⟨_, e⟩ | ⟨c0, hf, hL⟩
          · rw [e] at hk; exact absurd hk (by simp)
          obtain ⟨N, hs⟩ : ∃ N, Surf N l := by
            rcases HS.out with e | hs
            · rw [e] at hf; exact absurd (cAt_mem.1 hf.1).1 (by simp)
            · exact hs
          rw [← H1.out.2.2]
          rcases aft_step hs hL hk with ⟨a, b⟩ | ⟨a, _, b⟩ | ⟨a, _, b⟩
          · refine .inl ⟨a, b, fun e => ?_⟩
            have := nodup_at hL.chain.nd a hL.chain.ne e
            omega
          · exact .inr (.inl ⟨a, b⟩)
          · exact .inr (.inr ⟨a, b⟩)
        have hfr : s = ((L.getD 0 0 : Nat) : Int) := by rw [← HSS.out]; exact if_neg (by have := H1.out.2.1; omega)
        have hlx : leftA L (x : Int) = L.length - k := by
          unfold leftA
          rw [if_neg (by omega), Int.toNat_natCast, ← H1.out.2.2]
          rcases HR.out with ⟨_, e⟩ | ⟨c0, hf, hL⟩
          · have hk := H1.out.2.1; rw [e] at hk; exact absurd hk (by simp)
          · rw [idxC_at hL.chain.nd H1.out.2.1]
        clear hl3 hJ3 hk3 hJ4
        rcases hst with ⟨h1, h2, h3⟩ | ⟨h1, h2⟩ | ⟨h1, h2⟩
        · obtain ⟨y, hy2⟩ : ∃ y, L.getD (k + 1) 0 = y := ⟨_, rfl⟩
          have hly : leftA L (y : Int) = L.length - (k + 1) := by
            unfold leftA
            rw [if_neg (by omega), Int.toNat_natCast, ← hy2]
            rcases HR.out with ⟨_, e⟩ | ⟨c0, hf, hL⟩
            · have hk := H1.out.2.1; rw [e] at hk; exact absurd hk (by simp)
            · rw [idxC_at hL.chain.nd h1]
          have HREL := Lib.hid (show ArdR w.heap.size q1 q2 p v w L J (.int .i64 (y : Int)) W3 from ⟨HJ.out.1, k + 1, HJ.out.2, .inl ⟨h1, by rw [hy2]⟩⟩)
          have HM := Lib.hid (show leftA L (y : Int) < leftA L (x : Int) by rw [hlx, hly]; omega)
          rw [hy2] at h2 h3
          rw [h2] at K1
          have dz : ((y : Int) == s) = false := by rw [beq_eq_false_iff_ne, hfr]; omega
          clear h1 h2 h3 hy2 hlx hly hfr
          gi_wp2_with (refine ⟨trivial, ?_⟩; gi_at_call 51; refine (callsIn_wide.2 K1.out).mono ?_; rintro e w4 ⟨rfl, rfl⟩)
          go_roundw
          case rel => exact HREL.out
          case measure => exact HM.out
        · have HREL := Lib.hid (show ArdR w.heap.size q1 q2 p v w L J (.int .i64 (-1)) W3 from ⟨HJ.out.1, k + 1, HJ.out.2, .inr ⟨h1, rfl⟩⟩)
          have HM := Lib.hid (show leftA L (-1) < leftA L (x : Int) by rw [hlx]; unfold leftA; rw [if_pos (by omega)]; omega)
          rw [h2] at K1
          have dz : ((-1 : Int) == s) = false := by rw [beq_eq_false_iff_ne, hfr]; omega
          clear h1 h2 hlx hfr
          gi_wp2_with (refine ⟨trivial, ?_⟩; gi_at_call 51; refine (callsIn_wide.2 K1.out).mono ?_; rintro e w4 ⟨rfl, rfl⟩)
          go_roundw
          case rel => exact HREL.out
          case measure => exact HM.out
        · have HL := Lib.hid h1
          rw [← hfr] at h2
          rw [h2] at K1
          clear h1 h2 hlx hfr
          gi_wp2_with (refine ⟨trivial, ?_⟩; gi_at_call 51; refine (callsIn_wide.2 K1.out).mono ?_; rintro e w4 ⟨rfl, rfl⟩)
          refine bodyPost_ret (results_none rfl _ _ _) rfl ?_
          exact ⟨⟨_, rfl⟩, .inl ⟨_, rfl, by have := HJ.out.2; rwa [HL.out, List.take_length] at this⟩⟩
      · gi_wp2
        refine bodyPost_ret (results_none rfl _ _ _) rfl ?_
        refine ⟨⟨_, rfl⟩, .inr ⟨_, ?_, hJx3⟩⟩
        rw [← H1.out.2.2, ← natsI_snoc, ← take_snocN H1.out.2.1]
        conv => rhs; rw [← List.take_append_drop (k + 1) L]
        unfold natsI
        rw [List.map_append]
        exact List.prefix_append _ _
    · have d0 : decide ((-1 : Int) ≥ 0) = false := rfl
      have H1 := Lib.hid (And.intro hJ hk)
      clear hJ hk hlay
      gi_wp2_with fail
      go_end0
      exact ⟨⟨_, rfl⟩, .inl ⟨_, rfl, by have := H1.out.1; rwa [H1.out.2, List.take_length] at this⟩⟩
set_option maxRecDepth 100000 in
theorem rgaround_of (w : World) (p : Option Addr) (l : List Tr) (h : RT w p l) (v : Int) (L : List Nat) (hL : IsRing l v L) (W : World) (hb : Below w.heap.size w W) : Calls Try.prog 49 #[.pointer p, .int .i64 v] W (SeqTold w.heap.size W (natsI L)) := by
  obtain ⟨w1, hw1⟩ : ∃ w1, W.alloc (.cells #[.pointer p] 26) = w1 := ⟨_, rfl⟩
  obtain ⟨q1, hq1⟩ : ∃ q1, W.heap.size = q1 := ⟨_, rfl⟩
  obtain ⟨w2, hw2⟩ : ∃ w2, w1.alloc (.cells #[.int .i64 v] 3) = w2 := ⟨_, rfl⟩
  obtain ⟨q2, hq2⟩ : ∃ q2, w1.heap.size = q2 := ⟨_, rfl⟩
  have b1 : Below W.heap.size W w1 := by rw [← hw1]; exact (Below.refl _ W).alloc (Nat.le_refl _) _
  have b2 : Below w1.heap.size w1 w2 := by rw [← hw2]; exact (Below.refl _ w1).alloc (Nat.le_refl _) _
  have o1 : Boxed w1 q1 26 (.pointer p) := by rw [← hw1, ← hq1]; exact Boxed.new W _ _
  have o2 : Boxed w2 q2 3 (.int .i64 v) := by rw [← hw2, ← hq2]; exact Boxed.new w1 _ _
  have o1' : Boxed w2 q1 26 (.pointer p) := (b2.block q1 o1.lt).trans o1
  have HX := Lib.hid (show LayA w.heap.size q1 q2 p v w w2 from ⟨o1'.cell, o2.cell, up2 (up2 hb b1) b2⟩)
  have HB := Lib.hid (up2 b1 b2)
  have HQ := Lib.hid (show W.heap.size ≤ q1 ∧ W.heap.size ≤ q2 ∧ q1 < w2.heap.size ∧ q2 < w2.heap.size from ⟨by omega, by rw [← hq2]; exact b1.size, o1'.lt, o2.lt⟩)
  have HH := Lib.hid h
  have HL := Lib.hid hL
  have HS := Lib.hid hb.size
  clear b1 b2 o1 o2 o1' h hL hb
  go_enter Try.func49, Try.ntmps49
  go_wp2_with fail
  go_ret
  refine ⟨_, rfl, HB.out, fun X m n hX hm hn => ?_⟩
  obtain ⟨g1, g2, g3, g4⟩ := HQ.out
  exact around1_stops w p l HH.out v L HL.out w2 q1 q2 HX.out X m n hn (fun b hb => (hX b hb).1) (fun hx => by have := (hX _ hx).2; omega) (fun hx => by have := (hX _ hx).2; omega) (by omega) (by omega) (Nat.le_trans HS.out (Nat.le_trans HB.out.size hm))
theorem ring_le {l : List Tr} (hs : l = [] ∨ ∃ N, Surf N l) {v : Int} {L : List Nat} (hL : IsRing l v L) : L.length ≤ 8192 := by
  rcases hs with rfl | ⟨N, h⟩
  · rw [hL.len]; simp [cAt]
  · rw [hL.len]
    have := cAt_le h v
    have := h.t1
    omega
end Go.Proofs.Ytmflacmgffpjoaa

/- Layer 11: the developers' Link: of any table, and of none. -/
namespace Go.Proofs.Ytmflacmgffpjoaa
open Go.RowKit Go.Shelf

attribute [local go_sem] Oper.semAt_some

/-- What Link gathers of the corners that came. -/
def lkI (l : List Tr) (xs : List Int) : List Int := xs.flatMap fun x => vtxI l l.length (nxtI l.length x) :: if aftI l x < 0 then [vtxI l l.length (prvI l.length x)] else []
theorem lkI_snoc (l : List Tr) (xs : List Int) (x : Int) : lkI l (xs ++ [x]) = lkI l xs ++ (vtxI l l.length (nxtI l.length x) :: if aftI l x < 0 then [vtxI l l.length (prvI l.length x)] else []) := by
  unfold lkI; rw [List.flatMap_append]; simp
theorem lkI_len (l : List Tr) (xs : List Int) : (lkI l xs).length ≤ 2 * xs.length := by
  unfold lkI
  induction xs with
  | nil => simp
  | cons x r ih =>
    rw [List.flatMap_cons, List.length_append, List.length_cons, List.length_cons]
    split <;> simp only [List.length_nil, List.length_cons] <;> omega
theorem vtxI_nat {l : List Tr} {k : Nat} (h : k < 3 * l.length) : vtxI l l.length (k : Int) = vtx l k := by unfold vtxI; rw [if_pos (isC_nat h), Int.toNat_natCast]
theorem lkI_take {N : Int} {l : List Tr} (h : Surf N l) {v : Int} {c0 : Nat} {L : List Nat} (hL : IsAround l v c0 L) : ∀ k, (k < L.length ∨ (k = L.length ∧ oppC l (prv c0) ≠ -1)) → lkI l (natsI (L.take k)) = (L.take k).map fun c => vtx l (nxt c)
  | 0, _ => by simp [lkI, natsI]
  | k + 1, hk => by
    have hlt : k < L.length := by omega
    have cm : L.getD k 0 < 3 * l.length := (cAt_mem.1 (hL.chain.sub _ (getDn_mem hlt))).1
    rw [take_snocN hlt, natsI_snoc, lkI_snoc, lkI_take h hL k (.inl hlt), List.map_append, nxtI_nat cm, vtxI_nat (nxt_lt cm)]
    have ha : ¬ aftI l ((L.getD k 0 : Nat) : Int) < 0 := by
      rcases aft_step h hL hlt with ⟨_, e⟩ | ⟨h1, h2, _⟩ | ⟨_, _, e⟩
      · rw [e]; omega
      · rcases hk with hk | ⟨_, hk⟩
        · omega
        · exact absurd h2 hk
      · rw [e]; omega
    rw [if_neg ha]
    rfl
theorem lkI_ring {l : List Tr} (hs : l = [] ∨ ∃ N, Surf N l) {v : Int} {L : List Nat} (hL : IsRing l v L) : lkI l (natsI L) = linkL l L := by
  rcases hL with ⟨_, rfl⟩ | ⟨c0, hf, hL⟩
  · rfl
  obtain ⟨N, h⟩ : ∃ N, Surf N l := by
    rcases hs with rfl | hs
    · exact absurd (cAt_mem.1 hf.1).1 (by simp)
    · exact hs
  have h0 := hL.chain.ne
  have hin : InnerL l L ↔ oppC l (prv c0) ≠ -1 := by
    unfold InnerL
    rw [hL.chain.hd]
    exact ⟨fun h => h.2, fun h => ⟨h0, h⟩⟩
  unfold linkL
  by_cases hb : oppC l (prv c0) = -1
  · rw [if_pos ⟨h0, fun h => hin.1 h hb⟩]
    obtain ⟨k, hk⟩ : ∃ k, L.length = k + 1 := ⟨L.length - 1, by omega⟩
    have hlt : k < L.length := by omega
    have cm : L.getD k 0 < 3 * l.length := (cAt_mem.1 (hL.chain.sub _ (getDn_mem hlt))).1
    have e : L = L.take k ++ [L.getD k 0] := by rw [← take_snocN hlt, List.take_of_length_le (by omega)]
    have ha : aftI l ((L.getD k 0 : Nat) : Int) = -1 := by
      rcases aft_step h hL hlt with ⟨h1, _⟩ | ⟨_, _, e⟩ | ⟨_, h2, _⟩
      · omega
      · exact e
      · exact absurd hb h2
    rw [show L.length - 1 = k by omega]
    conv => lhs; rw [e, natsI_snoc, lkI_snoc, lkI_take h hL k (.inl hlt), ha, if_pos (by omega), nxtI_nat cm, vtxI_nat (nxt_lt cm), prvI_nat cm, vtxI_nat (prv_lt cm)]
    conv => rhs; lhs; rw [e, List.map_append]
    simp
  · rw [if_neg fun h => h.2 (hin.2 hb), List.append_nil]
    have := lkI_take h hL L.length (.inr ⟨rfl, hb⟩)
    rwa [List.take_length] at this
/-- What Link holds behind a corner: its row, the table's place; what it kept. -/
def LkM (m bt bo : Nat) (p : Option Addr) (W : World) (zs : List Int) (w' : World) : Prop :=
  (∃ A c, Boxed w' bo 40 (.slice A zs.length c) ∧ w'.ownsRow m 3 1 (.slice A zs.length c) zs.length (ints zs)) ∧ Boxed w' bt 26 (.pointer p) ∧ KeepX (fun b => b = bo) m W w' ∧ KeepsOthers W w'
theorem lkM_app {m bt bo n c9 : Nat} {cv : Nat} {p : Option Addr} {W w9 : World} {Av A9 : Option Addr} {ys : List Int} {y : Int} {tmp : Obj} (hv : Boxed W bo 40 (.slice Av n cv)) (hrow : W.ownsRow m 3 1 (.slice Av n cv) n (ints ys)) (hq : Boxed W bt 26 (.pointer p)) (hbt : bt < m) (hne : bt ≠ bo) (hys : ys.length = n)
    (gr : (W.alloc tmp).grownBy w9 (Value.slice Av n cv).ownBlock) (own : w9.ownsRow m 3 1 (.slice A9 (n + 1) c9) (n + 1) (ints (ys ++ [y]))) :
    (w9.cell? ⟨bo, 0, none⟩ = some (.slice Av n cv) ∧ w9.frozen? ⟨bo, 0, none⟩ = false ∧ w9.cell? ⟨bt, 0, none⟩ = some (.pointer p)) ∧ LkM m bt bo p W (ys ++ [y]) (w9.setCell ⟨bo, 0, none⟩ (.slice A9 (n + 1) c9)) := by
  have h9 : Boxed w9 bo 40 (.slice Av n cv) := (hv.alloc _).kept gr (hv.not_row (by decide) hrow)
  have q9 : Boxed w9 bt 26 (.pointer p) := (hq.alloc _).kept gr (fun e => by have := (hrow.lt bt e.symm).1; omega)
  have CO := collected (X := fun b => b = bo) (t := 40) rfl (by decide) hv hrow own gr
  have hl : (ys ++ [y]).length = n + 1 := by simp [hys]
  refine ⟨⟨h9.cell, h9.frozen, q9.cell⟩, ⟨A9, c9, ?_, ?_⟩, heap_far q9 hne _, CO.2.1, CO.1⟩
  · rw [hl]; exact CO.2.2.1
  · rw [hl]; exact CO.2.2.2
set_option maxHeartbeats 8000000 in
set_option maxRecDepth 100000 in
theorem rglink_of (w : World) (p : Option Addr) (l : List Tr) (h : RT w p l) (v : Int) (L : List Nat) (hL : IsRing l v L) : Calls Try.prog 32 #[.pointer p, .int .i64 v] w (RowTold w (linkL l L)) := by
  refine (callsIn_wide (n := 7)).1 ?_
  rw [← lkI_ring h.surf hL]
  have hlen := ring_le h.surf hL
  obtain ⟨i0, hi, hz0, hz1, hz2⟩ := info_parts Try.infoInt
  obtain ⟨w1, hw1⟩ : ∃ w1, w.alloc (.cells #[.pointer p] 26) = w1 := ⟨_, rfl⟩
  obtain ⟨bt, hbt⟩ : ∃ bt, w.heap.size = bt := ⟨_, rfl⟩
  obtain ⟨w2, hw2⟩ : ∃ w2, w1.alloc (.cells #[.slice none 0 0] 40) = w2 := ⟨_, rfl⟩
  obtain ⟨bo, hbo⟩ : ∃ bo, w1.heap.size = bo := ⟨_, rfl⟩
  have b1 : Below w.heap.size w w1 := by rw [← hw1]; exact (Below.refl _ w).alloc (Nat.le_refl _) _
  have b2 : Below w1.heap.size w1 w2 := by rw [← hw2]; exact (Below.refl _ w1).alloc (Nat.le_refl _) _
  have o1 : Boxed w1 bt 26 (.pointer p) := by rw [← hw1, ← hbt]; exact Boxed.new w _ _
  have o2 : Boxed w2 bo 40 (.slice none 0 0) := by rw [← hw2, ← hbo]; exact Boxed.new w1 _ _
  have q2 : Boxed w2 bt 26 (.pointer p) := (b2.block bt o1.lt).trans o1
  have c2 := q2.cell
  have K := Lib.hid (rgaround_of w p l h v L hL w2 (up2 b1 b2))
  have HR := Lib.hid (fun W (b : Below w.heap.size w W) => h.below b)
  have HB := Lib.hid (And.intro (up2 b1 b2) (And.intro q2 (And.intro o2 (show bt < bo by rw [← hbo]; exact o1.lt))))
  clear b1 b2 o1 o2 q2 h hL
  refine callsIn_of_wp_marks Try.func32 rfl trivial ?_ rfl
  simp only [Try.ntmps32, List.size_toArray, List.length_cons, List.length_nil, Nat.reduceAdd, Nat.reduceSub, Array.replicate_succ, Array.replicate_zero, List.push_toArray, List.append_toArray, List.nil_append, List.cons_append]
  gi_wp2_with (refine ⟨trivial, ?_⟩; gi_at_call 49; refine (callsIn_wide.2 K.out).mono ?_; rintro e w3 ⟨lb, rfl, b3, hseq⟩)
  have o3 : Boxed w3 bo 40 (.slice none 0 0) := (b3.block bo HB.out.2.2.1.lt).trans HB.out.2.2.1
  have q3 : Boxed w3 bt 26 (.pointer p) := (b3.block bt HB.out.2.1.lt).trans HB.out.2.1
  have hbo2 : bo < w2.heap.size := HB.out.2.2.1.lt
  have B3 := Lib.hid (up2 HB.out.1 b3)
  have hbw : w.heap.size ≤ bo := by have := HB.out.2.2.2; omega
  have hne : bt ≠ bo := Nat.ne_of_lt HB.out.2.2.2
  have h23 := b3.size
  clear c2 hw1 hw2
  refine wpIn_rangeFunc_ownG (F := Fence.wide) (n := 7) rfl (by decide) (gf := 65) (lb := lb) rfl trivial (enters_of Try.func65 (by kernel_rfl) rfl)
    (hseq (fun b => b = bo) w3.heap.size 6 (fun b hb => by subst hb; exact ⟨hbw, hbo2⟩) (Nat.le_refl _) (by decide)) (fun h k => h.trans k) (keepX_b (Nat.le_refl _)) (Below.refl _ _) (fun _ => rfl)
    (fun pre W => (∃ vo, Boxed W bo 40 vo ∧ W.ownsRow w3.heap.size 3 1 vo (lkI l pre).length (ints (lkI l pre)) ∧ True) ∧ (Boxed W bt 26 (.pointer p) ∧ KeepX (fun b => b = bo) w3.heap.size w3 W))
    (fun _ _ _ => False)
    (OwnFrom.and (Own.from (holdsRow_own w3.heap.size bo 40 3 1 (fun pre : List Int => (lkI l pre).length) (fun pre => ints (lkI l pre)) (fun _ _ => True)) _) (OwnFrom.and (Own.from (boxed_own bt 26 (fun _ => .pointer p)) _) (ownFrom_keepX (Nat.le_refl _))))
    (fun _ _ _ _ _ hs _ _ => hs)
    ⟨⟨_, o3, World.ownsRow_nil _ _ _ _, trivial⟩, q3, KeepX.refl _ _ _⟩
    (fun x => { tmps := #[.pointer p, .int .i64 v, .pointer (some ⟨bt, 0, none⟩), undef, .slice none 0 0, .pointer (some ⟨bo, 0, none⟩), .int .i64 x, .pointer p, .int .i64 v, .func (.func 65) #[] lb, .int .i64 x, undef, undef, undef, undef, undef, undef, undef, undef, undef, undef, undef, undef, undef, undef, undef, undef, undef, undef, undef, undef, undef], defers := [] }) ?assign ?body ?done ?stop
  case assign =>
    intro l x W K hK
    gi_wp2
    exact hK
  case body =>
    rintro l0 pre x W ⟨⟨vo, hv, hrow, _⟩, hq, hkx⟩ hN
    obtain ⟨ys, hys⟩ : ∃ ys, lkI l pre = ys := ⟨_, rfl⟩
    have hyl : ys.length ≤ 16384 := by
      have := lkI_len l pre
      rw [natsI_len] at hN
      rw [← hys]; omega
    have hsz : w3.heap.size ≤ W.heap.size := hkx.size
    have hbw3 : Below w.heap.size w W := B3.out.trans (hkx.below (n := w.heap.size) B3.out.size B3.out.size (fun b hb => by subst hb; exact hbw))
    have HPRE := Lib.hid (show lkI l (pre ++ [x]) = ys ++ (vtxI l l.length (nxtI l.length x) :: if aftI l x < 0 then [vtxI l l.length (prvI l.length x)] else []) by rw [lkI_snoc, hys])
    rw [hys] at hrow
    obtain ⟨Av, cv, rfl⟩ := ownK_form hrow
    obtain ⟨n, hn⟩ : ∃ n, ys.length = n := ⟨_, rfl⟩
    rw [hn] at hv hrow hyl
    obtain ⟨WD, hWD⟩ : ∃ WD, W.drew = WD := ⟨_, rfl⟩
    have HD := Lib.hid (show (Boxed WD bo 40 (.slice Av n cv) ∧ WD.ownsRow w3.heap.size 3 1 (.slice Av n cv) n (ints ys) ∧ Boxed WD bt 26 (.pointer p)) ∧ w3.heap.size ≤ WD.heap.size by rw [← hWD]; exact ⟨⟨hv, hrow, hq⟩, hsz⟩)
    have hd : WD.cell? ⟨bt, 0, none⟩ = some (.pointer p) := HD.out.1.2.2.cell
    have hcd : WD.cell? ⟨bo, 0, none⟩ = some (.slice Av n cv) := HD.out.1.1.cell
    have bD : Below W.heap.size W WD := by rw [← hWD]; exact Reading.below ⟨1, rfl⟩
    have hR := HR.out WD (up2 hbw3 bD)
    obtain ⟨c1, hc1⟩ : ∃ c1, nxtI l.length x = c1 := ⟨_, rfl⟩
    obtain ⟨y, hy⟩ : ∃ y, vtxI l l.length c1 = y := ⟨_, rfl⟩
    have K1 := Lib.hid (by have := hR.next x; rwa [hc1] at this)
    have K2 := Lib.hid (by have := hR.vertex c1; rwa [hy] at this)
    have HBT := Lib.hid q3.lt
    have HNE := Lib.hid hne
    have HYS := Lib.hid hn
    have HU := Lib.hid (fun o => (HD.out.1.2.2.alloc o).cell)
    have kD : KeepsOthers W WD := by rw [← hWD]; exact KeepsOthers.drew _
    have HH := Lib.hid (And.intro hkx (And.intro (up2 hbw3 bD) (And.intro (KeepX.of_below (X := fun b => b = bo) (m := w3.heap.size) bD) kD)))
    rw [hc1, hy] at HPRE
    have HL := Lib.hid hlen
    clear hv hrow hq hkx hN hys hbw3 hR hc1 hy bD kD hseq
    refine wpIn_block (wpIn_seq ?_)
    refine wpIn_mono (Q := NoPanic (Only fun a w' => (∃ u11 u12 u13 u14 u15 u16 u17 u18, a = { tmps := #[.pointer p, .int .i64 v, .pointer (some ⟨bt, 0, none⟩), undef, .slice none 0 0, .pointer (some ⟨bo, 0, none⟩), .int .i64 x, .pointer p, .int .i64 v, .func (.func 65) #[] lb, .int .i64 x, u11, u12, u13, u14, u15, u16, u17, u18, undef, undef, undef, undef, undef, undef, undef, undef, undef, undef, undef, undef, undef], defers := [] }) ∧ LkM w3.heap.size bt bo p WD (ys ++ [y]) w')) ?reg ?rest
    case reg =>
      refine wpIn_region_round (S := fun w' => w'.cell? ⟨bt, 0, none⟩ = some (.pointer p)) (by kernel_rfl) (by kernel_rfl) (by rw [hWD]; exact hd) (fun _ => ?_)
      rw [hWD]
      refine wpAnyH_take (i := 1) (v := ?v1x1) rfl (by kernel_rfl) (by kernel_rfl) (by kernel_rfl) (fun _ _ _ h => h) (Or.inl ⟨by rfl, ?y1x1⟩) hd ?_
      case y1x1 => (intro w hSw; (try dsimp only at hSw); go_simp; try with_reducible rfl)
      simp only [Act.put, List.setIfInBounds_toArray, List.set_cons_zero, List.set_cons_succ, List.getElem_toArray, List.getElem_cons_zero, List.getElem_cons_succ]
      refine wpAnyH_take (i := 2) (v := ?v2x2) rfl (by kernel_rfl) (by kernel_rfl) (by kernel_rfl) (fun _ _ _ h => h) (Or.inl ⟨by rfl, ?y2x2⟩) hd ?_
      case y2x2 => (intro w hSw; (try dsimp only at hSw); go_simp; try with_reducible rfl)
      simp only [Act.put, List.setIfInBounds_toArray, List.set_cons_zero, List.set_cons_succ, List.getElem_toArray, List.getElem_cons_zero, List.getElem_cons_succ]
      refine wpAnyH_take (i := 3) (v := ?v3x3) rfl (by kernel_rfl) (by kernel_rfl) (by kernel_rfl) (fun _ _ _ h => h) (Or.inl ⟨by rfl, ?y3x3⟩) hd ?_
      case y3x3 => (intro w hSw; (try dsimp only at hSw); go_simp; try with_reducible rfl)
      simp only [Act.put, List.setIfInBounds_toArray, List.set_cons_zero, List.set_cons_succ, List.getElem_toArray, List.getElem_cons_zero, List.getElem_cons_succ]
      refine wpAnyH_ready (rs := [0, 4]) (by kernel_rfl) (by simp) ?_
      refine AllReadyH.cons rfl (fun K hK => ?_) (AllReadyH.cons rfl (fun K hK => ?_) AllReadyH.nil)
      · go_simp
        refine hK.out _ _ hd (fun _ => ?_)
        clear hK K
        try simp only [Act.put, List.setIfInBounds_toArray, List.set_cons_zero, List.set_cons_succ, List.getElem_toArray, List.getElem_cons_zero, List.getElem_cons_succ]
        refine wpAnyH_ready (rs := [4]) (by kernel_rfl) (by simp) ?_
        refine AllReadyH.cons rfl (fun K hK => ?_) AllReadyH.nil
        rw [if_pos (by rfl)]
        go_wp2_with fail
        refine K1.out.mono ?_
        rintro e vv1 ⟨rfl, e9⟩
        obtain rfl := e9.symm
        go_wp2_with fail
        refine hK.out _ _ hd (fun _ => ?_)
        clear hK K
        try simp only [Act.put, List.setIfInBounds_toArray, List.set_cons_zero, List.set_cons_succ, List.getElem_toArray, List.getElem_cons_zero, List.getElem_cons_succ]
        refine wpAnyH_ready (rs := [5]) (by kernel_rfl) (by simp) ?_
        refine AllReadyH.cons rfl (fun K hK => ?_) AllReadyH.nil
        rw [if_pos (by rfl)]
        go_wp2_with fail
        refine K2.out.mono ?_
        rintro e vv1 ⟨rfl, e9⟩
        obtain rfl := e9.symm
        go_wp2_with fail
        refine hK.out _ _ hd (fun _ => ?_)
        clear hK K
        try simp only [Act.put, List.setIfInBounds_toArray, List.set_cons_zero, List.set_cons_succ, List.getElem_toArray, List.getElem_cons_zero, List.getElem_cons_succ]
        refine wpAnyH_ready (rs := [6]) (by kernel_rfl) (by simp) ?_
        refine AllReadyH.cons rfl (fun K hK => ?_) AllReadyH.nil
        go_simp
        refine hK.out _ _ (HU.out _) (fun _ => ?_)
        clear hK K
        try simp only [Act.put, List.setIfInBounds_toArray, List.set_cons_zero, List.set_cons_succ, List.getElem_toArray, List.getElem_cons_zero, List.getElem_cons_succ]
        obtain ⟨u1, hn⟩ : ∃ x, WD.alloc (.cells #[.int .i64 y] 3) = x := ⟨_, rfl⟩
        obtain ⟨q, hg⟩ : ∃ x, WD.heap.size = x := ⟨_, rfl⟩
        have qe : u1.heap[q]? = some (.cells #[.int .i64 y] 3 (0, 0)) := by rw [← hn, ← hg]; exact heap_alloc_new _ _
        have o1 : u1.ownsRow w3.heap.size 3 1 (.slice Av n cv) n (ints ys) := by rw [← hn]; exact HD.out.1.2.1.alloc _
        have hcu : u1.cell? ⟨bo, 0, none⟩ = some (.slice Av n cv) := by rw [← hn]; exact (HD.out.1.1.alloc _).cell
        have hu : u1.cell? ⟨bt, 0, none⟩ = some (.pointer p) := by rw [← hn]; exact (HD.out.1.2.2.alloc _).cell
        have hsz : w3.heap.size ≤ u1.heap.size := by rw [← hn]; exact Nat.le_trans HD.out.2 ((Below.refl _ WD).alloc (Nat.le_refl _) _).size
        simp only [hn, hg]
        have HN := Lib.hid hn
        clear hn hg
        refine wpAnyH_ready (rs := [7]) (by kernel_rfl) (by simp) ?_
        refine AllReadyH.cons rfl (fun K hK => ?_) AllReadyH.nil
        refine step_snocG y o1 hsz (by omega) qe rfl (.tmp 11) (.tmp 17) rfl (by go_simp) (by go_simp) ?_
        intro A9 c9 w9 gr9 own9
        rw [← HN.out] at gr9
        have M9 := Lib.hid (lkM_app HD.out.1.1 HD.out.1.2.1 HD.out.1.2.2 HBT.out HNE.out HYS.out gr9 own9)
        have hc9 := M9.out.1.1
        have hf9 := M9.out.1.2.1
        have hq9 := M9.out.1.2.2
        have hqf := M9.out.2.2.1.cell
        refine hK.out _ _ hq9 (fun _ => ?_)
        clear hK K
        try simp only [Act.put, List.setIfInBounds_toArray, List.set_cons_zero, List.set_cons_succ, List.getElem_toArray, List.getElem_cons_zero, List.getElem_cons_succ]
        clear gr9 own9 qe o1 hsz hcu hu
        refine wpAnyH_ready (rs := [8]) (by kernel_rfl) (by simp) ?_
        refine AllReadyH.cons rfl (fun K hK => ?_) AllReadyH.nil
        go_simp
        refine hK.out _ _ hqf (fun _ => ?_)
        clear hK K
        try simp only [Act.put, List.setIfInBounds_toArray, List.set_cons_zero, List.set_cons_succ, List.getElem_toArray, List.getElem_cons_zero, List.getElem_cons_succ]
        refine wpAnyH_done (by kernel_rfl) ?_ _
        refine NoPanic.normal ?_
        exact ⟨rfl, ⟨_, _, _, _, _, _, _, _, rfl⟩, M9.out.2⟩
      · rw [if_pos (by rfl)]
        go_wp2_with fail
        refine K1.out.mono ?_
        rintro e vv1 ⟨rfl, e9⟩
        obtain rfl := e9.symm
        go_wp2_with fail
        refine hK.out _ _ hd (fun _ => ?_)
        clear hK K
        try simp only [Act.put, List.setIfInBounds_toArray, List.set_cons_zero, List.set_cons_succ, List.getElem_toArray, List.getElem_cons_zero, List.getElem_cons_succ]
        refine wpAnyH_ready (rs := [0, 5]) (by kernel_rfl) (by simp) ?_
        refine AllReadyH.cons rfl (fun K hK => ?_) (AllReadyH.cons rfl (fun K hK => ?_) AllReadyH.nil)
        · go_simp
          refine hK.out _ _ hd (fun _ => ?_)
          clear hK K
          try simp only [Act.put, List.setIfInBounds_toArray, List.set_cons_zero, List.set_cons_succ, List.getElem_toArray, List.getElem_cons_zero, List.getElem_cons_succ]
          refine wpAnyH_ready (rs := [5]) (by kernel_rfl) (by simp) ?_
          refine AllReadyH.cons rfl (fun K hK => ?_) AllReadyH.nil
          rw [if_pos (by rfl)]
          go_wp2_with fail
          refine K2.out.mono ?_
          rintro e vv1 ⟨rfl, e9⟩
          obtain rfl := e9.symm
          go_wp2_with fail
          refine hK.out _ _ hd (fun _ => ?_)
          clear hK K
          try simp only [Act.put, List.setIfInBounds_toArray, List.set_cons_zero, List.set_cons_succ, List.getElem_toArray, List.getElem_cons_zero, List.getElem_cons_succ]
          refine wpAnyH_ready (rs := [6]) (by kernel_rfl) (by simp) ?_
          refine AllReadyH.cons rfl (fun K hK => ?_) AllReadyH.nil
          go_simp
          refine hK.out _ _ (HU.out _) (fun _ => ?_)
          clear hK K
          try simp only [Act.put, List.setIfInBounds_toArray, List.set_cons_zero, List.set_cons_succ, List.getElem_toArray, List.getElem_cons_zero, List.getElem_cons_succ]
          obtain ⟨u1, hn⟩ : ∃ x, WD.alloc (.cells #[.int .i64 y] 3) = x := ⟨_, rfl⟩
          obtain ⟨q, hg⟩ : ∃ x, WD.heap.size = x := ⟨_, rfl⟩
          have qe : u1.heap[q]? = some (.cells #[.int .i64 y] 3 (0, 0)) := by rw [← hn, ← hg]; exact heap_alloc_new _ _
          have o1 : u1.ownsRow w3.heap.size 3 1 (.slice Av n cv) n (ints ys) := by rw [← hn]; exact HD.out.1.2.1.alloc _
          have hcu : u1.cell? ⟨bo, 0, none⟩ = some (.slice Av n cv) := by rw [← hn]; exact (HD.out.1.1.alloc _).cell
          have hu : u1.cell? ⟨bt, 0, none⟩ = some (.pointer p) := by rw [← hn]; exact (HD.out.1.2.2.alloc _).cell
          have hsz : w3.heap.size ≤ u1.heap.size := by rw [← hn]; exact Nat.le_trans HD.out.2 ((Below.refl _ WD).alloc (Nat.le_refl _) _).size
          simp only [hn, hg]
          have HN := Lib.hid hn
          clear hn hg
          refine wpAnyH_ready (rs := [7]) (by kernel_rfl) (by simp) ?_
          refine AllReadyH.cons rfl (fun K hK => ?_) AllReadyH.nil
          refine step_snocG y o1 hsz (by omega) qe rfl (.tmp 11) (.tmp 17) rfl (by go_simp) (by go_simp) ?_
          intro A9 c9 w9 gr9 own9
          rw [← HN.out] at gr9
          have M9 := Lib.hid (lkM_app HD.out.1.1 HD.out.1.2.1 HD.out.1.2.2 HBT.out HNE.out HYS.out gr9 own9)
          have hc9 := M9.out.1.1
          have hf9 := M9.out.1.2.1
          have hq9 := M9.out.1.2.2
          have hqf := M9.out.2.2.1.cell
          refine hK.out _ _ hq9 (fun _ => ?_)
          clear hK K
          try simp only [Act.put, List.setIfInBounds_toArray, List.set_cons_zero, List.set_cons_succ, List.getElem_toArray, List.getElem_cons_zero, List.getElem_cons_succ]
          clear gr9 own9 qe o1 hsz hcu hu
          refine wpAnyH_ready (rs := [8]) (by kernel_rfl) (by simp) ?_
          refine AllReadyH.cons rfl (fun K hK => ?_) AllReadyH.nil
          go_simp
          refine hK.out _ _ hqf (fun _ => ?_)
          clear hK K
          try simp only [Act.put, List.setIfInBounds_toArray, List.set_cons_zero, List.set_cons_succ, List.getElem_toArray, List.getElem_cons_zero, List.getElem_cons_succ]
          refine wpAnyH_done (by kernel_rfl) ?_ _
          refine NoPanic.normal ?_
          exact ⟨rfl, ⟨_, _, _, _, _, _, _, _, rfl⟩, M9.out.2⟩
        · rw [if_pos (by rfl)]
          go_wp2_with fail
          refine K2.out.mono ?_
          rintro e vv1 ⟨rfl, e9⟩
          obtain rfl := e9.symm
          go_wp2_with fail
          refine hK.out _ _ hd (fun _ => ?_)
          clear hK K
          try simp only [Act.put, List.setIfInBounds_toArray, List.set_cons_zero, List.set_cons_succ, List.getElem_toArray, List.getElem_cons_zero, List.getElem_cons_succ]
          refine wpAnyH_ready (rs := [0, 6]) (by kernel_rfl) (by simp) ?_
          refine AllReadyH.cons rfl (fun K hK => ?_) (AllReadyH.cons rfl (fun K hK => ?_) AllReadyH.nil)
          · go_simp
            refine hK.out _ _ hd (fun _ => ?_)
            clear hK K
            try simp only [Act.put, List.setIfInBounds_toArray, List.set_cons_zero, List.set_cons_succ, List.getElem_toArray, List.getElem_cons_zero, List.getElem_cons_succ]
            refine wpAnyH_ready (rs := [6]) (by kernel_rfl) (by simp) ?_
            refine AllReadyH.cons rfl (fun K hK => ?_) AllReadyH.nil
            go_simp
            refine hK.out _ _ (HU.out _) (fun _ => ?_)
            clear hK K
            try simp only [Act.put, List.setIfInBounds_toArray, List.set_cons_zero, List.set_cons_succ, List.getElem_toArray, List.getElem_cons_zero, List.getElem_cons_succ]
            obtain ⟨u1, hn⟩ : ∃ x, WD.alloc (.cells #[.int .i64 y] 3) = x := ⟨_, rfl⟩
            obtain ⟨q, hg⟩ : ∃ x, WD.heap.size = x := ⟨_, rfl⟩
            have qe : u1.heap[q]? = some (.cells #[.int .i64 y] 3 (0, 0)) := by rw [← hn, ← hg]; exact heap_alloc_new _ _
            have o1 : u1.ownsRow w3.heap.size 3 1 (.slice Av n cv) n (ints ys) := by rw [← hn]; exact HD.out.1.2.1.alloc _
            have hcu : u1.cell? ⟨bo, 0, none⟩ = some (.slice Av n cv) := by rw [← hn]; exact (HD.out.1.1.alloc _).cell
            have hu : u1.cell? ⟨bt, 0, none⟩ = some (.pointer p) := by rw [← hn]; exact (HD.out.1.2.2.alloc _).cell
            have hsz : w3.heap.size ≤ u1.heap.size := by rw [← hn]; exact Nat.le_trans HD.out.2 ((Below.refl _ WD).alloc (Nat.le_refl _) _).size
            simp only [hn, hg]
            have HN := Lib.hid hn
            clear hn hg
            refine wpAnyH_ready (rs := [7]) (by kernel_rfl) (by simp) ?_
            refine AllReadyH.cons rfl (fun K hK => ?_) AllReadyH.nil
            refine step_snocG y o1 hsz (by omega) qe rfl (.tmp 11) (.tmp 17) rfl (by go_simp) (by go_simp) ?_
            intro A9 c9 w9 gr9 own9
            rw [← HN.out] at gr9
            have M9 := Lib.hid (lkM_app HD.out.1.1 HD.out.1.2.1 HD.out.1.2.2 HBT.out HNE.out HYS.out gr9 own9)
            have hc9 := M9.out.1.1
            have hf9 := M9.out.1.2.1
            have hq9 := M9.out.1.2.2
            have hqf := M9.out.2.2.1.cell
            refine hK.out _ _ hq9 (fun _ => ?_)
            clear hK K
            try simp only [Act.put, List.setIfInBounds_toArray, List.set_cons_zero, List.set_cons_succ, List.getElem_toArray, List.getElem_cons_zero, List.getElem_cons_succ]
            clear gr9 own9 qe o1 hsz hcu hu
            refine wpAnyH_ready (rs := [8]) (by kernel_rfl) (by simp) ?_
            refine AllReadyH.cons rfl (fun K hK => ?_) AllReadyH.nil
            go_simp
            refine hK.out _ _ hqf (fun _ => ?_)
            clear hK K
            try simp only [Act.put, List.setIfInBounds_toArray, List.set_cons_zero, List.set_cons_succ, List.getElem_toArray, List.getElem_cons_zero, List.getElem_cons_succ]
            refine wpAnyH_done (by kernel_rfl) ?_ _
            refine NoPanic.normal ?_
            exact ⟨rfl, ⟨_, _, _, _, _, _, _, _, rfl⟩, M9.out.2⟩
          · go_simp
            refine hK.out _ _ (HU.out _) (fun _ => ?_)
            clear hK K
            try simp only [Act.put, List.setIfInBounds_toArray, List.set_cons_zero, List.set_cons_succ, List.getElem_toArray, List.getElem_cons_zero, List.getElem_cons_succ]
            obtain ⟨u1, hn⟩ : ∃ x, WD.alloc (.cells #[.int .i64 y] 3) = x := ⟨_, rfl⟩
            obtain ⟨q, hg⟩ : ∃ x, WD.heap.size = x := ⟨_, rfl⟩
            have qe : u1.heap[q]? = some (.cells #[.int .i64 y] 3 (0, 0)) := by rw [← hn, ← hg]; exact heap_alloc_new _ _
            have o1 : u1.ownsRow w3.heap.size 3 1 (.slice Av n cv) n (ints ys) := by rw [← hn]; exact HD.out.1.2.1.alloc _
            have hcu : u1.cell? ⟨bo, 0, none⟩ = some (.slice Av n cv) := by rw [← hn]; exact (HD.out.1.1.alloc _).cell
            have hu : u1.cell? ⟨bt, 0, none⟩ = some (.pointer p) := by rw [← hn]; exact (HD.out.1.2.2.alloc _).cell
            have hsz : w3.heap.size ≤ u1.heap.size := by rw [← hn]; exact Nat.le_trans HD.out.2 ((Below.refl _ WD).alloc (Nat.le_refl _) _).size
            simp only [hn, hg]
            have HN := Lib.hid hn
            clear hn hg
            refine wpAnyH_ready (rs := [0]) (by kernel_rfl) (by simp) ?_
            refine AllReadyH.cons rfl (fun K hK => ?_) AllReadyH.nil
            go_simp
            refine hK.out _ _ hu (fun _ => ?_)
            clear hK K
            try simp only [Act.put, List.setIfInBounds_toArray, List.set_cons_zero, List.set_cons_succ, List.getElem_toArray, List.getElem_cons_zero, List.getElem_cons_succ]
            refine wpAnyH_ready (rs := [7]) (by kernel_rfl) (by simp) ?_
            refine AllReadyH.cons rfl (fun K hK => ?_) AllReadyH.nil
            refine step_snocG y o1 hsz (by omega) qe rfl (.tmp 11) (.tmp 17) rfl (by go_simp) (by go_simp) ?_
            intro A9 c9 w9 gr9 own9
            rw [← HN.out] at gr9
            have M9 := Lib.hid (lkM_app HD.out.1.1 HD.out.1.2.1 HD.out.1.2.2 HBT.out HNE.out HYS.out gr9 own9)
            have hc9 := M9.out.1.1
            have hf9 := M9.out.1.2.1
            have hq9 := M9.out.1.2.2
            have hqf := M9.out.2.2.1.cell
            refine hK.out _ _ hq9 (fun _ => ?_)
            clear hK K
            try simp only [Act.put, List.setIfInBounds_toArray, List.set_cons_zero, List.set_cons_succ, List.getElem_toArray, List.getElem_cons_zero, List.getElem_cons_succ]
            clear gr9 own9 qe o1 hsz hcu hu
            refine wpAnyH_ready (rs := [8]) (by kernel_rfl) (by simp) ?_
            refine AllReadyH.cons rfl (fun K hK => ?_) AllReadyH.nil
            go_simp
            refine hK.out _ _ hqf (fun _ => ?_)
            clear hK K
            try simp only [Act.put, List.setIfInBounds_toArray, List.set_cons_zero, List.set_cons_succ, List.getElem_toArray, List.getElem_cons_zero, List.getElem_cons_succ]
            refine wpAnyH_done (by kernel_rfl) ?_ _
            refine NoPanic.normal ?_
            exact ⟨rfl, ⟨_, _, _, _, _, _, _, _, rfl⟩, M9.out.2⟩
    case rest =>
      rintro e a1 w5 hout
      obtain ⟨rfl, ⟨u11, u12, u13, u14, u15, u16, u17, u18, rfl⟩, ⟨A5, c5, v5, r5⟩, q5, kx5, ko5⟩ := only_out hout
      have hn5 : (ys ++ [y]).length = n + 1 := by simp [HYS.out]
      rw [hn5] at v5 r5
      have hs5 : WD.heap.size ≤ w5.heap.size := kx5.size
      have hb5 : Below w.heap.size w w5 := HH.out.2.1.trans (kx5.below (n := w.heap.size) B3.out.size (Nat.le_trans B3.out.size HD.out.2) (fun b hb => by subst hb; exact hbw))
      have HW5 := Lib.hid (And.intro (And.intro v5 (And.intro r5 q5)) (And.intro (HH.out.2.2.1.trans kx5) (HH.out.2.2.2.trans ko5)))
      have K5 := Lib.hid (rgafter_any w5 p l (HR.out w5 hb5) x)
      have hq5 := q5.cell
      obtain ⟨z, hz⟩ : ∃ z, aftI l x = z := ⟨_, rfl⟩
      rw [hz] at K5 HPRE
      obtain ⟨bb, hbb⟩ : ∃ bb, decide (z < 0) = bb := ⟨_, rfl⟩
      have HBB := Lib.hid hbb
      have HB5 := Lib.hid hb5
      clear hz v5 r5 q5 kx5 ko5 hb5 hn5
      refine wpIn_seq ?_
      refine wpIn_mono (Q := NoPanic (Only fun a w' => w' = w5 ∧ ∃ u19 u20 u21, a = { tmps := #[.pointer p, .int .i64 v, .pointer (some ⟨bt, 0, none⟩), undef, .slice none 0 0, .pointer (some ⟨bo, 0, none⟩), .int .i64 x, .pointer p, .int .i64 v, .func (.func 65) #[] lb, .int .i64 x, u11, u12, u13, u14, u15, u16, u17, u18, u19, u20, u21, .bool bb, undef, undef, undef, undef, undef, undef, undef, undef, undef], defers := [] })) ?reg ?rest
      case reg =>
        gi_wp2_with (refine ⟨trivial, ?_⟩; gi_at_call 51; refine (CallsIn.inRound l0 (callsIn_wide.2 K5.out)).mono ?_; rintro e w6 ⟨rfl, e9⟩; obtain rfl := e9.symm)
        exact ⟨rfl, rfl, _, _, _, by rw [← hbb]⟩
      case rest =>
        rintro e a1 w6 hout
        obtain ⟨rfl, rfl, u19, u20, u21, rfl⟩ := only_out hout
        clear hbb hout
        cases bb with
        | false =>
          have hz0 : ¬ z < 0 := of_decide_eq_false HBB.out
          refine wpIn_cond (t := false) rfl ?_
          refine wpIn_skip ?_
          refine ⟨HW5.out.2.2.from _, HW5.out.2.1, ⟨⟨_, HW5.out.1.1, ?_, trivial⟩, HW5.out.1.2.2, HH.out.1.trans HW5.out.2.1⟩⟩
          rw [HPRE.out, if_neg hz0, show (ys ++ [y]).length = n + 1 by simp [HYS.out]]
          exact HW5.out.1.2.1
        | true =>
          have hz0 : z < 0 := of_decide_eq_true HBB.out
          refine wpIn_cond (t := true) rfl ?_
          rw [if_pos hz0] at HPRE
          obtain ⟨ys2, hys2⟩ : ∃ ys2, ys ++ [y] = ys2 := ⟨_, rfl⟩
          have hyl2 : ys2.length = n + 1 := by rw [← hys2]; simp [HYS.out]
          rw [hys2] at HW5
          obtain ⟨n2, hn2⟩ : ∃ n2, n + 1 = n2 := ⟨_, rfl⟩
          rw [hn2] at HW5 hyl2
          have hn2l : n2 ≤ 16385 := by omega
          obtain ⟨WE, hWE⟩ : ∃ WE, w6.drew = WE := ⟨_, rfl⟩
          have bE : Below w6.heap.size w6 WE := by rw [← hWE]; exact Reading.below ⟨1, rfl⟩
          have HE := Lib.hid (show (Boxed WE bo 40 (.slice A5 n2 c5) ∧ WE.ownsRow w3.heap.size 3 1 (.slice A5 n2 c5) n2 (ints ys2) ∧ Boxed WE bt 26 (.pointer p)) ∧ w3.heap.size ≤ WE.heap.size by
            rw [← hWE]; exact ⟨⟨HW5.out.1.1, HW5.out.1.2.1, HW5.out.1.2.2⟩, Nat.le_trans HD.out.2 hs5⟩)
          have he : WE.cell? ⟨bt, 0, none⟩ = some (.pointer p) := HE.out.1.2.2.cell
          have hce : WE.cell? ⟨bo, 0, none⟩ = some (.slice A5 n2 c5) := HE.out.1.1.cell
          have hR := HR.out WE (up2 HB5.out bE)
          obtain ⟨c2, hc2⟩ : ∃ c2, prvI l.length x = c2 := ⟨_, rfl⟩
          obtain ⟨y2, hy2⟩ : ∃ y2, vtxI l l.length c2 = y2 := ⟨_, rfl⟩
          have K3 := Lib.hid (by have := hR.prev x; rwa [hc2] at this)
          have K4 := Lib.hid (by have := hR.vertex c2; rwa [hy2] at this)
          have HYT := Lib.hid hyl2
          have HV := Lib.hid (fun o => (HE.out.1.2.2.alloc o).cell)
          have kE : KeepsOthers w6 WE := by rw [← hWE]; exact KeepsOthers.drew _
          have HK := Lib.hid (And.intro (HW5.out.2.1.trans (KeepX.of_below (X := fun b => b = bo) (m := w3.heap.size) bE)) (HW5.out.2.2.trans kE))
          have HP2 := Lib.hid (show lkI l (pre ++ [x]) = ys2 ++ [y2] by rw [HPRE.out, hc2, hy2, ← hys2, List.append_assoc]; rfl)
          clear hz0 hd hcd hq5 hs5 hys2 hyl2 hn2 hR hc2 hy2 bE kE K1 K2 K5
          refine wpIn_mono (Q := NoPanic (Only fun a w' => (∃ u23 u24 u25 u26 u27 u28 u29 u30, a = { tmps := #[.pointer p, .int .i64 v, .pointer (some ⟨bt, 0, none⟩), undef, .slice none 0 0, .pointer (some ⟨bo, 0, none⟩), .int .i64 x, .pointer p, .int .i64 v, .func (.func 65) #[] lb, .int .i64 x, u11, u12, u13, u14, u15, u16, u17, u18, u19, u20, u21, .bool true, u23, u24, u25, u26, u27, u28, u29, u30, undef], defers := [] }) ∧ LkM w3.heap.size bt bo p WE (ys2 ++ [y2]) w')) ?reg ?rest
          case reg =>
            refine wpIn_region_round (S := fun w' => w'.cell? ⟨bt, 0, none⟩ = some (.pointer p)) (by kernel_rfl) (by kernel_rfl) (by rw [hWE]; exact he) (fun _ => ?_)
            rw [hWE]
            refine wpAnyH_take (i := 1) (v := ?v1x4) rfl (by kernel_rfl) (by kernel_rfl) (by kernel_rfl) (fun _ _ _ h => h) (Or.inl ⟨by rfl, ?y1x4⟩) he ?_
            case y1x4 => (intro w hSw; (try dsimp only at hSw); go_simp; try with_reducible rfl)
            simp only [Act.put, List.setIfInBounds_toArray, List.set_cons_zero, List.set_cons_succ, List.getElem_toArray, List.getElem_cons_zero, List.getElem_cons_succ]
            refine wpAnyH_take (i := 2) (v := ?v2x5) rfl (by kernel_rfl) (by kernel_rfl) (by kernel_rfl) (fun _ _ _ h => h) (Or.inl ⟨by rfl, ?y2x5⟩) he ?_
            case y2x5 => (intro w hSw; (try dsimp only at hSw); go_simp; try with_reducible rfl)
            simp only [Act.put, List.setIfInBounds_toArray, List.set_cons_zero, List.set_cons_succ, List.getElem_toArray, List.getElem_cons_zero, List.getElem_cons_succ]
            refine wpAnyH_take (i := 3) (v := ?v3x6) rfl (by kernel_rfl) (by kernel_rfl) (by kernel_rfl) (fun _ _ _ h => h) (Or.inl ⟨by rfl, ?y3x6⟩) he ?_
            case y3x6 => (intro w hSw; (try dsimp only at hSw); go_simp; try with_reducible rfl)
            simp only [Act.put, List.setIfInBounds_toArray, List.set_cons_zero, List.set_cons_succ, List.getElem_toArray, List.getElem_cons_zero, List.getElem_cons_succ]
            refine wpAnyH_ready (rs := [0, 4]) (by kernel_rfl) (by simp) ?_
            refine AllReadyH.cons rfl (fun K hK => ?_) (AllReadyH.cons rfl (fun K hK => ?_) AllReadyH.nil)
            · go_simp
              refine hK.out _ _ he (fun _ => ?_)
              clear hK K
              try simp only [Act.put, List.setIfInBounds_toArray, List.set_cons_zero, List.set_cons_succ, List.getElem_toArray, List.getElem_cons_zero, List.getElem_cons_succ]
              refine wpAnyH_ready (rs := [4]) (by kernel_rfl) (by simp) ?_
              refine AllReadyH.cons rfl (fun K hK => ?_) AllReadyH.nil
              rw [if_pos (by rfl)]
              go_wp2_with fail
              refine K3.out.mono ?_
              rintro e vv1 ⟨rfl, e9⟩
              obtain rfl := e9.symm
              go_wp2_with fail
              refine hK.out _ _ he (fun _ => ?_)
              clear hK K
              try simp only [Act.put, List.setIfInBounds_toArray, List.set_cons_zero, List.set_cons_succ, List.getElem_toArray, List.getElem_cons_zero, List.getElem_cons_succ]
              refine wpAnyH_ready (rs := [5]) (by kernel_rfl) (by simp) ?_
              refine AllReadyH.cons rfl (fun K hK => ?_) AllReadyH.nil
              rw [if_pos (by rfl)]
              go_wp2_with fail
              refine K4.out.mono ?_
              rintro e vv1 ⟨rfl, e9⟩
              obtain rfl := e9.symm
              go_wp2_with fail
              refine hK.out _ _ he (fun _ => ?_)
              clear hK K
              try simp only [Act.put, List.setIfInBounds_toArray, List.set_cons_zero, List.set_cons_succ, List.getElem_toArray, List.getElem_cons_zero, List.getElem_cons_succ]
              refine wpAnyH_ready (rs := [6]) (by kernel_rfl) (by simp) ?_
              refine AllReadyH.cons rfl (fun K hK => ?_) AllReadyH.nil
              go_simp
              refine hK.out _ _ (HV.out _) (fun _ => ?_)
              clear hK K
              try simp only [Act.put, List.setIfInBounds_toArray, List.set_cons_zero, List.set_cons_succ, List.getElem_toArray, List.getElem_cons_zero, List.getElem_cons_succ]
              obtain ⟨u1, hn⟩ : ∃ x, WE.alloc (.cells #[.int .i64 y2] 3) = x := ⟨_, rfl⟩
              obtain ⟨q, hg⟩ : ∃ x, WE.heap.size = x := ⟨_, rfl⟩
              have qe : u1.heap[q]? = some (.cells #[.int .i64 y2] 3 (0, 0)) := by rw [← hn, ← hg]; exact heap_alloc_new _ _
              have o1 : u1.ownsRow w3.heap.size 3 1 (.slice A5 n2 c5) n2 (ints ys2) := by rw [← hn]; exact HE.out.1.2.1.alloc _
              have hcu : u1.cell? ⟨bo, 0, none⟩ = some (.slice A5 n2 c5) := by rw [← hn]; exact (HE.out.1.1.alloc _).cell
              have hu : u1.cell? ⟨bt, 0, none⟩ = some (.pointer p) := by rw [← hn]; exact (HE.out.1.2.2.alloc _).cell
              have hsz : w3.heap.size ≤ u1.heap.size := by rw [← hn]; exact Nat.le_trans HE.out.2 ((Below.refl _ WE).alloc (Nat.le_refl _) _).size
              simp only [hn, hg]
              have HN := Lib.hid hn
              clear hn hg
              refine wpAnyH_ready (rs := [7]) (by kernel_rfl) (by simp) ?_
              refine AllReadyH.cons rfl (fun K hK => ?_) AllReadyH.nil
              refine step_snocG y2 o1 hsz (by omega) qe rfl (.tmp 23) (.tmp 29) rfl (by go_simp) (by go_simp) ?_
              intro A9 c9 w9 gr9 own9
              rw [← HN.out] at gr9
              have M9 := Lib.hid (lkM_app HE.out.1.1 HE.out.1.2.1 HE.out.1.2.2 HBT.out HNE.out HYT.out gr9 own9)
              have hc9 := M9.out.1.1
              have hf9 := M9.out.1.2.1
              have hq9 := M9.out.1.2.2
              have hqf := M9.out.2.2.1.cell
              refine hK.out _ _ hq9 (fun _ => ?_)
              clear hK K
              try simp only [Act.put, List.setIfInBounds_toArray, List.set_cons_zero, List.set_cons_succ, List.getElem_toArray, List.getElem_cons_zero, List.getElem_cons_succ]
              clear gr9 own9 qe o1 hsz hcu hu
              refine wpAnyH_ready (rs := [8]) (by kernel_rfl) (by simp) ?_
              refine AllReadyH.cons rfl (fun K hK => ?_) AllReadyH.nil
              go_simp
              refine hK.out _ _ hqf (fun _ => ?_)
              clear hK K
              try simp only [Act.put, List.setIfInBounds_toArray, List.set_cons_zero, List.set_cons_succ, List.getElem_toArray, List.getElem_cons_zero, List.getElem_cons_succ]
              refine wpAnyH_done (by kernel_rfl) ?_ _
              refine NoPanic.normal ?_
              exact ⟨rfl, ⟨_, _, _, _, _, _, _, _, rfl⟩, M9.out.2⟩
            · rw [if_pos (by rfl)]
              go_wp2_with fail
              refine K3.out.mono ?_
              rintro e vv1 ⟨rfl, e9⟩
              obtain rfl := e9.symm
              go_wp2_with fail
              refine hK.out _ _ he (fun _ => ?_)
              clear hK K
              try simp only [Act.put, List.setIfInBounds_toArray, List.set_cons_zero, List.set_cons_succ, List.getElem_toArray, List.getElem_cons_zero, List.getElem_cons_succ]
              refine wpAnyH_ready (rs := [0, 5]) (by kernel_rfl) (by simp) ?_
              refine AllReadyH.cons rfl (fun K hK => ?_) (AllReadyH.cons rfl (fun K hK => ?_) AllReadyH.nil)
              · go_simp
                refine hK.out _ _ he (fun _ => ?_)
                clear hK K
                try simp only [Act.put, List.setIfInBounds_toArray, List.set_cons_zero, List.set_cons_succ, List.getElem_toArray, List.getElem_cons_zero, List.getElem_cons_succ]
                refine wpAnyH_ready (rs := [5]) (by kernel_rfl) (by simp) ?_
                refine AllReadyH.cons rfl (fun K hK => ?_) AllReadyH.nil
                rw [if_pos (by rfl)]
                go_wp2_with fail
                refine K4.out.mono ?_
                rintro e vv1 ⟨rfl, e9⟩
                obtain rfl := e9.symm
                go_wp2_with fail
                refine hK.out _ _ he (fun _ => ?_)
                clear hK K
                try simp only [Act.put, List.setIfInBounds_toArray, List.set_cons_zero, List.set_cons_succ, List.getElem_toArray, List.getElem_cons_zero, List.getElem_cons_succ]
                refine wpAnyH_ready (rs := [6]) (by kernel_rfl) (by simp) ?_
                refine AllReadyH.cons rfl (fun K hK => ?_) AllReadyH.nil
                go_simp
                refine hK.out _ _ (HV.out _) (fun _ => ?_)
                clear hK K
                try simp only [Act.put, List.setIfInBounds_toArray, List.set_cons_zero, List.set_cons_succ, List.getElem_toArray, List.getElem_cons_zero, List.getElem_cons_succ]
                obtain ⟨u1, hn⟩ : ∃ x, WE.alloc (.cells #[.int .i64 y2] 3) = x := ⟨_, rfl⟩
                obtain ⟨q, hg⟩ : ∃ x, WE.heap.size = x := ⟨_, rfl⟩
                have qe : u1.heap[q]? = some (.cells #[.int .i64 y2] 3 (0, 0)) := by rw [← hn, ← hg]; exact heap_alloc_new _ _
                have o1 : u1.ownsRow w3.heap.size 3 1 (.slice A5 n2 c5) n2 (ints ys2) := by rw [← hn]; exact HE.out.1.2.1.alloc _
                have hcu : u1.cell? ⟨bo, 0, none⟩ = some (.slice A5 n2 c5) := by rw [← hn]; exact (HE.out.1.1.alloc _).cell
                have hu : u1.cell? ⟨bt, 0, none⟩ = some (.pointer p) := by rw [← hn]; exact (HE.out.1.2.2.alloc _).cell
                have hsz : w3.heap.size ≤ u1.heap.size := by rw [← hn]; exact Nat.le_trans HE.out.2 ((Below.refl _ WE).alloc (Nat.le_refl _) _).size
                simp only [hn, hg]
                have HN := Lib.hid hn
                clear hn hg
                refine wpAnyH_ready (rs := [7]) (by kernel_rfl) (by simp) ?_
                refine AllReadyH.cons rfl (fun K hK => ?_) AllReadyH.nil
                refine step_snocG y2 o1 hsz (by omega) qe rfl (.tmp 23) (.tmp 29) rfl (by go_simp) (by go_simp) ?_
                intro A9 c9 w9 gr9 own9
                rw [← HN.out] at gr9
                have M9 := Lib.hid (lkM_app HE.out.1.1 HE.out.1.2.1 HE.out.1.2.2 HBT.out HNE.out HYT.out gr9 own9)
                have hc9 := M9.out.1.1
                have hf9 := M9.out.1.2.1
                have hq9 := M9.out.1.2.2
                have hqf := M9.out.2.2.1.cell
                refine hK.out _ _ hq9 (fun _ => ?_)
                clear hK K
                try simp only [Act.put, List.setIfInBounds_toArray, List.set_cons_zero, List.set_cons_succ, List.getElem_toArray, List.getElem_cons_zero, List.getElem_cons_succ]
                clear gr9 own9 qe o1 hsz hcu hu
                refine wpAnyH_ready (rs := [8]) (by kernel_rfl) (by simp) ?_
                refine AllReadyH.cons rfl (fun K hK => ?_) AllReadyH.nil
                go_simp
                refine hK.out _ _ hqf (fun _ => ?_)
                clear hK K
                try simp only [Act.put, List.setIfInBounds_toArray, List.set_cons_zero, List.set_cons_succ, List.getElem_toArray, List.getElem_cons_zero, List.getElem_cons_succ]
                refine wpAnyH_done (by kernel_rfl) ?_ _
                refine NoPanic.normal ?_
                exact ⟨rfl, ⟨_, _, _, _, _, _, _, _, rfl⟩, M9.out.2⟩
              · rw [if_pos (by rfl)]
                go_wp2_with fail
                refine K4.out.mono ?_
                rintro e vv1 ⟨rfl, e9⟩
                obtain rfl := e9.symm
                go_wp2_with fail
                refine hK.out _ _ he (fun _ => ?_)
                clear hK K
                try simp only [Act.put, List.setIfInBounds_toArray, List.set_cons_zero, List.set_cons_succ, List.getElem_toArray, List.getElem_cons_zero, List.getElem_cons_succ]
                refine wpAnyH_ready (rs := [0, 6]) (by kernel_rfl) (by simp) ?_
                refine AllReadyH.cons rfl (fun K hK => ?_) (AllReadyH.cons rfl (fun K hK => ?_) AllReadyH.nil)
                · go_simp
                  refine hK.out _ _ he (fun _ => ?_)
                  clear hK K
                  try simp only [Act.put, List.setIfInBounds_toArray, List.set_cons_zero, List.set_cons_succ, List.getElem_toArray, List.getElem_cons_zero, List.getElem_cons_succ]
                  refine wpAnyH_ready (rs := [6]) (by kernel_rfl) (by simp) ?_
                  refine AllReadyH.cons rfl (fun K hK => ?_) AllReadyH.nil
                  go_simp
                  refine hK.out _ _ (HV.out _) (fun _ => ?_)
                  clear hK K
                  try simp only [Act.put, List.setIfInBounds_toArray, List.set_cons_zero, List.set_cons_succ, List.getElem_toArray, List.getElem_cons_zero, List.getElem_cons_succ]
                  obtain ⟨u1, hn⟩ : ∃ x, WE.alloc (.cells #[.int .i64 y2] 3) = x := ⟨_, rfl⟩
                  obtain ⟨q, hg⟩ : ∃ x, WE.heap.size = x := ⟨_, rfl⟩
                  have qe : u1.heap[q]? = some (.cells #[.int .i64 y2] 3 (0, 0)) := by rw [← hn, ← hg]; exact heap_alloc_new _ _
                  have o1 : u1.ownsRow w3.heap.size 3 1 (.slice A5 n2 c5) n2 (ints ys2) := by rw [← hn]; exact HE.out.1.2.1.alloc _
                  have hcu : u1.cell? ⟨bo, 0, none⟩ = some (.slice A5 n2 c5) := by rw [← hn]; exact (HE.out.1.1.alloc _).cell
                  have hu : u1.cell? ⟨bt, 0, none⟩ = some (.pointer p) := by rw [← hn]; exact (HE.out.1.2.2.alloc _).cell
                  have hsz : w3.heap.size ≤ u1.heap.size := by rw [← hn]; exact Nat.le_trans HE.out.2 ((Below.refl _ WE).alloc (Nat.le_refl _) _).size
                  simp only [hn, hg]
                  have HN := Lib.hid hn
                  clear hn hg
                  refine wpAnyH_ready (rs := [7]) (by kernel_rfl) (by simp) ?_
                  refine AllReadyH.cons rfl (fun K hK => ?_) AllReadyH.nil
                  refine step_snocG y2 o1 hsz (by omega) qe rfl (.tmp 23) (.tmp 29) rfl (by go_simp) (by go_simp) ?_
                  intro A9 c9 w9 gr9 own9
                  rw [← HN.out] at gr9
                  have M9 := Lib.hid (lkM_app HE.out.1.1 HE.out.1.2.1 HE.out.1.2.2 HBT.out HNE.out HYT.out gr9 own9)
                  have hc9 := M9.out.1.1
                  have hf9 := M9.out.1.2.1
                  have hq9 := M9.out.1.2.2
                  have hqf := M9.out.2.2.1.cell
                  refine hK.out _ _ hq9 (fun _ => ?_)
                  clear hK K
                  try simp only [Act.put, List.setIfInBounds_toArray, List.set_cons_zero, List.set_cons_succ, List.getElem_toArray, List.getElem_cons_zero, List.getElem_cons_succ]
                  clear gr9 own9 qe o1 hsz hcu hu
                  refine wpAnyH_ready (rs := [8]) (by kernel_rfl) (by simp) ?_
                  refine AllReadyH.cons rfl (fun K hK => ?_) AllReadyH.nil
                  go_simp
                  refine hK.out _ _ hqf (fun _ => ?_)
                  clear hK K
                  try simp only [Act.put, List.setIfInBounds_toArray, List.set_cons_zero, List.set_cons_succ, List.getElem_toArray, List.getElem_cons_zero, List.getElem_cons_succ]
                  refine wpAnyH_done (by kernel_rfl) ?_ _
                  refine NoPanic.normal ?_
                  exact ⟨rfl, ⟨_, _, _, _, _, _, _, _, rfl⟩, M9.out.2⟩
                · go_simp
                  refine hK.out _ _ (HV.out _) (fun _ => ?_)
                  clear hK K
                  try simp only [Act.put, List.setIfInBounds_toArray, List.set_cons_zero, List.set_cons_succ, List.getElem_toArray, List.getElem_cons_zero, List.getElem_cons_succ]
                  obtain ⟨u1, hn⟩ : ∃ x, WE.alloc (.cells #[.int .i64 y2] 3) = x := ⟨_, rfl⟩
                  obtain ⟨q, hg⟩ : ∃ x, WE.heap.size = x := ⟨_, rfl⟩
                  have qe : u1.heap[q]? = some (.cells #[.int .i64 y2] 3 (0, 0)) := by rw [← hn, ← hg]; exact heap_alloc_new _ _
                  have o1 : u1.ownsRow w3.heap.size 3 1 (.slice A5 n2 c5) n2 (ints ys2) := by rw [← hn]; exact HE.out.1.2.1.alloc _
                  have hcu : u1.cell? ⟨bo, 0, none⟩ = some (.slice A5 n2 c5) := by rw [← hn]; exact (HE.out.1.1.alloc _).cell
                  have hu : u1.cell? ⟨bt, 0, none⟩ = some (.pointer p) := by rw [← hn]; exact (HE.out.1.2.2.alloc _).cell
                  have hsz : w3.heap.size ≤ u1.heap.size := by rw [← hn]; exact Nat.le_trans HE.out.2 ((Below.refl _ WE).alloc (Nat.le_refl _) _).size
                  simp only [hn, hg]
                  have HN := Lib.hid hn
                  clear hn hg
                  refine wpAnyH_ready (rs := [0]) (by kernel_rfl) (by simp) ?_
                  refine AllReadyH.cons rfl (fun K hK => ?_) AllReadyH.nil
                  go_simp
                  refine hK.out _ _ hu (fun _ => ?_)
                  clear hK K
                  try simp only [Act.put, List.setIfInBounds_toArray, List.set_cons_zero, List.set_cons_succ, List.getElem_toArray, List.getElem_cons_zero, List.getElem_cons_succ]
                  refine wpAnyH_ready (rs := [7]) (by kernel_rfl) (by simp) ?_
                  refine AllReadyH.cons rfl (fun K hK => ?_) AllReadyH.nil
                  refine step_snocG y2 o1 hsz (by omega) qe rfl (.tmp 23) (.tmp 29) rfl (by go_simp) (by go_simp) ?_
                  intro A9 c9 w9 gr9 own9
                  rw [← HN.out] at gr9
                  have M9 := Lib.hid (lkM_app HE.out.1.1 HE.out.1.2.1 HE.out.1.2.2 HBT.out HNE.out HYT.out gr9 own9)
                  have hc9 := M9.out.1.1
                  have hf9 := M9.out.1.2.1
                  have hq9 := M9.out.1.2.2
                  have hqf := M9.out.2.2.1.cell
                  refine hK.out _ _ hq9 (fun _ => ?_)
                  clear hK K
                  try simp only [Act.put, List.setIfInBounds_toArray, List.set_cons_zero, List.set_cons_succ, List.getElem_toArray, List.getElem_cons_zero, List.getElem_cons_succ]
                  clear gr9 own9 qe o1 hsz hcu hu
                  refine wpAnyH_ready (rs := [8]) (by kernel_rfl) (by simp) ?_
                  refine AllReadyH.cons rfl (fun K hK => ?_) AllReadyH.nil
                  go_simp
                  refine hK.out _ _ hqf (fun _ => ?_)
                  clear hK K
                  try simp only [Act.put, List.setIfInBounds_toArray, List.set_cons_zero, List.set_cons_succ, List.getElem_toArray, List.getElem_cons_zero, List.getElem_cons_succ]
                  refine wpAnyH_done (by kernel_rfl) ?_ _
                  refine NoPanic.normal ?_
                  exact ⟨rfl, ⟨_, _, _, _, _, _, _, _, rfl⟩, M9.out.2⟩
          case rest =>
            rintro e a1 w7 hout
            obtain ⟨rfl, _, ⟨A7, c7, v7, r7⟩, q7, kx7, ko7⟩ := only_out hout
            refine ⟨(HK.out.2.trans ko7).from _, HK.out.1.trans kx7, ⟨⟨_, v7, ?_, trivial⟩, q7, HH.out.1.trans (HK.out.1.trans kx7)⟩⟩
            rw [HP2.out]
            exact r7
  case done =>
    rintro D ys W hD rfl ⟨⟨vo, hv, hrow, _⟩, _, hkx⟩ hK
    have hc := hv.cell
    gi_wp2
    refine ⟨by simp, .inl ⟨_, _, rfl, run_takeDeferred hK, ?_⟩⟩
    obtain ⟨A', c', rfl⟩ := ownK_form hrow
    refine ⟨_, results_tmp rfl _ _ _, A', _, c', rfl, ?_, ?_⟩
    · exact ownK_base (ownsRow_putObj hrow _ hK rfl) B3.out.size
    · exact (B3.out.trans (hkx.below (n := w.heap.size) B3.out.size B3.out.size (fun b hb => by subst hb; exact hbw))).trans (belowK_b (w := w3) B3.out.size W D _ _ hD hK rfl rfl)
  case stop =>
    rintro D c pre W hD hpre h hK
    exact h.elim
end Go.Proofs.Ytmflacmgffpjoaa
