/- Layer 12: the developers' Walk: the function over which one ranges yields a vertex and those that follow it on the boundary, of any table, and of none. -/
import Derived.Test.YtmflacmgffpjoaaBdAft
import Derived.Test.YtmflacmgffpjoaaGP
namespace Go.Proofs.Ytmflacmgffpjoaa
open Go.RowKit Go.Shelf

attribute [local go_sem] Oper.semAt_some

/-- What an iterator tells, its values written so. -/
def SeqE (en : Int → Value) (f : Nat) (M : Nat) (w : World) (xs : List Int) (e : Ending) (w' : World) : Prop :=
  ∃ lb, e = .returned (.func (.func f) #[] lb) ∧ Below w.heap.size w w' ∧ ∀ (X : Nat → Prop) (m n : Nat), (∀ b, X b → M ≤ b ∧ b < w.heap.size) → w'.heap.size ≤ m → 1 ≤ n →
    SeqStopsK Fence.wide n Try.prog f lb (fun x : Int => #[en x]) (KeepX X m) (fun ys => ys = xs) (fun pre => pre <+: xs) xs.length w'
theorem abides_below {B : Nat} {J : List Int → World → Prop} (h : AbidesFrom B J) {s : List Int} {W W' : World} (b : Below W.heap.size W W') (hs : J s W) : J s W' :=
  h s W W' none hs ⟨b.os, b.tape, b.output, b.size, fun k hk _ => b.block k hk⟩ (fun r e => by cases e)
/-- Where a number stands in a loop. -/
def leftW (L : List Nat) (c : Int) : Nat := L.length - idxC L c.toNat
theorem leftW_at {L : List Nat} (hnd : L.Nodup) {k : Nat} (hk : k < L.length) {x : Nat} (hx : L.getD k 0 = x) : leftW L (x : Int) = L.length - k := by
  unfold leftW
  rw [Int.toNat_natCast, ← hx, idxC_at hnd hk]
def WlkR (M q1 q2 : Nat) (p : Option Addr) (v : Int) (w : World) (L : List Nat) (J : List Int → World → Prop) (c : Value) (wr : World) : Prop :=
  LayA M q1 q2 p v w wr ∧ ∃ k : Nat, J (natsI (L.take k)) wr ∧ k < L.length ∧ c = .int .i64 ((L.getD k 0 : Nat) : Int)
set_option maxHeartbeats 4000000 in
set_option maxRecDepth 100000 in
theorem walk1_stops (en : Int → Value) (w : World) (p : Option Addr) (l : List Tr) (h : RT w p l) (N : Int) (hs : l = [] ∨ Surf N l) (v : Int) (xs : List Int) (hx : IsWalk N l v xs) (hen : ∀ x ∈ xs, en x = .int .i64 x) (w2 : World) (q1 q2 : Nat) (hlay : LayA w.heap.size q1 q2 p v w w2)
    (X : Nat → Prop) (m n : Nat) (hn1 : 1 ≤ n) (hX : ∀ b, X b → w.heap.size ≤ b) (x1 : ¬ X q1) (x2 : ¬ X q2) (h1 : q1 < m) (h2 : q2 < m) (hm : w.heap.size ≤ m) :
    SeqStopsK Fence.wide n Try.prog 45 #[.pointer (some ⟨q1, 0, none⟩), .pointer (some ⟨q2, 0, none⟩)] (fun x : Int => #[en x]) (KeepX X m) (fun ys => ys = xs) (fun pre => pre <+: xs) xs.length w2 := by
  intro l0 J Jx W hW hJ hJx hY h0
  have hlW : LayA w.heap.size q1 q2 p v w W := ⟨(hW.cell (World.block_lt_of_cell? _ _ hlay.1)).trans hlay.1, (hW.cell (World.block_lt_of_cell? _ _ hlay.2.1)).trans hlay.2.1, up2 hlay.2.2 hW⟩
  have HLAY := Lib.hid (fun W W' (a : LayA w.heap.size q1 q2 p v w W) (k : KeepX X m W W') => a.keep k hm (Nat.le_refl _) h1 h2 x1 x2 hX)
  have HBEL := Lib.hid (fun W W' (a : LayA w.heap.size q1 q2 p v w W) (b : Below W.heap.size W W') => (show LayA w.heap.size q1 q2 p v w W' from ⟨(b.cell (World.block_lt_of_cell? _ _ a.1)).trans a.1, (b.cell (World.block_lt_of_cell? _ _ a.2.1)).trans a.2.1, up2 a.2.2 b⟩))
  have KA := Lib.hid (fun W' (a : LayA w.heap.size q1 q2 p v w W') x => bdafter_of W' p l (h.below a.2.2) x)
  have HJB := Lib.hid (fun s W W' (b : Below W.heap.size W W') (hj : J s W) => abides_below hJ b hj)
  have K1 := Lib.hid (KA.out W hlW v)
  have c1 := hlW.1
  have c2 := hlW.2.1
  rcases hx with ⟨hneg, rfl⟩ | ⟨hpos, L, hL, rfl⟩
  · obtain ⟨a, ha⟩ : ∃ a, afterV l v = a := ⟨_, rfl⟩
    rw [ha] at K1 hneg
    have d0 : decide (a < 0) = true := decide_eq_true hneg
    have H0 := Lib.hid h0
    clear h hs hlay hX x1 x2 h1 h2 hm hW hJ hJx hY hlW h0 ha hneg hen
    refine callsIn_of_wp Try.func45 rfl trivial ?_ rfl
    simp only [Try.ntmps45, List.size_toArray, List.length_cons, List.length_nil, Nat.reduceAdd, Nat.reduceSub, Array.replicate_succ, Array.replicate_zero, List.push_toArray, List.append_toArray, List.nil_append, List.cons_append]
    gi_wp2_with (refine ⟨trivial, ?_⟩; gi_at_call 16; refine (callsIn_wide.2 K1.out).mono ?_; rintro e w3 ⟨rfl, b3⟩; have B3 := Lib.hid b3; clear b3)
    refine bodyPost_ret (results_none rfl _ _ _) rfl ?_
    exact ⟨⟨_, rfl⟩, .inl ⟨_, rfl, HJB.out _ _ _ B3.out H0.out⟩⟩
  · have hs : Surf N l := by
      rcases hs with rfl | hs
      · rw [after_lone (l := []) (v := v) rfl] at hpos; exact absurd hpos (by omega)
      · exact hs
    have hv0 : ((v.toNat : Nat) : Int) = v := by have := (after_in hs hpos).1.1; omega
    have HLP := Lib.hid (fun k hk => loop_after hs hL (k := k) hk)
    have HHD := Lib.hid (And.intro hL.chain.hd (And.intro hL.chain.nd hL.chain.ne))
    have HY := Lib.hid (fun k (hk : k < L.length) W1 (hj : J (natsI (L.take k)) W1) => (show YieldAt Fence.wide (n - 1) Try.prog l0 #[.int .i64 ((L.getD k 0 : Nat) : Int)] W1 fun e W' =>
      (e = .returned (.bool true) ∧ J (natsI (L.take (k + 1))) W' ∧ KeepX X m W1 W') ∨ (e = .returned (.bool false) ∧ Jx (natsI (L.take (k + 1))) W') from by
        have hy := hY (natsI (L.take k)) ((L.getD k 0 : Nat) : Int) W1 hj (by rw [natsI_len, natsI_len, List.length_take]; omega)
        dsimp only at hy
        rw [hen _ (by unfold natsI; exact List.mem_map.2 ⟨_, getDn_mem hk, rfl⟩)] at hy
        rw [take_snocN hk, natsI_snoc]
        exact hy))
    obtain ⟨a, ha⟩ : ∃ a, afterV l v = a := ⟨_, rfl⟩
    rw [ha] at K1 hpos
    have d0 : decide (a < 0) = false := decide_eq_false (by omega)
    have H0 := Lib.hid (And.intro hlW h0)
    clear h hs hlay hX x1 x2 h1 h2 hm hW hJ hJx hY hlW h0 ha hpos hen hL
    refine callsIn_of_wp Try.func45 rfl trivial ?_ rfl
    simp only [Try.ntmps45, List.size_toArray, List.length_cons, List.length_nil, Nat.reduceAdd, Nat.reduceSub, Array.replicate_succ, Array.replicate_zero, List.push_toArray, List.append_toArray, List.nil_append, List.cons_append]
    gi_wp2_with (refine ⟨trivial, ?_⟩; gi_at_call 16; refine (callsIn_wide.2 K1.out).mono ?_; rintro e w3 ⟨rfl, b3⟩; have HST := Lib.hid (show WlkR w.heap.size q1 q2 p v w L J (.int .i64 v) w3 from ⟨HBEL.out _ _ H0.out.1 b3, 0, HJB.out _ _ _ b3 H0.out.2, HHD.out.2.2, by rw [HHD.out.1, hv0]⟩); have c2' := HST.out.1.2.1; clear b3)
    clear c1 c2
    gi_loopw [4] (WlkR w.heap.size q1 q2 p v w L J) (fun c _ => leftW L (intOf c))
    case atStart => exact HST.out
    case round =>
      obtain ⟨hlay, k, hJ, hk, rfl⟩ := hrel
      obtain ⟨x, hx⟩ : ∃ x, L.getD k 0 = x := ⟨_, rfl⟩
      obtain ⟨fn, tmps, assign, body, hy, hR⟩ := HY.out k hk wr hJ
      rw [hx] at hy
      have H1 := Lib.hid (And.intro hlay (And.intro hk hx))
      have HRR := Lib.hid hR
      simp only [hx]
      clear hlay hJ hk hx hR
      gi_wp2_with fail
      refine HRR.out.mono ?_
      rintro e W3 (⟨rfl, hJ3, hk3⟩ | ⟨rfl, hJx3⟩)
      · have hl3 := HLAY.out _ _ H1.out.1 hk3
        have c1 := hl3.1
        have c2 := hl3.2.1
        have KX := Lib.hid (KA.out W3 hl3 (x : Int))
        have HJ := Lib.hid (And.intro hl3 hJ3)
        have hlp := HLP.out k H1.out.2.1
        rw [H1.out.2.2] at hlp
        have hlx := leftW_at HHD.out.2.1 H1.out.2.1 H1.out.2.2
        clear hl3 hJ3 hk3
        rcases hlp with ⟨h1, h2⟩ | ⟨h1, h2⟩
        · obtain ⟨y, hy2⟩ : ∃ y, L.getD (k + 1) 0 = y := ⟨_, rfl⟩
          have hly := leftW_at HHD.out.2.1 h1 hy2
          have hyv : (y : Int) ≠ v := fun e => by
            have := nodup_at HHD.out.2.1 h1 HHD.out.2.2 (by rw [hy2, HHD.out.1]; omega)
            omega
          have dz : ((y : Int) == v) = false := by rw [beq_eq_false_iff_ne]; exact hyv
          have HM := Lib.hid (show leftW L (y : Int) < leftW L (x : Int) by rw [hlx, hly]; omega)
          rw [hy2] at h2
          rw [h2] at KX
          have HN := Lib.hid (And.intro h1 hy2)
          clear h1 h2 hy2 hlx hly hyv
          gi_wp2_with (refine ⟨trivial, ?_⟩; gi_at_call 16; refine (callsIn_wide.2 KX.out).mono ?_; rintro e w4 ⟨rfl, b4⟩; have HREL := Lib.hid (show WlkR w.heap.size q1 q2 p v w L J (.int .i64 (y : Int)) w4 from ⟨HBEL.out _ _ HJ.out.1 b4, k + 1, HJB.out _ _ _ b4 HJ.out.2, HN.out.1, by rw [HN.out.2]⟩); have c4 := HREL.out.1.2.1; clear b4)
          go_roundw
          case rel => exact HREL.out
          case measure => exact HM.out
        · rw [h2, hv0] at KX
          have dz : (v == v) = true := beq_self_eq_true v
          have HL := Lib.hid h1
          clear h1 h2 hlx
          gi_wp2_with (refine ⟨trivial, ?_⟩; gi_at_call 16; refine (callsIn_wide.2 KX.out).mono ?_; rintro e w4 ⟨rfl, b4⟩; have HREL := Lib.hid (And.intro (HBEL.out _ _ HJ.out.1 b4) (HJB.out _ _ _ b4 HJ.out.2)); have c4 := HREL.out.1.2.1; clear b4)
          refine bodyPost_ret (results_none rfl _ _ _) rfl ?_
          exact ⟨⟨_, rfl⟩, .inl ⟨_, rfl, by have := HREL.out.2; rwa [HL.out, List.take_length] at this⟩⟩
      · have H3 := Lib.hid hJx3
        clear hJx3
        gi_wp2
        go_end0
        refine ⟨⟨_, rfl⟩, .inr ⟨_, ?_, H3.out⟩⟩
        conv => rhs; rw [← List.take_append_drop (k + 1) L]
        unfold natsI
        rw [List.map_append]
        exact List.prefix_append _ _
set_option maxRecDepth 100000 in
theorem bdwalk_of (en : Int → Value) (w : World) (p : Option Addr) (l : List Tr) (h : RT w p l) (N : Int) (hs : l = [] ∨ Surf N l) (v : Int) (xs : List Int) (hx : IsWalk N l v xs) (hen : ∀ x ∈ xs, en x = .int .i64 x) (W : World) (hb : Below w.heap.size w W) : Calls Try.prog 24 #[.pointer p, .int .i64 v] W (SeqE en 45 w.heap.size W xs) := by
  obtain ⟨w1, hw1⟩ : ∃ w1, W.alloc (.cells #[.pointer p] 26) = w1 := ⟨_, rfl⟩
  obtain ⟨q1, hq1⟩ : ∃ q1, W.heap.size = q1 := ⟨_, rfl⟩
  obtain ⟨w2, hw2⟩ : ∃ w2, w1.alloc (.cells #[.int .i64 v] 3) = w2 := ⟨_, rfl⟩
  obtain ⟨q2, hq2⟩ : ∃ q2, w1.heap.size = q2 := ⟨_, rfl⟩
  have b1 : Below W.heap.size W w1 := by rw [← hw1]; exact (Below.refl _ W).alloc (Nat.le_refl _) _
  have b2 : Below w1.heap.size w1 w2 := by rw [← hw2]; exact (Below.refl _ w1).alloc (Nat.le_refl _) _
  have o1 : Boxed w1 q1 26 (.pointer p) := by rw [← hw1, ← hq1]; exact Boxed.new W _ _
  have o2 : Boxed w2 q2 3 (.int .i64 v) := by rw [← hw2, ← hq2]; exact Boxed.new w1 _ _
  have o1' : Boxed w2 q1 26 (.pointer p) := (b2.block q1 o1.lt).trans o1
  have HX := Lib.hid (show LayA w.heap.size q1 q2 p v w w2 from ⟨o1'.cell, o2.cell, up2 (up2 hb b1) b2⟩)
  have HB := Lib.hid (up2 b1 b2)
  have HQ := Lib.hid (show W.heap.size ≤ q1 ∧ W.heap.size ≤ q2 ∧ q1 < w2.heap.size ∧ q2 < w2.heap.size from ⟨by omega, by rw [← hq2]; exact b1.size, o1'.lt, o2.lt⟩)
  have HH := Lib.hid h
  have HSS := Lib.hid hs
  have HL := Lib.hid hx
  have HE := Lib.hid hen
  have HS := Lib.hid hb.size
  clear b1 b2 o1 o2 o1' h hx hb hen hs
  go_enter Try.func24, Try.ntmps24
  go_wp2_with fail
  go_ret
  refine ⟨_, rfl, HB.out, fun X m n hX hm hn => ?_⟩
  obtain ⟨g1, g2, g3, g4⟩ := HQ.out
  exact walk1_stops en w p l HH.out N HSS.out v xs HL.out HE.out w2 q1 q2 HX.out X m n hn (fun b hb => (hX b hb).1) (fun hx => by have := (hX _ hx).2; omega) (fun hx => by have := (hX _ hx).2; omega) (by omega) (by omega) (Nat.le_trans HS.out (Nat.le_trans HB.out.size hm))
end Go.Proofs.Ytmflacmgffpjoaa
