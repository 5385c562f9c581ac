/- Layer 11: the developers' Around: the function over which one ranges yields the corners around a vertex, in order, of any table, and of none. -/
import Derived.Test.YtoianhaocjiffaaRgFst
import Derived.Test.YtoianhaocjiffaaGY
namespace Go.Proofs.Ytoianhaocjiffaa
open Go.RowKit Go.Shelf

attribute [local go_sem] Oper.semAt_some

/-- What follows the k-th corner of a ring. -/
theorem aft_step {N : Int} {l : List Tr} (_h : Surf N l) {v : Int} {c0 : Nat} {L : List Nat} (hL : IsAround l v c0 L) {k : Nat} (hk : k < L.length) :
    (k + 1 < L.length ∧ aftI l ((L.getD k 0 : Nat) : Int) = ((L.getD (k + 1) 0 : Nat) : Int)) ∨ (k + 1 = L.length ∧ oppC l (prv c0) = -1 ∧ aftI l ((L.getD k 0 : Nat) : Int) = -1) ∨
      (k + 1 = L.length ∧ oppC l (prv c0) ≠ -1 ∧ aftI l ((L.getD k 0 : Nat) : Int) = ((L.getD 0 0 : Nat) : Int)) := by
  have cm : L.getD k 0 < 3 * l.length := (cAt_mem.1 (hL.chain.sub _ (getDn_mem hk))).1
  rcases Nat.lt_or_ge (k + 1) L.length with hlt | hge
  · rcases aftI_at cm with ⟨h1, _⟩ | ⟨d, h1, h2⟩
    · rw [hL.chain.st k hlt] at h1; cases h1
    · rw [hL.chain.st k hlt] at h1
      obtain rfl := Option.some.inj h1
      exact .inl ⟨hlt, h2⟩
  · obtain rfl : k = L.length - 1 := by omega
    by_cases hb : oppC l (prv c0) = -1
    · rcases aftI_at cm with ⟨_, h2⟩ | ⟨d, h1, _⟩
      · exact .inr (.inl ⟨by omega, hb, h2⟩)
      · rw [hL.out hb] at h1; cases h1
    · rcases aftI_at cm with ⟨h1, _⟩ | ⟨d, h1, h2⟩
      · rw [hL.inn hb] at h1; cases h1
      · rw [hL.inn hb] at h1
        obtain rfl := Option.some.inj h1
        exact .inr (.inr ⟨by omega, hb, by rw [hL.chain.hd]; exact h2⟩)
def leftA (L : List Nat) (c : Int) : Nat := if c < 0 then 0 else L.length - idxC L c.toNat
/-- What lies while the corners are yielded: the table's place, the vertex, all that the table needs. -/
def LayA (M q1 q2 : Nat) (p : Option Addr) (v : Int) (w W : World) : Prop := W.cell? ⟨q1, 0, none⟩ = some (.pointer p) ∧ W.cell? ⟨q2, 0, none⟩ = some (.int .i64 v) ∧ Below M w W
theorem LayA.keep {X : Nat → Prop} {m M q1 q2 : Nat} {p : Option Addr} {v : Int} {w W W' : World} (h : LayA M q1 q2 p v w W) (k : KeepX X m W W') (hm : M ≤ m) (hs : M ≤ w.heap.size) (h1 : q1 < m) (h2 : q2 < m) (x1 : ¬ X q1) (x2 : ¬ X q2) (hX : ∀ b, X b → M ≤ b) : LayA M q1 q2 p v w W' :=
  ⟨k.cell h1 x1 h.1, k.cell h2 x2 h.2.1, h.2.2.trans (k.below hm (Nat.le_trans hs h.2.2.size) hX)⟩
def ArdR (M q1 q2 : Nat) (p : Option Addr) (v : Int) (w : World) (L : List Nat) (J : List Int → World → Prop) (c : Value) (wr : World) : Prop :=
  LayA M q1 q2 p v w wr ∧ ∃ k : Nat, J (natsI (L.take k)) wr ∧ ((k < L.length ∧ c = .int .i64 ((L.getD k 0 : Nat) : Int)) ∨ (k = L.length ∧ c = .int .i64 (-1)))
set_option maxHeartbeats 4000000 in
set_option maxRecDepth 100000 in
theorem around1_stops (w : World) (p : Option Addr) (l : List Tr) (h : RT w p l) (v : Int) (L : List Nat) (hL : IsRing l v L) (w2 : World) (q1 q2 : Nat) (hlay : LayA w.heap.size q1 q2 p v w w2)
    (X : Nat → Prop) (m n : Nat) (hn1 : 1 ≤ n) (hX : ∀ b, X b → w.heap.size ≤ b) (x1 : ¬ X q1) (x2 : ¬ X q2) (h1 : q1 < m) (h2 : q2 < m) (hm : w.heap.size ≤ m) :
    SeqStopsK Fence.wide n Try.prog 47 #[.pointer (some ⟨q1, 0, none⟩), .pointer (some ⟨q2, 0, none⟩)] (fun x : Int => #[.int .i64 x]) (KeepX X m) (fun ys => ys = natsI L) (fun pre => pre <+: natsI L) (natsI L).length w2 := by
  intro l0 J Jx W hW hJ hJx hY h0
  have hlW : LayA w.heap.size q1 q2 p v w W := ⟨(hW.cell (World.block_lt_of_cell? _ _ hlay.1)).trans hlay.1, (hW.cell (World.block_lt_of_cell? _ _ hlay.2.1)).trans hlay.2.1, up2 hlay.2.2 hW⟩
  have HLAY := Lib.hid (fun W W' (a : LayA w.heap.size q1 q2 p v w W) (k : KeepX X m W W') => a.keep k hm (Nat.le_refl _) h1 h2 x1 x2 hX)
  have KF := Lib.hid (rgfirst_any W p l (h.below hlW.2.2) v L hL)
  have KA := Lib.hid (fun W' (a : LayA w.heap.size q1 q2 p v w W') x => rgafter_any W' p l (h.below a.2.2) x)
  have HY := Lib.hid hY
  have HR := Lib.hid hL
  have HS := Lib.hid h.surf
  have c1 := hlW.1
  have c2 := hlW.2.1
  have HW := Lib.hid (And.intro hlW h0)
  clear h hL hlay hX x1 x2 h1 h2 hm hW hJ hJx hY hlW h0
  refine callsIn_of_wp Try.func47 rfl trivial ?_ rfl
  simp only [Try.ntmps47, List.size_toArray, List.length_cons, List.length_nil, Nat.reduceAdd, Nat.reduceSub, Array.replicate_succ, Array.replicate_zero, List.push_toArray, List.append_toArray, List.nil_append, List.cons_append]
  gi_wp2_with (refine ⟨trivial, ?_⟩; gi_at_call 35; refine (callsIn_wide.2 KF.out).mono ?_; rintro e w3 ⟨rfl, rfl⟩)
  have HST := Lib.hid (show ArdR w.heap.size q1 q2 p v w L J (.int .i64 (frsI L)) w3 from ⟨HW.out.1, 0, HW.out.2, by
    rcases Nat.eq_zero_or_pos L.length with h | h
    · exact .inr ⟨h.symm, by unfold frsI; rw [if_pos h]⟩
    · exact .inl ⟨h, by unfold frsI; rw [if_neg (by omega)]⟩⟩)
  obtain ⟨s, hs⟩ : ∃ s, frsI L = s := ⟨_, rfl⟩
  rw [hs] at HST
  simp only [hs]
  have HSS := Lib.hid hs
  clear hs c1 c2
  gi_loopw [5] (ArdR w.heap.size q1 q2 p v w L J) (fun c _ => leftA L (intOf c))
  case atStart => exact HST.out
  case round =>
    obtain ⟨hlay, k, hJ, ⟨hk, rfl⟩ | ⟨hk, rfl⟩⟩ := hrel
    · obtain ⟨x, hx⟩ : ∃ x, L.getD k 0 = x := ⟨_, rfl⟩
      obtain ⟨fn, tmps, assign, body, hy, hR⟩ := HY.out _ (x : Int) wr hJ (by rw [natsI_len, natsI_len, List.length_take]; omega)
      have H1 := Lib.hid (And.intro hlay (And.intro hk hx))
      have HRR := Lib.hid hR
      simp only [hx]

      have d0 : decide ((x : Int) ≥ 0) = true := by simp
      clear hlay hJ hk hx hR
      gi_wp2_with fail
      refine HRR.out.mono ?_
      rintro e W3 (⟨rfl, hJ3, hk3⟩ | ⟨rfl, hJx3⟩)
      · have hl3 := HLAY.out _ _ H1.out.1 hk3
        have c1 := hl3.1
        have K1 := Lib.hid (KA.out W3 hl3 (x : Int))
        have hJ4 : J (natsI (L.take (k + 1))) W3 := by rw [take_snocN H1.out.2.1, natsI_snoc, H1.out.2.2]; exact hJ3
        have HJ := Lib.hid (And.intro hl3 hJ4)
        have hst : (k + 1 < L.length ∧ aftI l (x : Int) = ((L.getD (k + 1) 0 : Nat) : Int) ∧ L.getD (k + 1) 0 ≠ L.getD 0 0) ∨ (k + 1 = L.length ∧ aftI l (x : Int) = -1) ∨ (k + 1 = L.length ∧ aftI l (x : Int) = ((L.getD 0 0 : Nat) : Int)) := by
          have hk := H1.out.2.1
          rcases HR.out with ⟨_, e⟩ | ⟨c0, hf, hL⟩
          · rw [e] at hk; exact absurd hk (by simp)
          obtain ⟨N, hs⟩ : ∃ N, Surf N l := by
            rcases HS.out with e | hs
            · rw [e] at hf; exact absurd (cAt_mem.1 hf.1).1 (by simp)
            · exact hs
          rw [← H1.out.2.2]
          rcases aft_step hs hL hk with ⟨a, b⟩ | ⟨a, _, b⟩ | ⟨a, _, b⟩
          · refine .inl ⟨a, b, fun e => ?_⟩
            have := nodup_at hL.chain.nd a hL.chain.ne e
            omega
          · exact .inr (.inl ⟨a, b⟩)
          · exact .inr (.inr ⟨a, b⟩)
        have hfr : s = ((L.getD 0 0 : Nat) : Int) := by rw [← HSS.out]; exact if_neg (by have := H1.out.2.1; omega)
        have hlx : leftA L (x : Int) = L.length - k := by
          unfold leftA
          rw [if_neg (by omega), Int.toNat_natCast, ← H1.out.2.2]
          rcases HR.out with ⟨_, e⟩ | ⟨c0, hf, hL⟩
          · have hk := H1.out.2.1; rw [e] at hk; exact absurd hk (by simp)
          · rw [idxC_at hL.chain.nd H1.out.2.1]
        clear hl3 hJ3 hk3 hJ4
        rcases hst with ⟨h1, h2, h3⟩ | ⟨h1, h2⟩ | ⟨h1, h2⟩
        · obtain ⟨y, hy2⟩ : ∃ y, L.getD (k + 1) 0 = y := ⟨_, rfl⟩
          have hly : leftA L (y : Int) = L.length - (k + 1) := by
            unfold leftA
            rw [if_neg (by omega), Int.toNat_natCast, ← hy2]
            rcases HR.out with ⟨_, e⟩ | ⟨c0, hf, hL⟩
            · have hk := H1.out.2.1; rw [e] at hk; exact absurd hk (by simp)
            · rw [idxC_at hL.chain.nd h1]
          have HREL := Lib.hid (show ArdR w.heap.size q1 q2 p v w L J (.int .i64 (y : Int)) W3 from ⟨HJ.out.1, k + 1, HJ.out.2, .inl ⟨h1, by rw [hy2]⟩⟩)
          have HM := Lib.hid (show leftA L (y : Int) < leftA L (x : Int) by rw [hlx, hly]; omega)
          rw [hy2] at h2 h3
          rw [h2] at K1
          have dz : ((y : Int) == s) = false := by rw [beq_eq_false_iff_ne, hfr]; omega
          clear h1 h2 h3 hy2 hlx hly hfr
          gi_wp2_with (refine ⟨trivial, ?_⟩; gi_at_call 33; refine (callsIn_wide.2 K1.out).mono ?_; rintro e w4 ⟨rfl, rfl⟩)
          go_roundw
          case rel => exact HREL.out
          case measure => exact HM.out
        · have HREL := Lib.hid (show ArdR w.heap.size q1 q2 p v w L J (.int .i64 (-1)) W3 from ⟨HJ.out.1, k + 1, HJ.out.2, .inr ⟨h1, rfl⟩⟩)
          have HM := Lib.hid (show leftA L (-1) < leftA L (x : Int) by rw [hlx]; unfold leftA; rw [if_pos (by omega)]; omega)
          rw [h2] at K1
          have dz : ((-1 : Int) == s) = false := by rw [beq_eq_false_iff_ne, hfr]; omega
          clear h1 h2 hlx hfr
          gi_wp2_with (refine ⟨trivial, ?_⟩; gi_at_call 33; refine (callsIn_wide.2 K1.out).mono ?_; rintro e w4 ⟨rfl, rfl⟩)
          go_roundw
          case rel => exact HREL.out
          case measure => exact HM.out
        · have HL := Lib.hid h1
          rw [← hfr] at h2
          rw [h2] at K1
          clear h1 h2 hlx hfr
          gi_wp2_with (refine ⟨trivial, ?_⟩; gi_at_call 33; refine (callsIn_wide.2 K1.out).mono ?_; rintro e w4 ⟨rfl, rfl⟩)
          refine bodyPost_ret (results_none rfl _ _ _) rfl ?_
          exact ⟨⟨_, rfl⟩, .inl ⟨_, rfl, by have := HJ.out.2; rwa [HL.out, List.take_length] at this⟩⟩
      · gi_wp2
        refine bodyPost_ret (results_none rfl _ _ _) rfl ?_
        refine ⟨⟨_, rfl⟩, .inr ⟨_, ?_, hJx3⟩⟩
        rw [← H1.out.2.2, ← natsI_snoc, ← take_snocN H1.out.2.1]
        conv => rhs; rw [← List.take_append_drop (k + 1) L]
        unfold natsI
        rw [List.map_append]
        exact List.prefix_append _ _
    · have d0 : decide ((-1 : Int) ≥ 0) = false := rfl
      have H1 := Lib.hid (And.intro hJ hk)
      clear hJ hk hlay
      gi_wp2_with fail
      go_end0
      exact ⟨⟨_, rfl⟩, .inl ⟨_, rfl, by have := H1.out.1; rwa [H1.out.2, List.take_length] at this⟩⟩
set_option maxRecDepth 100000 in
theorem rgaround_of (w : World) (p : Option Addr) (l : List Tr) (h : RT w p l) (v : Int) (L : List Nat) (hL : IsRing l v L) (W : World) (hb : Below w.heap.size w W) : Calls Try.prog 29 #[.pointer p, .int .i64 v] W (SeqTold w.heap.size W (natsI L)) := by
  obtain ⟨w1, hw1⟩ : ∃ w1, W.alloc (.cells #[.pointer p] 26) = w1 := ⟨_, rfl⟩
  obtain ⟨q1, hq1⟩ : ∃ q1, W.heap.size = q1 := ⟨_, rfl⟩
  obtain ⟨w2, hw2⟩ : ∃ w2, w1.alloc (.cells #[.int .i64 v] 3) = w2 := ⟨_, rfl⟩
  obtain ⟨q2, hq2⟩ : ∃ q2, w1.heap.size = q2 := ⟨_, rfl⟩
  have b1 : Below W.heap.size W w1 := by rw [← hw1]; exact (Below.refl _ W).alloc (Nat.le_refl _) _
  have b2 : Below w1.heap.size w1 w2 := by rw [← hw2]; exact (Below.refl _ w1).alloc (Nat.le_refl _) _
  have o1 : Boxed w1 q1 26 (.pointer p) := by rw [← hw1, ← hq1]; exact Boxed.new W _ _
  have o2 : Boxed w2 q2 3 (.int .i64 v) := by rw [← hw2, ← hq2]; exact Boxed.new w1 _ _
  have o1' : Boxed w2 q1 26 (.pointer p) := (b2.block q1 o1.lt).trans o1
  have HX := Lib.hid (show LayA w.heap.size q1 q2 p v w w2 from ⟨o1'.cell, o2.cell, up2 (up2 hb b1) b2⟩)
  have HB := Lib.hid (up2 b1 b2)
  have HQ := Lib.hid (show W.heap.size ≤ q1 ∧ W.heap.size ≤ q2 ∧ q1 < w2.heap.size ∧ q2 < w2.heap.size from ⟨by omega, by rw [← hq2]; exact b1.size, o1'.lt, o2.lt⟩)
  have HH := Lib.hid h
  have HL := Lib.hid hL
  have HS := Lib.hid hb.size
  clear b1 b2 o1 o2 o1' h hL hb
  go_enter Try.func29, Try.ntmps29
  go_wp2_with fail
  go_ret
  refine ⟨_, rfl, HB.out, fun X m n hX hm hn => ?_⟩
  obtain ⟨g1, g2, g3, g4⟩ := HQ.out
  exact around1_stops w p l HH.out v L HL.out w2 q1 q2 HX.out X m n hn (fun b hb => (hX b hb).1) (fun hx => by have := (hX _ hx).2; omega) (fun hx => by have := (hX _ hx).2; omega) (by omega) (by omega) (Nat.le_trans HS.out (Nat.le_trans HB.out.size hm))
end Go.Proofs.Ytoianhaocjiffaa
