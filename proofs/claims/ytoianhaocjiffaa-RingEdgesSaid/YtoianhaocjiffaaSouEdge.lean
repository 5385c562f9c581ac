/- Layer 8: Edges. -/
import Derived.Test.YtoianhaocjiffaaSouEdgeP
import Derived.Test.YtoianhaocjiffaaSouFit
namespace Go.Proofs.Ytoianhaocjiffaa
open Go.RowKit

theorem Below.gb {w w' : World} (b : Below w.heap.size w w') : w.grownBy w' none := ⟨b.os, b.tape, b.output, b.size, fun k hk _ => b.block k hk⟩
structure ESt (w : World) (Z : Nat) (wr : World) (g mb : Nat) (N : Int) (A : Option Addr) (n c : Nat) (S : List Ed) (v : Value) : Prop where
  below : Below w.heap.size w wr
  bx : Bx wr g N A n c
  mp : MapE wr mb S
  own : wr.ownsRow Z 45 2 v S.length (ints (flat2 S))
  gm : g ≠ mb
  gz : g < Z
  mz : mb < Z
  wm : w.heap.size ≤ mb
  zw : Z ≤ wr.heap.size
theorem ESt.up {w : World} {Z : Nat} {wr wr' : World} {g mb : Nat} {N : Int} {A : Option Addr} {n c : Nat} {S : List Ed} {v : Value} (h : ESt w Z wr g mb N A n c S v) (b : Below wr.heap.size wr wr') : ESt w Z wr' g mb N A n c S v :=
  ⟨h.below.trans (b.mono h.below.size), h.bx.below b, h.mp.kept (Below.gb b) (by simp), ownK_up h.own b, h.gm, h.gz, h.mz, h.wm, Nat.le_trans h.zw b.size⟩
/-- A new edge is put into the map. -/
theorem ESt.put {w : World} {Z : Nat} {wr wr' : World} {g mb : Nat} {N : Int} {A : Option Addr} {n c : Nat} {S S' : List Ed} {v : Value} (h : ESt w Z wr g mb N A n c S v) (hg : wr.grownBy wr' (some mb)) (hm : MapE wr' mb S') :
    Below w.heap.size w wr' ∧ Bx wr' g N A n c ∧ MapE wr' mb S' ∧ wr'.ownsRow Z 45 2 v S.length (ints (flat2 S)) ∧ Z ≤ wr'.heap.size := by
  refine ⟨?_, (hg.block g (heap_lt h.bx) (fun e => h.gm (Option.some.inj e))).trans h.bx, hm, ?_, Nat.le_trans h.zw hg.size⟩
  · exact h.below.trans ⟨hg.os, hg.tape, hg.output, hg.size, fun j hj => hg.block j (Nat.lt_of_lt_of_le hj h.below.size) (fun e => by have := Option.some.inj e; have := h.wm; omega)⟩
  · refine h.own.kept hg ?_
    cases hv : v.ownBlock with
    | none => exact .inl rfl
    | some k => exact .inr (fun e => by have := ownK_lt h.own k hv; have := Option.some.inj e; have := h.mz; omega)
/-- A new edge is in the map and behind the others. -/
theorem ESt.fin {w : World} {Z : Nat} {w5 w6 w7 w9 : World} {g mb : Nat} {N : Int} {A : Option Addr} {n c : Nat} {S : List Ed} {v v' : Value} {e : Ed} (h : ESt w Z w5 g mb N A n c S v) (hg : w5.grownBy w6 (some mb)) (hm : MapE w6 mb (S ++ [e])) (b7 : Below w6.heap.size w6 w7)
    (own9 : w9.ownsRow Z 45 2 v' (S.length + 1) (ints (flat2 S) ++ [.int .i64 e.1, .int .i64 e.2])) (gr : w7.grownBy w9 v.ownBlock) : ESt w Z w9 g mb N A n c (S ++ [e]) v' := by
  obtain ⟨p1, p2, p3, p4, p5⟩ := h.put hg hm
  have q1 := p1.trans (b7.mono p1.size)
  have q2 := p2.below b7
  have q3 := p3.kept (Below.gb b7) (by simp)
  have q4 := ownK_up p4 b7
  have hne : ∀ k, v.ownBlock = some k → Z ≤ k := fun k hk => ownK_lt q4 k hk
  have q5 := Nat.le_trans p5 b7.size
  refine ⟨own_grown_below q1 gr q1.size (fun k hk => ?_), (gr.block g (heap_lt q2) (fun e => ?_)).trans q2, q3.kept gr (fun e => ?_), ?_, h.gm, h.gz, h.mz, h.wm, Nat.le_trans q5 gr.size⟩
  · have := hne k hk; have := h.wm; have := h.mz; omega
  · have := hne g e.symm; have := h.gz; omega
  · have := hne mb e.symm; have := h.mz; omega
  · rw [List.length_append, flat2_append, ints_append]; exact own9
theorem ESt.tri {w : World} {Z : Nat} {w5 w6 w7 w9 : World} {g mb tb : Nat} {N : Int} {A : Option Addr} {n c : Nat} {S : List Ed} {v : Value} {e : Ed} {cs : Array Value} (h : ESt w Z w5 g mb N A n c S v) (hg : w5.grownBy w6 (some mb)) (hm : MapE w6 mb (S ++ [e])) (b7 : Below w6.heap.size w6 w7)
    (gr : w7.grownBy w9 v.ownBlock) (ht : w5.heap[tb]? = some (.cells cs 52 (0, 0))) : w9.heap[tb]? = some (.cells cs 52 (0, 0)) := by
  have hmt : tb ≠ mb := by
    rintro rfl
    obtain ⟨_, _, ho, _⟩ := h.mp
    obtain ⟨es, clock, hb, _⟩ := ho
    rw [ht] at hb
    cases hb
  obtain ⟨p1, p2, p3, p4, p5⟩ := h.put hg hm
  have t6 := (hg.block tb (heap_lt ht) (fun e => hmt (Option.some.inj e))).trans ht
  have t7 := (b7.block tb (heap_lt t6)).trans t6
  have q4 := ownK_up p4 b7
  refine (gr.block tb (heap_lt t7) (fun e => ?_)).trans t7
  rcases q4.2 with ⟨h1, _⟩ | ⟨q, cap, cur, h1, _, hh, _⟩
  · rw [h1] at e; cases e
  · rw [h1] at e
    have e : tb = q := Option.some.inj e
    subst e
    rw [t7] at hh
    injection hh with hh
    injection hh with _ hh _
    exact absurd hh (by decide)
theorem take_succ_getD3 (l : List Tr) (k : Nat) (h : k < l.length) : l.take (k + 1) = l.take k ++ [l.getD k z3] := by
  rw [List.take_add_one, List.getD_eq_getElem?_getD, List.getElem?_eq_getElem h]; rfl
theorem ones2 (a b : Int) : ∀ u ∈ [Value.int .i64 a, .int .i64 b], u.oneCell' = true := by
  intro u hu
  simp at hu
  rcases hu with rfl | rfl <;> rfl
theorem wfE_in {a b : Int} (h0 : -1000000 ≤ a) (h1 : a ≤ 1000000) (h2 : -1000000 ≤ b) (h3 : b ≤ 1000000) : wfE (a, b) := ⟨WalkArith.wf_i64 (by omega), WalkArith.wf_i64 (by omega)⟩
theorem own_some8 {W : World} {B n s : Nat} {t : TypeId} {v : Value} {xs : List Value} (h : W.ownsRow B t s v n xs) (hn : 0 < n) : ∃ q c, v = .slice (some ⟨q, 0, none⟩) n c := by
  rcases h.2 with ⟨_, h2⟩ | ⟨q, cap, cur, h1, _⟩
  · omega
  · exact ⟨_, _, h1⟩
def E1At (w : World) (Z g mb : Nat) (N : Int) (A : Option Addr) (n c : Nat) (l : List Tr) (v : Value) (i : Value) (wr : World) : Prop := ∃ k : Nat, k ≤ n ∧ i = .int .i64 (k : Int) ∧ ESt w Z wr g mb N A n c (dedE [] (allSides (l.take k))) v
def E2At (w : World) (Z g mb : Nat) (N : Int) (A : Option Addr) (n c : Nat) (S : List Ed) (t : Tr) (tb : Nat) (v : Value) (i : Value) (wr : World) : Prop := ∃ j : Nat, j ≤ 3 ∧ i = .int .i64 (j : Int) ∧ ESt w Z wr g mb N A n c (dedE S ((sides t).take j)) v ∧ wr.heap[tb]? = some (.cells #[.int .i64 t.1, .int .i64 t.2.1, .int .i64 t.2.2] 52 (0, 0))
theorem Try.infoEdge : (Try.prog.info? 45).map (fun i => (i.zero, i.size, i.bytes)) = some (some (.agg #[.int .i64 0, .int .i64 0]), 2, 16) := by kernel_rfl
def EdgesTold (w : World) (l : List Tr) (e : Ending) (w' : World) : Prop := ∃ es A c, e = .returned (.slice A es.length c) ∧ IsEdges l es ∧ w'.ownsRow w.heap.size 45 2 (.slice A es.length c) es.length (ints (flat2 es)) ∧ Below w.heap.size w w' ∧ es.length ≤ 3 * l.length

set_option maxHeartbeats 8000000 in
set_option maxRecDepth 100000 in
theorem sedges_no (w : World) (N : Int) (A : Option Addr) (n c : Nat) (l : List Tr) (h : T3 w A n l) (hn : n ≤ 1000000) (hf : ¬ Fit N l) :
    Calls Try.prog 26 #[.agg #[.int .i64 N, .slice A n c]] w fun e w' => e = .returned (.slice none 0 0) ∧ Below w.heap.size w w' := by
  have HL := Lib.hid h
  have HF := Lib.hid hf
  have K := Lib.hid (fun (w' : World) (h : T3 w' A n l) => sfits_any w' N A n c l h (by omega))
  clear h hf
  have B0 := Lib.hid ((Below.refl _ w).alloc (Nat.le_refl _) (.cells #[.int .i64 N, .slice A n c] 24))
  go_enter Try.func26, Try.ntmps26
  go_wp2_with fail
  refine (K.out _ (HL.out.below B0.out)).mono ?_
  rintro e w1 ⟨rfl, b1⟩
  have hd := decide_eq_false HF.out
  simp only [hd]
  have B1 := Lib.hid (up2 B0.out b1)
  clear b1 hd
  go_wp2_with fail
  go_ret
  exact ⟨rfl, B1.out⟩

set_option maxHeartbeats 8000000 in
set_option maxRecDepth 100000 in
theorem sedges_any (w : World) (N : Int) (A : Option Addr) (n c : Nat) (l : List Tr) (h : T3 w A n l) (hn : n ≤ 8192) (hf : Fit N l) :
    Calls Try.prog 26 #[.agg #[.int .i64 N, .slice A n c]] w (EdgesTold w l) := by
  have HL := Lib.hid h
  have HF := Lib.hid hf
  have K := Lib.hid (fun (w' : World) (h : T3 w' A n l) => sfits_any w' N A n c l h (by omega))
  obtain ⟨i0, hi, hz0, hz1, hz2⟩ := info_parts Try.infoEdge
  have HI := Lib.hid (And.intro hi (And.intro hz0 (And.intro hz1 hz2)))
  clear h hf hi hz0 hz1 hz2
  have B0 := Lib.hid ((Below.refl _ w).alloc (Nat.le_refl _) (.cells #[.int .i64 N, .slice A n c] 24))
  have X0 := Lib.hid (Bx.made w N A n c)
  have hmm := @run_makeMap Try.prog
  go_enter Try.func26, Try.ntmps26
  go_wp2_with fail
  refine (K.out _ (HL.out.below B0.out)).mono ?_
  rintro e w1 ⟨rfl, b1⟩
  have hd := decide_eq_true HF.out
  simp only [hd]
  have B1 := Lib.hid (up2 B0.out b1)
  have X1 := Lib.hid (X0.out.below b1)
  have M1 := Lib.hid (MapE.made w1)
  have bm := (Below.refl _ w1).alloc (Nat.le_refl _) (.map #[] 0)
  have X2 := Lib.hid (X1.out.below bm)
  have B2 := Lib.hid (up2 B1.out bm)
  clear b1 hd bm
  have e1 := X2.out.c1
  go_wp2_with fail
  obtain ⟨w2, hw2⟩ : ∃ w2, w1.alloc (.map #[] 0) = w2 := ⟨_, rfl⟩
  obtain ⟨g, hg⟩ : ∃ g, w.heap.size = g := ⟨_, rfl⟩
  obtain ⟨mb, hmb⟩ : ∃ mb, w1.heap.size = mb := ⟨_, rfl⟩
  have hZ : w2.heap.size = mb + 1 := by rw [← hw2, World.size_alloc, hmb]
  have S0 : ESt w (mb + 1) w2 g mb N A n c [] (.slice none 0 0) := by
    have h1 := M1.out
    have h2 := X2.out
    have h3 := B2.out
    have h4 := heap_lt X1.out
    have h5 := B1.out.size
    rw [hw2] at h1 h2 h3
    rw [hmb] at h1
    rw [hg] at h2
    exact ⟨h3, h2, h1, World.ownsRow_nil _ _ _ _, by omega, by omega, by omega, by omega, by omega⟩
  have SS := Lib.hid S0
  have HG := Lib.hid (And.intro hg hmb)
  simp only [hw2, hg, hmb]
  clear hw2 hg hmb e1 S0 hZ
  go_loopw [4, 18] (E1At w (mb + 1) g mb N A n c l) (fun _ i _ => n - (intOf i).toNat)
  case atStart => exact ⟨0, Nat.zero_le _, rfl, SS.out⟩
  case round =>
    obtain ⟨k, hk, rfl, hst⟩ := hrel
    have HS := Lib.hid hst
    clear hst
    by_cases hlt : k < n
    · have b1 : (k : Int) < n := by omega
      obtain ⟨b, off, rfl, hat⟩ := (HL.out.below HS.out.below).2 (by omega)
      obtain ⟨c0, c1, c2⟩ := hat k hlt
      clear hat
      have hkl : k < l.length := by rw [HL.out.1]; exact hlt
      have hok := HF.out.2.2.2 _ (getD3_mem hkl)
      have E := take_succ_getD3 l k hkl
      obtain ⟨x, hx⟩ : ∃ x, l.getD k z3 = x := ⟨_, rfl⟩
      have hSl : (dedE [] (allSides (l.take k))).length ≤ 3 * k := by
        have := dedE_len (allSides (l.take k)) []
        rw [allSides_len, List.length_take] at this
        simp only [List.length_nil] at this
        omega
      rw [hx] at c0 c1 c2 hok E
      have HE := Lib.hid E
      clear hx hkl E
      obtain ⟨x0, x1, x2⟩ := x
      have o0 := hok.1
      have o1 := hok.2.1
      have o2 := hok.2.2.1
      have hN := HF.out.2.1
      simp only [inN] at o0 o1 o2
      clear hok
      have U := Lib.hid (HS.out.up ((Below.refl _ wr).alloc (Nat.le_refl _) (.cells #[.int .i64 x0, .int .i64 x1, .int .i64 x2] 52)))
      have TB := Lib.hid (heap_alloc_new wr (.cells #[.int .i64 x0, .int .i64 x1, .int .i64 x2] 52))
      obtain ⟨S, hS⟩ : ∃ S, dedE [] (allSides (l.take k)) = S := ⟨_, rfl⟩
      rw [hS] at U hSl
      have HSS := Lib.hid hS
      clear hS
      go_wp2_with fail
      obtain ⟨tb, htb⟩ : ∃ tb, wr.heap.size = tb := ⟨_, rfl⟩
      obtain ⟨w3, hw3⟩ : ∃ w3, wr.alloc (.cells #[.int .i64 x0, .int .i64 x1, .int .i64 x2] 52) = w3 := ⟨_, rfl⟩
      rw [hw3] at U TB
      rw [htb] at TB
      simp only [hw3, htb]
      clear hw3 htb c0 c1 c2
      go_loopw [4, 22] (E2At w (mb + 1) g mb N (some ⟨b, off, none⟩) n c S (x0, x1, x2) tb) (fun _ i _ => 3 - (intOf i).toNat)
      case atStart => exact ⟨0, by omega, rfl, U.out, TB.out⟩
      case round =>
        obtain ⟨j, hj, rfl, hst, htb⟩ := hrel
        have HT := Lib.hid (And.intro hst htb)
        have d0 := cell_in htb 0
        have d1 := cell_in htb 1
        have d2 := cell_in htb 2
        simp only [List.getElem?_toArray, List.getElem?_cons_zero, List.getElem?_cons_succ] at d0 d1 d2
        obtain ⟨Av, cv, rfl⟩ := ownK_form hst.own
        clear hst htb
        have e1 : IntKind.i64.wrap 1 = 1 := by decide
        have e2 : IntKind.i64.wrap 2 = 2 := by decide
        have e3 : IntKind.i64.wrap 3 = 3 := by decide
        have m1 : (1 : Int).tmod 3 = 1 := by decide
        have m2 : (2 : Int).tmod 3 = 2 := by decide
        have m3 : (3 : Int).tmod 3 = 0 := by decide
        rcases (show j = 0 ∨ j = 1 ∨ j = 2 ∨ j = 3 by omega) with rfl | rfl | rfl | rfl
        · have hwf : wfE (min x0 x1, max x0 x1) := wfE_in (by omega) (by omega) (by omega) (by omega)
          have HN := Lib.hid (show sides (x0, x1, x2) = (sides (x0, x1, x2)).take 0 ++ (min x0 x1, max x0 x1) :: (sides (x0, x1, x2)).drop 1 from rfl)
          have hSj : (dedE S ((sides (x0, x1, x2)).take 0)).length ≤ 3 * k + 0 := by
            have := dedE_len ((sides (x0, x1, x2)).take 0) S
            have h2 := List.length_take_le 0 (sides (x0, x1, x2))
            omega
          have ED := Lib.hid (show dedE S ((sides (x0, x1, x2)).take (0 + 1)) = addE (dedE S ((sides (x0, x1, x2)).take 0)) (min x0 x1, max x0 x1) from by rw [← dedE_snoc]; rfl)
          obtain ⟨Sj, hSJ⟩ : ∃ Sj, dedE S ((sides (x0, x1, x2)).take 0) = Sj := ⟨_, rfl⟩
          rw [hSJ] at HT ED hSj
          simp only [hSJ]
          clear hSJ
          obtain ⟨L, hL⟩ : ∃ L, Sj.length = L := ⟨_, rfl⟩
          simp only [hL]
          have HLL := Lib.hid hL
          rw [hL] at hSj
          clear hL
          go_wp2_with fail
          go_quiet (fail)
          have HQ := Lib.hid (And.intro (HT.out.1.up (wr' := wr.drewN nq) (Reading.below ⟨nq, rfl⟩)) (show (wr.drewN nq).heap[tb]? = some (.cells #[.int .i64 x0, .int .i64 x1, .int .i64 x2] 52 (0, 0)) from HT.out.2))
          clear d0 d1 d2
          generalize wr.drewN nq = wq at *
          have HU := Lib.hid (HQ.out.1.up ((Below.refl _ wq).alloc (Nat.le_refl _) (.cells #[.int .i64 (min x0 x1), .int .i64 (max x0 x1)] 45)))
          have TU := Lib.hid ((((Below.refl _ wq).alloc (Nat.le_refl _) (.cells #[.int .i64 (min x0 x1), .int .i64 (max x0 x1)] 45)).block tb (heap_lt HQ.out.2)).trans HQ.out.2)
          have hlook := HU.out.mp.look (min x0 x1, max x0 x1) hwf
          by_cases hc : Sj.contains (min x0 x1, max x0 x1) = true
          · rw [hc] at hlook
            have HC := Lib.hid hc
            clear hc
            go_wp2_with fail
            have hno : addE Sj (min x0 x1, max x0 x1) = Sj := if_pos HC.out
            refine ⟨⟨0 + 1, by omega, by go_num, ?_, TU.out⟩, by simp [intOf]⟩
            rw [ED.out, hno]
            have := HU.out
            rwa [HLL.out] at this
          · have hc' : Sj.contains (min x0 x1, max x0 x1) = false := by simpa using hc
            rw [hc'] at hlook
            have HC := Lib.hid hc
            clear hc hc'
            obtain ⟨w6, hrun, hM6, hg6⟩ := HU.out.mp.put (min x0 x1, max x0 x1) hwf (by have := HLL.out; unfold maxLen; omega)
            have eb6 : w6.heap[wq.heap.size]? = some (.cells #[.int .i64 (min x0 x1), .int .i64 (max x0 x1)] 45 (0, 0)) := by
              have h1 := heap_alloc_new wq (.cells #[.int .i64 (min x0 x1), .int .i64 (max x0 x1)] 45)
              refine (hg6.block _ (heap_lt h1) (fun e => ?_)).trans h1
              have := Option.some.inj e
              have h3 := HQ.out.1.mz
              have h4 := HQ.out.1.zw
              omega
            have y0 : w6.cell? ⟨wq.heap.size, 0, none⟩ = some (.int .i64 (min x0 x1)) := by rw [cell_in eb6]; rfl
            have y1 : w6.cell? ⟨wq.heap.size, 1, none⟩ = some (.int .i64 (max x0 x1)) := by rw [cell_in eb6]; rfl
            have G6 := Lib.hid (And.intro hM6 hg6)
            obtain ⟨_, _, _, own6, z6⟩ := HU.out.put hg6 hM6
            have O9 := ownK_up own6 ((Below.refl _ w6).alloc (Nat.le_refl _) (.cells #[.int .i64 (min x0 x1), .int .i64 (max x0 x1)] 45))
            rw [HLL.out] at O9
            have O9 := Lib.hid O9
            have R9 := Lib.hid (Reads.of_block (xs := [.int .i64 (min x0 x1), .int .i64 (max x0 x1)]) (heap_alloc_new w6 (.cells #[.int .i64 (min x0 x1), .int .i64 (max x0 x1)] 45)))
            have Z6 := Lib.hid z6
            clear eb6 hM6 hg6 own6 z6
            go_wp2_with (at_builtin; refine wpList_append_lies _ rfl (.tmp 46) (.tmp 48) 42 rfl (mb + 1) 45 i0 (.agg #[.int .i64 0, .int .i64 0]) 2 16 Try.underlying42 HI.out.1 HI.out.2.1 HI.out.2.2.1 HI.out.2.2.2 rfl (by decide) (.slice Av L cv) L (ints (flat2 Sj)) rfl O9.out ⟨w6.heap.size, 0, none⟩ 1 1 [.int .i64 (min x0 x1), .int .i64 (max x0 x1)] rfl rfl (cells_of8 R9.out (by simp)) (ones2 _ _) (by decide) ?b10 ?b20 ?b30 _ rfl ?_)
            case b10 => unfold maxLen; omega
            case b20 => omega
            case b30 => have := Z6.out; simp; omega
            intro g9 cap9 w9 own9 gr9 hg9 hgl9
            have F := Lib.hid (HU.out.fin G6.out.2 G6.out.1 ((Below.refl _ w6).alloc (Nat.le_refl _) (.cells #[.int .i64 (min x0 x1), .int .i64 (max x0 x1)] 45)) (by rw [HLL.out]; exact own9) (by rw [HLL.out]; exact gr9))
            have FT := Lib.hid (HU.out.tri G6.out.2 G6.out.1 ((Below.refl _ w6).alloc (Nat.le_refl _) (.cells #[.int .i64 (min x0 x1), .int .i64 (max x0 x1)] 45)) (by rw [HLL.out]; exact gr9) TU.out)
            clear own9 gr9 hg9 hgl9
            go_wp2_with fail
            have hno : addE Sj (min x0 x1, max x0 x1) = Sj ++ [(min x0 x1, max x0 x1)] := if_neg HC.out
            refine ⟨⟨0 + 1, by omega, by go_num, ?_, FT.out⟩, by simp [intOf]⟩
            rw [ED.out, hno]
            exact F.out
        · have hwf : wfE (min x1 x2, max x1 x2) := wfE_in (by omega) (by omega) (by omega) (by omega)
          have HN := Lib.hid (show sides (x0, x1, x2) = (sides (x0, x1, x2)).take 1 ++ (min x1 x2, max x1 x2) :: (sides (x0, x1, x2)).drop 2 from rfl)
          have hSj : (dedE S ((sides (x0, x1, x2)).take 1)).length ≤ 3 * k + 1 := by
            have := dedE_len ((sides (x0, x1, x2)).take 1) S
            have h2 := List.length_take_le 1 (sides (x0, x1, x2))
            omega
          have ED := Lib.hid (show dedE S ((sides (x0, x1, x2)).take (1 + 1)) = addE (dedE S ((sides (x0, x1, x2)).take 1)) (min x1 x2, max x1 x2) from by rw [← dedE_snoc]; rfl)
          obtain ⟨Sj, hSJ⟩ : ∃ Sj, dedE S ((sides (x0, x1, x2)).take 1) = Sj := ⟨_, rfl⟩
          rw [hSJ] at HT ED hSj
          simp only [hSJ]
          clear hSJ
          obtain ⟨L, hL⟩ : ∃ L, Sj.length = L := ⟨_, rfl⟩
          simp only [hL]
          have HLL := Lib.hid hL
          rw [hL] at hSj
          clear hL
          go_wp2_with fail
          go_quiet (fail)
          have HQ := Lib.hid (And.intro (HT.out.1.up (wr' := wr.drewN nq) (Reading.below ⟨nq, rfl⟩)) (show (wr.drewN nq).heap[tb]? = some (.cells #[.int .i64 x0, .int .i64 x1, .int .i64 x2] 52 (0, 0)) from HT.out.2))
          clear d0 d1 d2
          generalize wr.drewN nq = wq at *
          have HU := Lib.hid (HQ.out.1.up ((Below.refl _ wq).alloc (Nat.le_refl _) (.cells #[.int .i64 (min x1 x2), .int .i64 (max x1 x2)] 45)))
          have TU := Lib.hid ((((Below.refl _ wq).alloc (Nat.le_refl _) (.cells #[.int .i64 (min x1 x2), .int .i64 (max x1 x2)] 45)).block tb (heap_lt HQ.out.2)).trans HQ.out.2)
          have hlook := HU.out.mp.look (min x1 x2, max x1 x2) hwf
          by_cases hc : Sj.contains (min x1 x2, max x1 x2) = true
          · rw [hc] at hlook
            have HC := Lib.hid hc
            clear hc
            go_wp2_with fail
            have hno : addE Sj (min x1 x2, max x1 x2) = Sj := if_pos HC.out
            refine ⟨⟨1 + 1, by omega, by go_num, ?_, TU.out⟩, by simp [intOf]⟩
            rw [ED.out, hno]
            have := HU.out
            rwa [HLL.out] at this
          · have hc' : Sj.contains (min x1 x2, max x1 x2) = false := by simpa using hc
            rw [hc'] at hlook
            have HC := Lib.hid hc
            clear hc hc'
            obtain ⟨w6, hrun, hM6, hg6⟩ := HU.out.mp.put (min x1 x2, max x1 x2) hwf (by have := HLL.out; unfold maxLen; omega)
            have eb6 : w6.heap[wq.heap.size]? = some (.cells #[.int .i64 (min x1 x2), .int .i64 (max x1 x2)] 45 (0, 0)) := by
              have h1 := heap_alloc_new wq (.cells #[.int .i64 (min x1 x2), .int .i64 (max x1 x2)] 45)
              refine (hg6.block _ (heap_lt h1) (fun e => ?_)).trans h1
              have := Option.some.inj e
              have h3 := HQ.out.1.mz
              have h4 := HQ.out.1.zw
              omega
            have y0 : w6.cell? ⟨wq.heap.size, 0, none⟩ = some (.int .i64 (min x1 x2)) := by rw [cell_in eb6]; rfl
            have y1 : w6.cell? ⟨wq.heap.size, 1, none⟩ = some (.int .i64 (max x1 x2)) := by rw [cell_in eb6]; rfl
            have G6 := Lib.hid (And.intro hM6 hg6)
            obtain ⟨_, _, _, own6, z6⟩ := HU.out.put hg6 hM6
            have O9 := ownK_up own6 ((Below.refl _ w6).alloc (Nat.le_refl _) (.cells #[.int .i64 (min x1 x2), .int .i64 (max x1 x2)] 45))
            rw [HLL.out] at O9
            have O9 := Lib.hid O9
            have R9 := Lib.hid (Reads.of_block (xs := [.int .i64 (min x1 x2), .int .i64 (max x1 x2)]) (heap_alloc_new w6 (.cells #[.int .i64 (min x1 x2), .int .i64 (max x1 x2)] 45)))
            have Z6 := Lib.hid z6
            clear eb6 hM6 hg6 own6 z6
            go_wp2_with (at_builtin; refine wpList_append_lies _ rfl (.tmp 46) (.tmp 48) 42 rfl (mb + 1) 45 i0 (.agg #[.int .i64 0, .int .i64 0]) 2 16 Try.underlying42 HI.out.1 HI.out.2.1 HI.out.2.2.1 HI.out.2.2.2 rfl (by decide) (.slice Av L cv) L (ints (flat2 Sj)) rfl O9.out ⟨w6.heap.size, 0, none⟩ 1 1 [.int .i64 (min x1 x2), .int .i64 (max x1 x2)] rfl rfl (cells_of8 R9.out (by simp)) (ones2 _ _) (by decide) ?b11 ?b21 ?b31 _ rfl ?_)
            case b11 => unfold maxLen; omega
            case b21 => omega
            case b31 => have := Z6.out; simp; omega
            intro g9 cap9 w9 own9 gr9 hg9 hgl9
            have F := Lib.hid (HU.out.fin G6.out.2 G6.out.1 ((Below.refl _ w6).alloc (Nat.le_refl _) (.cells #[.int .i64 (min x1 x2), .int .i64 (max x1 x2)] 45)) (by rw [HLL.out]; exact own9) (by rw [HLL.out]; exact gr9))
            have FT := Lib.hid (HU.out.tri G6.out.2 G6.out.1 ((Below.refl _ w6).alloc (Nat.le_refl _) (.cells #[.int .i64 (min x1 x2), .int .i64 (max x1 x2)] 45)) (by rw [HLL.out]; exact gr9) TU.out)
            clear own9 gr9 hg9 hgl9
            go_wp2_with fail
            have hno : addE Sj (min x1 x2, max x1 x2) = Sj ++ [(min x1 x2, max x1 x2)] := if_neg HC.out
            refine ⟨⟨1 + 1, by omega, by go_num, ?_, FT.out⟩, by simp [intOf]⟩
            rw [ED.out, hno]
            exact F.out
        · have hwf : wfE (min x2 x0, max x2 x0) := wfE_in (by omega) (by omega) (by omega) (by omega)
          have HN := Lib.hid (show sides (x0, x1, x2) = (sides (x0, x1, x2)).take 2 ++ (min x2 x0, max x2 x0) :: (sides (x0, x1, x2)).drop 3 from rfl)
          have hSj : (dedE S ((sides (x0, x1, x2)).take 2)).length ≤ 3 * k + 2 := by
            have := dedE_len ((sides (x0, x1, x2)).take 2) S
            have h2 := List.length_take_le 2 (sides (x0, x1, x2))
            omega
          have ED := Lib.hid (show dedE S ((sides (x0, x1, x2)).take (2 + 1)) = addE (dedE S ((sides (x0, x1, x2)).take 2)) (min x2 x0, max x2 x0) from by rw [← dedE_snoc]; rfl)
          obtain ⟨Sj, hSJ⟩ : ∃ Sj, dedE S ((sides (x0, x1, x2)).take 2) = Sj := ⟨_, rfl⟩
          rw [hSJ] at HT ED hSj
          simp only [hSJ]
          clear hSJ
          obtain ⟨L, hL⟩ : ∃ L, Sj.length = L := ⟨_, rfl⟩
          simp only [hL]
          have HLL := Lib.hid hL
          rw [hL] at hSj
          clear hL
          go_wp2_with fail
          go_quiet (fail)
          have HQ := Lib.hid (And.intro (HT.out.1.up (wr' := wr.drewN nq) (Reading.below ⟨nq, rfl⟩)) (show (wr.drewN nq).heap[tb]? = some (.cells #[.int .i64 x0, .int .i64 x1, .int .i64 x2] 52 (0, 0)) from HT.out.2))
          clear d0 d1 d2
          generalize wr.drewN nq = wq at *
          have HU := Lib.hid (HQ.out.1.up ((Below.refl _ wq).alloc (Nat.le_refl _) (.cells #[.int .i64 (min x2 x0), .int .i64 (max x2 x0)] 45)))
          have TU := Lib.hid ((((Below.refl _ wq).alloc (Nat.le_refl _) (.cells #[.int .i64 (min x2 x0), .int .i64 (max x2 x0)] 45)).block tb (heap_lt HQ.out.2)).trans HQ.out.2)
          have hlook := HU.out.mp.look (min x2 x0, max x2 x0) hwf
          by_cases hc : Sj.contains (min x2 x0, max x2 x0) = true
          · rw [hc] at hlook
            have HC := Lib.hid hc
            clear hc
            go_wp2_with fail
            have hno : addE Sj (min x2 x0, max x2 x0) = Sj := if_pos HC.out
            refine ⟨⟨2 + 1, by omega, by go_num, ?_, TU.out⟩, by simp [intOf]⟩
            rw [ED.out, hno]
            have := HU.out
            rwa [HLL.out] at this
          · have hc' : Sj.contains (min x2 x0, max x2 x0) = false := by simpa using hc
            rw [hc'] at hlook
            have HC := Lib.hid hc
            clear hc hc'
            obtain ⟨w6, hrun, hM6, hg6⟩ := HU.out.mp.put (min x2 x0, max x2 x0) hwf (by have := HLL.out; unfold maxLen; omega)
            have eb6 : w6.heap[wq.heap.size]? = some (.cells #[.int .i64 (min x2 x0), .int .i64 (max x2 x0)] 45 (0, 0)) := by
              have h1 := heap_alloc_new wq (.cells #[.int .i64 (min x2 x0), .int .i64 (max x2 x0)] 45)
              refine (hg6.block _ (heap_lt h1) (fun e => ?_)).trans h1
              have := Option.some.inj e
              have h3 := HQ.out.1.mz
              have h4 := HQ.out.1.zw
              omega
            have y0 : w6.cell? ⟨wq.heap.size, 0, none⟩ = some (.int .i64 (min x2 x0)) := by rw [cell_in eb6]; rfl
            have y1 : w6.cell? ⟨wq.heap.size, 1, none⟩ = some (.int .i64 (max x2 x0)) := by rw [cell_in eb6]; rfl
            have G6 := Lib.hid (And.intro hM6 hg6)
            obtain ⟨_, _, _, own6, z6⟩ := HU.out.put hg6 hM6
            have O9 := ownK_up own6 ((Below.refl _ w6).alloc (Nat.le_refl _) (.cells #[.int .i64 (min x2 x0), .int .i64 (max x2 x0)] 45))
            rw [HLL.out] at O9
            have O9 := Lib.hid O9
            have R9 := Lib.hid (Reads.of_block (xs := [.int .i64 (min x2 x0), .int .i64 (max x2 x0)]) (heap_alloc_new w6 (.cells #[.int .i64 (min x2 x0), .int .i64 (max x2 x0)] 45)))
            have Z6 := Lib.hid z6
            clear eb6 hM6 hg6 own6 z6
            go_wp2_with (at_builtin; refine wpList_append_lies _ rfl (.tmp 46) (.tmp 48) 42 rfl (mb + 1) 45 i0 (.agg #[.int .i64 0, .int .i64 0]) 2 16 Try.underlying42 HI.out.1 HI.out.2.1 HI.out.2.2.1 HI.out.2.2.2 rfl (by decide) (.slice Av L cv) L (ints (flat2 Sj)) rfl O9.out ⟨w6.heap.size, 0, none⟩ 1 1 [.int .i64 (min x2 x0), .int .i64 (max x2 x0)] rfl rfl (cells_of8 R9.out (by simp)) (ones2 _ _) (by decide) ?b12 ?b22 ?b32 _ rfl ?_)
            case b12 => unfold maxLen; omega
            case b22 => omega
            case b32 => have := Z6.out; simp; omega
            intro g9 cap9 w9 own9 gr9 hg9 hgl9
            have F := Lib.hid (HU.out.fin G6.out.2 G6.out.1 ((Below.refl _ w6).alloc (Nat.le_refl _) (.cells #[.int .i64 (min x2 x0), .int .i64 (max x2 x0)] 45)) (by rw [HLL.out]; exact own9) (by rw [HLL.out]; exact gr9))
            have FT := Lib.hid (HU.out.tri G6.out.2 G6.out.1 ((Below.refl _ w6).alloc (Nat.le_refl _) (.cells #[.int .i64 (min x2 x0), .int .i64 (max x2 x0)] 45)) (by rw [HLL.out]; exact gr9) TU.out)
            clear own9 gr9 hg9 hgl9
            go_wp2_with fail
            have hno : addE Sj (min x2 x0, max x2 x0) = Sj ++ [(min x2 x0, max x2 x0)] := if_neg HC.out
            refine ⟨⟨2 + 1, by omega, by go_num, ?_, FT.out⟩, by simp [intOf]⟩
            rw [ED.out, hno]
            exact F.out
        · go_wp2_with fail
          refine ⟨⟨k + 1, by omega, by go_num, ?_⟩, by simp [intOf]; omega⟩
          rw [HE.out, allSides_snoc, dedE_append, HSS.out]
          exact HT.out.1
    · obtain rfl : k = n := by omega
      have b1 : ¬ (k : Int) < k := by omega
      have HS1 := HS.out
      rw [List.take_of_length_le (by rw [HL.out.1]; exact Nat.le_refl _)] at HS1
      obtain ⟨S, hS⟩ : ∃ S, dedE [] (allSides l) = S := ⟨_, rfl⟩
      have hSl : S.length ≤ 3 * k := by
        have := dedE_len (allSides l) []
        rw [allSides_len, HL.out.1, hS] at this
        simpa using this
      have hSm : ∀ e, e ∈ S ↔ e ∈ allSides l := fun e => by rw [← hS, dedE_mem]; simp
      have hSn : S.Nodup := by rw [← hS]; exact dedE_nodup _ _ (by simp)
      rw [hS] at HS1
      clear hS
      obtain ⟨Av, cv, hv⟩ := ownK_form HS1.own
      subst hv
      have HD := Lib.hid (And.intro HS1 (And.intro hSm (And.intro hSn hSl)))
      have hwz : w.heap.size ≤ mb + 1 := by have := HS1.wm; omega
      clear HS1 hSm hSn hSl
      by_cases h0 : S.length = 0
      · have hnil : S = [] := List.eq_nil_of_length_eq_zero h0
        have KS := Lib.hid (AnyF.slices_SortFunc_none Try.sortE Av cv (.func (.func 41) #[] #[]) wr)
        rw [h0] at *
        go_wp2_with fail
        refine KS.out.mono ?_
        rintro e w9 ⟨rfl, rfl⟩
        go_wp2_with fail
        go_ret
        have ho := HD.out.1.own
        rw [hnil] at ho
        exact ⟨[], Av, cv, rfl, ⟨List.Pairwise.nil, fun e => by rw [← HD.out.2.1, hnil]⟩, ownK_base ho hwz, HD.out.1.below, by simp⟩
      · obtain ⟨q, cap, hq⟩ := own_some8 HD.out.1.own (by omega)
        injection hq with hq _ hcap
        subst hq hcap
        have KS := Lib.hid (ssort_any wr (mb + 1) q S.length cv S HD.out.1.own (by have := HD.out.2.2.2; omega))
        go_wp2_with fail
        refine KS.out.mono ?_
        rintro e w9 ⟨L', rfl, hp, hs, own9, b9⟩
        have HZ := Lib.hid (And.intro hp (And.intro hs (And.intro own9 b9)))
        clear hp hs own9 b9
        go_wp2_with fail
        go_ret
        have hlen : L'.length = S.length := HZ.out.1.length_eq
        refine ⟨L', some ⟨q, 0, none⟩, cv, by rw [hlen]; rfl, sorted_isEdges HZ.out.1 HZ.out.2.1 HD.out.2.2.1 HD.out.2.1, ?_, HD.out.1.below.trans (HZ.out.2.2.2.mono hwz), ?_⟩
        · rw [hlen]; exact ownK_base HZ.out.2.2.1 hwz
        · rw [hlen, HL.out.1]; exact HD.out.2.2.2
end Go.Proofs.Ytoianhaocjiffaa
