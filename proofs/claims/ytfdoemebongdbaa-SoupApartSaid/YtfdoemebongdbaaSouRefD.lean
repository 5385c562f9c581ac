/- The document's answer for layer 8: picked. -/
import Derived.Test.YtfdoemebongdbaaSouRefA
import Derived.Test.YtfdoemebongdbaaSouRFit
namespace Go.Proofs.Ytfdoemebongdbaa
open Go.RowKit

set_option maxHeartbeats 4000000 in
set_option maxRecDepth 100000 in
theorem rpick_arg (w : World) (N : Int) (A B : Option Addr) (n c m d : Nat) (l : List Tr) (h : T3 w A n l) (hn : n ≤ 1000000) (hf : ¬ Fit N l) :
    Calls Try.prog 23 #[.agg #[.int .i64 N, .slice A n c], .slice B m d] w (ErrS w 1) := by
  have HL := Lib.hid h
  have HF := Lib.hid hf
  have K := Lib.hid (fun (w' : World) (h : T3 w' A n l) => rfits_any w' N A n c l h (by omega))
  clear h hf
  go_enter Try.func23, Try.ntmps23
  go_wp2_with fail
  obtain ⟨y, hy⟩ : ∃ y, y = (w.alloc (.cells #[.int .i64 N, .slice A n c] 24)).alloc (.cells #[.int .i64 0, .slice none 0 0] 24) := ⟨_, rfl⟩
  have T := Lib.hid (two_boxes w N A n c y hy)
  simp only [← hy]
  clear hy
  obtain ⟨g, hg⟩ : ∃ g, w.heap.size = g := ⟨_, rfl⟩
  have HG := Lib.hid hg
  simp only [hg]
  rw [hg] at T
  clear hg
  refine (K.out _ (HL.out.below (by rw [HG.out]; exact T.out.1))).mono ?_
  rintro e w1 ⟨rfl, b1⟩
  have hd := decide_eq_false HF.out
  simp only [hd]
  have R := T.out.2.2.below b1
  have z0 := R.c0
  have z1 := R.c1
  have f0 := frozen_in R 0
  have f1 := frozen_in R 1
  have HR := Lib.hid R
  have B1 := Lib.hid (T.out.1.trans (b1.mono (by have := T.out.1.size; have := HG.out; omega)))
  clear b1 R hd
  go_wp2_with fail
  refine bodyPost_ret (results_row2 rfl _ _ (g + 1) 24 _ (0, 0) _ rfl (errS_row HR.out) Try.underlying24 rfl (by kernel_rfl)) rfl ⟨rfl, ?_⟩
  rw [HG.out]
  exact below_set2 B1.out (by omega) _ _

def PickAt (w : World) (g r ob Z : Nat) (N : Int) (A : Option Addr) (n c : Nat) (l : List Tr) (cs : List Int) (m : Nat) (i : Value) (wr : World) : Prop := ∃ k v, k ≤ m ∧ i = .int .i64 ((k : Nat) : Int) ∧ RSt w wr g r ob Z N N A n c ((List.range k).map (fun i => pickT l (cs.getD i 0))) v ∧ ∀ j, j < k → inN (3 * (n : Int)) (cs.getD j 0)
def PickTold (w : World) (N : Int) (n : Nat) (l : List Tr) (cs : List Int) (e : Ending) (w' : World) : Prop := (allIn (3 * (n : Int)) cs ∧ OkS w N (cs.map (pickT l)) e w') ∨ (¬ allIn (3 * (n : Int)) cs ∧ ErrS w 2 e w')

set_option maxHeartbeats 8000000 in
set_option maxRecDepth 100000 in
theorem rpick_any (w : World) (N : Int) (A B : Option Addr) (n c m d : Nat) (l : List Tr) (cs : List Int) (h : T3 w A n l) (ht : Reads w B m (ints cs)) (hn : n ≤ 1000000) (hm : m ≤ 8192) (hf : Fit N l) :
    Calls Try.prog 23 #[.agg #[.int .i64 N, .slice A n c], .slice B m d] w (PickTold w N n l cs) := by
  have HL := Lib.hid h
  have HT := Lib.hid ht
  have HF := Lib.hid hf
  have K := Lib.hid (fun (w' : World) (h : T3 w' A n l) => rfits_any w' N A n c l h (by omega))
  have wr3 : IntKind.i64.wrap (3 * (n : Int)) = 3 * (n : Int) := IntWalk.i64_in _ (by omega)
  have t8 : ¬ (8192 : Int) < (m : Int) := by omega
  clear h hf ht
  go_enter Try.func23, Try.ntmps23
  go_wp2_with fail
  obtain ⟨y, hy⟩ : ∃ y, y = (w.alloc (.cells #[.int .i64 N, .slice A n c] 24)).alloc (.cells #[.int .i64 0, .slice none 0 0] 24) := ⟨_, rfl⟩
  have T := Lib.hid (two_boxes w N A n c y hy)
  simp only [← hy]
  clear hy
  obtain ⟨g, hg⟩ : ∃ g, w.heap.size = g := ⟨_, rfl⟩
  have HG := Lib.hid hg
  simp only [hg]
  rw [hg] at T
  clear hg
  refine (K.out _ (HL.out.below (by rw [HG.out]; exact T.out.1))).mono ?_
  rintro e w1 ⟨rfl, b1⟩
  have hd := decide_eq_true HF.out
  simp only [hd]
  have B1 := Lib.hid (show Below w.heap.size w w1 by rw [HG.out]; exact T.out.1.trans (b1.mono (by have := T.out.1.size; have := HG.out; omega)))
  have BX := Lib.hid (T.out.2.1.below b1)
  have HR := Lib.hid (T.out.2.2.below b1)
  have e0 := BX.out.c0
  clear b1 hd
  have S0 := Lib.hid (RSt.first (M := N) B1.out BX.out HR.out rfl)
  go_wp2_with fail
  obtain ⟨ob, hob⟩ : ∃ ob, w1.heap.size = ob := ⟨_, rfl⟩
  obtain ⟨w3, hw3⟩ : ∃ w3, w1.alloc (.cells #[.int .i64 N, .slice none 0 0] 24) = w3 := ⟨_, rfl⟩
  rw [hw3, hob] at S0
  simp only [hw3, hob]
  clear hw3 hob e0
  go_loopw [7] (PickAt w g (g + 1) ob (ob + 1) N A n c l cs m) (fun i _ => m - (intOf i).toNat)
  case atStart => exact ⟨0, _, Nat.zero_le _, rfl, S0.out, fun j hj => absurd hj (by omega)⟩
  case round =>
    obtain ⟨k, v, hk, rfl, hst, hpr⟩ := hrel
    obtain ⟨Av, cv, rfl⟩ := ownK_form hst.own
    have HS := Lib.hid hst
    have HP := Lib.hid hpr
    have e1 := hst.bx.c1
    have o1 : wr.cell? ⟨ob, 1, none⟩ = some (.slice Av ((List.range k).map (fun i => pickT l (cs.getD i 0))).length cv) := by rw [cell_in hst.ob']; rfl
    have o0 : wr.cell? ⟨ob, 0, none⟩ = some (.int .i64 N) := by rw [cell_in hst.ob']; rfl
    rw [List.length_map, List.length_range] at o1
    clear hst hpr
    by_cases hlt : k < m
    · have b1 : (k : Int) < m := by omega
      obtain ⟨ad, rfl, c0⟩ := (HT.out.below HS.out.below).int k hlt
      obtain ⟨C, hC⟩ : ∃ C, cs.getD k 0 = C := ⟨_, rfl⟩
      have HC := Lib.hid hC
      have hmem := getDi_mem (show k < cs.length by rw [HT.out.len]; exact hlt)
      rw [hC] at c0 hmem
      have HMM := Lib.hid hmem
      clear hC hmem
      have z0 := HS.out.res.c0
      have z1 := HS.out.res.c1
      have f0 := frozen_in HS.out.res 0
      have f1 := frozen_in HS.out.res 1
      by_cases h0 : C < 0
      · go_wp2_with fail
        refine bodyPost_ret (results_row2 rfl _ _ (g + 1) 24 _ (0, 0) _ rfl (errS_row HS.out.res) Try.underlying24 rfl (by kernel_rfl)) rfl (.inr ⟨fun hc => ?_, rfl, below_set2 HS.out.below (by have := HG.out; omega) _ _⟩)
        have := (hc _ HMM.out).1
        omega
      · by_cases h3 : 3 * (n : Int) ≤ C
        · go_wp2_with fail
          refine bodyPost_ret (results_row2 rfl _ _ (g + 1) 24 _ (0, 0) _ rfl (errS_row HS.out.res) Try.underlying24 rfl (by kernel_rfl)) rfl (.inr ⟨fun hc => ?_, rfl, below_set2 HS.out.below (by have := HG.out; omega) _ _⟩)
          have := (hc _ HMM.out).2
          omega
        · have HIN := Lib.hid (show inN (3 * (n : Int)) C from ⟨by omega, by omega⟩)
          obtain ⟨a, ha⟩ : ∃ a : Nat, C.toNat / 3 = a := ⟨_, rfl⟩
          obtain ⟨r, hr⟩ : ∃ r : Nat, C.toNat % 3 = r := ⟨_, rfl⟩
          have hq3 : C.tdiv 3 = (a : Int) := by rw [Int.tdiv_eq_ediv_of_nonneg (by omega)]; omega
          have hr3 : C.tmod 3 = (r : Int) := by rw [Int.tmod_eq_emod_of_nonneg (by omega)]; omega
          have han : a < n := by omega
          have hr2 : r < 3 := by omega
          have b2 : (a : Int) < n := by omega
          have wa : IntKind.i64.wrap (a : Int) = (a : Int) := IntWalk.i64_in _ (by omega)
          have wb : IntKind.i64.wrap (r : Int) = (r : Int) := IntWalk.i64_in _ (by omega)
          have HAR := Lib.hid (And.intro ha hr)
          clear ha hr z0 z1 f0 f1
          obtain ⟨b, off, rfl, hat⟩ := (HL.out.below HS.out.below).2 (by omega)
          obtain ⟨d0, d1, d2⟩ := hat a han
          clear hat
          obtain ⟨x, hx⟩ : ∃ x, l.getD a z3 = x := ⟨_, rfl⟩
          have HX := Lib.hid hx
          rw [hx] at d0 d1 d2
          clear hx
          obtain ⟨x0, x1, x2⟩ := x
          have KT := Lib.hid (rturned_any wr.drew (x0, x1, x2) r hr2)
          obtain ⟨rr, hrr⟩ : ∃ rr, rotT (x0, x1, x2) r = rr := ⟨_, rfl⟩
          have HRR := Lib.hid hrr
          rw [hrr] at KT
          clear hrr
          obtain ⟨r0, r1, r2⟩ := rr
          have d0 : wr.drew.cell? ⟨b, off + a * 3, none⟩ = some (.int .i64 x0) := d0
          have d1 : wr.drew.cell? ⟨b, off + a * 3 + 1, none⟩ = some (.int .i64 x1) := d1
          have d2 : wr.drew.cell? ⟨b, off + a * 3 + 2, none⟩ = some (.int .i64 x2) := d2
          have d3 : wr.drew.cell? ⟨g, 1, none⟩ = some (.slice (some ⟨b, off, none⟩) n c) := e1
          have d4 : wr.drew.cell? ⟨ob, 1, none⟩ = some (.slice Av k cv) := o1
          have HH := Lib.hid (fun (W : World) (b8 : Below wr.drew.heap.size wr.drew W) => (⟨(b8.cell (p := ⟨g, 1, none⟩) (World.block_lt_of_cell? wr.drew _ d3)).trans d3, (b8.cell (p := ⟨b, off + a * 3, none⟩) (World.block_lt_of_cell? wr.drew _ d0)).trans d0, (b8.cell (p := ⟨b, off + a * 3 + 1, none⟩) (World.block_lt_of_cell? wr.drew _ d1)).trans d1, (b8.cell (p := ⟨b, off + a * 3 + 2, none⟩) (World.block_lt_of_cell? wr.drew _ d2)).trans d2⟩ : _ ∧ _ ∧ _ ∧ _))
          have HH9 := Lib.hid (fun (W : World) (b9 : Below w.heap.size w W) (g9 : Bx W g N (some ⟨b, off, none⟩) n c) => (show W.cell? ⟨g, 1, none⟩ = some (.slice (some ⟨b, off, none⟩) n c) ∧ W.cell? ⟨b, off + a * 3, none⟩ = some (.int .i64 x0) ∧ W.cell? ⟨b, off + a * 3 + 1, none⟩ = some (.int .i64 x1) ∧ W.cell? ⟨b, off + a * 3 + 2, none⟩ = some (.int .i64 x2) by
            have := (HL.out.below b9).at a han
            rw [HX.out] at this
            exact ⟨g9.c1, this⟩))
          have N1 : g ≠ ob := HS.out.go
          have hbw : b < w.heap.size := by
            have := World.block_lt_of_cell? w _ (HL.out.at a han).1
            simpa using this
          have N2 : b ≠ ob := by have := HS.out.wo; omega
          clear hbw
          have HD := HS.out.up (wr' := wr.drew) (Reading.below ⟨1, rfl⟩)
          have hlen : ((List.range k).map (fun i => pickT l (cs.getD i 0))).length = k := by simp
          obtain ⟨Lk, hLk⟩ : ∃ Lk, (List.range k).map (fun i => pickT l (cs.getD i 0)) = Lk := ⟨_, rfl⟩
          have hL1 : (List.range (k + 1)).map (fun i => pickT l (cs.getD i 0)) = Lk ++ [(r0, r1, r2)] := by rw [List.range_succ, List.map_append, hLk, List.map_singleton, HC.out, pickT, HAR.out.1, HAR.out.2, HX.out, HRR.out]
          rw [hLk] at HD hlen
          rw [hlen] at HD
          have HL1 := Lib.hid (And.intro hL1 hlen)
          have HDD := Lib.hid HD
          clear hLk hL1 HD hlen
          go_wp2_with fail
          refine wp_region_noPanic ?_
          refine wp_region_held_drew (S := fun w' => w'.cell? ⟨g, 1, none⟩ = some (.slice (some ⟨b, off, none⟩) n c) ∧ w'.cell? ⟨b, off + a * 3, none⟩ = some (.int .i64 x0) ∧ w'.cell? ⟨b, off + a * 3 + 1, none⟩ = some (.int .i64 x1) ∧ w'.cell? ⟨b, off + a * 3 + 2, none⟩ = some (.int .i64 x2)) (by kernel_rfl) ⟨d3, d0, d1, d2⟩ (fun _ => ?_)
          refine wpAnyH_take (i := 0) (v := ?v0) rfl (by kernel_rfl) (by kernel_rfl) (by kernel_rfl) (fun _ _ _ h => h) (Or.inl ⟨by rfl, ?y0⟩) ⟨d3, d0, d1, d2⟩ ?_
          case y0 => (intro w hSw; (try dsimp only at hSw); go_simp; try with_reducible rfl)
          simp only [Act.put, List.setIfInBounds_toArray, List.set_cons_zero, List.set_cons_succ, List.getElem_toArray, List.getElem_cons_zero]
          refine wpAnyH_take (i := 2) (v := ?v2) rfl (by kernel_rfl) (by kernel_rfl) (by kernel_rfl) (fun _ _ _ h => h) (Or.inl ⟨by rfl, ?y2⟩) ⟨d3, d0, d1, d2⟩ ?_
          case y2 => (intro w hSw; (try dsimp only at hSw); go_simp; try with_reducible rfl)
          simp only [Act.put, List.setIfInBounds_toArray, List.set_cons_zero, List.set_cons_succ, List.getElem_toArray, List.getElem_cons_zero, List.getElem_cons_succ]
          refine wpAnyH_take (i := 3) (v := ?v3) rfl (by kernel_rfl) (by kernel_rfl) (by kernel_rfl) (fun _ _ _ h => h) (Or.inl ⟨by rfl, ?y3⟩) ⟨d3, d0, d1, d2⟩ ?_
          case y3 => (intro w hSw; (try dsimp only at hSw); go_simp; try with_reducible rfl)
          simp only [Act.put, List.setIfInBounds_toArray, List.set_cons_zero, List.set_cons_succ, List.getElem_toArray, List.getElem_cons_zero, List.getElem_cons_succ]
          refine wpAnyH_take (i := 4) (v := ?v4) rfl (by kernel_rfl) (by kernel_rfl) (by kernel_rfl) (fun _ _ _ h => h) (Or.inl ⟨by rfl, ?y4⟩) ⟨d3, d0, d1, d2⟩ ?_
          case y4 => (intro w hSw; (try dsimp only at hSw); go_simp; try with_reducible rfl)
          simp only [Act.put, List.setIfInBounds_toArray, List.set_cons_zero, List.set_cons_succ, List.getElem_toArray, List.getElem_cons_zero, List.getElem_cons_succ]
          refine wpAnyH_take (i := 5) (v := ?v5) rfl (by kernel_rfl) (by kernel_rfl) (by kernel_rfl) (fun _ _ _ h => h) (Or.inl ⟨by rfl, ?y5⟩) ⟨d3, d0, d1, d2⟩ ?_
          case y5 => (intro w hSw; (try dsimp only at hSw); go_simp; try with_reducible rfl)
          simp only [Act.put, List.setIfInBounds_toArray, List.set_cons_zero, List.set_cons_succ, List.getElem_toArray, List.getElem_cons_zero, List.getElem_cons_succ]
          refine wpAnyH_take (i := 6) (v := ?v6) rfl (by kernel_rfl) (by kernel_rfl) (by kernel_rfl) (fun _ _ _ h => h) (Or.inl ⟨by rfl, ?y6⟩) ⟨d3, d0, d1, d2⟩ ?_
          case y6 => (intro w hSw; (try dsimp only at hSw); go_simp; try with_reducible rfl)
          simp only [Act.put, List.setIfInBounds_toArray, List.set_cons_zero, List.set_cons_succ, List.getElem_toArray, List.getElem_cons_zero, List.getElem_cons_succ]
          refine wpAnyH_take (i := 7) (v := ?v7) rfl (by kernel_rfl) (by kernel_rfl) (by kernel_rfl) (fun _ _ _ h => h) (Or.inl ⟨by rfl, ?y7⟩) ⟨d3, d0, d1, d2⟩ ?_
          case y7 => (intro w hSw; (try dsimp only at hSw); go_simp; try with_reducible rfl)
          simp only [Act.put, List.setIfInBounds_toArray, List.set_cons_zero, List.set_cons_succ, List.getElem_toArray, List.getElem_cons_zero, List.getElem_cons_succ]
          refine wpAnyH_take (i := 8) (v := ?v8) rfl (by kernel_rfl) (by kernel_rfl) (by kernel_rfl) (fun _ _ _ h => h) (Or.inl ⟨by rfl, ?y8⟩) ⟨d3, d0, d1, d2⟩ ?_
          case y8 => (intro w hSw; (try dsimp only at hSw); go_simp; try with_reducible rfl)
          simp only [Act.put, List.setIfInBounds_toArray, List.set_cons_zero, List.set_cons_succ, List.getElem_toArray, List.getElem_cons_zero, List.getElem_cons_succ]
          refine wpAnyH_take (i := 9) (v := ?v9) rfl (by kernel_rfl) (by kernel_rfl) (by kernel_rfl) (fun _ _ _ h => h) (Or.inl ⟨by rfl, ?y9⟩) ⟨d3, d0, d1, d2⟩ ?_
          case y9 => (intro w hSw; (try dsimp only at hSw); go_simp; try with_reducible rfl)
          simp only [Act.put, List.setIfInBounds_toArray, List.set_cons_zero, List.set_cons_succ, List.getElem_toArray, List.getElem_cons_zero, List.getElem_cons_succ]
          refine wpAnyH_ready (rs := [1, 10]) (by kernel_rfl) (by simp) ?_
          refine AllReadyH.cons rfl (fun K hK => ?_) (AllReadyH.cons rfl (fun K hK => ?_) AllReadyH.nil)
          · go_simp
            refine hK.out _ _ ⟨d3, d0, d1, d2⟩ (fun _ => ?_)
            clear hK K
            try simp only [Act.put, List.setIfInBounds_toArray, List.set_cons_zero, List.set_cons_succ, List.getElem_toArray, List.getElem_cons_zero, List.getElem_cons_succ]
            refine wpAnyH_ready (rs := [10]) (by kernel_rfl) (by simp) ?_
            refine AllReadyH.cons rfl (fun K hK => ?_) AllReadyH.nil
            rw [if_pos (by rfl)]
            go_wp2_with fail
            refine KT.out.mono ?_
            rintro e w5 ⟨rfl, b5⟩
            have s5 := HH.out w5 b5
            have o5 := (b5.cell (p := ⟨ob, 1, none⟩) (World.block_lt_of_cell? wr.drew _ d4)).trans d4
            have o6 : (w5.alloc (.cells #[.int .i64 r0, .int .i64 r1, .int .i64 r2] 51)).cell? ⟨ob, 1, none⟩ = some (.slice Av k cv) := (((Below.refl _ w5).alloc (Nat.le_refl _) _).cell (World.block_lt_of_cell? w5 _ o5)).trans o5
            have B5 := Lib.hid b5
            have s6 := HH.out (w5.alloc (.cells #[.int .i64 r0, .int .i64 r1, .int .i64 r2] 51)) (b5.trans (((Below.refl _ w5).alloc (Nat.le_refl _) _).mono b5.size))
            clear b5
            go_wp2_with fail
            refine hK.out _ _ s5 (fun _ => ?_)
            clear hK K
            try simp only [Act.put, List.setIfInBounds_toArray, List.set_cons_zero, List.set_cons_succ, List.getElem_toArray, List.getElem_cons_zero, List.getElem_cons_succ]
            refine wpAnyH_ready (rs := [11]) (by kernel_rfl) (by simp) ?_
            refine AllReadyH.cons rfl (fun K hK => ?_) AllReadyH.nil
            go_simp
            refine hK.out _ _ s6 (fun _ => ?_)
            clear hK K
            try simp only [Act.put, List.setIfInBounds_toArray, List.set_cons_zero, List.set_cons_succ, List.getElem_toArray, List.getElem_cons_zero, List.getElem_cons_succ]
            refine wpAnyH_ready (rs := [12]) (by kernel_rfl) (by simp) ?_
            refine AllReadyH.cons rfl (fun K hK => ?_) AllReadyH.nil
            refine (HDD.out.up B5.out).step (r0, r1, r2) (by rfl) (.tmp 38) (.tmp 48) (by rfl) (by go_simp) (by go_simp) (by have := HL1.out.2; omega) ?_
            intro A9 c9 w9 st9 o9 b9 g9
            have s9 := HH9.out w9 b9 g9
            have p9 : w9.cell? ⟨ob, 1, none⟩ = some (.slice Av k cv) := by rw [cell_in o9]; rfl
            have f9 := frozen_in o9 1
            have sf := fun v => (⟨(far1 N1 1 v).trans s9.1, (far1 N2 1 v).trans s9.2.1, (far1 N2 1 v).trans s9.2.2.1, (far1 N2 1 v).trans s9.2.2.2⟩ : _ ∧ _ ∧ _ ∧ _)
            have ST := Lib.hid st9
            clear st9 o9 b9 g9
            refine hK.out _ _ s9 (fun _ => ?_)
            clear hK K
            try simp only [Act.put, List.setIfInBounds_toArray, List.set_cons_zero, List.set_cons_succ, List.getElem_toArray, List.getElem_cons_zero, List.getElem_cons_succ]
            refine wpAnyH_take (i := 13) (v := ?v13) rfl (by kernel_rfl) (by kernel_rfl) (by kernel_rfl) (fun _ _ _ h => h) (Or.inl ⟨by rfl, ?y13⟩) s9 ?_
            case y13 => (intro w hSw; (try dsimp only at hSw); go_simp; try with_reducible rfl)
            simp only [Act.put, List.setIfInBounds_toArray, List.set_cons_zero, List.set_cons_succ, List.getElem_toArray, List.getElem_cons_zero, List.getElem_cons_succ]
            refine wpAnyH_ready (rs := [14]) (by kernel_rfl) (by simp) ?_
            refine AllReadyH.cons rfl (fun K hK => ?_) AllReadyH.nil
            go_simp
            refine hK.out _ _ (sf _) (fun _ => ?_)
            clear hK K
            try simp only [Act.put, List.setIfInBounds_toArray, List.set_cons_zero, List.set_cons_succ, List.getElem_toArray, List.getElem_cons_zero, List.getElem_cons_succ]
            refine wpAnyH_done (by kernel_rfl) ?_ _
            refine NoPanic.normal ?_
            go_wp2_with fail
            refine ⟨⟨k + 1, .slice A9 (Lk.length + 1) c9, by omega, by go_num, ?_, fun j hj => ?_⟩, by simp [intOf]; omega⟩
            · rw [HL1.out.1]
              exact ST.out
            · rcases Nat.lt_or_ge j k with h3 | h3
              · exact HP.out j h3
              · obtain rfl : j = k := by omega
                rw [HC.out]; exact HIN.out
          · rw [if_pos (by rfl)]
            go_wp2_with fail
            refine KT.out.mono ?_
            rintro e w5 ⟨rfl, b5⟩
            have s5 := HH.out w5 b5
            have o5 := (b5.cell (p := ⟨ob, 1, none⟩) (World.block_lt_of_cell? wr.drew _ d4)).trans d4
            have o6 : (w5.alloc (.cells #[.int .i64 r0, .int .i64 r1, .int .i64 r2] 51)).cell? ⟨ob, 1, none⟩ = some (.slice Av k cv) := (((Below.refl _ w5).alloc (Nat.le_refl _) _).cell (World.block_lt_of_cell? w5 _ o5)).trans o5
            have B5 := Lib.hid b5
            have s6 := HH.out (w5.alloc (.cells #[.int .i64 r0, .int .i64 r1, .int .i64 r2] 51)) (b5.trans (((Below.refl _ w5).alloc (Nat.le_refl _) _).mono b5.size))
            clear b5
            go_wp2_with fail
            refine hK.out _ _ s5 (fun _ => ?_)
            clear hK K
            try simp only [Act.put, List.setIfInBounds_toArray, List.set_cons_zero, List.set_cons_succ, List.getElem_toArray, List.getElem_cons_zero, List.getElem_cons_succ]
            refine wpAnyH_ready (rs := [1, 11]) (by kernel_rfl) (by simp) ?_
            refine AllReadyH.cons rfl (fun K hK => ?_) (AllReadyH.cons rfl (fun K hK => ?_) AllReadyH.nil)
            · go_simp
              refine hK.out _ _ s5 (fun _ => ?_)
              clear hK K
              try simp only [Act.put, List.setIfInBounds_toArray, List.set_cons_zero, List.set_cons_succ, List.getElem_toArray, List.getElem_cons_zero, List.getElem_cons_succ]
              refine wpAnyH_ready (rs := [11]) (by kernel_rfl) (by simp) ?_
              refine AllReadyH.cons rfl (fun K hK => ?_) AllReadyH.nil
              go_simp
              refine hK.out _ _ s6 (fun _ => ?_)
              clear hK K
              try simp only [Act.put, List.setIfInBounds_toArray, List.set_cons_zero, List.set_cons_succ, List.getElem_toArray, List.getElem_cons_zero, List.getElem_cons_succ]
              refine wpAnyH_ready (rs := [12]) (by kernel_rfl) (by simp) ?_
              refine AllReadyH.cons rfl (fun K hK => ?_) AllReadyH.nil
              refine (HDD.out.up B5.out).step (r0, r1, r2) (by rfl) (.tmp 38) (.tmp 48) (by rfl) (by go_simp) (by go_simp) (by have := HL1.out.2; omega) ?_
              intro A9 c9 w9 st9 o9 b9 g9
              have s9 := HH9.out w9 b9 g9
              have p9 : w9.cell? ⟨ob, 1, none⟩ = some (.slice Av k cv) := by rw [cell_in o9]; rfl
              have f9 := frozen_in o9 1
              have sf := fun v => (⟨(far1 N1 1 v).trans s9.1, (far1 N2 1 v).trans s9.2.1, (far1 N2 1 v).trans s9.2.2.1, (far1 N2 1 v).trans s9.2.2.2⟩ : _ ∧ _ ∧ _ ∧ _)
              have ST := Lib.hid st9
              clear st9 o9 b9 g9
              refine hK.out _ _ s9 (fun _ => ?_)
              clear hK K
              try simp only [Act.put, List.setIfInBounds_toArray, List.set_cons_zero, List.set_cons_succ, List.getElem_toArray, List.getElem_cons_zero, List.getElem_cons_succ]
              refine wpAnyH_take (i := 13) (v := ?v13) rfl (by kernel_rfl) (by kernel_rfl) (by kernel_rfl) (fun _ _ _ h => h) (Or.inl ⟨by rfl, ?y13⟩) s9 ?_
              case y13 => (intro w hSw; (try dsimp only at hSw); go_simp; try with_reducible rfl)
              simp only [Act.put, List.setIfInBounds_toArray, List.set_cons_zero, List.set_cons_succ, List.getElem_toArray, List.getElem_cons_zero, List.getElem_cons_succ]
              refine wpAnyH_ready (rs := [14]) (by kernel_rfl) (by simp) ?_
              refine AllReadyH.cons rfl (fun K hK => ?_) AllReadyH.nil
              go_simp
              refine hK.out _ _ (sf _) (fun _ => ?_)
              clear hK K
              try simp only [Act.put, List.setIfInBounds_toArray, List.set_cons_zero, List.set_cons_succ, List.getElem_toArray, List.getElem_cons_zero, List.getElem_cons_succ]
              refine wpAnyH_done (by kernel_rfl) ?_ _
              refine NoPanic.normal ?_
              go_wp2_with fail
              refine ⟨⟨k + 1, .slice A9 (Lk.length + 1) c9, by omega, by go_num, ?_, fun j hj => ?_⟩, by simp [intOf]; omega⟩
              · rw [HL1.out.1]
                exact ST.out
              · rcases Nat.lt_or_ge j k with h3 | h3
                · exact HP.out j h3
                · obtain rfl : j = k := by omega
                  rw [HC.out]; exact HIN.out
            · go_simp
              refine hK.out _ _ s6 (fun _ => ?_)
              clear hK K
              try simp only [Act.put, List.setIfInBounds_toArray, List.set_cons_zero, List.set_cons_succ, List.getElem_toArray, List.getElem_cons_zero, List.getElem_cons_succ]
              refine wpAnyH_ready (rs := [1]) (by kernel_rfl) (by simp) ?_
              refine AllReadyH.cons rfl (fun K hK => ?_) AllReadyH.nil
              go_simp
              refine hK.out _ _ s6 (fun _ => ?_)
              clear hK K
              try simp only [Act.put, List.setIfInBounds_toArray, List.set_cons_zero, List.set_cons_succ, List.getElem_toArray, List.getElem_cons_zero, List.getElem_cons_succ]
              refine wpAnyH_ready (rs := [12]) (by kernel_rfl) (by simp) ?_
              refine AllReadyH.cons rfl (fun K hK => ?_) AllReadyH.nil
              refine (HDD.out.up B5.out).step (r0, r1, r2) (by rfl) (.tmp 38) (.tmp 48) (by rfl) (by go_simp) (by go_simp) (by have := HL1.out.2; omega) ?_
              intro A9 c9 w9 st9 o9 b9 g9
              have s9 := HH9.out w9 b9 g9
              have p9 : w9.cell? ⟨ob, 1, none⟩ = some (.slice Av k cv) := by rw [cell_in o9]; rfl
              have f9 := frozen_in o9 1
              have sf := fun v => (⟨(far1 N1 1 v).trans s9.1, (far1 N2 1 v).trans s9.2.1, (far1 N2 1 v).trans s9.2.2.1, (far1 N2 1 v).trans s9.2.2.2⟩ : _ ∧ _ ∧ _ ∧ _)
              have ST := Lib.hid st9
              clear st9 o9 b9 g9
              refine hK.out _ _ s9 (fun _ => ?_)
              clear hK K
              try simp only [Act.put, List.setIfInBounds_toArray, List.set_cons_zero, List.set_cons_succ, List.getElem_toArray, List.getElem_cons_zero, List.getElem_cons_succ]
              refine wpAnyH_take (i := 13) (v := ?v13) rfl (by kernel_rfl) (by kernel_rfl) (by kernel_rfl) (fun _ _ _ h => h) (Or.inl ⟨by rfl, ?y13⟩) s9 ?_
              case y13 => (intro w hSw; (try dsimp only at hSw); go_simp; try with_reducible rfl)
              simp only [Act.put, List.setIfInBounds_toArray, List.set_cons_zero, List.set_cons_succ, List.getElem_toArray, List.getElem_cons_zero, List.getElem_cons_succ]
              refine wpAnyH_ready (rs := [14]) (by kernel_rfl) (by simp) ?_
              refine AllReadyH.cons rfl (fun K hK => ?_) AllReadyH.nil
              go_simp
              refine hK.out _ _ (sf _) (fun _ => ?_)
              clear hK K
              try simp only [Act.put, List.setIfInBounds_toArray, List.set_cons_zero, List.set_cons_succ, List.getElem_toArray, List.getElem_cons_zero, List.getElem_cons_succ]
              refine wpAnyH_done (by kernel_rfl) ?_ _
              refine NoPanic.normal ?_
              go_wp2_with fail
              refine ⟨⟨k + 1, .slice A9 (Lk.length + 1) c9, by omega, by go_num, ?_, fun j hj => ?_⟩, by simp [intOf]; omega⟩
              · rw [HL1.out.1]
                exact ST.out
              · rcases Nat.lt_or_ge j k with h3 | h3
                · exact HP.out j h3
                · obtain rfl : j = k := by omega
                  rw [HC.out]; exact HIN.out
    · obtain rfl : k = m := by omega
      have b1 : ¬ (k : Int) < k := by omega
      have e2 := HS.out.res.c0
      have e3 := HS.out.res.c1
      have z0 := frozen_in HS.out.res 0
      have z1 := frozen_in HS.out.res 1
      have hlen : ((List.range k).map (fun i => pickT l (cs.getD i 0))).length = k := by simp
      have HS2 := HS.out
      rw [hlen] at HS2
      have HR := Lib.hid HS2
      clear HS2 hlen
      go_wp2_with fail
      obtain ⟨hrow, hnew⟩ := HR.out.ret (by simp) (by have := HG.out; omega)
      refine bodyPost_ret (results_row2 rfl _ _ (g + 1) 24 _ (0, 0) _ rfl hrow Try.underlying24 rfl (by kernel_rfl)) rfl (.inl ⟨fun x hx => ?_, _, rfl, ?_⟩)
      · obtain ⟨i, hi, rfl⟩ := memi_getD hx
        exact HP.out i (by rw [← HT.out.len]; exact hi)
      · rw [range_mapi cs (pickT l) HT.out.len] at hnew
        exact hnew
end Go.Proofs.Ytfdoemebongdbaa
