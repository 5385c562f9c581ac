/- The document's answer for layer 8: renamed. -/
import Derived.Test.YtmflacmgffpjoaaSouRefA
namespace Go.Proofs.Ytmflacmgffpjoaa
open Go.RowKit

theorem addr_block (a : Addr) (k : Nat) : (a.add k).block = a.block := by unfold Addr.add; split <;> rfl

set_option maxHeartbeats 8000000 in
set_option maxRecDepth 100000 in
theorem rreytmflacmgffpjoaaany (w : World) (N : Int) (A B : Option Addr) (n c m d : Nat) (l : List Tr) (tq : List Int) (ht : Reads w B m (ints tq)) (hf : Fit N l) (hm : (m : Int) = N) (h : T3 w A n l) (hn : n ≤ 1000000) :
    Calls Try.prog 28 #[.agg #[.int .i64 N, .slice A n c], .slice B m d] w (NewTold w N (l.map (renT tq))) := by
  have HL := Lib.hid h
  have HT := Lib.hid ht
  have HF := Lib.hid hf
  have HM := Lib.hid hm
  clear ht hf hm
  clear h
  go_enter Try.func28, Try.ntmps28
  go_wp2_with fail
  obtain ⟨y, hy⟩ : ∃ y, y = (w.alloc (.cells #[.int .i64 N, .slice A n c] 24)).alloc (.cells #[.int .i64 0, .slice none 0 0] 24) := ⟨_, rfl⟩
  have T := Lib.hid (two_boxes w N A n c y hy)
  have hys : y.heap.size = w.heap.size + 1 + 1 := by rw [hy, World.size_alloc, World.size_alloc]
  have S0 := Lib.hid (RSt.first (M := N) T.out.1 T.out.2.1 T.out.2.2 rfl)
  rw [hys] at S0
  simp only [← hy]
  clear hy hys
  obtain ⟨g, hg⟩ : ∃ g, w.heap.size = g := ⟨_, rfl⟩
  obtain ⟨ob, hob⟩ : ∃ ob, g + 1 + 1 = ob := ⟨_, rfl⟩
  obtain ⟨w3, hw3⟩ : ∃ w3, y.alloc (.cells #[.int .i64 N, .slice none 0 0] 24) = w3 := ⟨_, rfl⟩
  rw [hw3, hg, hob] at S0
  have HG := Lib.hid (And.intro hg hob)
  simp only [hw3, hg, hob]
  clear hw3 hg hob
  go_loopw [6] (RAt w g (g + 1) ob (ob + 1) N N A n c (fun i => renT tq (l.getD i z3)) n) (fun i _ => n - (intOf i).toNat)
  case atStart => exact ⟨0, _, Nat.zero_le _, rfl, S0.out⟩
  case round =>
    obtain ⟨k, v, hk, rfl, hst⟩ := hrel
    obtain ⟨Av, cv, rfl⟩ := ownK_form hst.own
    have HS := Lib.hid hst
    have e1 := hst.bx.c1
    have o1 : wr.cell? ⟨ob, 1, none⟩ = some (.slice Av ((List.range k).map (fun i => renT tq (l.getD i z3))).length cv) := by rw [cell_in hst.ob']; rfl
    have o0 : wr.cell? ⟨ob, 0, none⟩ = some (.int .i64 N) := by rw [cell_in hst.ob']; rfl
    rw [List.length_map, List.length_range] at o1
    clear hst
    by_cases hlt : k < n
    · have b1 : (k : Int) < n := by omega
      obtain ⟨b, off, rfl, hat⟩ := (HL.out.below HS.out.below).2 (by omega)
      obtain ⟨c0, c1, c2⟩ := hat k hlt
      clear hat
      obtain ⟨x, hx⟩ : ∃ x, l.getD k z3 = x := ⟨_, rfl⟩
      have HX := Lib.hid hx
      rw [hx] at c0 c1 c2
      clear hx
      obtain ⟨x0, x1, x2⟩ := x
      have hok := HF.out.2.2.2 _ (getD3_mem (show k < l.length by rw [HL.out.1]; exact hlt))
      rw [HX.out] at hok
      have q0 := hok.1
      have q1 := hok.2.1
      have q2 := hok.2.2.1
      simp only [inN] at q0 q1 q2
      obtain ⟨k0, rfl⟩ : ∃ k : Nat, x0 = k := ⟨x0.toNat, by omega⟩
      obtain ⟨k1, rfl⟩ : ∃ k : Nat, x1 = k := ⟨x1.toNat, by omega⟩
      obtain ⟨k2, rfl⟩ : ∃ k : Nat, x2 = k := ⟨x2.toNat, by omega⟩
      have hmN := HM.out
      have p0 : (k0 : Int) < m := by omega
      have p1 : (k1 : Int) < m := by omega
      have p2 : (k2 : Int) < m := by omega
      clear hok q0 q1 q2 hmN
      obtain ⟨ad, rfl, t0⟩ := (HT.out.below HS.out.below).int k0 (by omega)
      obtain ⟨y0, hy0⟩ : ∃ y, tq.getD k0 0 = y := ⟨_, rfl⟩
      obtain ⟨y1, hy1⟩ : ∃ y, tq.getD k1 0 = y := ⟨_, rfl⟩
      obtain ⟨y2, hy2⟩ : ∃ y, tq.getD k2 0 = y := ⟨_, rfl⟩
      have RC : ∀ (W : World), Below w.heap.size w W → W.cell? (ad.add k0) = some (.int .i64 y0) ∧ W.cell? (ad.add k1) = some (.int .i64 y1) ∧ W.cell? (ad.add k2) = some (.int .i64 y2) := by
        intro W b8
        obtain ⟨a0, ea0, c0'⟩ := (HT.out.below b8).int k0 (by omega)
        obtain ⟨a1, ea1, c1'⟩ := (HT.out.below b8).int k1 (by omega)
        obtain ⟨a2, ea2, c2'⟩ := (HT.out.below b8).int k2 (by omega)
        injection ea0 with ea0
        injection ea1 with ea1
        injection ea2 with ea2
        subst ea0 ea1 ea2
        rw [hy0] at c0'
        rw [hy1] at c1'
        rw [hy2] at c2'
        exact ⟨c0', c1', c2'⟩
      have HYY := Lib.hid (And.intro hy0 (And.intro hy1 hy2))
      have NA : ad.block ≠ ob := by
        have h1 := World.block_lt_of_cell? w _ (RC w (Below.refl _ _)).1
        rw [addr_block] at h1
        have := HS.out.wo
        omega
      have NA0 : (ad.add k0).block ≠ ob := by rw [addr_block]; exact NA
      have NA1 : (ad.add k1).block ≠ ob := by rw [addr_block]; exact NA
      have NA2 : (ad.add k2).block ≠ ob := by rw [addr_block]; exact NA
      have RCC := Lib.hid RC
      clear hy0 hy1 hy2 NA t0
      have d0 : wr.drew.cell? ⟨b, off + k * 3, none⟩ = some (.int .i64 (k0 : Int)) := c0
      have d1 : wr.drew.cell? ⟨b, off + k * 3 + 1, none⟩ = some (.int .i64 (k1 : Int)) := c1
      have d2 : wr.drew.cell? ⟨b, off + k * 3 + 2, none⟩ = some (.int .i64 (k2 : Int)) := c2
      have dt := RC wr.drew (HS.out.below.trans (Reading.below ⟨1, rfl⟩))
      clear RC
      have HH := Lib.hid (fun (W : World) (b8 : Below wr.drew.heap.size wr.drew W) => (⟨(b8.cell (p := ⟨g, 1, none⟩) (World.block_lt_of_cell? wr.drew _ (show wr.drew.cell? ⟨g, 1, none⟩ = _ from e1))).trans e1, (b8.cell (p := ⟨b, off + k * 3, none⟩) (World.block_lt_of_cell? wr.drew _ d0)).trans d0, (b8.cell (p := ⟨b, off + k * 3 + 1, none⟩) (World.block_lt_of_cell? wr.drew _ d1)).trans d1, (b8.cell (p := ⟨b, off + k * 3 + 2, none⟩) (World.block_lt_of_cell? wr.drew _ d2)).trans d2, (b8.cell (World.block_lt_of_cell? wr.drew _ dt.1)).trans dt.1, (b8.cell (World.block_lt_of_cell? wr.drew _ dt.2.1)).trans dt.2.1, (b8.cell (World.block_lt_of_cell? wr.drew _ dt.2.2)).trans dt.2.2⟩ : _ ∧ _ ∧ _ ∧ _ ∧ _ ∧ _ ∧ _))
      have HH9 := Lib.hid (fun (W : World) (b9 : Below w.heap.size w W) (g9 : Bx W g N (some ⟨b, off, none⟩) n c) => (show W.cell? ⟨g, 1, none⟩ = some (.slice (some ⟨b, off, none⟩) n c) ∧ W.cell? ⟨b, off + k * 3, none⟩ = some (.int .i64 (k0 : Int)) ∧ W.cell? ⟨b, off + k * 3 + 1, none⟩ = some (.int .i64 (k1 : Int)) ∧ W.cell? ⟨b, off + k * 3 + 2, none⟩ = some (.int .i64 (k2 : Int)) ∧ W.cell? (ad.add k0) = some (.int .i64 y0) ∧ W.cell? (ad.add k1) = some (.int .i64 y1) ∧ W.cell? (ad.add k2) = some (.int .i64 y2) by
        have := (HL.out.below b9).at k hlt
        rw [HX.out] at this
        exact ⟨g9.c1, this.1, this.2.1, this.2.2, RCC.out W b9⟩))
      have d3 : wr.drew.cell? ⟨g, 1, none⟩ = some (.slice (some ⟨b, off, none⟩) n c) := e1
      have d4 : wr.drew.cell? ⟨ob, 1, none⟩ = some (.slice Av k cv) := o1
      have d5 : (wr.alloc (.cells #[.int .i64 y0, .int .i64 y1, .int .i64 y2] 53)).cell? ⟨ob, 1, none⟩ = some (.slice Av k cv) := (((Below.refl _ wr).alloc (Nat.le_refl _) _).cell (World.block_lt_of_cell? wr _ o1)).trans o1
      have N1 : g ≠ ob := HS.out.go
      have hbw : b < w.heap.size := by
        have := World.block_lt_of_cell? w _ (HL.out.at k hlt).1
        simpa using this
      have N2 : b ≠ ob := by have := HS.out.wo; omega
      clear hbw
      have HD := HS.out.up (wr' := wr.drew) (Reading.below ⟨1, rfl⟩)
      have hlen : ((List.range k).map (fun i => renT tq (l.getD i z3))).length = k := by simp
      obtain ⟨Lk, hLk⟩ : ∃ Lk, (List.range k).map (fun i => renT tq (l.getD i z3)) = Lk := ⟨_, rfl⟩
      have hL1 : (List.range (k + 1)).map (fun i => renT tq (l.getD i z3)) = Lk ++ [(y0, y1, y2)] := by rw [List.range_succ, List.map_append, hLk, List.map_singleton, HX.out]; show Lk ++ [(tq.getD k0 0, tq.getD k1 0, tq.getD k2 0)] = _; rw [HYY.out.1, HYY.out.2.1, HYY.out.2.2]
      rw [hLk] at HD hlen
      rw [hlen] at HD
      have HL1 := Lib.hid (And.intro hL1 hlen)
      have HDD := Lib.hid HD
      clear hLk hL1 HD hlen
      go_wp2_with fail
      refine wp_region_noPanic ?_
      refine wp_region_held_drew (S := fun w' => w'.cell? ⟨g, 1, none⟩ = some (.slice (some ⟨b, off, none⟩) n c) ∧ w'.cell? ⟨b, off + k * 3, none⟩ = some (.int .i64 (k0 : Int)) ∧ w'.cell? ⟨b, off + k * 3 + 1, none⟩ = some (.int .i64 (k1 : Int)) ∧ w'.cell? ⟨b, off + k * 3 + 2, none⟩ = some (.int .i64 (k2 : Int)) ∧ w'.cell? (ad.add k0) = some (.int .i64 y0) ∧ w'.cell? (ad.add k1) = some (.int .i64 y1) ∧ w'.cell? (ad.add k2) = some (.int .i64 y2)) (by kernel_rfl) ⟨d3, d0, d1, d2, dt⟩ (fun _ => ?_)
      refine wpAnyH_take (i := 0) (v := ?v0) rfl (by kernel_rfl) (by kernel_rfl) (by kernel_rfl) (fun _ _ _ h => h) (Or.inl ⟨by rfl, ?y0⟩) ⟨d3, d0, d1, d2, dt⟩ ?_
      case y0 => (intro w hSw; (try dsimp only at hSw); go_simp; try with_reducible rfl)
      simp only [Act.put, List.setIfInBounds_toArray, List.set_cons_zero, List.set_cons_succ, List.getElem_toArray, List.getElem_cons_zero]
      refine wpAnyH_take (i := 2) (v := ?v2) rfl (by kernel_rfl) (by kernel_rfl) (by kernel_rfl) (fun _ _ _ h => h) (Or.inl ⟨by rfl, ?y2⟩) ⟨d3, d0, d1, d2, dt⟩ ?_
      case y2 => (intro w hSw; (try dsimp only at hSw); go_simp; try with_reducible rfl)
      simp only [Act.put, List.setIfInBounds_toArray, List.set_cons_zero, List.set_cons_succ, List.getElem_toArray, List.getElem_cons_zero, List.getElem_cons_succ]
      refine wpAnyH_take (i := 3) (v := ?v3) rfl (by kernel_rfl) (by kernel_rfl) (by kernel_rfl) (fun _ _ _ h => h) (Or.inl ⟨by rfl, ?y3⟩) ⟨d3, d0, d1, d2, dt⟩ ?_
      case y3 => (intro w hSw; (try dsimp only at hSw); go_simp; try with_reducible rfl)
      simp only [Act.put, List.setIfInBounds_toArray, List.set_cons_zero, List.set_cons_succ, List.getElem_toArray, List.getElem_cons_zero, List.getElem_cons_succ]
      refine wpAnyH_take (i := 4) (v := ?v4) rfl (by kernel_rfl) (by kernel_rfl) (by kernel_rfl) (fun _ _ _ h => h) (Or.inl ⟨by rfl, ?y4⟩) ⟨d3, d0, d1, d2, dt⟩ ?_
      case y4 => (intro w hSw; (try dsimp only at hSw); go_simp; try with_reducible rfl)
      simp only [Act.put, List.setIfInBounds_toArray, List.set_cons_zero, List.set_cons_succ, List.getElem_toArray, List.getElem_cons_zero, List.getElem_cons_succ]
      refine wpAnyH_take (i := 5) (v := ?v5) rfl (by kernel_rfl) (by kernel_rfl) (by kernel_rfl) (fun _ _ _ h => h) (Or.inl ⟨by rfl, ?y5⟩) ⟨d3, d0, d1, d2, dt⟩ ?_
      case y5 => (intro w hSw; (try dsimp only at hSw); go_simp; try with_reducible rfl)
      simp only [Act.put, List.setIfInBounds_toArray, List.set_cons_zero, List.set_cons_succ, List.getElem_toArray, List.getElem_cons_zero, List.getElem_cons_succ]
      refine wpAnyH_take (i := 6) (v := ?v6) rfl (by kernel_rfl) (by kernel_rfl) (by kernel_rfl) (fun _ _ _ h => h) (Or.inl ⟨by rfl, ?y6⟩) ⟨d3, d0, d1, d2, dt⟩ ?_
      case y6 => (intro w hSw; (try dsimp only at hSw); go_simp; try with_reducible rfl)
      simp only [Act.put, List.setIfInBounds_toArray, List.set_cons_zero, List.set_cons_succ, List.getElem_toArray, List.getElem_cons_zero, List.getElem_cons_succ]
      refine wpAnyH_take (i := 7) (v := ?v7) rfl (by kernel_rfl) (by kernel_rfl) (by kernel_rfl) (fun _ _ _ h => h) (Or.inl ⟨by rfl, ?y7⟩) ⟨d3, d0, d1, d2, dt⟩ ?_
      case y7 => (intro w hSw; (try dsimp only at hSw); go_simp; try with_reducible rfl)
      simp only [Act.put, List.setIfInBounds_toArray, List.set_cons_zero, List.set_cons_succ, List.getElem_toArray, List.getElem_cons_zero, List.getElem_cons_succ]
      refine wpAnyH_take (i := 8) (v := ?v8) rfl (by kernel_rfl) (by kernel_rfl) (by kernel_rfl) (fun _ _ _ h => h) (Or.inl ⟨by rfl, ?y8⟩) ⟨d3, d0, d1, d2, dt⟩ ?_
      case y8 => (intro w hSw; (try dsimp only at hSw); go_simp; try with_reducible rfl)
      simp only [Act.put, List.setIfInBounds_toArray, List.set_cons_zero, List.set_cons_succ, List.getElem_toArray, List.getElem_cons_zero, List.getElem_cons_succ]
      refine wpAnyH_take (i := 9) (v := ?v9) rfl (by kernel_rfl) (by kernel_rfl) (by kernel_rfl) (fun _ _ _ h => h) (Or.inl ⟨by rfl, ?y9⟩) ⟨d3, d0, d1, d2, dt⟩ ?_
      case y9 => (intro w hSw; (try dsimp only at hSw); go_simp; try with_reducible rfl)
      simp only [Act.put, List.setIfInBounds_toArray, List.set_cons_zero, List.set_cons_succ, List.getElem_toArray, List.getElem_cons_zero, List.getElem_cons_succ]
      refine wpAnyH_take (i := 10) (v := ?v10) rfl (by kernel_rfl) (by kernel_rfl) (by kernel_rfl) (fun _ _ _ h => h) (Or.inl ⟨by rfl, ?y10⟩) ⟨d3, d0, d1, d2, dt⟩ ?_
      case y10 => (intro w hSw; (try dsimp only at hSw); go_simp; try with_reducible rfl)
      simp only [Act.put, List.setIfInBounds_toArray, List.set_cons_zero, List.set_cons_succ, List.getElem_toArray, List.getElem_cons_zero, List.getElem_cons_succ]
      refine wpAnyH_take (i := 11) (v := ?v11) rfl (by kernel_rfl) (by kernel_rfl) (by kernel_rfl) (fun _ _ _ h => h) (Or.inl ⟨by rfl, ?y11⟩) ⟨d3, d0, d1, d2, dt⟩ ?_
      case y11 => (intro w hSw; (try dsimp only at hSw); go_simp; try with_reducible rfl)
      simp only [Act.put, List.setIfInBounds_toArray, List.set_cons_zero, List.set_cons_succ, List.getElem_toArray, List.getElem_cons_zero, List.getElem_cons_succ]
      refine wpAnyH_take (i := 12) (v := ?v12) rfl (by kernel_rfl) (by kernel_rfl) (by kernel_rfl) (fun _ _ _ h => h) (Or.inl ⟨by rfl, ?y12⟩) ⟨d3, d0, d1, d2, dt⟩ ?_
      case y12 => (intro w hSw; (try dsimp only at hSw); go_simp; try with_reducible rfl)
      simp only [Act.put, List.setIfInBounds_toArray, List.set_cons_zero, List.set_cons_succ, List.getElem_toArray, List.getElem_cons_zero, List.getElem_cons_succ]
      refine wpAnyH_take (i := 13) (v := ?v13) rfl (by kernel_rfl) (by kernel_rfl) (by kernel_rfl) (fun _ _ _ h => h) (Or.inl ⟨by rfl, ?y13⟩) ⟨d3, d0, d1, d2, dt⟩ ?_
      case y13 => (intro w hSw; (try dsimp only at hSw); go_simp; try with_reducible rfl)
      simp only [Act.put, List.setIfInBounds_toArray, List.set_cons_zero, List.set_cons_succ, List.getElem_toArray, List.getElem_cons_zero, List.getElem_cons_succ]
      refine wpAnyH_take (i := 14) (v := ?v14) rfl (by kernel_rfl) (by kernel_rfl) (by kernel_rfl) (fun _ _ _ h => h) (Or.inl ⟨by rfl, ?y14⟩) ⟨d3, d0, d1, d2, dt⟩ ?_
      case y14 => (intro w hSw; (try dsimp only at hSw); go_simp; try with_reducible rfl)
      simp only [Act.put, List.setIfInBounds_toArray, List.set_cons_zero, List.set_cons_succ, List.getElem_toArray, List.getElem_cons_zero, List.getElem_cons_succ]
      refine wpAnyH_take (i := 15) (v := ?v15) rfl (by kernel_rfl) (by kernel_rfl) (by kernel_rfl) (fun _ _ _ h => h) (Or.inl ⟨by rfl, ?y15⟩) ⟨d3, d0, d1, d2, dt⟩ ?_
      case y15 => (intro w hSw; (try dsimp only at hSw); go_simp; try with_reducible rfl)
      simp only [Act.put, List.setIfInBounds_toArray, List.set_cons_zero, List.set_cons_succ, List.getElem_toArray, List.getElem_cons_zero, List.getElem_cons_succ]
      refine wpAnyH_take (i := 16) (v := ?v16) rfl (by kernel_rfl) (by kernel_rfl) (by kernel_rfl) (fun _ _ _ h => h) (Or.inl ⟨by rfl, ?y16⟩) ⟨d3, d0, d1, d2, dt⟩ ?_
      case y16 => (intro w hSw; (try dsimp only at hSw); go_simp; try with_reducible rfl)
      simp only [Act.put, List.setIfInBounds_toArray, List.set_cons_zero, List.set_cons_succ, List.getElem_toArray, List.getElem_cons_zero, List.getElem_cons_succ]
      refine wpAnyH_take (i := 17) (v := ?v17) rfl (by kernel_rfl) (by kernel_rfl) (by kernel_rfl) (fun _ _ _ h => h) (Or.inl ⟨by rfl, ?y17⟩) ⟨d3, d0, d1, d2, dt⟩ ?_
      case y17 => (intro w hSw; (try dsimp only at hSw); go_simp; try with_reducible rfl)
      simp only [Act.put, List.setIfInBounds_toArray, List.set_cons_zero, List.set_cons_succ, List.getElem_toArray, List.getElem_cons_zero, List.getElem_cons_succ]
      refine wpAnyH_take (i := 18) (v := ?v18) rfl (by kernel_rfl) (by kernel_rfl) (by kernel_rfl) (fun _ _ _ h => h) (Or.inl ⟨by rfl, ?y18⟩) ⟨d3, d0, d1, d2, dt⟩ ?_
      case y18 => (intro w hSw; (try dsimp only at hSw); go_simp; try with_reducible rfl)
      simp only [Act.put, List.setIfInBounds_toArray, List.set_cons_zero, List.set_cons_succ, List.getElem_toArray, List.getElem_cons_zero, List.getElem_cons_succ]
      refine wpAnyH_take (i := 19) (v := ?v19) rfl (by kernel_rfl) (by kernel_rfl) (by kernel_rfl) (fun _ _ _ h => h) (Or.inl ⟨by rfl, ?y19⟩) ⟨d3, d0, d1, d2, dt⟩ ?_
      case y19 => (intro w hSw; (try dsimp only at hSw); go_simp; try with_reducible rfl)
      simp only [Act.put, List.setIfInBounds_toArray, List.set_cons_zero, List.set_cons_succ, List.getElem_toArray, List.getElem_cons_zero, List.getElem_cons_succ]
      refine wpAnyH_take (i := 20) (v := ?v20) rfl (by kernel_rfl) (by kernel_rfl) (by kernel_rfl) (fun _ _ _ h => h) (Or.inl ⟨by rfl, ?y20⟩) ⟨d3, d0, d1, d2, dt⟩ ?_
      case y20 => (intro w hSw; (try dsimp only at hSw); go_simp; try with_reducible rfl)
      simp only [Act.put, List.setIfInBounds_toArray, List.set_cons_zero, List.set_cons_succ, List.getElem_toArray, List.getElem_cons_zero, List.getElem_cons_succ]
      refine wpAnyH_take (i := 21) (v := ?v21) rfl (by kernel_rfl) (by kernel_rfl) (by kernel_rfl) (fun _ _ _ h => h) (Or.inl ⟨by rfl, ?y21⟩) ⟨d3, d0, d1, d2, dt⟩ ?_
      case y21 => (intro w hSw; (try dsimp only at hSw); go_simp; try with_reducible rfl)
      simp only [Act.put, List.setIfInBounds_toArray, List.set_cons_zero, List.set_cons_succ, List.getElem_toArray, List.getElem_cons_zero, List.getElem_cons_succ]
      refine wpAnyH_take (i := 22) (v := ?v22) rfl (by kernel_rfl) (by kernel_rfl) (by kernel_rfl) (fun _ _ _ h => h) (Or.inl ⟨by rfl, ?y22⟩) ⟨d3, d0, d1, d2, dt⟩ ?_
      case y22 => (intro w hSw; (try dsimp only at hSw); go_simp; try with_reducible rfl)
      simp only [Act.put, List.setIfInBounds_toArray, List.set_cons_zero, List.set_cons_succ, List.getElem_toArray, List.getElem_cons_zero, List.getElem_cons_succ]
      refine wpAnyH_take (i := 23) (v := ?v23) rfl (by kernel_rfl) (by kernel_rfl) (by kernel_rfl) (fun _ _ _ h => h) (Or.inl ⟨by rfl, ?y23⟩) ⟨d3, d0, d1, d2, dt⟩ ?_
      case y23 => (intro w hSw; (try dsimp only at hSw); go_simp; try with_reducible rfl)
      simp only [Act.put, List.setIfInBounds_toArray, List.set_cons_zero, List.set_cons_succ, List.getElem_toArray, List.getElem_cons_zero, List.getElem_cons_succ]
      refine wpAnyH_take (i := 24) (v := ?v24) rfl (by kernel_rfl) (by kernel_rfl) (by kernel_rfl) (fun _ _ _ h => h) (Or.inl ⟨by rfl, ?y24⟩) ⟨d3, d0, d1, d2, dt⟩ ?_
      case y24 => (intro w hSw; (try dsimp only at hSw); go_simp; try with_reducible rfl)
      simp only [Act.put, List.setIfInBounds_toArray, List.set_cons_zero, List.set_cons_succ, List.getElem_toArray, List.getElem_cons_zero, List.getElem_cons_succ]
      refine wpAnyH_take (i := 25) (v := ?v25) rfl (by kernel_rfl) (by kernel_rfl) (by kernel_rfl) (fun _ _ _ h => h) (Or.inl ⟨by rfl, ?y25⟩) ⟨d3, d0, d1, d2, dt⟩ ?_
      case y25 => (intro w hSw; (try dsimp only at hSw); go_simp; try with_reducible rfl)
      simp only [Act.put, List.setIfInBounds_toArray, List.set_cons_zero, List.set_cons_succ, List.getElem_toArray, List.getElem_cons_zero, List.getElem_cons_succ]
      refine wpAnyH_take (i := 26) (v := ?v26) rfl (by kernel_rfl) (by kernel_rfl) (by kernel_rfl) (fun _ _ _ h => h) (Or.inl ⟨by rfl, ?y26⟩) ⟨d3, d0, d1, d2, dt⟩ ?_
      case y26 => (intro w hSw; (try dsimp only at hSw); go_simp; try with_reducible rfl)
      simp only [Act.put, List.setIfInBounds_toArray, List.set_cons_zero, List.set_cons_succ, List.getElem_toArray, List.getElem_cons_zero, List.getElem_cons_succ]
      refine wpAnyH_take (i := 27) (v := ?v27) rfl (by kernel_rfl) (by kernel_rfl) (by kernel_rfl) (fun _ _ _ h => h) (Or.inl ⟨by rfl, ?y27⟩) ⟨d3, d0, d1, d2, dt⟩ ?_
      case y27 => (intro w hSw; (try dsimp only at hSw); go_simp; try with_reducible rfl)
      simp only [Act.put, List.setIfInBounds_toArray, List.set_cons_zero, List.set_cons_succ, List.getElem_toArray, List.getElem_cons_zero, List.getElem_cons_succ]
      refine wpAnyH_take (i := 28) (v := ?v28) rfl (by kernel_rfl) (by kernel_rfl) (by kernel_rfl) (fun _ _ _ h => h) (Or.inl ⟨by rfl, ?y28⟩) ⟨d3, d0, d1, d2, dt⟩ ?_
      case y28 => (intro w hSw; (try dsimp only at hSw); go_simp; try with_reducible rfl)
      simp only [Act.put, List.setIfInBounds_toArray, List.set_cons_zero, List.set_cons_succ, List.getElem_toArray, List.getElem_cons_zero, List.getElem_cons_succ]
      refine wpAnyH_take (i := 29) (v := ?v29) rfl (by kernel_rfl) (by kernel_rfl) (by kernel_rfl) (fun _ _ _ h => h) (Or.inl ⟨by rfl, ?y29⟩) ⟨d3, d0, d1, d2, dt⟩ ?_
      case y29 => (intro w hSw; (try dsimp only at hSw); go_simp; try with_reducible rfl)
      simp only [Act.put, List.setIfInBounds_toArray, List.set_cons_zero, List.set_cons_succ, List.getElem_toArray, List.getElem_cons_zero, List.getElem_cons_succ]
      refine wpAnyH_ready (rs := [1, 30]) (by kernel_rfl) (by simp) ?_
      refine AllReadyH.cons rfl (fun K hK => ?_) (AllReadyH.cons rfl (fun K hK => ?_) AllReadyH.nil)
      · go_simp
        refine hK.out _ _ ⟨d3, d0, d1, d2, dt⟩ (fun _ => ?_)
        clear hK K
        try simp only [Act.put, List.setIfInBounds_toArray, List.set_cons_zero, List.set_cons_succ, List.getElem_toArray, List.getElem_cons_zero, List.getElem_cons_succ]
        refine wpAnyH_ready (rs := [30]) (by kernel_rfl) (by simp) ?_
        refine AllReadyH.cons rfl (fun K hK => ?_) AllReadyH.nil
        go_simp
        refine hK.out _ _ (HH.out _ ((Below.refl _ wr.drew).alloc (Nat.le_refl _) _)) (fun _ => ?_)
        clear hK K
        try simp only [Act.put, List.setIfInBounds_toArray, List.set_cons_zero, List.set_cons_succ, List.getElem_toArray, List.getElem_cons_zero, List.getElem_cons_succ]
        refine wpAnyH_ready (rs := [31]) (by kernel_rfl) (by simp) ?_
        refine AllReadyH.cons rfl (fun K hK => ?_) AllReadyH.nil
        refine HDD.out.step (y0, y1, y2) (by rfl) (.tmp 18) (.tmp 47) (by rfl) (by go_simp) (by go_simp) (by have := HL1.out.2; omega) ?_
        intro A9 c9 w9 st9 o9 b9 g9
        have s9 := HH9.out w9 b9 g9
        have p9 : w9.cell? ⟨ob, 1, none⟩ = some (.slice Av k cv) := by rw [cell_in o9]; rfl
        have f9 := frozen_in o9 1
        have sf := fun v => (⟨(far1 N1 1 v).trans s9.1, (far1 N2 1 v).trans s9.2.1, (far1 N2 1 v).trans s9.2.2.1, (far1 N2 1 v).trans s9.2.2.2.1, (far1 NA0 1 v).trans s9.2.2.2.2.1, (far1 NA1 1 v).trans s9.2.2.2.2.2.1, (far1 NA2 1 v).trans s9.2.2.2.2.2.2⟩ : _ ∧ _ ∧ _ ∧ _ ∧ _ ∧ _ ∧ _)
        have ST := Lib.hid st9
        clear st9 o9 b9 g9
        refine hK.out _ _ s9 (fun _ => ?_)
        clear hK K
        try simp only [Act.put, List.setIfInBounds_toArray, List.set_cons_zero, List.set_cons_succ, List.getElem_toArray, List.getElem_cons_zero, List.getElem_cons_succ]
        refine wpAnyH_take (i := 32) (v := ?v32) rfl (by kernel_rfl) (by kernel_rfl) (by kernel_rfl) (fun _ _ _ h => h) (Or.inl ⟨by rfl, ?y32⟩) s9 ?_
        case y32 => (intro w hSw; (try dsimp only at hSw); go_simp; try with_reducible rfl)
        simp only [Act.put, List.setIfInBounds_toArray, List.set_cons_zero, List.set_cons_succ, List.getElem_toArray, List.getElem_cons_zero, List.getElem_cons_succ]
        refine wpAnyH_ready (rs := [33]) (by kernel_rfl) (by simp) ?_
        refine AllReadyH.cons rfl (fun K hK => ?_) AllReadyH.nil
        go_simp
        refine hK.out _ _ (sf _) (fun _ => ?_)
        clear hK K
        try simp only [Act.put, List.setIfInBounds_toArray, List.set_cons_zero, List.set_cons_succ, List.getElem_toArray, List.getElem_cons_zero, List.getElem_cons_succ]
        refine wpAnyH_done (by kernel_rfl) ?_ _
        refine NoPanic.normal ?_
        go_wp2_with fail
        refine ⟨⟨k + 1, .slice A9 (Lk.length + 1) c9, by omega, by go_num, ?_⟩, by simp [intOf]; omega⟩
        rw [HL1.out.1]
        exact ST.out
      · go_simp
        refine hK.out _ _ (HH.out _ ((Below.refl _ wr.drew).alloc (Nat.le_refl _) _)) (fun _ => ?_)
        clear hK K
        try simp only [Act.put, List.setIfInBounds_toArray, List.set_cons_zero, List.set_cons_succ, List.getElem_toArray, List.getElem_cons_zero, List.getElem_cons_succ]
        refine wpAnyH_ready (rs := [1]) (by kernel_rfl) (by simp) ?_
        refine AllReadyH.cons rfl (fun K hK => ?_) AllReadyH.nil
        go_simp
        refine hK.out _ _ (HH.out _ ((Below.refl _ wr.drew).alloc (Nat.le_refl _) _)) (fun _ => ?_)
        clear hK K
        try simp only [Act.put, List.setIfInBounds_toArray, List.set_cons_zero, List.set_cons_succ, List.getElem_toArray, List.getElem_cons_zero, List.getElem_cons_succ]
        refine wpAnyH_ready (rs := [31]) (by kernel_rfl) (by simp) ?_
        refine AllReadyH.cons rfl (fun K hK => ?_) AllReadyH.nil
        refine HDD.out.step (y0, y1, y2) (by rfl) (.tmp 18) (.tmp 47) (by rfl) (by go_simp) (by go_simp) (by have := HL1.out.2; omega) ?_
        intro A9 c9 w9 st9 o9 b9 g9
        have s9 := HH9.out w9 b9 g9
        have p9 : w9.cell? ⟨ob, 1, none⟩ = some (.slice Av k cv) := by rw [cell_in o9]; rfl
        have f9 := frozen_in o9 1
        have sf := fun v => (⟨(far1 N1 1 v).trans s9.1, (far1 N2 1 v).trans s9.2.1, (far1 N2 1 v).trans s9.2.2.1, (far1 N2 1 v).trans s9.2.2.2.1, (far1 NA0 1 v).trans s9.2.2.2.2.1, (far1 NA1 1 v).trans s9.2.2.2.2.2.1, (far1 NA2 1 v).trans s9.2.2.2.2.2.2⟩ : _ ∧ _ ∧ _ ∧ _ ∧ _ ∧ _ ∧ _)
        have ST := Lib.hid st9
        clear st9 o9 b9 g9
        refine hK.out _ _ s9 (fun _ => ?_)
        clear hK K
        try simp only [Act.put, List.setIfInBounds_toArray, List.set_cons_zero, List.set_cons_succ, List.getElem_toArray, List.getElem_cons_zero, List.getElem_cons_succ]
        refine wpAnyH_take (i := 32) (v := ?v32) rfl (by kernel_rfl) (by kernel_rfl) (by kernel_rfl) (fun _ _ _ h => h) (Or.inl ⟨by rfl, ?y32⟩) s9 ?_
        case y32 => (intro w hSw; (try dsimp only at hSw); go_simp; try with_reducible rfl)
        simp only [Act.put, List.setIfInBounds_toArray, List.set_cons_zero, List.set_cons_succ, List.getElem_toArray, List.getElem_cons_zero, List.getElem_cons_succ]
        refine wpAnyH_ready (rs := [33]) (by kernel_rfl) (by simp) ?_
        refine AllReadyH.cons rfl (fun K hK => ?_) AllReadyH.nil
        go_simp
        refine hK.out _ _ (sf _) (fun _ => ?_)
        clear hK K
        try simp only [Act.put, List.setIfInBounds_toArray, List.set_cons_zero, List.set_cons_succ, List.getElem_toArray, List.getElem_cons_zero, List.getElem_cons_succ]
        refine wpAnyH_done (by kernel_rfl) ?_ _
        refine NoPanic.normal ?_
        go_wp2_with fail
        refine ⟨⟨k + 1, .slice A9 (Lk.length + 1) c9, by omega, by go_num, ?_⟩, by simp [intOf]; omega⟩
        rw [HL1.out.1]
        exact ST.out
    · obtain rfl : k = n := by omega
      have b1 : ¬ (k : Int) < k := by omega
      have e2 := HS.out.res.c0
      have e3 := HS.out.res.c1
      have z0 := frozen_in HS.out.res 0
      have z1 := frozen_in HS.out.res 1
      have hlen : ((List.range k).map (fun i => renT tq (l.getD i z3))).length = k := by simp
      have HS2 := HS.out
      rw [hlen] at HS2
      have HR := Lib.hid HS2
      clear HS2 hlen
      go_wp2_with fail
      obtain ⟨hrow, hnew⟩ := HR.out.ret (by simp) (by have := HG.out.1; omega)
      refine bodyPost_ret (results_cell_row rfl _ _ (g + 1) 24 _ (0, 0) _ rfl hrow Try.underlying24 rfl (by kernel_rfl)) rfl ⟨_, rfl, ?_⟩
      rw [range_map l (renT tq) HL.out.1] at hnew
      exact hnew
end Go.Proofs.Ytmflacmgffpjoaa
