/- CornerNew: there is a table just of what is a surface, which tells it; of other soups the witness that tells why not. No condition. -/
import Derived.Test.YtkcmieblnajmpaaGN
import Derived.Test.YtkcmieblnajmpaaGM
namespace Go.Proofs.Ytkcmieblnajmpaa.cornerNew
open Go.RowKit Go.ChangeShapes Go.WideShapes Go.ChangeAt

set_option maxHeartbeats 16000000 in
set_option maxRecDepth 100000 in
theorem walk (N : Int) (A : Option Addr) (n c : Nat) (l : List Tr) (w : World) (_ : -9223372036854775808 ≤ N) (_ : N ≤ 9223372036854775807) (h : T3 w A n l) :
    Calls Try.prog 3 #[.agg #[.int .i64 N, .slice A n c]] w (BoolTold10 w true) := by
  obtain ⟨p, hp⟩ := isPin_exists l
  obtain rfl := h.1
  have HL := Lib.hid h
  have HP := Lib.hid hp
  have KA := Lib.hid awake10_true
  obtain ⟨w1, hw1⟩ : ∃ w1, w.alloc (.cells #[.int .i64 N, .slice A l.length c] 24) = w1 := ⟨_, rfl⟩
  obtain ⟨g0, hg0⟩ : ∃ g0, w.heap.size = g0 := ⟨_, rfl⟩
  have b1 : Below w.heap.size w w1 := by rw [← hw1]; exact (Below.refl _ w).alloc (Nat.le_refl _) _
  have x1 : Bx w1 g0 N A l.length c := by rw [← hw1, ← hg0]; exact Bx.made w N A l.length c
  have B1 := Lib.hid (And.intro b1 x1)
  clear b1 x1 h hp
  go_enter Try.func3, Try.ntmps3
  go_wp2_with fail
  refine (KA.out _).mono ?_
  rintro e w2 ⟨rfl, b2⟩
  have x2 := B1.out.2.below b2
  have s0 := x2.c0
  have s1 := x2.c1
  have B2 := Lib.hid (And.intro (up2 B1.out.1 b2) x2)
  have KG := Lib.hid (great10_any w2 N A l.length c)
  clear b2 x2
  by_cases hg : GreatS l.length N
  · rw [show great01 l.length N = 1 by unfold great01; rw [if_pos hg]] at KG
    clear hg
    go_wp2_with fail
    refine KG.out.mono ?_
    rintro e w3 ⟨rfl, b3⟩
    have B3 := Lib.hid (up2 B2.out.1 b3)
    clear b3
    go_wp2_with fail
    go_ret
    exact ⟨rfl, B3.out⟩
  rw [show great01 l.length N = 0 by unfold great01; rw [if_neg hg]] at KG
  have hn40 : l.length ≤ 40 := Nat.le_of_not_lt fun h => hg (.inl (by omega))
  clear hg
  go_wp2_with fail
  refine KG.out.mono ?_
  rintro e w3 ⟨rfl, b3⟩
  have x3 := B2.out.2.below b3
  have s0 := x3.c0
  have s1 := x3.c1
  have B3 := Lib.hid (And.intro (up2 B2.out.1 b3) x3)
  have KN := Lib.hid (knew_any w3 N A l.length c l p (HL.out.below B3.out.1) HP.out (by omega))
  clear b3 x3
  go_wp2_with fail
  refine KN.out.mono ?_
  rintro e w4 ⟨b4, ⟨hws, rfl⟩ | ⟨hws, g, rfl, tab⟩⟩
  · obtain ⟨y, hy⟩ : ∃ y, (wits p N l).headD (0, 0, 0) = y := ⟨_, rfl⟩
    have hk : (y.1 != 0) = true := by
      obtain ⟨k, hk1, hk2⟩ := wits_kind p N l
      cases hx : wits p N l with
      | nil => exact absurd hx hws
      | cons z r =>
        rw [hx] at hy hk2
        have : y = z := hy.symm
        rw [this]
        have := hk2 z (List.mem_cons_self)
        simp only [bne_iff_ne, ne_eq]
        omega
    have HY := Lib.hid hy
    simp only [hy, wv]
    clear hws hy
    obtain ⟨y0, y1, y2⟩ := y
    obtain ⟨w5, hw5⟩ : ∃ w5, w4.alloc (.cells #[.int .i64 y0, .int .i64 y1, .int .i64 y2] 29) = w5 := ⟨_, rfl⟩
    obtain ⟨q5, hq5⟩ : ∃ q5, w4.heap.size = q5 := ⟨_, rfl⟩
    have b5 : Below w4.heap.size w4 w5 := by rw [← hw5]; exact (Below.refl _ w4).alloc (Nat.le_refl _) _
    have r5 : w5.heap[q5]? = some (.cells #[.int .i64 y0, .int .i64 y1, .int .i64 y2] 29 (0, 0)) := by rw [← hw5, ← hq5]; exact heap_alloc_new w4 _
    have x5 := B3.out.2.below (up2 b4 b5)
    have s0 := x5.c0
    have s1 := x5.c1
    have B5 := Lib.hid (And.intro (up2 B3.out.1 (up2 b4 b5)) r5)
    have KC := Lib.hid (ccheck_any w5 N A l.length c l p (HL.out.below B5.out.1) HP.out (by omega))
    clear b4 b5 r5 x5
    go_wp2_with fail
    refine KC.out.mono ?_
    rintro e w6 ⟨rfl, b6⟩
    simp only [HY.out, wv]
    have ev := fun W => eqlW W y0 y1 y2 y0 y1 y2
    have gd := fun W op u v xs ys => run_eqGuard_agg (P := Try.prog) W op 29 u v xs ys Try.eqGuardType29
    obtain ⟨w7, hw7⟩ : ∃ w7, w6.alloc (.cells #[.int .i64 y0, .int .i64 y1, .int .i64 y2] 29) = w7 := ⟨_, rfl⟩
    obtain ⟨q7, hq7⟩ : ∃ q7, w6.heap.size = q7 := ⟨_, rfl⟩
    have b7 : Below w6.heap.size w6 w7 := by rw [← hw7]; exact (Below.refl _ w6).alloc (Nat.le_refl _) _
    have r7 : w7.heap[q7]? = some (.cells #[.int .i64 y0, .int .i64 y1, .int .i64 y2] 29 (0, 0)) := by rw [← hw7, ← hq7]; exact heap_alloc_new w6 _
    have b57 := up2 b6 b7
    have r57 := (b57.block q5 (heap_lt B5.out.2)).trans B5.out.2
    have z0 : w7.cell? ⟨q7, 0, none⟩ = some (.int .i64 y0) := by rw [cell_in r7]; rfl
    have z1 : w7.cell? ⟨q7, 1, none⟩ = some (.int .i64 y1) := by rw [cell_in r7]; rfl
    have z2 : w7.cell? ⟨q7, 2, none⟩ = some (.int .i64 y2) := by rw [cell_in r7]; rfl
    have v0 : w7.cell? ⟨q5, 0, none⟩ = some (.int .i64 y0) := by rw [cell_in r57]; rfl
    have v1 : w7.cell? ⟨q5, 1, none⟩ = some (.int .i64 y1) := by rw [cell_in r57]; rfl
    have v2 : w7.cell? ⟨q5, 2, none⟩ = some (.int .i64 y2) := by rw [cell_in r57]; rfl
    have B7 := Lib.hid (up2 B5.out.1 b57)
    clear b6 b7 r7 b57 r57
    go_wp2_with fail
    go_ret
    exact ⟨by simp, B7.out⟩
  · have HWS := Lib.hid hws
    have SF := Lib.hid tab.surf
    obtain ⟨w5, hw5⟩ : ∃ w5, w4.alloc (.cells #[.int .i64 0, .int .i64 0, .int .i64 0] 29) = w5 := ⟨_, rfl⟩
    obtain ⟨q4, hq4⟩ : ∃ q4, w4.heap.size = q4 := ⟨_, rfl⟩
    have b5 : Below w4.heap.size w4 w5 := by rw [← hw5]; exact (Below.refl _ w4).alloc (Nat.le_refl _) _
    have r5 : w5.heap[q4]? = some (.cells #[.int .i64 0, .int .i64 0, .int .i64 0] 29 (0, 0)) := by rw [← hw5, ← hq4]; exact heap_alloc_new w4 _
    have x5 := B3.out.2.below (up2 b4 b5)
    have s0 : (w4.alloc (.cells #[.int .i64 0, .int .i64 0, .int .i64 0] 29)).cell? ⟨g0, 0, none⟩ = some (.int .i64 N) := by rw [hw5]; exact x5.c0
    have s1 : (w4.alloc (.cells #[.int .i64 0, .int .i64 0, .int .i64 0] 29)).cell? ⟨g0, 1, none⟩ = some (.slice A l.length c) := by rw [hw5]; exact x5.c1
    have B5 := Lib.hid (And.intro (up2 B3.out.1 (up2 b4 b5)) (And.intro r5 (And.intro x5 (tab.below b5))))
    have KC := Lib.hid (ccheck_any w5 N A l.length c l p (HL.out.below B5.out.1) HP.out (by omega))
    have HW5 := Lib.hid hw5
    clear b4 b5 r5 x5 tab hws hw5
    simp only [wv]
    go_wp2_with fail
    simp only [HW5.out]
    refine KC.out.mono ?_
    rintro e w6 ⟨rfl, b6⟩
    simp only [HWS.out, List.headD_nil, wv]
    clear s0 s1
    have hk : ((0 : Int) != 0) = false := rfl
    obtain ⟨w7, hw7⟩ : ∃ w7, w6.alloc (.cells #[.int .i64 0, .int .i64 0, .int .i64 0] 29) = w7 := ⟨_, rfl⟩
    have b7 : Below w6.heap.size w6 w7 := by rw [← hw7]; exact (Below.refl _ w6).alloc (Nat.le_refl _) _
    have b57 := up2 b6 b7
    have r7 := (b57.block q4 (heap_lt B5.out.2.1)).trans B5.out.2.1
    have x7 := B5.out.2.2.1.below b57
    have T7 := Lib.hid (B5.out.2.2.2.below b57)
    have B7 := Lib.hid (up2 B5.out.1 b57)
    have HW7 := Lib.hid hw7
    have HS := Lib.hid (fun W (b : Below w7.heap.size w7 W) => (show W.cell? ⟨g0, 0, none⟩ = some (.int .i64 N) ∧ W.cell? ⟨g0, 1, none⟩ = some (.slice A l.length c) ∧ W.cell? ⟨q4, 0, none⟩ = some (.int .i64 0) ∧ W.cell? ⟨q4, 1, none⟩ = some (.int .i64 0) ∧ W.cell? ⟨q4, 2, none⟩ = some (.int .i64 0) from
      ⟨(x7.below b).c0, (x7.below b).c1, by rw [cell_in ((b.block q4 (heap_lt r7)).trans r7)]; rfl, by rw [cell_in ((b.block q4 (heap_lt r7)).trans r7)]; rfl, by rw [cell_in ((b.block q4 (heap_lt r7)).trans r7)]; rfl⟩))
    have KS := Lib.hid (fun W (b : Below w7.heap.size w7 W) => (T7.out.below b).soup)
    have KT := Lib.hid (fun W (b : Below w7.heap.size w7 W) => (T7.out.below b).tris)
    have KU := Lib.hid (fun W (b : Below w7.heap.size w7 W) => (T7.out.below b).verts)
    have RSm := Lib.hid (fun W A' c' (b : Below w7.heap.size w7 W) (h : T3 W A' l.length l) => (show Calls Try.prog 15 #[.agg #[.int .i64 N, .slice A' l.length c'], .agg #[.int .i64 N, .slice A l.length c]] W (BoolTold10 W true) from by
      have := r10same_any W N N A' A l.length c' l.length c l l h (HL.out.below (up2 B7.out b)) (by omega)
      rwa [decide_eq_true (show SameS N N l l from ⟨rfl, rfl⟩)] at this))
    have bd : Below w7.heap.size w7 w7.drew := Reading.below ⟨1, rfl⟩
    have hd := HS.out w7.drew bd
    have ev := fun W => eqlW W 0 0 0 0 0 0
    have gd := fun W op u v xs ys => run_eqGuard_agg (P := Try.prog) W op 29 u v xs ys Try.eqGuardType29
    clear b6 b7 b57 r7 x7 hw7
    go_wp2_with fail
    simp only [HW7.out]
    refine wp_region_noPanic ?_
    refine wp_region_held_drew (S := fun w' => w'.cell? ⟨g0, 0, none⟩ = some (.int .i64 N) ∧ w'.cell? ⟨g0, 1, none⟩ = some (.slice A l.length c) ∧ w'.cell? ⟨q4, 0, none⟩ = some (.int .i64 0) ∧ w'.cell? ⟨q4, 1, none⟩ = some (.int .i64 0) ∧ w'.cell? ⟨q4, 2, none⟩ = some (.int .i64 0)) (by kernel_rfl) hd (fun _ => ?_)
    refine wpAnyH_take (i := 0) (v := ?v0z1) rfl (by kernel_rfl) (by kernel_rfl) (by kernel_rfl) (fun _ _ _ h => h) (Or.inl ⟨by rfl, ?y0z1⟩) hd ?_
    case y0z1 => (intro w hSw; (try dsimp only at hSw); go_simp; try with_reducible rfl)
    simp only [Act.put, List.setIfInBounds_toArray, List.set_cons_zero, List.set_cons_succ, List.getElem_toArray, List.getElem_cons_zero]
    refine wpAnyH_take (i := 1) (v := ?v1z2) rfl (by kernel_rfl) (by kernel_rfl) (by kernel_rfl) (fun _ _ _ h => h) (Or.inl ⟨by rfl, ?y1z2⟩) hd ?_
    case y1z2 => (intro w hSw; (try dsimp only at hSw); go_simp; try with_reducible rfl)
    simp only [Act.put, List.setIfInBounds_toArray, List.set_cons_zero, List.set_cons_succ, List.getElem_toArray, List.getElem_cons_zero, List.getElem_cons_succ]
    refine wpAnyH_take (i := 2) (v := ?v2z3) rfl (by kernel_rfl) (by kernel_rfl) (by kernel_rfl) (fun _ _ _ h => h) (Or.inl ⟨by rfl, ?y2z3⟩) hd ?_
    case y2z3 => (intro w hSw; (try dsimp only at hSw); go_simp; try with_reducible rfl)
    simp only [Act.put, List.setIfInBounds_toArray, List.set_cons_zero, List.set_cons_succ, List.getElem_toArray, List.getElem_cons_zero, List.getElem_cons_succ]
    refine wpAnyH_take (i := 3) (v := ?v3z4) rfl (by kernel_rfl) (by kernel_rfl) (by kernel_rfl) (fun _ _ _ h => h) (Or.inl ⟨by kernel_rfl, ?y3z4⟩) hd ?_
    case y3z4 => (intro w hSw; (try dsimp only at hSw); go_simp; try with_reducible rfl)
    simp only [Act.put, List.setIfInBounds_toArray, List.set_cons_zero, List.set_cons_succ, List.getElem_toArray, List.getElem_cons_zero, List.getElem_cons_succ]
    refine wpAnyH_take (i := 4) (v := ?v4z5) rfl (by kernel_rfl) (by kernel_rfl) (by kernel_rfl) (fun _ _ _ h => h) (Or.inl ⟨by kernel_rfl, ?y4z5⟩) hd ?_
    case y4z5 => (intro w hSw; (try dsimp only at hSw); go_simp; try with_reducible rfl)
    simp only [Act.put, List.setIfInBounds_toArray, List.set_cons_zero, List.set_cons_succ, List.getElem_toArray, List.getElem_cons_zero, List.getElem_cons_succ]
    refine wpAnyH_take (i := 5) (v := ?v5z6) rfl (by kernel_rfl) (by kernel_rfl) (by kernel_rfl) (fun _ _ _ h => h) (Or.inl ⟨by kernel_rfl, ?y5z6⟩) hd ?_
    case y5z6 => (intro w hSw; (try dsimp only at hSw); go_simp; try with_reducible rfl)
    simp only [Act.put, List.setIfInBounds_toArray, List.set_cons_zero, List.set_cons_succ, List.getElem_toArray, List.getElem_cons_zero, List.getElem_cons_succ]
    refine wpAnyH_take (i := 6) (v := ?v6z7) rfl (by kernel_rfl) (by kernel_rfl) (by kernel_rfl) (fun _ _ _ h => h) (Or.inl ⟨by rfl, ?y6z7⟩) hd ?_
    case y6z7 => (intro w hSw; (try dsimp only at hSw); go_simp; try with_reducible rfl)
    simp only [Act.put, List.setIfInBounds_toArray, List.set_cons_zero, List.set_cons_succ, List.getElem_toArray, List.getElem_cons_zero, List.getElem_cons_succ]
    refine wpAnyH_take (i := 7) (v := ?v7z8) rfl (by kernel_rfl) (by kernel_rfl) (by kernel_rfl) (fun _ _ _ h => h) (Or.inl ⟨by rfl, ?y7z8⟩) hd ?_
    case y7z8 => (intro w hSw; (try dsimp only at hSw); go_simp; try with_reducible rfl)
    simp only [Act.put, List.setIfInBounds_toArray, List.set_cons_zero, List.set_cons_succ, List.getElem_toArray, List.getElem_cons_zero, List.getElem_cons_succ]
    refine wpAnyH_take (i := 8) (v := ?v8z9) rfl (by kernel_rfl) (by kernel_rfl) (by kernel_rfl) (fun _ _ _ h => h) (Or.inl ⟨by kernel_rfl, ?y8z9⟩) hd ?_
    case y8z9 => (intro w hSw; (try dsimp only at hSw); go_simp; try with_reducible rfl)
    simp only [Act.put, List.setIfInBounds_toArray, List.set_cons_zero, List.set_cons_succ, List.getElem_toArray, List.getElem_cons_zero, List.getElem_cons_succ]
    refine wpAnyH_take (i := 10) (v := ?v10z10) rfl (by kernel_rfl) (by kernel_rfl) (by kernel_rfl) (fun _ _ _ h => h) (Or.inl ⟨by kernel_rfl, ?y10z10⟩) hd ?_
    case y10z10 => (intro w hSw; (try dsimp only at hSw); go_simp; try with_reducible rfl)
    simp only [Act.put, List.setIfInBounds_toArray, List.set_cons_zero, List.set_cons_succ, List.getElem_toArray, List.getElem_cons_zero, List.getElem_cons_succ]
    refine wpAnyH_ready (rs := [9]) (by kernel_rfl) (by simp) ?_
    refine AllReadyH.cons rfl (fun K hK => ?_) AllReadyH.nil
    rw [if_pos (by kernel_rfl)]
    go_wp2_with fail
    refine (KS.out _ bd).mono ?_
    rintro e vv1 ⟨vs, rfl, A', c', rfl, own9, b9⟩
    have dd1 := up2 bd b9
    have RS := Lib.hid (RSm.out _ A' c' dd1 (T3.of_own own9))
    clear own9
    clear b9
    go_wp2_with fail
    refine hK.out _ _ (HS.out _ dd1) (fun _ => ?_)
    clear hK K
    try simp only [Act.put, List.setIfInBounds_toArray, List.set_cons_zero, List.set_cons_succ, List.getElem_toArray, List.getElem_cons_zero, List.getElem_cons_succ]
    refine wpAnyH_ready (rs := [11]) (by kernel_rfl) (by simp) ?_
    refine AllReadyH.cons rfl (fun K hK => ?_) AllReadyH.nil
    rw [if_pos (by kernel_rfl)]
    go_wp2_with fail
    refine (RS.out).mono ?_
    rintro e vv2 ⟨rfl, b9⟩
    have dd2 := up2 dd1 b9
    clear b9
    go_wp2_with fail
    refine hK.out _ _ (HS.out _ dd2) (fun _ => ?_)
    clear hK K
    try simp only [Act.put, List.setIfInBounds_toArray, List.set_cons_zero, List.set_cons_succ, List.getElem_toArray, List.getElem_cons_zero, List.getElem_cons_succ]
    refine wpAnyH_take (i := 12) (v := ?v12z11) rfl (by kernel_rfl) (by kernel_rfl) (by kernel_rfl) (fun _ _ _ h => h) (Or.inl ⟨by rfl, ?y12z11⟩) (HS.out _ dd2) ?_
    case y12z11 => (intro w hSw; (try dsimp only at hSw); go_simp; try with_reducible rfl)
    simp only [Act.put, List.setIfInBounds_toArray, List.set_cons_zero, List.set_cons_succ, List.getElem_toArray, List.getElem_cons_zero, List.getElem_cons_succ]
    refine wpAnyH_take (i := 13) (v := ?v13z12) rfl (by kernel_rfl) (by kernel_rfl) (by kernel_rfl) (fun _ _ _ h => h) (Or.inl ⟨by rfl, ?y13z12⟩) (HS.out _ dd2) ?_
    case y13z12 => (intro w hSw; (try dsimp only at hSw); go_simp; try with_reducible rfl)
    simp only [Act.put, List.setIfInBounds_toArray, List.set_cons_zero, List.set_cons_succ, List.getElem_toArray, List.getElem_cons_zero, List.getElem_cons_succ]
    refine wpAnyH_take (i := 14) (v := ?v14z13) rfl (by kernel_rfl) (by kernel_rfl) (by kernel_rfl) (fun _ _ _ h => h) (Or.inl ⟨by kernel_rfl, ?y14z13⟩) (HS.out _ dd2) ?_
    case y14z13 => (intro w hSw; (try dsimp only at hSw); go_simp; try with_reducible rfl)
    simp only [Act.put, List.setIfInBounds_toArray, List.set_cons_zero, List.set_cons_succ, List.getElem_toArray, List.getElem_cons_zero, List.getElem_cons_succ]
    refine wpAnyH_take (i := 16) (v := ?v16z14) rfl (by kernel_rfl) (by kernel_rfl) (by kernel_rfl) (fun _ _ _ h => h) (Or.inl ⟨by kernel_rfl, ?y16z14⟩) (HS.out _ dd2) ?_
    case y16z14 => (intro w hSw; (try dsimp only at hSw); go_simp; try with_reducible rfl)
    simp only [Act.put, List.setIfInBounds_toArray, List.set_cons_zero, List.set_cons_succ, List.getElem_toArray, List.getElem_cons_zero, List.getElem_cons_succ]
    refine wpAnyH_take (i := 17) (v := ?v17z15) rfl (by kernel_rfl) (by kernel_rfl) (by kernel_rfl) (fun _ _ _ h => h) (Or.inl ⟨by kernel_rfl, ?y17z15⟩) (HS.out _ dd2) ?_
    case y17z15 => (intro w hSw; (try dsimp only at hSw); go_simp; try with_reducible rfl)
    simp only [Act.put, List.setIfInBounds_toArray, List.set_cons_zero, List.set_cons_succ, List.getElem_toArray, List.getElem_cons_zero, List.getElem_cons_succ]
    refine wpAnyH_take (i := 18) (v := ?v18z16) rfl (by kernel_rfl) (by kernel_rfl) (by kernel_rfl) (fun _ _ _ h => h) (Or.inl ⟨by kernel_rfl, ?y18z16⟩) (HS.out _ dd2) ?_
    case y18z16 => (intro w hSw; (try dsimp only at hSw); go_simp; try with_reducible rfl)
    simp only [Act.put, List.setIfInBounds_toArray, List.set_cons_zero, List.set_cons_succ, List.getElem_toArray, List.getElem_cons_zero, List.getElem_cons_succ]
    refine wpAnyH_ready (rs := [15]) (by kernel_rfl) (by simp) ?_
    refine AllReadyH.cons rfl (fun K hK => ?_) AllReadyH.nil
    rw [if_pos (by kernel_rfl)]
    go_wp2_with fail
    refine (KT.out _ dd2).mono ?_
    rintro e v9 ⟨rfl, rfl⟩
    go_wp2_with fail
    refine hK.out _ _ (HS.out _ dd2) (fun _ => ?_)
    clear hK K
    try simp only [Act.put, List.setIfInBounds_toArray, List.set_cons_zero, List.set_cons_succ, List.getElem_toArray, List.getElem_cons_zero, List.getElem_cons_succ]
    refine wpAnyH_take (i := 19) (v := ?v19z17) rfl (by kernel_rfl) (by kernel_rfl) (by kernel_rfl) (fun _ _ _ h => h) (Or.inl ⟨by kernel_rfl, ?y19z17⟩) (HS.out _ dd2) ?_
    case y19z17 => (intro w hSw; (try dsimp only at hSw); go_simp; try with_reducible rfl)
    simp only [Act.put, List.setIfInBounds_toArray, List.set_cons_zero, List.set_cons_succ, List.getElem_toArray, List.getElem_cons_zero, List.getElem_cons_succ]
    refine wpAnyH_take (i := 20) (v := ?v20z18) rfl (by kernel_rfl) (by kernel_rfl) (by kernel_rfl) (fun _ _ _ h => h) (Or.inl ⟨by rfl, ?y20z18⟩) (HS.out _ dd2) ?_
    case y20z18 => (intro w hSw; (try dsimp only at hSw); go_simp; try with_reducible rfl)
    simp only [Act.put, List.setIfInBounds_toArray, List.set_cons_zero, List.set_cons_succ, List.getElem_toArray, List.getElem_cons_zero, List.getElem_cons_succ]
    refine wpAnyH_take (i := 21) (v := ?v21z19) rfl (by kernel_rfl) (by kernel_rfl) (by kernel_rfl) (fun _ _ _ h => h) (Or.inl ⟨by rfl, ?y21z19⟩) (HS.out _ dd2) ?_
    case y21z19 => (intro w hSw; (try dsimp only at hSw); go_simp; try with_reducible rfl)
    simp only [Act.put, List.setIfInBounds_toArray, List.set_cons_zero, List.set_cons_succ, List.getElem_toArray, List.getElem_cons_zero, List.getElem_cons_succ]
    refine wpAnyH_take (i := 22) (v := ?v22z20) rfl (by kernel_rfl) (by kernel_rfl) (by kernel_rfl) (fun _ _ _ h => h) (Or.inl ⟨by kernel_rfl, ?y22z20⟩) (HS.out _ dd2) ?_
    case y22z20 => (intro w hSw; (try dsimp only at hSw); go_simp; try with_reducible rfl)
    simp only [Act.put, List.setIfInBounds_toArray, List.set_cons_zero, List.set_cons_succ, List.getElem_toArray, List.getElem_cons_zero, List.getElem_cons_succ]
    refine wpAnyH_take (i := 24) (v := ?v24z21) rfl (by kernel_rfl) (by kernel_rfl) (by kernel_rfl) (fun _ _ _ h => h) (Or.inl ⟨by kernel_rfl, ?y24z21⟩) (HS.out _ dd2) ?_
    case y24z21 => (intro w hSw; (try dsimp only at hSw); go_simp; try with_reducible rfl)
    simp only [Act.put, List.setIfInBounds_toArray, List.set_cons_zero, List.set_cons_succ, List.getElem_toArray, List.getElem_cons_zero, List.getElem_cons_succ]
    refine wpAnyH_take (i := 25) (v := ?v25z22) rfl (by kernel_rfl) (by kernel_rfl) (by kernel_rfl) (fun _ _ _ h => h) (Or.inl ⟨by kernel_rfl, ?y25z22⟩) (HS.out _ dd2) ?_
    case y25z22 => (intro w hSw; (try dsimp only at hSw); go_simp; try with_reducible rfl)
    simp only [Act.put, List.setIfInBounds_toArray, List.set_cons_zero, List.set_cons_succ, List.getElem_toArray, List.getElem_cons_zero, List.getElem_cons_succ]
    refine wpAnyH_ready (rs := [23]) (by kernel_rfl) (by simp) ?_
    refine AllReadyH.cons rfl (fun K hK => ?_) AllReadyH.nil
    rw [if_pos (by kernel_rfl)]
    go_wp2_with fail
    refine (KU.out _ dd2).mono ?_
    rintro e v9 ⟨rfl, rfl⟩
    go_wp2_with fail
    refine hK.out _ _ (HS.out _ dd2) (fun _ => ?_)
    clear hK K
    try simp only [Act.put, List.setIfInBounds_toArray, List.set_cons_zero, List.set_cons_succ, List.getElem_toArray, List.getElem_cons_zero, List.getElem_cons_succ]
    refine wpAnyH_take (i := 26) (v := ?v26z23) rfl (by kernel_rfl) (by kernel_rfl) (by kernel_rfl) (fun _ _ _ h => h) (Or.inl ⟨by kernel_rfl, ?y26z23⟩) (HS.out _ dd2) ?_
    case y26z23 => (intro w hSw; (try dsimp only at hSw); go_simp; try with_reducible rfl)
    simp only [Act.put, List.setIfInBounds_toArray, List.set_cons_zero, List.set_cons_succ, List.getElem_toArray, List.getElem_cons_zero, List.getElem_cons_succ]
    refine wpAnyH_take (i := 27) (v := ?v27z24) rfl (by kernel_rfl) (by kernel_rfl) (by kernel_rfl) (fun _ _ _ h => h) (Or.inl ⟨by rfl, ?y27z24⟩) (HS.out _ dd2) ?_
    case y27z24 => (intro w hSw; (try dsimp only at hSw); go_simp; try with_reducible rfl)
    simp only [Act.put, List.setIfInBounds_toArray, List.set_cons_zero, List.set_cons_succ, List.getElem_toArray, List.getElem_cons_zero, List.getElem_cons_succ]
    refine wpAnyH_take (i := 28) (v := ?v28z25) rfl (by kernel_rfl) (by kernel_rfl) (by kernel_rfl) (fun _ _ _ h => h) (Or.inl ⟨by rfl, ?y28z25⟩) (HS.out _ dd2) ?_
    case y28z25 => (intro w hSw; (try dsimp only at hSw); go_simp; try with_reducible rfl)
    simp only [Act.put, List.setIfInBounds_toArray, List.set_cons_zero, List.set_cons_succ, List.getElem_toArray, List.getElem_cons_zero, List.getElem_cons_succ]
    refine wpAnyH_done (by kernel_rfl) ?_ _
    refine NoPanic.normal ?_
    go_wp2_with fail
    go_ret
    exact ⟨by simp, up2 B7.out dd2⟩
set_option maxRecDepth 100000 in
theorem lifted (os : Os) (started : os.Started) (H : Type) (enc : TypeId × Value → H) :
    ReturnsInHanded {} Try.checked os 3 .any (Rows.cornerNewSpec.pre6 enc Try.prog Try.f3 Rows.cornerNewRow.domain false) (Rows.cornerNewSpec.post enc Try.prog Try.f3 false true false false) := by
  refine returnsInHanded_of_change (C := Try.checked) own_knob started (by kernel_rfl) Try.func3
    (ChangeSpec.witness6 (enc := enc) (C := Try.checked) false ⟨#[], #[.agg #[.int .i64 0, .slice none 0 0]], []⟩ 8 (by kernel_rfl) (by kernel_rfl) (by kernel_rfl) (by kernel_rfl)) ?_
  intro W base args ds gs before hval0 hW hcnd _
  have hval : ∀ (j : Nat) t v, Try.f3.params[j]? = some t → args[j]? = some v → Value.okWide Try.prog W .any base t v := hval0
  have hW' := hW
  obtain ⟨p, q, hA0, hV, rfl, hfz, hnd⟩ := hW
  have hA : DataW.TrodAll enc Try.prog W 0 (fun _ => true) true Try.f3.params.toList args.toList ds p := hA0
  rw [Try.params3] at hA hval
  obtain ⟨v0, vs0, d0, ds0, p0, q0, hargs, rfl, rfl, h0, r0⟩ := trodAll_cons hA
  obtain ⟨rfl, rfl, rfl⟩ := trodAll_nil r0
  obtain rfl : args = #[v0] := by cases args; simp_all
  obtain ⟨rfl, rfl⟩ := trodVars_none hV
  have lt0 : ∀ x ∈ p0, x.block < W.heap.size := by obtain ⟨m, hm⟩ := h0; exact DataW.trod_lt m _ _ _ hm
  obtain ⟨N0, a0, len0, cap0, xs0, rfl, hN0, hr0⟩ := arg_soup (hval 0 24 v0 rfl rfl) h0
  clear hA0 hval0
  refine (walk N0 a0 len0 cap0 xs0 W hN0.1 hN0.2 hr0).mono fun e W' ⟨he, bel⟩ => ?_
  subst he
  exact ⟨_, rfl, _, _, _, [], _, [], hW', trodAll_mk1 (shut_bool Try.underlying4 _), (trodAll_cons_mk (Below.trod laid_out (by kernel_rfl) (of_decide_eq_true (by kernel_rfl)) h0 bel lt0) trodAll_mk0), rfl, bel.frame _, fun h => by cases h⟩

theorem over : Rows.cornerNewRow.holds Try.pinned (OpenSpec.ofChange Rows.cornerNewSpec) :=
  OpenClaim.holds_of_wide 3 Try.f3 rfl rfl rfl rfl rfl rfl rfl ⟨rfl, rfl, rfl, rfl, rfl⟩ rfl rfl rfl rfl rfl (by kernel_rfl) Try.func3 (by kernel_rfl)
    (of_decide_eq_true (by kernel_rfl)) (by unfold Func.isWrapper; first | (rw [if_pos (by decide +kernel)]; kernel_rfl) | (rw [if_neg (by decide +kernel)]; exact ⟨rfl, rfl⟩))
    (fun os started H enc _ => lifted os started H enc)

theorem proved : Rows.CornerNewSaid := over
end Go.Proofs.Ytkcmieblnajmpaa.cornerNew
