/- BorderEdges: the border edges, the vertex behind each vertex, and all loops, of any surface, are as the document says. No condition. -/
import Derived.Test.YtmflacmgffpjoaaBdLaw
import Derived.Test.YtmflacmgffpjoaaBdLps
import Derived.Test.YtmflacmgffpjoaaSouAlk
import Derived.Test.YtmflacmgffpjoaaGM
namespace Go.Proofs.Ytmflacmgffpjoaa.borderEdges
open Go.RowKit Go.ChangeShapes Go.WideShapes Go.ChangeAt

theorem row_len {N : Int} {l : List Tr} (h : Surf N l) {LL : List (List Nat)} (hL : IsLoops N l LL) (h40 : l.length ≤ 40) : LL.length ≤ 4096 ∧ ∀ i, ((LL.map natsI).getD i []).length ≤ 1000000 := by
  have := loopsK_le hL
  have := h.n1
  refine ⟨by omega, fun i => ?_⟩
  rw [List.getD_eq_getElem?_getD, List.getElem?_map]
  by_cases hi : i < LL.length
  · obtain ⟨v, _, _, hl, _⟩ := hL.at hi
    have := loop_len h hl
    rw [List.getD_eq_getElem?_getD, List.getElem?_eq_getElem hi] at this
    rw [List.getElem?_eq_getElem hi]
    simp only [Option.map_some, Option.getD_some, natsI_len] at this ⊢
    omega
  · rw [List.getElem?_eq_none (by omega)]; simp
set_option maxHeartbeats 16000000 in
set_option maxRecDepth 100000 in
theorem walk (N : Int) (A : Option Addr) (n c : Nat) (l : List Tr) (v : Int) (w : World) (_ : -9223372036854775808 ≤ N) (_ : N ≤ 9223372036854775807) (h : T3 w A n l) (hv1 : -9223372036854775808 ≤ v) (hv2 : v ≤ 9223372036854775807) :
    Calls Try.prog 3 #[.agg #[.int .i64 N, .slice A n c], .int .i64 v] w (BoolTold10 w true) := by
  have hv : -9223372036854775808 ≤ v ∧ v ≤ 9223372036854775807 := ⟨hv1, hv2⟩
  clear hv1 hv2
  obtain rfl := h.1
  have HL := Lib.hid h
  have KA := Lib.hid awake12_true
  obtain ⟨w1, hw1⟩ : ∃ w1, w.alloc (.cells #[.int .i64 N, .slice A l.length c] 24) = w1 := ⟨_, rfl⟩
  obtain ⟨g0, hg0⟩ : ∃ g0, w.heap.size = g0 := ⟨_, rfl⟩
  have b1 : Below w.heap.size w w1 := by rw [← hw1]; exact (Below.refl _ w).alloc (Nat.le_refl _) _
  have x1 : Bx w1 g0 N A l.length c := by rw [← hw1, ← hg0]; exact Bx.made w N A l.length c
  have B1 := Lib.hid (And.intro b1 x1)
  clear b1 x1 h
  go_enter Try.func3, Try.ntmps3
  go_wp2_with fail
  refine (KA.out _).mono ?_
  rintro e w2 ⟨rfl, b2⟩
  have x2 := B1.out.2.below b2
  have e0 := x2.c0
  have e1 := x2.c1
  have B2 := Lib.hid (And.intro (up2 B1.out.1 b2) x2)
  have KL := Lib.hid (table12_any w2 N A l.length c l (HL.out.below B2.out.1))
  clear b2 x2
  go_wp2_with fail
  refine KL.out.mono ?_
  rintro e w3 ⟨b3, ⟨rfl, hno⟩ | ⟨hn40, g, rfl, tab⟩⟩
  · have x3 := B2.out.2.below b3
    have e0 := x3.c0
    have e1 := x3.c1
    have B3 := Lib.hid (up2 B2.out.1 b3)
    clear b3 x3
    by_cases h40 : 40 < l.length
    · have d40 : decide ((l.length : Int) > 40) = true := decide_eq_true (by omega)
      clear h40 hno
      go_wp2_with fail
      go_ret
      exact ⟨rfl, B3.out⟩
    · have d40 : decide ((l.length : Int) > 40) = false := decide_eq_false (by omega)
      have KS := Lib.hid (surf9_any w3 N A l.length c l (HL.out.below B3.out) (by omega) false ⟨fun h => (by cases h), fun h => hno.elim (fun k => absurd k h40) fun k => absurd h k⟩)
      clear h40 hno
      go_wp2_with fail
      refine KS.out.mono ?_
      rintro e w4 ⟨rfl, b4⟩
      have B4 := Lib.hid (up2 B3.out b4)
      clear b4
      go_wp2_with fail
      go_ret
      exact ⟨rfl, B4.out⟩
  have x3 := B2.out.2.below b3
  have e0 := x3.c0
  have e1 := x3.c1
  have B3 := Lib.hid (And.intro (up2 B2.out.1 b3) x3)
  have TAB := Lib.hid tab
  have SF := Lib.hid tab.surf
  have hN := And.intro tab.surf.n0 tab.surf.n1
  clear b3 x3 tab
  obtain ⟨LL, hLL⟩ := loops_exists N l
  obtain ⟨hl1, hl2⟩ := row_len SF.out hLL hn40
  have HS := Lib.hid (fun W (b : Below w3.heap.size w3 W) => (show W.cell? ⟨g0, 0, none⟩ = some (.int .i64 N) ∧ W.cell? ⟨g0, 1, none⟩ = some (.slice A l.length c) from ⟨(B3.out.2.below b).c0, (B3.out.2.below b).c1⟩))
  have bd : Below w3.heap.size w3 w3.drew := Reading.below ⟨1, rfl⟩
  have hd := HS.out w3.drew bd
  have hbe : (bE l).length ≤ 140737488351232 := by
    have : (bE l).length = (bUp l (3 * l.length)).length := rfl
    have := bUp_le l (3 * l.length)
    omega
  have K1 := Lib.hid (fun W (b : Below w3.heap.size w3 W) => bdedges_any W _ g N l (TAB.out.below b))
  have K2 := Lib.hid (fun W (b : Below w3.heap.size w3 W) => r12edges_any W N A l.length c l (HL.out.below (up2 B3.out.1 b)) (by omega))
  have KI := Lib.hid (fun W A1 n1 c1 A2 n2 c2 (h1 : E2 W A1 n1 (bE l)) (h2 : E2 W A2 n2 (bE l)) => (show Calls Try.prog 13 #[.slice A1 n1 c1, .slice A2 n2 c2] W (BoolTold10 W true) from by
    refine (ralike_any W A1 A2 n1 c1 n2 c2 _ _ h1 h2 (by rw [← h1.1]; exact hbe)).mono ?_
    rintro e w9 ⟨rfl, hr⟩
    exact ⟨by rw [decide_eq_true rfl], hr.below⟩))
  have k4 := fun W (b : Below w3.heap.size w3 W) => bdafter_any W _ g N l (TAB.out.below b) v hv
  have k5 := fun W (b : Below w3.heap.size w3 W) => r12after_any W N A l.length c l (HL.out.below (up2 B3.out.1 b)) (by omega) v
  obtain ⟨z, hz⟩ : ∃ z, afterV l v = z := ⟨_, rfl⟩
  simp only [hz] at k4 k5
  have K4 := Lib.hid k4
  have K5 := Lib.hid k5
  have K6 := Lib.hid (fun W (b : Below w3.heap.size w3 W) => bdloops_any W _ g N l (TAB.out.below b) LL hLL)
  have K7 := Lib.hid (fun W (b : Below w3.heap.size w3 W) => r12loops_any W N A l.length c l (HL.out.below (up2 B3.out.1 b)) SF.out LL hLL)
  have KJ := Lib.hid (fun W A1 n1 c1 A2 n2 c2 (h1 : RowsI W A1 n1 (LL.map natsI)) (h2 : RowsI W A2 n2 (LL.map natsI)) => (show Calls Try.prog 18 #[.slice A1 n1 c1, .slice A2 n2 c2] W (BoolTold10 W true) from by
    have := r12lists_any W A1 A2 n1 c1 n2 c2 _ _ h1 h2 (by have := h1.1; rw [List.length_map] at this; omega) (fun i _ => hl2 i)
    rwa [decide_eq_true rfl] at this))
  have dz : (z == z) = true := beq_self_eq_true z
  clear hLL hl1 hl2 hbe k4 k5 hz
  go_wp2_with fail
  refine wp_region_noPanic ?_
  refine wp_region_held_drew (S := fun w' => w'.cell? ⟨g0, 0, none⟩ = some (.int .i64 N) ∧ w'.cell? ⟨g0, 1, none⟩ = some (.slice A l.length c)) (by kernel_rfl) hd (fun _ => ?_)
  refine wpAnyH_take (i := 0) (v := ?v0z1) rfl (by kernel_rfl) (by kernel_rfl) (by kernel_rfl) (fun _ _ _ h => h) (Or.inl ⟨by rfl, ?y0z1⟩) hd ?_
  case y0z1 => (intro w hSw; (try dsimp only at hSw); go_simp; try with_reducible rfl)
  simp only [Act.put, List.setIfInBounds_toArray, List.set_cons_zero, List.set_cons_succ, List.getElem_toArray, List.getElem_cons_zero]
  refine wpAnyH_take (i := 2) (v := ?v2z2) rfl (by kernel_rfl) (by kernel_rfl) (by kernel_rfl) (fun _ _ _ h => h) (Or.inl ⟨by rfl, ?y2z2⟩) hd ?_
  case y2z2 => (intro w hSw; (try dsimp only at hSw); go_simp; try with_reducible rfl)
  simp only [Act.put, List.setIfInBounds_toArray, List.set_cons_zero, List.set_cons_succ, List.getElem_toArray, List.getElem_cons_zero, List.getElem_cons_succ]
  refine wpAnyH_ready (rs := [1]) (by kernel_rfl) (by simp) ?_
  refine AllReadyH.cons rfl (fun K hK => ?_) AllReadyH.nil
  rw [if_pos (by rfl)]
  go_wp2_with fail
  refine (K1.out _ bd).mono ?_
  rintro e vv1 ⟨A1, n1, c1, rfl, r1, b9⟩
  have dd1 := up2 bd b9
  clear b9
  go_wp2_with fail
  refine hK.out _ _ (HS.out _ dd1) (fun _ => ?_)
  clear hK K
  try simp only [Act.put, List.setIfInBounds_toArray, List.set_cons_zero, List.set_cons_succ, List.getElem_toArray, List.getElem_cons_zero, List.getElem_cons_succ]
  refine wpAnyH_ready (rs := [3]) (by kernel_rfl) (by simp) ?_
  refine AllReadyH.cons rfl (fun K hK => ?_) AllReadyH.nil
  rw [if_pos (by rfl)]
  go_wp2_with fail
  refine (K2.out _ dd1).mono ?_
  rintro e vv2 ⟨A2, n2, c2, rfl, r2, b9⟩
  have dd2 := up2 dd1 b9
  have KII := Lib.hid (KI.out _ A1 n1 c1 A2 n2 c2 (r1.below b9) r2)
  clear r1 r2
  clear b9
  go_wp2_with fail
  refine hK.out _ _ (HS.out _ dd2) (fun _ => ?_)
  clear hK K
  try simp only [Act.put, List.setIfInBounds_toArray, List.set_cons_zero, List.set_cons_succ, List.getElem_toArray, List.getElem_cons_zero, List.getElem_cons_succ]
  refine wpAnyH_ready (rs := [4]) (by kernel_rfl) (by simp) ?_
  refine AllReadyH.cons rfl (fun K hK => ?_) AllReadyH.nil
  rw [if_pos (by rfl)]
  go_wp2_with fail
  refine (KII.out).mono ?_
  rintro e vv3 ⟨rfl, b9⟩
  have dd3 := up2 dd2 b9
  clear b9
  go_wp2_with fail
  refine hK.out _ _ (HS.out _ dd3) (fun _ => ?_)
  clear hK K
  try simp only [Act.put, List.setIfInBounds_toArray, List.set_cons_zero, List.set_cons_succ, List.getElem_toArray, List.getElem_cons_zero, List.getElem_cons_succ]
  refine wpAnyH_take (i := 5) (v := ?v5z3) rfl (by kernel_rfl) (by kernel_rfl) (by kernel_rfl) (fun _ _ _ h => h) (Or.inl ⟨by rfl, ?y5z3⟩) (HS.out _ dd3) ?_
  case y5z3 => (intro w hSw; (try dsimp only at hSw); go_simp; try with_reducible rfl)
  simp only [Act.put, List.setIfInBounds_toArray, List.set_cons_zero, List.set_cons_succ, List.getElem_toArray, List.getElem_cons_zero, List.getElem_cons_succ]
  refine wpAnyH_take (i := 6) (v := ?v6z4) rfl (by kernel_rfl) (by kernel_rfl) (by kernel_rfl) (fun _ _ _ h => h) (Or.inl ⟨by kernel_rfl, ?y6z4⟩) (HS.out _ dd3) ?_
  case y6z4 => (intro w hSw; (try dsimp only at hSw); go_simp; try with_reducible rfl)
  simp only [Act.put, List.setIfInBounds_toArray, List.set_cons_zero, List.set_cons_succ, List.getElem_toArray, List.getElem_cons_zero, List.getElem_cons_succ]
  refine wpAnyH_take (i := 7) (v := ?v7z5) rfl (by kernel_rfl) (by kernel_rfl) (by kernel_rfl) (fun _ _ _ h => h) (Or.inl ⟨by kernel_rfl, ?y7z5⟩) (HS.out _ dd3) ?_
  case y7z5 => (intro w hSw; (try dsimp only at hSw); go_simp; try with_reducible rfl)
  simp only [Act.put, List.setIfInBounds_toArray, List.set_cons_zero, List.set_cons_succ, List.getElem_toArray, List.getElem_cons_zero, List.getElem_cons_succ]
  refine wpAnyH_take (i := 9) (v := ?v9z6) rfl (by kernel_rfl) (by kernel_rfl) (by kernel_rfl) (fun _ _ _ h => h) (Or.inl ⟨by kernel_rfl, ?y9z6⟩) (HS.out _ dd3) ?_
  case y9z6 => (intro w hSw; (try dsimp only at hSw); go_simp; try with_reducible rfl)
  simp only [Act.put, List.setIfInBounds_toArray, List.set_cons_zero, List.set_cons_succ, List.getElem_toArray, List.getElem_cons_zero, List.getElem_cons_succ]
  refine wpAnyH_take (i := 10) (v := ?v10z7) rfl (by kernel_rfl) (by kernel_rfl) (by kernel_rfl) (fun _ _ _ h => h) (Or.inl ⟨by kernel_rfl, ?y10z7⟩) (HS.out _ dd3) ?_
  case y10z7 => (intro w hSw; (try dsimp only at hSw); go_simp; try with_reducible rfl)
  simp only [Act.put, List.setIfInBounds_toArray, List.set_cons_zero, List.set_cons_succ, List.getElem_toArray, List.getElem_cons_zero, List.getElem_cons_succ]
  refine wpAnyH_ready (rs := [8]) (by kernel_rfl) (by simp) ?_
  refine AllReadyH.cons rfl (fun K hK => ?_) AllReadyH.nil
  rw [if_pos (by kernel_rfl)]
  go_wp2_with fail
  refine (K4.out _ dd3).mono ?_
  rintro e vv4 ⟨rfl, b9⟩
  have dd4 := up2 dd3 b9
  clear b9
  go_wp2_with fail
  refine hK.out _ _ (HS.out _ dd4) (fun _ => ?_)
  clear hK K
  try simp only [Act.put, List.setIfInBounds_toArray, List.set_cons_zero, List.set_cons_succ, List.getElem_toArray, List.getElem_cons_zero, List.getElem_cons_succ]
  refine wpAnyH_ready (rs := [11]) (by kernel_rfl) (by simp) ?_
  refine AllReadyH.cons rfl (fun K hK => ?_) AllReadyH.nil
  rw [if_pos (by kernel_rfl)]
  go_wp2_with fail
  refine (K5.out _ dd4).mono ?_
  rintro e vv5 ⟨rfl, b9⟩
  have dd5 := up2 dd4 b9
  clear b9
  go_wp2_with fail
  refine hK.out _ _ (HS.out _ dd5) (fun _ => ?_)
  clear hK K
  try simp only [Act.put, List.setIfInBounds_toArray, List.set_cons_zero, List.set_cons_succ, List.getElem_toArray, List.getElem_cons_zero, List.getElem_cons_succ]
  refine wpAnyH_take (i := 12) (v := ?v12z8) rfl (by kernel_rfl) (by kernel_rfl) (by kernel_rfl) (fun _ _ _ h => h) (Or.inl ⟨by kernel_rfl, ?y12z8⟩) (HS.out _ dd5) ?_
  case y12z8 => (intro w hSw; (try dsimp only at hSw); go_simp; try with_reducible rfl)
  simp only [Act.put, List.setIfInBounds_toArray, List.set_cons_zero, List.set_cons_succ, List.getElem_toArray, List.getElem_cons_zero, List.getElem_cons_succ]
  refine wpAnyH_take (i := 13) (v := ?v13z9) rfl (by kernel_rfl) (by kernel_rfl) (by kernel_rfl) (fun _ _ _ h => h) (Or.inl ⟨by rfl, ?y13z9⟩) (HS.out _ dd5) ?_
  case y13z9 => (intro w hSw; (try dsimp only at hSw); go_simp; try with_reducible rfl)
  simp only [Act.put, List.setIfInBounds_toArray, List.set_cons_zero, List.set_cons_succ, List.getElem_toArray, List.getElem_cons_zero, List.getElem_cons_succ]
  refine wpAnyH_take (i := 14) (v := ?v14z10) rfl (by kernel_rfl) (by kernel_rfl) (by kernel_rfl) (fun _ _ _ h => h) (Or.inl ⟨by rfl, ?y14z10⟩) (HS.out _ dd5) ?_
  case y14z10 => (intro w hSw; (try dsimp only at hSw); go_simp; try with_reducible rfl)
  simp only [Act.put, List.setIfInBounds_toArray, List.set_cons_zero, List.set_cons_succ, List.getElem_toArray, List.getElem_cons_zero, List.getElem_cons_succ]
  refine wpAnyH_take (i := 15) (v := ?v15z11) rfl (by kernel_rfl) (by kernel_rfl) (by kernel_rfl) (fun _ _ _ h => h) (Or.inl ⟨by kernel_rfl, ?y15z11⟩) (HS.out _ dd5) ?_
  case y15z11 => (intro w hSw; (try dsimp only at hSw); go_simp; try with_reducible rfl)
  simp only [Act.put, List.setIfInBounds_toArray, List.set_cons_zero, List.set_cons_succ, List.getElem_toArray, List.getElem_cons_zero, List.getElem_cons_succ]
  refine wpAnyH_take (i := 17) (v := ?v17z12) rfl (by kernel_rfl) (by kernel_rfl) (by kernel_rfl) (fun _ _ _ h => h) (Or.inl ⟨by kernel_rfl, ?y17z12⟩) (HS.out _ dd5) ?_
  case y17z12 => (intro w hSw; (try dsimp only at hSw); go_simp; try with_reducible rfl)
  simp only [Act.put, List.setIfInBounds_toArray, List.set_cons_zero, List.set_cons_succ, List.getElem_toArray, List.getElem_cons_zero, List.getElem_cons_succ]
  refine wpAnyH_ready (rs := [16]) (by kernel_rfl) (by simp) ?_
  refine AllReadyH.cons rfl (fun K hK => ?_) AllReadyH.nil
  rw [if_pos (by kernel_rfl)]
  go_wp2_with fail
  refine (K6.out _ dd5).mono ?_
  rintro e vv6 ⟨A6, n6, c6, rfl, r6, b9⟩
  have dd6 := up2 dd5 b9
  clear b9
  go_wp2_with fail
  refine hK.out _ _ (HS.out _ dd6) (fun _ => ?_)
  clear hK K
  try simp only [Act.put, List.setIfInBounds_toArray, List.set_cons_zero, List.set_cons_succ, List.getElem_toArray, List.getElem_cons_zero, List.getElem_cons_succ]
  refine wpAnyH_ready (rs := [18]) (by kernel_rfl) (by simp) ?_
  refine AllReadyH.cons rfl (fun K hK => ?_) AllReadyH.nil
  rw [if_pos (by kernel_rfl)]
  go_wp2_with fail
  refine (K7.out _ dd6).mono ?_
  rintro e vv7 ⟨A7, n7, c7, rfl, r7, b9⟩
  have dd7 := up2 dd6 b9
  have KJJ := Lib.hid (KJ.out _ A6 n6 c6 A7 n7 c7 (r6.rows.below b9) r7.rows)
  clear r6 r7
  clear b9
  go_wp2_with fail
  refine hK.out _ _ (HS.out _ dd7) (fun _ => ?_)
  clear hK K
  try simp only [Act.put, List.setIfInBounds_toArray, List.set_cons_zero, List.set_cons_succ, List.getElem_toArray, List.getElem_cons_zero, List.getElem_cons_succ]
  refine wpAnyH_ready (rs := [19]) (by kernel_rfl) (by simp) ?_
  refine AllReadyH.cons rfl (fun K hK => ?_) AllReadyH.nil
  rw [if_pos (by kernel_rfl)]
  go_wp2_with fail
  refine (KJJ.out).mono ?_
  rintro e vv8 ⟨rfl, b9⟩
  have dd8 := up2 dd7 b9
  clear b9
  go_wp2_with fail
  refine hK.out _ _ (HS.out _ dd8) (fun _ => ?_)
  clear hK K
  try simp only [Act.put, List.setIfInBounds_toArray, List.set_cons_zero, List.set_cons_succ, List.getElem_toArray, List.getElem_cons_zero, List.getElem_cons_succ]
  refine wpAnyH_take (i := 20) (v := ?v20z13) rfl (by kernel_rfl) (by kernel_rfl) (by kernel_rfl) (fun _ _ _ h => h) (Or.inl ⟨by rfl, ?y20z13⟩) (HS.out _ dd8) ?_
  case y20z13 => (intro w hSw; (try dsimp only at hSw); go_simp; try with_reducible rfl)
  simp only [Act.put, List.setIfInBounds_toArray, List.set_cons_zero, List.set_cons_succ, List.getElem_toArray, List.getElem_cons_zero, List.getElem_cons_succ]
  refine wpAnyH_take (i := 21) (v := ?v21z14) rfl (by kernel_rfl) (by kernel_rfl) (by kernel_rfl) (fun _ _ _ h => h) (Or.inl ⟨by rfl, ?y21z14⟩) (HS.out _ dd8) ?_
  case y21z14 => (intro w hSw; (try dsimp only at hSw); go_simp; try with_reducible rfl)
  simp only [Act.put, List.setIfInBounds_toArray, List.set_cons_zero, List.set_cons_succ, List.getElem_toArray, List.getElem_cons_zero, List.getElem_cons_succ]
  refine wpAnyH_done (by kernel_rfl) ?_ _
  refine NoPanic.normal ?_
  go_wp2_with fail
  go_ret
  exact ⟨rfl, up2 B3.out.1 dd8⟩
set_option maxRecDepth 100000 in
theorem lifted (os : Os) (started : os.Started) (H : Type) (enc : TypeId × Value → H) :
    ReturnsInHanded {} Try.checked os 3 .any (Rows.borderEdgesSpec.pre6 enc Try.prog Try.f3 Rows.borderEdgesRow.domain false) (Rows.borderEdgesSpec.post enc Try.prog Try.f3 false true false false) := by
  refine returnsInHanded_of_change (C := Try.checked) own_knob started (by kernel_rfl) Try.func3
    (ChangeSpec.witness6 (enc := enc) (C := Try.checked) false ⟨#[], #[.agg #[.int .i64 0, .slice none 0 0], .int .i64 0], []⟩ 8 (by kernel_rfl) (by kernel_rfl) (by kernel_rfl) (by kernel_rfl)) ?_
  intro W base args ds gs before hval0 hW hcnd _
  have hval : ∀ (j : Nat) t v, Try.f3.params[j]? = some t → args[j]? = some v → Value.okWide Try.prog W .any base t v := hval0
  have hW' := hW
  obtain ⟨p, q, hA0, hV, rfl, hfz, hnd⟩ := hW
  have hA : DataW.TrodAll enc Try.prog W 0 (fun _ => true) true Try.f3.params.toList args.toList ds p := hA0
  rw [Try.params3] at hA hval
  obtain ⟨v0, vs0, d0, ds0, p0, q0, hargs, rfl, rfl, h0, r0⟩ := trodAll_cons hA
  obtain ⟨v1, vs1, d1, ds1, p1, q1, rfl, rfl, rfl, h1, r1⟩ := trodAll_cons r0
  obtain ⟨rfl, rfl, rfl⟩ := trodAll_nil r1
  obtain rfl : args = #[v0, v1] := by cases args; simp_all
  obtain ⟨rfl, rfl⟩ := trodVars_none hV
  have lt0 : ∀ x ∈ p0, x.block < W.heap.size := by obtain ⟨m, hm⟩ := h0; exact DataW.trod_lt m _ _ _ hm
  obtain ⟨N0, a0, len0, cap0, xs0, rfl, hN0, hr0⟩ := arg_soup (hval 0 24 v0 rfl rfl) h0
  obtain ⟨a1, rfl, rfl, rfl, w1⟩ := open_int Try.underlying3 (hval 1 3 v1 rfl rfl) h1
  have bd1 := bounds_i64 w1
  clear hA0 hval0
  refine (walk N0 a0 len0 cap0 xs0 a1 W hN0.1 hN0.2 hr0 (by omega) (by omega)).mono fun e W' ⟨he, bel⟩ => ?_
  subst he
  exact ⟨_, rfl, _, _, _, [], _, [], hW', trodAll_mk1 (shut_bool Try.underlying4 _), (trodAll_cons_mk (Below.trod laid_out (by kernel_rfl) (of_decide_eq_true (by kernel_rfl)) h0 bel lt0) (trodAll_cons_mk (shut_int Try.underlying3 w1) trodAll_mk0)), rfl, bel.frame _, fun h => by cases h⟩

theorem over : Rows.borderEdgesRow.holds Try.pinned (OpenSpec.ofChange Rows.borderEdgesSpec) :=
  OpenClaim.holds_of_wide 3 Try.f3 rfl rfl rfl rfl rfl rfl rfl ⟨rfl, rfl, rfl, rfl, rfl⟩ rfl rfl rfl rfl rfl (by kernel_rfl) Try.func3 (by kernel_rfl)
    (of_decide_eq_true (by kernel_rfl)) (by unfold Func.isWrapper; first | (rw [if_pos (by decide +kernel)]; kernel_rfl) | (rw [if_neg (by decide +kernel)]; exact ⟨rfl, rfl⟩))
    (fun os started H enc _ => lifted os started H enc)

theorem proved : Rows.BorderEdgesSaid := over
end Go.Proofs.Ytmflacmgffpjoaa.borderEdges
