/- BorderWalks: what a walk along the border tells, from any vertex on, is as the document says; it may be left early, and taken again. No condition. -/
import Derived.Test.YtmflacmgffpjoaaBdLaw
import Derived.Test.YtmflacmgffpjoaaBdList
import Derived.Test.YtmflacmgffpjoaaSouAlk
import Derived.Test.YtmflacmgffpjoaaGY
import Derived.Test.YtmflacmgffpjoaaGM
namespace Go.Proofs.Ytmflacmgffpjoaa.borderWalks
open Go.RowKit Go.ChangeShapes Go.WideShapes Go.ChangeAt Go.Shelf

attribute [local go_sem] Oper.semAt_some

theorem walk_len {N : Int} {l : List Tr} (h : Surf N l) {v : Int} {xs : List Int} (hx : IsWalk N l v xs) : xs.length ≤ 3 * l.length := by
  rcases hx with ⟨_, rfl⟩ | ⟨_, L, hL, rfl⟩
  · simp
  · rw [natsI_len]; exact loop_len h hL
theorem take_snocI {xs : List Int} {k : Nat} (h : k < xs.length) : xs.take (k + 1) = xs.take k ++ [xs.getD k 0] := by
  rw [List.take_add_one, List.getD_eq_getElem?_getD, List.getElem?_eq_getElem h]; rfl
theorem pre_next {pre xs : List Int} {x : Int} {k : Nat} (hp : pre <+: xs) (hk : pre.length = k) (hlt : k < xs.length) : pre ++ [x] <+: xs ↔ x = xs.getD k 0 := by
  have e := List.prefix_iff_eq_take.1 hp
  rw [hk] at e
  rw [List.prefix_iff_eq_take, List.length_append, List.length_singleton, hk, take_snocI hlt, ← e]
  constructor
  · intro h
    have := List.append_cancel_left h
    injection this
  · intro h; rw [h]
set_option maxHeartbeats 16000000 in
set_option maxRecDepth 100000 in
theorem walk (N : Int) (A : Option Addr) (n c : Nat) (l : List Tr) (v : Int) (i : Int) (w : World) (_ : -9223372036854775808 ≤ N) (_ : N ≤ 9223372036854775807) (h : T3 w A n l) (hv1 : -9223372036854775808 ≤ v) (hv2 : v ≤ 9223372036854775807) (hi0 : 0 ≤ i) (hi1 : i ≤ 255) :
    Calls Try.prog 4 #[.agg #[.int .i64 N, .slice A n c], .int .i64 v, .int .u8 i] w (BoolTold10 w true) := by
  refine (callsIn_wide (n := 9)).1 ?_
  have hv : -9223372036854775808 ≤ v ∧ v ≤ 9223372036854775807 := ⟨hv1, hv2⟩
  obtain ⟨r, hr⟩ : ∃ r : Nat, Int.tmod i 5 = (r : Int) := ⟨(Int.tmod i 5).toNat, by rw [Int.toNat_of_nonneg]; exact Int.tmod_nonneg _ hi0⟩
  have swi : IntKind.i64.wrap i = i := IntWalk.i64_in _ (by omega)
  clear hv1 hv2 hi0 hi1
  obtain rfl := h.1
  have HL := Lib.hid h
  have KA := Lib.hid awake12_true
  obtain ⟨w1, hw1⟩ : ∃ w1, w.alloc (.cells #[.int .i64 N, .slice A l.length c] 24) = w1 := ⟨_, rfl⟩
  obtain ⟨g0, hg0⟩ : ∃ g0, w.heap.size = g0 := ⟨_, rfl⟩
  obtain ⟨w2, hw2⟩ : ∃ w2, w1.alloc (.cells #[.int .u8 i] 5) = w2 := ⟨_, rfl⟩
  obtain ⟨bs, hbs⟩ : ∃ bs, w1.heap.size = bs := ⟨_, rfl⟩
  obtain ⟨w3, hw3⟩ : ∃ w3, w2.alloc (.cells #[.bool false] 4) = w3 := ⟨_, rfl⟩
  obtain ⟨br, hbr⟩ : ∃ br, w2.heap.size = br := ⟨_, rfl⟩
  have b1 : Below w.heap.size w w1 := by rw [← hw1]; exact (Below.refl _ w).alloc (Nat.le_refl _) _
  have b2 : Below w1.heap.size w1 w2 := by rw [← hw2]; exact (Below.refl _ w1).alloc (Nat.le_refl _) _
  have b3 : Below w2.heap.size w2 w3 := by rw [← hw3]; exact (Below.refl _ w2).alloc (Nat.le_refl _) _
  have x1 : Bx w1 g0 N A l.length c := by rw [← hw1, ← hg0]; exact Bx.made w N A l.length c
  have o2 : Boxed w2 bs 5 (.int .u8 i) := by rw [← hw2, ← hbs]; exact Boxed.new w1 _ _
  have o3 : Boxed w3 br 4 (.bool false) := by rw [← hw3, ← hbr]; exact Boxed.new w2 _ _
  have HX := Lib.hid (show Bx w3 g0 N A l.length c ∧ Boxed w3 bs 5 (.int .u8 i) ∧ Boxed w3 br 4 (.bool false) ∧ Below w.heap.size w w3 ∧ w.heap.size ≤ br ∧ bs < br ∧ g0 < br from
    ⟨x1.below (up2 b2 b3), (b3.block bs o2.lt).trans o2, o3, up2 (up2 b1 b2) b3, by have := (up2 b1 b2).size; omega, by rw [← hbr]; exact o2.lt, by rw [← hbr]; exact Nat.lt_of_lt_of_le (heap_lt x1) b2.size⟩)
  clear b1 b2 b3 x1 o2 o3 h
  refine callsIn_of_wp_marks Try.func4 rfl trivial ?_ rfl
  simp only [Try.ntmps4, List.size_toArray, List.length_cons, List.length_nil, Nat.reduceAdd, Nat.reduceSub, Array.replicate_succ, Array.replicate_zero, List.push_toArray, List.append_toArray, List.nil_append, List.cons_append]
  have FF := Lib.hid (fun W (b : Below w3.heap.size w3 W) => (show W.frozen? ⟨br, 0, none⟩ = false ∧ W.cell? ⟨br, 0, none⟩ = some (.bool false) from by
    have hx : Boxed W br 4 (.bool false) := (b.block br HX.out.2.2.1.lt).trans HX.out.2.2.1
    exact ⟨hx.frozen, hx.cell⟩))
  have END := Lib.hid (fun (W : World) (b : Below w.heap.size w W) (hc : W.cell? ⟨br, 0, none⟩ = some (.bool false)) => (show (W.setCell ⟨br, 0, none⟩ (.bool true)).cell? ⟨br, 0, none⟩ = some (.bool true) ∧ Below w.heap.size w (W.setCell ⟨br, 0, none⟩ (.bool true)) from
    ⟨World.cell?_setCell_same' W ⟨br, 0, none⟩ (.bool true) (by rw [hc]; rfl), b.setCell (p := ⟨br, 0, none⟩) HX.out.2.2.2.2.1 _⟩))
  gi_wp2_with (refine ⟨trivial, ?_⟩; gi_at_call 10; refine (callsIn_wide.2 (KA.out _)).mono ?_; clear KA; rintro e w4 ⟨rfl, b4⟩; have x4 := HX.out.1.below b4; have e0 := x4.c0; have e1 := x4.c1)
  clear hw1 hw2 hw3
  have B4 := Lib.hid (And.intro b4 x4)
  have KL := Lib.hid (table12_any w4 N A l.length c l (HL.out.below (up2 HX.out.2.2.2.1 b4)))
  clear b4 x4
  refine ⟨trivial, ?_⟩
  refine (callsIn_wide.2 KL.out).mono ?_
  clear KL e0 e1
  rintro e w5 ⟨b5, ⟨rfl, hno⟩ | ⟨hn40, g, rfl, tab⟩⟩
  · have b35 := up2 B4.out.1 b5
    have x5 := B4.out.2.below b5
    have e0 := x5.c0
    have e1 := x5.c1
    obtain ⟨f5, r5⟩ := FF.out w5 b35
    have B5 := Lib.hid b35
    clear b5 x5 b35
    by_cases h40 : 40 < l.length
    · have d40 : decide ((l.length : Int) > 40) = true := decide_eq_true (by omega)
      clear h40 hno
      gi_wp2
      refine ⟨trivial, ?_⟩
      gi_wp2
      obtain ⟨hc6, b6⟩ := END.out w5 (up2 HX.out.2.2.2.1 B5.out) r5
      refine ⟨.bool true, ?_, rfl, b6⟩
      simp [results, Try.f4, go_sem, hc6]
    · have d40 : decide ((l.length : Int) > 40) = false := decide_eq_false (by omega)
      have KS := Lib.hid (surf9_any w5 N A l.length c l (HL.out.below (up2 HX.out.2.2.2.1 B5.out)) (by omega) false ⟨fun h => (by cases h), fun h => hno.elim (fun k => absurd k h40) fun k => absurd h k⟩)
      clear h40 hno
      gi_wp2_with (refine ⟨trivial, ?_⟩; gi_at_call 12; refine (callsIn_wide.2 KS.out).mono ?_; clear KS; rintro e w6 ⟨rfl, b6⟩; obtain ⟨f6, r6⟩ := FF.out w6 (up2 B5.out b6))
      obtain ⟨hc6, b7⟩ := END.out w6 (up2 HX.out.2.2.2.1 (up2 B5.out b6)) r6
      refine ⟨.bool true, ?_, rfl, b7⟩
      simp [results, Try.f4, go_sem, hc6]
  obtain ⟨xs, hxs⟩ := walk_exists tab.surf v
  have hxl := walk_len tab.surf hxs
  have b35 := up2 B4.out.1 b5
  have x5 := B4.out.2.below b5
  have e0 := x5.c0
  have e1 := x5.c1
  have TAB := Lib.hid tab
  have KW := Lib.hid ((r12walk_any w5 N A l.length c l (HL.out.below (up2 HX.out.2.2.2.1 b35)) tab.surf v xs hxs).mono fun _ _ h => h.at)
  have HXS := Lib.hid hxs
  have B5 := Lib.hid (And.intro b35 x5)
  clear b35 x5 b5 tab hxs
  gi_wp2_with (refine ⟨trivial, ?_⟩; gi_at_call 21; refine (callsIn_wide.2 KW.out).mono ?_; clear KW; rintro e w6 ⟨A6, c6, rfl, r6, b6, hc6⟩)
  obtain ⟨nx, hnx⟩ : ∃ nx, xs.length = nx := ⟨_, rfl⟩
  rw [hnx] at r6 hc6 hxl
  simp only [hnx]
  obtain ⟨w7, hw7⟩ : ∃ w7, w6.alloc (.cells #[.slice A6 nx c6] 40) = w7 := ⟨_, rfl⟩
  obtain ⟨bw, hbw⟩ : ∃ bw, w6.heap.size = bw := ⟨_, rfl⟩
  have b7 : Below w6.heap.size w6 w7 := by rw [← hw7]; exact (Below.refl _ w6).alloc (Nat.le_refl _) _
  have o7 : Boxed w7 bw 40 (.slice A6 nx c6) := by rw [← hw7, ← hbw]; exact Boxed.new w6 _ _
  have H7 := Lib.hid (And.intro (up2 b6 b7) (And.intro o7 (And.intro (r6.below b7) (show br < bw by rw [← hbw]; exact Nat.lt_of_lt_of_le HX.out.2.2.1.lt (up2 B5.out.1 b6).size))))
  simp only [hw7, hbw]
  have HNX := Lib.hid hnx
  clear hw7 hbw b6 b7 o7 r6 hc6 e0 e1 hnx
  have bd : Below w7.heap.size w7 w7.drew := Reading.below ⟨1, rfl⟩
  have HC := Lib.hid (fun W (b : Below w7.heap.size w7 W) => (show W.cell? ⟨bw, 0, none⟩ = some (.slice A6 nx c6) from ((b.block bw H7.out.2.1.lt).trans H7.out.2.1 : Boxed W bw 40 (.slice A6 nx c6)) |> Boxed.cell))
  have hd := HC.out w7.drew bd
  have KL := Lib.hid (fun W (b : Below w5.heap.size w5 W) => walk12_any W (.pointer (some ⟨g, 0, none⟩)) v xs (by rw [HNX.out]; omega) w5.heap.size b.size (fun W' b' => bdwalk_any w5 _ g N l TAB.out v hv xs HXS.out W' (up2 b b')))
  have KI := Lib.hid (fun W A2 n2 c2 (r2 : Reads W A2 n2 (ints xs)) (r3 : Reads W A6 nx (ints xs)) => (show Calls Try.prog 22 #[.slice A2 n2 c2, .slice A6 nx c6] W (BoolTold10 W true) from by
    refine (rints_any W A2 A6 n2 c2 nx c6 _ _ r2 r3 (by rw [← r2.len, HNX.out]; omega)).mono ?_
    rintro e w9 ⟨rfl, hr⟩
    exact ⟨by rw [decide_eq_true rfl], hr.below⟩))
  refine wpIn_wide.2 ?_
  refine wp_region_noPanic ?_
  refine wp_region_held_drew (S := fun w' => w'.cell? ⟨bw, 0, none⟩ = some (.slice A6 nx c6)) (by kernel_rfl) hd (fun _ => ?_)
  refine wpAnyH_take (i := 0) (v := ?v0z1) rfl (by kernel_rfl) (by kernel_rfl) (by kernel_rfl) (fun _ _ _ h => h) (Or.inl ⟨by rfl, ?y0z1⟩) hd ?_
  case y0z1 => (intro w hSw; (try dsimp only at hSw); go_simp; try with_reducible rfl)
  simp only [Act.put, List.setIfInBounds_toArray, List.set_cons_zero, List.set_cons_succ, List.getElem_toArray, List.getElem_cons_zero]
  refine wpAnyH_take (i := 1) (v := ?v1z2) rfl (by kernel_rfl) (by kernel_rfl) (by kernel_rfl) (fun _ _ _ h => h) (Or.inl ⟨by rfl, ?y1z2⟩) hd ?_
  case y1z2 => (intro w hSw; (try dsimp only at hSw); go_simp; try with_reducible rfl)
  simp only [Act.put, List.setIfInBounds_toArray, List.set_cons_zero, List.set_cons_succ, List.getElem_toArray, List.getElem_cons_zero, List.getElem_cons_succ]
  refine wpAnyH_take (i := 3) (v := ?v3z3) rfl (by kernel_rfl) (by kernel_rfl) (by kernel_rfl) (fun _ _ _ h => h) (Or.inl ⟨by rfl, ?y3z3⟩) hd ?_
  case y3z3 => (intro w hSw; (try dsimp only at hSw); go_simp; try with_reducible rfl)
  simp only [Act.put, List.setIfInBounds_toArray, List.set_cons_zero, List.set_cons_succ, List.getElem_toArray, List.getElem_cons_zero, List.getElem_cons_succ]
  refine wpAnyH_ready (rs := [2]) (by kernel_rfl) (by simp) ?_
  refine AllReadyH.cons rfl (fun K hK => ?_) AllReadyH.nil
  rw [if_pos (by rfl)]
  go_wp2_with fail
  refine (KL.out _ (up2 H7.out.1 bd)).mono ?_
  rintro e vv1 ⟨A8, n8, c8, rfl, r8, b9⟩
  have dd1 := up2 bd b9
  obtain ⟨A8', c8', e8, _, ro8⟩ := Reads.of_own r8
  injection e8 with e8a _ e8b
  subst e8a e8b
  have KII := Lib.hid (KI.out _ A8 n8 c8 ro8 (H7.out.2.2.1.below dd1))
  clear r8 ro8
  clear b9
  go_wp2_with fail
  refine hK.out _ _ (HC.out _ dd1) (fun _ => ?_)
  clear hK K
  try simp only [Act.put, List.setIfInBounds_toArray, List.set_cons_zero, List.set_cons_succ, List.getElem_toArray, List.getElem_cons_zero, List.getElem_cons_succ]
  refine wpAnyH_ready (rs := [4]) (by kernel_rfl) (by simp) ?_
  refine AllReadyH.cons rfl (fun K hK => ?_) AllReadyH.nil
  rw [if_pos (by rfl)]
  go_wp2_with fail
  refine (KII.out).mono ?_
  rintro e vv2 ⟨rfl, b9⟩
  have dd2 := up2 dd1 b9
  clear b9
  go_wp2_with fail
  refine hK.out _ _ (HC.out _ dd2) (fun _ => ?_)
  clear hK K
  try simp only [Act.put, List.setIfInBounds_toArray, List.set_cons_zero, List.set_cons_succ, List.getElem_toArray, List.getElem_cons_zero, List.getElem_cons_succ]
  refine wpAnyH_take (i := 5) (v := ?v5z4) rfl (by kernel_rfl) (by kernel_rfl) (by kernel_rfl) (fun _ _ _ h => h) (Or.inl ⟨by rfl, ?y5z4⟩) (HC.out _ dd2) ?_
  case y5z4 => (intro w hSw; (try dsimp only at hSw); go_simp; try with_reducible rfl)
  simp only [Act.put, List.setIfInBounds_toArray, List.set_cons_zero, List.set_cons_succ, List.getElem_toArray, List.getElem_cons_zero, List.getElem_cons_succ]
  refine wpAnyH_done (by kernel_rfl) ?_ _
  refine NoPanic.normal ?_
  obtain ⟨w8, hw8⟩ : ∃ w8, vv2 = w8 := ⟨_, rfl⟩
  rw [hw8] at dd2
  simp only [hw8]
  have B8 := Lib.hid (And.intro dd2 (up2 H7.out.1 dd2))
  clear hd bd dd1 dd2 hw8
  obtain ⟨w9, hw9⟩ : ∃ w9, w8.alloc (.cells #[.int .i64 0] 3) = w9 := ⟨_, rfl⟩
  obtain ⟨bk, hbk⟩ : ∃ bk, w8.heap.size = bk := ⟨_, rfl⟩
  have b9 : Below w8.heap.size w8 w9 := by rw [← hw9]; exact (Below.refl _ w8).alloc (Nat.le_refl _) _
  have o9 : Boxed w9 bk 3 (.int .i64 0) := by rw [← hw9, ← hbk]; exact Boxed.new w8 _ _
  have hc9 := o9.cell
  have hf9 := o9.frozen
  obtain ⟨w10, hw10⟩ : ∃ w10, w9.setCell ⟨bk, 0, none⟩ (.int .i64 0) = w10 := ⟨_, rfl⟩
  have b10 : Below w8.heap.size w8 w10 := by rw [← hw10]; exact b9.setCell (p := ⟨bk, 0, none⟩) (by show w8.heap.size ≤ bk; omega) _
  have o10 : Boxed w10 bk 3 (.int .i64 0) := by rw [← hw10]; exact o9.set _
  have K9 := Lib.hid (bdwalk_any w8 _ g N l (TAB.out.below B8.out.2) v hv xs HXS.out w10 b10)
  have H10 := Lib.hid (And.intro b10 (And.intro o10 (show w8.heap.size ≤ bk by omega)))
  clear b9 o9 b10 o10
  gi_wp2_with (refine ⟨trivial, ?_⟩; gi_at_call 24; refine (callsIn_wide.2 K9.out).mono ?_; clear K9; rintro e w11 ⟨lb, rfl, b11, hseq⟩)
  clear hc9 hf9 hw9 hw10
  have B11 := Lib.hid (And.intro b11 (up2 H10.out.1 b11))
  have o11 : Boxed w11 bk 3 (.int .i64 0) := (b11.block bk H10.out.2.1.lt).trans H10.out.2.1
  have hbk10 : bk < w10.heap.size := H10.out.2.1.lt
  have hbw8 : w8.heap.size ≤ bk := H10.out.2.2
  -- what lies while the border is walked
  have b711 := up2 B8.out.1 B11.out.2
  have b311 := up2 B5.out.1 (up2 B8.out.2 B11.out.2)
  have ow : Boxed w11 bw 40 (.slice A6 nx c6) := (b711.block bw H7.out.2.1.lt).trans H7.out.2.1
  have os : Boxed w11 bs 5 (.int .u8 i) := (b311.block bs HX.out.2.1.lt).trans HX.out.2.1
  have rw11 : Reads w8 A6 nx (ints xs) := H7.out.2.2.1.below B8.out.1
  have hb8 : w8.heap.size ≤ w11.heap.size := B11.out.2.size
  have hbs8 : bs < w8.heap.size := Nat.lt_of_lt_of_le HX.out.2.1.lt (up2 B5.out.1 B8.out.2).size
  have hbw8' : bw < w8.heap.size := Nat.lt_of_lt_of_le H7.out.2.1.lt B8.out.1.size
  have obr : Boxed w11 br 4 (.bool false) := (b311.block br HX.out.2.2.1.lt).trans HX.out.2.2.1
  have hbr8 : br < w8.heap.size := Nat.lt_trans H7.out.2.2.2 hbw8'
  have HLAY := Lib.hid (fun (W : World) (k : KeepX (fun b => b = bk) w11.heap.size w11 W) => (show Boxed W bw 40 (.slice A6 nx c6) ∧ Boxed W bs 5 (.int .u8 i) ∧ Boxed W br 4 (.bool false) from
    ⟨(k.far bw (by omega) (by omega) (by show ¬ bw = bk; omega)).trans ow, (k.far bs (by omega) (by omega) (by show ¬ bs = bk; omega)).trans os, (k.far br (by omega) (by omega) (by show ¬ br = bk; omega)).trans obr⟩))
  have HROW := Lib.hid (fun (W : World) (k : KeepX (fun b => b = bk) w11.heap.size w11 W) => (show Reads W A6 nx (ints xs) from by
    refine ⟨rw11.1, fun hn => ?_⟩
    obtain ⟨ad, hA, hc⟩ := rw11.2 hn
    refine ⟨ad, hA, fun j u hj => ?_⟩
    have hlt := World.block_lt_of_cell? w8 _ (hc j u hj)
    have h11 : w11.cell? (ad.add j) = some u := (B11.out.2.cell hlt).trans (hc j u hj)
    have e := k.far (ad.add j).block (by omega) (by omega) (by show ¬ (ad.add j).block = bk; omega)
    rw [← h11]
    simp only [World.cell?, e]))
  have h58 : w5.heap.size ≤ w8.heap.size := B8.out.2.size
  have HBW := Lib.hid (fun (W : World) (k : KeepX (fun b => b = bk) w11.heap.size w11 W) => (show Below w5.heap.size w5 W ∧ Below w.heap.size w W from by
    have h1 := up2 B8.out.2 B11.out.2
    have h2 := up2 (up2 HX.out.2.2.2.1 B5.out.1) h1
    exact ⟨h1.trans (k.below (n := w5.heap.size) (by omega) (by omega) (fun b hb => by subst hb; omega)), h2.trans (k.below (n := w.heap.size) h2.size h2.size (fun b hb => by subst hb; have := (up2 HX.out.2.2.2.1 B5.out.1).size; omega))⟩))
  clear ow os obr rw11 b711 b311 b11
  refine wpIn_rangeFunc_ownG (F := Fence.wide) (n := 9) rfl (by decide) (gf := 45) (lb := lb) rfl trivial (enters_of Try.func45 (by kernel_rfl) rfl)
    (hseq (fun b => b = bk) w11.heap.size 8 (fun b hb => by subst hb; exact ⟨by omega, hbk10⟩) (Nat.le_refl _) (by decide)) (fun h k => h.trans k) (keepX_b (Nat.le_refl _)) (Below.refl _ _) (fun _ => rfl)
    (fun pre W => Boxed W bk 3 (.int .i64 (pre.length : Int)) ∧ (KeepX (fun b => b = bk) w11.heap.size w11 W ∧ pre <+: xs))
    (fun c pre W => (c = .ret ∧ ¬ pre <+: xs) ∨ (c = .exit 0 ∧ KeepX (fun b => b = bk) w11.heap.size w11 W))
    (OwnFrom.and (Own.from (boxed_own bk 3 (fun pre : List Int => .int .i64 (pre.length : Int))) _) (OwnFrom.and (ownFrom_keepX (Nat.le_refl _)) (ownFrom_pure _ (fun pre : List Int => pre <+: xs))))
    (fun c s P Q row hs hg hr => hs.imp id fun h => ⟨h.1, ownFrom_keepX (β := List Int) (Nat.le_refl _) s P Q row h.2 hg hr⟩)
    ⟨o11, KeepX.refl _ _ _, List.nil_prefix⟩
    (fun x => { tmps := #[.agg #[.int .i64 N, .slice A l.length c], .int .i64 v, .int .u8 i, .pointer (some ⟨g0, 0, none⟩), undef, .pointer (some ⟨bs, 0, none⟩), .pointer (some ⟨br, 0, none⟩), .pointer (some ⟨g, 0, none⟩), .pointer (some ⟨bw, 0, none⟩), .pointer (some ⟨bk, 0, none⟩), .int .i64 x, .bool true, .bool false, .agg #[.int .i64 N, .slice A l.length c], .pointer (some ⟨g, 0, none⟩), .pointer (some ⟨g, 0, none⟩), .bool false, undef, undef, undef, undef, undef, undef, undef, undef, undef, .agg #[.int .i64 N, .slice A l.length c], .int .i64 v, .slice A6 nx c6, .pointer (some ⟨g, 0, none⟩), .int .i64 v, .slice A8 n8 c8, .slice A6 nx c6, .bool true, .bool false, .pointer (some ⟨g, 0, none⟩), .int .i64 v, .func (.func 45) #[] lb, .int .i64 x, undef, undef, undef, undef, undef, undef, undef, undef, undef, undef, undef, undef, undef, undef, undef, undef, undef, undef, undef, undef, undef, undef, undef, undef], defers := [] }) ?assign ?body ?done ?stop
  case assign =>
    intro l0 x W K hK
    gi_wp2
    exact hK
  case body =>
    rintro l0 pre x W ⟨hv9, hkx, hpre⟩ hN
    have hc := hv9.cell
    have hf := hv9.frozen
    obtain ⟨ow, os, ob⟩ := HLAY.out W hkx
    have hcw := ow.cell
    have hcs := os.cell
    have hcb := ob.cell
    have hfb := ob.frozen
    obtain ⟨k, hk⟩ : ∃ k, pre.length = k := ⟨_, rfl⟩
    rw [hk] at hc hN
    rw [HNX.out] at hN
    obtain ⟨ad, rfl, hcx⟩ := (HROW.out W hkx).int k hN
    have hpt := pre_next (x := x) hpre hk (by rw [HNX.out]; exact hN)
    obtain ⟨y, hy⟩ : ∃ y, xs.getD k 0 = y := ⟨_, rfl⟩
    rw [hy] at hcx hpt
    have g1 : decide ((k : Int) ≥ (nx : Int)) = false := decide_eq_false (by omega)
    have g2 : decide (nx ≤ k) = false := decide_eq_false (by omega)
    have i0 : 0 ≤ (k : Int) := by omega
    have i1 : (k : Int) < (nx : Int) := by omega
    have sw : IntKind.i64.wrap ((k : Int) + 1) = (k : Int) + 1 := IntWalk.i64_in _ (by omega)
    have HW := Lib.hid (And.intro hv9 (And.intro hkx (And.intro hpt (show ((pre ++ [x]).length : Int) = (k : Int) + 1 by rw [List.length_append, hk]; simp))))
    clear ow os ob hkx hpre hpt hy hv9 hk
    by_cases hxy : x = y
    · have d1 : (x != y) = false := by simpa using hxy
      have hp2 := Lib.hid (HW.out.2.2.1.2 hxy)
      clear hxy
      by_cases hgt : r < k + 1
      · have d2 : decide ((k : Int) + 1 > (r : Int)) = true := decide_eq_true (by omega)
        clear hgt
        gi_wp2_with fail
        exact ⟨(KeepsOthers.setCell _ _ _).from _, .inr ⟨rfl, HW.out.2.1.trans (keepX_set (X := fun b => b = bk) rfl _)⟩⟩
      · have d2 : decide ((k : Int) + 1 > (r : Int)) = false := decide_eq_false (by omega)
        clear hgt
        gi_wp2_with fail
        exact ⟨(KeepsOthers.setCell _ _ _).from _, keepX_set (X := fun b => b = bk) rfl _, by rw [HW.out.2.2.2]; exact HW.out.1.set _, HW.out.2.1.trans (keepX_set (X := fun b => b = bk) rfl _), hp2.out⟩
    · have d1 : (x != y) = true := by simpa using hxy
      have hp2 := Lib.hid (fun h => hxy (HW.out.2.2.1.1 h))
      clear hxy
      gi_wp2_with fail
      exact ⟨(KeepsOthers.setCell _ _ _).from _, .inl ⟨rfl, hp2.out⟩⟩
  case done =>
    rintro D ys W hD rfl ⟨hv9, hkx, _⟩ hK
    obtain ⟨ow, os, ob⟩ := HLAY.out W hkx
    obtain ⟨bW5, bWw⟩ := HBW.out W hkx
    have rW := HROW.out W hkx
    have hDW : D < W.heap.size := heap_lt hK
    have hDr : D ≠ br := fun e => by subst e; rw [ob] at hK; cases hK
    have HC := Lib.hid (fun W' (b : Below W.heap.size W W') => (show W'.cell? ⟨bw, 0, none⟩ = some (.slice A6 nx c6) from ((b.block bw ow.lt).trans ow : Boxed W' bw 40 (.slice A6 nx c6)) |> Boxed.cell))
    have HRB := Lib.hid (fun W' (b : Below W.heap.size W W') => (show Boxed W' br 4 (.bool false) from (b.block br ob.lt).trans ob))
    have bd : Below W.heap.size W W.drew := Reading.below ⟨1, rfl⟩
    have hd := HC.out W.drew bd
    have hcw := ow.cell
    have HF := Lib.hid (And.intro bW5 (And.intro bWw (And.intro rW (And.intro hDW (And.intro hDr (And.intro hK hD))))))
    clear ow os ob bW5 bWw rW hDW hDr hK hD
    gi_wp2_with fail
    refine wpIn_wide.2 ?_
    refine wp_region_noPanic ?_
    refine wp_region_held_drew (S := fun w' => w'.cell? ⟨bw, 0, none⟩ = some (.slice A6 nx c6)) (by kernel_rfl) hd (fun _ => ?_)
    refine wpAnyH_take (i := 0) (v := ?v0z5) rfl (by kernel_rfl) (by kernel_rfl) (by kernel_rfl) (fun _ _ _ h => h) (Or.inl ⟨by rfl, ?y0z5⟩) hd ?_
    case y0z5 => (intro w hSw; (try dsimp only at hSw); go_simp; try with_reducible rfl)
    simp only [Act.put, List.setIfInBounds_toArray, List.set_cons_zero, List.set_cons_succ, List.getElem_toArray, List.getElem_cons_zero]
    refine wpAnyH_take (i := 1) (v := ?v1z6) rfl (by kernel_rfl) (by kernel_rfl) (by kernel_rfl) (fun _ _ _ h => h) (Or.inl ⟨by rfl, ?y1z6⟩) hd ?_
    case y1z6 => (intro w hSw; (try dsimp only at hSw); go_simp; try with_reducible rfl)
    simp only [Act.put, List.setIfInBounds_toArray, List.set_cons_zero, List.set_cons_succ, List.getElem_toArray, List.getElem_cons_zero, List.getElem_cons_succ]
    refine wpAnyH_take (i := 3) (v := ?v3z7) rfl (by kernel_rfl) (by kernel_rfl) (by kernel_rfl) (fun _ _ _ h => h) (Or.inl ⟨by rfl, ?y3z7⟩) hd ?_
    case y3z7 => (intro w hSw; (try dsimp only at hSw); go_simp; try with_reducible rfl)
    simp only [Act.put, List.setIfInBounds_toArray, List.set_cons_zero, List.set_cons_succ, List.getElem_toArray, List.getElem_cons_zero, List.getElem_cons_succ]
    refine wpAnyH_ready (rs := [2]) (by kernel_rfl) (by simp) ?_
    refine AllReadyH.cons rfl (fun K hK => ?_) AllReadyH.nil
    rw [if_pos (by rfl)]
    go_wp2_with fail
    refine (KL.out _ (up2 HF.out.1 bd)).mono ?_
    rintro e vv1 ⟨A9, n9, c9, rfl, r9, b9⟩
    have dd1 := up2 bd b9
    obtain ⟨A9', c9', e9, _, ro9⟩ := Reads.of_own r9
    injection e9 with e9a _ e9b
    subst e9a e9b
    have KII := Lib.hid (KI.out _ A9 n9 c9 ro9 (HF.out.2.2.1.below dd1))
    clear r9 ro9
    clear b9
    go_wp2_with fail
    refine hK.out _ _ (HC.out _ dd1) (fun _ => ?_)
    clear hK K
    try simp only [Act.put, List.setIfInBounds_toArray, List.set_cons_zero, List.set_cons_succ, List.getElem_toArray, List.getElem_cons_zero, List.getElem_cons_succ]
    refine wpAnyH_ready (rs := [4]) (by kernel_rfl) (by simp) ?_
    refine AllReadyH.cons rfl (fun K hK => ?_) AllReadyH.nil
    rw [if_pos (by rfl)]
    go_wp2_with fail
    refine (KII.out).mono ?_
    rintro e vv2 ⟨rfl, b9⟩
    have dd2 := up2 dd1 b9
    clear b9
    go_wp2_with fail
    refine hK.out _ _ (HC.out _ dd2) (fun _ => ?_)
    clear hK K
    try simp only [Act.put, List.setIfInBounds_toArray, List.set_cons_zero, List.set_cons_succ, List.getElem_toArray, List.getElem_cons_zero, List.getElem_cons_succ]
    have hz1 := (HRB.out _ dd2).cell
    have hz2 := (HRB.out _ dd2).frozen
    have hne : bw ≠ br := Nat.ne_of_gt H7.out.2.2.2
    have hz3 : (vv2.setCell ⟨br, 0, none⟩ (.bool true)).cell? ⟨bw, 0, none⟩ = some (.slice A6 nx c6) := (World.cell?_setCell_far vv2 ⟨br, 0, none⟩ ⟨bw, 0, none⟩ (.bool true) (Ne.symm hne)).trans (HC.out _ dd2)
    refine wpAnyH_ready (rs := [5]) (by kernel_rfl) (by simp) ?_
    refine AllReadyH.cons rfl (fun K hK => ?_) AllReadyH.nil
    go_simp
    refine hK.out _ _ hz3 (fun _ => ?_)
    clear hK K
    try simp only [Act.put, List.setIfInBounds_toArray, List.set_cons_zero, List.set_cons_succ, List.getElem_toArray, List.getElem_cons_zero, List.getElem_cons_succ]
    refine wpAnyH_done (by kernel_rfl) ?_ _
    refine NoPanic.normal ?_
    gi_wp2_with fail
    have hKz : (vv2.setCell ⟨br, 0, none⟩ (.bool true)).heap[D]? = some (.deferred (some [])) := (Below.heap_setCell vv2 ⟨br, 0, none⟩ (.bool true) D HF.out.2.2.2.2.1).trans ((dd2.block D HF.out.2.2.2.1).trans HF.out.2.2.2.2.2.1)
    have hcr := World.cell?_setCell_same' vv2 ⟨br, 0, none⟩ (.bool true) (by rw [(HRB.out vv2 dd2).cell]; rfl)
    refine ⟨by simp, .inl ⟨_, _, rfl, run_takeDeferred hKz, ?_⟩⟩
    have hc5 := cell_kept hcr (grownBy_putObj' _ D (.deferred none)) (fun r e => by cases e; exact ⟨_, hKz, rfl⟩)
    refine ⟨.bool true, ?_, rfl, ((up2 HF.out.2.1 dd2).setCell (p := ⟨br, 0, none⟩) HX.out.2.2.2.2.1 _).trans (belowK_b (w := w11) (Nat.le_trans (up2 HX.out.2.2.2.1 (up2 B5.out.1 (up2 B8.out.2 B11.out.2))).size (Nat.le_refl _)) _ D _ _ HF.out.2.2.2.2.2.2 hKz rfl rfl)⟩
    simp [results, Try.f4, go_sem, hc5]
  case stop =>
    rintro D cd pre W hD hpre hix hK
    rcases hix with ⟨_, hn⟩ | ⟨rfl, hkx⟩
    · exact absurd hpre hn
    obtain ⟨ow, os, ob⟩ := HLAY.out W hkx
    obtain ⟨bW5, bWw⟩ := HBW.out W hkx
    have rW := HROW.out W hkx
    have hDW : D < W.heap.size := heap_lt hK
    have hDr : D ≠ br := fun e => by subst e; rw [ob] at hK; cases hK
    have HC := Lib.hid (fun W' (b : Below W.heap.size W W') => (show W'.cell? ⟨bw, 0, none⟩ = some (.slice A6 nx c6) from ((b.block bw ow.lt).trans ow : Boxed W' bw 40 (.slice A6 nx c6)) |> Boxed.cell))
    have HRB := Lib.hid (fun W' (b : Below W.heap.size W W') => (show Boxed W' br 4 (.bool false) from (b.block br ob.lt).trans ob))
    have bd : Below W.heap.size W W.drew := Reading.below ⟨1, rfl⟩
    have hd := HC.out W.drew bd
    have hcw := ow.cell
    have HF := Lib.hid (And.intro bW5 (And.intro bWw (And.intro rW (And.intro hDW (And.intro hDr (And.intro hK hD))))))
    clear ow os ob bW5 bWw rW hDW hDr hK hD
    gi_wp2_with fail
    refine wpIn_wide.2 ?_
    refine wp_region_noPanic ?_
    refine wp_region_held_drew (S := fun w' => w'.cell? ⟨bw, 0, none⟩ = some (.slice A6 nx c6)) (by kernel_rfl) hd (fun _ => ?_)
    refine wpAnyH_take (i := 0) (v := ?v0z8) rfl (by kernel_rfl) (by kernel_rfl) (by kernel_rfl) (fun _ _ _ h => h) (Or.inl ⟨by rfl, ?y0z8⟩) hd ?_
    case y0z8 => (intro w hSw; (try dsimp only at hSw); go_simp; try with_reducible rfl)
    simp only [Act.put, List.setIfInBounds_toArray, List.set_cons_zero, List.set_cons_succ, List.getElem_toArray, List.getElem_cons_zero]
    refine wpAnyH_take (i := 1) (v := ?v1z9) rfl (by kernel_rfl) (by kernel_rfl) (by kernel_rfl) (fun _ _ _ h => h) (Or.inl ⟨by rfl, ?y1z9⟩) hd ?_
    case y1z9 => (intro w hSw; (try dsimp only at hSw); go_simp; try with_reducible rfl)
    simp only [Act.put, List.setIfInBounds_toArray, List.set_cons_zero, List.set_cons_succ, List.getElem_toArray, List.getElem_cons_zero, List.getElem_cons_succ]
    refine wpAnyH_take (i := 3) (v := ?v3z10) rfl (by kernel_rfl) (by kernel_rfl) (by kernel_rfl) (fun _ _ _ h => h) (Or.inl ⟨by rfl, ?y3z10⟩) hd ?_
    case y3z10 => (intro w hSw; (try dsimp only at hSw); go_simp; try with_reducible rfl)
    simp only [Act.put, List.setIfInBounds_toArray, List.set_cons_zero, List.set_cons_succ, List.getElem_toArray, List.getElem_cons_zero, List.getElem_cons_succ]
    refine wpAnyH_ready (rs := [2]) (by kernel_rfl) (by simp) ?_
    refine AllReadyH.cons rfl (fun K hK => ?_) AllReadyH.nil
    rw [if_pos (by rfl)]
    go_wp2_with fail
    refine (KL.out _ (up2 HF.out.1 bd)).mono ?_
    rintro e vv1 ⟨A9, n9, c9, rfl, r9, b9⟩
    have dd1 := up2 bd b9
    obtain ⟨A9', c9', e9, _, ro9⟩ := Reads.of_own r9
    injection e9 with e9a _ e9b
    subst e9a e9b
    have KII := Lib.hid (KI.out _ A9 n9 c9 ro9 (HF.out.2.2.1.below dd1))
    clear r9 ro9
    clear b9
    go_wp2_with fail
    refine hK.out _ _ (HC.out _ dd1) (fun _ => ?_)
    clear hK K
    try simp only [Act.put, List.setIfInBounds_toArray, List.set_cons_zero, List.set_cons_succ, List.getElem_toArray, List.getElem_cons_zero, List.getElem_cons_succ]
    refine wpAnyH_ready (rs := [4]) (by kernel_rfl) (by simp) ?_
    refine AllReadyH.cons rfl (fun K hK => ?_) AllReadyH.nil
    rw [if_pos (by rfl)]
    go_wp2_with fail
    refine (KII.out).mono ?_
    rintro e vv2 ⟨rfl, b9⟩
    have dd2 := up2 dd1 b9
    clear b9
    go_wp2_with fail
    refine hK.out _ _ (HC.out _ dd2) (fun _ => ?_)
    clear hK K
    try simp only [Act.put, List.setIfInBounds_toArray, List.set_cons_zero, List.set_cons_succ, List.getElem_toArray, List.getElem_cons_zero, List.getElem_cons_succ]
    have hz1 := (HRB.out _ dd2).cell
    have hz2 := (HRB.out _ dd2).frozen
    have hne : bw ≠ br := Nat.ne_of_gt H7.out.2.2.2
    have hz3 : (vv2.setCell ⟨br, 0, none⟩ (.bool true)).cell? ⟨bw, 0, none⟩ = some (.slice A6 nx c6) := (World.cell?_setCell_far vv2 ⟨br, 0, none⟩ ⟨bw, 0, none⟩ (.bool true) (Ne.symm hne)).trans (HC.out _ dd2)
    refine wpAnyH_ready (rs := [5]) (by kernel_rfl) (by simp) ?_
    refine AllReadyH.cons rfl (fun K hK => ?_) AllReadyH.nil
    go_simp
    refine hK.out _ _ hz3 (fun _ => ?_)
    clear hK K
    try simp only [Act.put, List.setIfInBounds_toArray, List.set_cons_zero, List.set_cons_succ, List.getElem_toArray, List.getElem_cons_zero, List.getElem_cons_succ]
    refine wpAnyH_done (by kernel_rfl) ?_ _
    refine NoPanic.normal ?_
    gi_wp2_with fail
    have hKz : (vv2.setCell ⟨br, 0, none⟩ (.bool true)).heap[D]? = some (.deferred (some [])) := (Below.heap_setCell vv2 ⟨br, 0, none⟩ (.bool true) D HF.out.2.2.2.2.1).trans ((dd2.block D HF.out.2.2.2.1).trans HF.out.2.2.2.2.2.1)
    have hcr := World.cell?_setCell_same' vv2 ⟨br, 0, none⟩ (.bool true) (by rw [(HRB.out vv2 dd2).cell]; rfl)
    refine ⟨by simp, .inl ⟨_, _, rfl, run_takeDeferred hKz, ?_⟩⟩
    have hc5 := cell_kept hcr (grownBy_putObj' _ D (.deferred none)) (fun r e => by cases e; exact ⟨_, hKz, rfl⟩)
    refine ⟨.bool true, ?_, rfl, ((up2 HF.out.2.1 dd2).setCell (p := ⟨br, 0, none⟩) HX.out.2.2.2.2.1 _).trans (belowK_b (w := w11) (Nat.le_trans (up2 HX.out.2.2.2.1 (up2 B5.out.1 (up2 B8.out.2 B11.out.2))).size (Nat.le_refl _)) _ D _ _ HF.out.2.2.2.2.2.2 hKz rfl rfl)⟩
    simp [results, Try.f4, go_sem, hc5]
set_option maxRecDepth 100000 in
theorem lifted (os : Os) (started : os.Started) (H : Type) (enc : TypeId × Value → H) :
    ReturnsInHanded {} Try.checked os 4 .any (Rows.borderWalksSpec.pre6 enc Try.prog Try.f4 Rows.borderWalksRow.domain false) (Rows.borderWalksSpec.post enc Try.prog Try.f4 false true false false) := by
  refine returnsInHanded_of_change (C := Try.checked) own_knob started (by kernel_rfl) Try.func4
    (ChangeSpec.witness6 (enc := enc) (C := Try.checked) false ⟨#[], #[.agg #[.int .i64 0, .slice none 0 0], .int .i64 0, .int .u8 0], []⟩ 8 (by kernel_rfl) (by kernel_rfl) (by kernel_rfl) (by kernel_rfl)) ?_
  intro W base args ds gs before hval0 hW hcnd _
  have hval : ∀ (j : Nat) t v, Try.f4.params[j]? = some t → args[j]? = some v → Value.okWide Try.prog W .any base t v := hval0
  have hW' := hW
  obtain ⟨p, q, hA0, hV, rfl, hfz, hnd⟩ := hW
  have hA : DataW.TrodAll enc Try.prog W 0 (fun _ => true) true Try.f4.params.toList args.toList ds p := hA0
  rw [Try.params4] at hA hval
  obtain ⟨v0, vs0, d0, ds0, p0, q0, hargs, rfl, rfl, h0, r0⟩ := trodAll_cons hA
  obtain ⟨v1, vs1, d1, ds1, p1, q1, rfl, rfl, rfl, h1, r1⟩ := trodAll_cons r0
  obtain ⟨v2, vs2, d2, ds2, p2, q2, rfl, rfl, rfl, h2, r2⟩ := trodAll_cons r1
  obtain ⟨rfl, rfl, rfl⟩ := trodAll_nil r2
  obtain rfl : args = #[v0, v1, v2] := by cases args; simp_all
  obtain ⟨rfl, rfl⟩ := trodVars_none hV
  have lt0 : ∀ x ∈ p0, x.block < W.heap.size := by obtain ⟨m, hm⟩ := h0; exact DataW.trod_lt m _ _ _ hm
  obtain ⟨N0, a0, len0, cap0, xs0, rfl, hN0, hr0⟩ := arg_soup (hval 0 24 v0 rfl rfl) h0
  obtain ⟨a1, rfl, rfl, rfl, w1⟩ := open_int Try.underlying3 (hval 1 3 v1 rfl rfl) h1
  have bd1 := bounds_i64 w1
  obtain ⟨a2, rfl, rfl, rfl, w2⟩ := open_int Try.underlying5 (hval 2 5 v2 rfl rfl) h2
  have bd2 := bounds_u8 w2
  clear hA0 hval0
  refine (walk N0 a0 len0 cap0 xs0 a1 a2 W hN0.1 hN0.2 hr0 (by omega) (by omega) (by omega) (by omega)).mono fun e W' ⟨he, bel⟩ => ?_
  subst he
  exact ⟨_, rfl, _, _, _, [], _, [], hW', trodAll_mk1 (shut_bool Try.underlying4 _), (trodAll_cons_mk (Below.trod laid_out (by kernel_rfl) (of_decide_eq_true (by kernel_rfl)) h0 bel lt0) (trodAll_cons_mk (shut_int Try.underlying3 w1) (trodAll_cons_mk (shut_int Try.underlying5 w2) trodAll_mk0))), rfl, bel.frame _, fun h => by cases h⟩

theorem over : Rows.borderWalksRow.holds Try.pinned (OpenSpec.ofChange Rows.borderWalksSpec) :=
  OpenClaim.holds_of_wide 4 Try.f4 rfl rfl rfl rfl rfl rfl rfl ⟨rfl, rfl, rfl, rfl, rfl⟩ rfl rfl rfl rfl rfl (by kernel_rfl) Try.func4 (by kernel_rfl)
    (of_decide_eq_true (by kernel_rfl)) (by unfold Func.isWrapper; first | (rw [if_pos (by decide +kernel)]; kernel_rfl) | (rw [if_neg (by decide +kernel)]; exact ⟨rfl, rfl⟩))
    (fun os started H enc _ => lifted os started H enc)

theorem proved : Rows.BorderWalksSaid := over
end Go.Proofs.Ytmflacmgffpjoaa.borderWalks
