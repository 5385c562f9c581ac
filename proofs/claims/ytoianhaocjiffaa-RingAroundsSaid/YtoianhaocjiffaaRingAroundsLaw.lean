/- RingArounds: the corners around any vertex, in their order, are what the document says; a walk that ends early tells the first ones. No condition. -/
import Derived.Test.YtoianhaocjiffaaRgLaw
import Derived.Test.YtoianhaocjiffaaGM
namespace Go.Proofs.Ytoianhaocjiffaa.ringArounds
open Go.RowKit Go.ChangeShapes Go.WideShapes Go.ChangeAt

theorem run_headI (A : Option Addr) (N c m : Nat) (h2 : m ≤ c) (W : World) :
    (Instr.slice 28 (.slice A N c) none (some (.int .i64 (m : Int))) none).run Try.prog W = .ok (.slice A m c) W := by
  rw [run_slice_h (P := Try.prog) W 28 A N c (by kernel_rfl) .i64 m (by omega) (by omega)]
  have : (sizeOf (Try.prog.elem 28)).run Try.prog W = .ok 1 W := by kernel_rfl
  rw [this]
  cases A <;> simp [sliced, Addr.add]
theorem reads_takeI {w : World} {A : Option Addr} {n m : Nat} {a : List Int} (h : Reads w A n (ints a)) (hN : m ≤ n) : Reads w A m (ints (a.take m)) := by
  have hl := h.len
  refine ⟨by rw [ints, List.length_map, List.length_take]; omega, fun h0 => ?_⟩
  obtain ⟨ad, hA, hc⟩ := h.2 (by omega)
  refine ⟨ad, hA, fun j u hj => hc j u ?_⟩
  rw [show ints (a.take m) = (ints a).take m by simp [ints, List.map_take], List.getElem?_take] at hj
  split at hj
  · exact hj
  · cases hj
theorem take_min {a : List Int} {n m k : Nat} (hn : a.length = n) (hk : min m n = k) : a.take m = a.take k := by
  subst hn hk
  rcases Nat.le_total m a.length with h | h
  · rw [Nat.min_eq_left h]
  · rw [Nat.min_eq_right h, List.take_of_length_le h, List.take_length]
set_option maxHeartbeats 16000000 in
set_option maxRecDepth 100000 in
theorem walk (N : Int) (A : Option Addr) (n c : Nat) (l : List Tr) (v : Int) (i : Int) (w : World) (_ : -9223372036854775808 ≤ N) (_ : N ≤ 9223372036854775807) (h : T3 w A n l) (hv1 : -9223372036854775808 ≤ v) (hv2 : v ≤ 9223372036854775807) (hi0 : 0 ≤ i) (hi1 : i ≤ 255) :
    Calls Try.prog 3 #[.agg #[.int .i64 N, .slice A n c], .int .i64 v, .int .u8 i] w (BoolTold10 w true) := by
  have hv : -9223372036854775808 ≤ v ∧ v ≤ 9223372036854775807 := ⟨hv1, hv2⟩
  clear hv1 hv2
  obtain ⟨r, hr⟩ : ∃ r : Nat, Int.tmod i 50 = (r : Int) := ⟨(Int.tmod i 50).toNat, by rw [Int.toNat_of_nonneg]; exact Int.tmod_nonneg _ hi0⟩
  have hr50 : r < 50 := by have := Int.tmod_lt_of_pos i (show (0 : Int) < 50 by decide); omega
  have swr : IntKind.i64.wrap (r : Int) = (r : Int) := IntWalk.i64_in _ (by omega)
  have sw1 : IntKind.i64.wrap (1 + (r : Int)) = 1 + (r : Int) := IntWalk.i64_in _ (by omega)
  have swi : IntKind.i64.wrap i = i := IntWalk.i64_in _ (by omega)
  clear hi0 hi1
  obtain rfl := h.1
  have HL := Lib.hid h
  have KA := Lib.hid awake11_true
  obtain ⟨w1, hw1⟩ : ∃ w1, w.alloc (.cells #[.int .i64 N, .slice A l.length c] 24) = w1 := ⟨_, rfl⟩
  obtain ⟨g0, hg0⟩ : ∃ g0, w.heap.size = g0 := ⟨_, rfl⟩
  have b1 : Below w.heap.size w w1 := by rw [← hw1]; exact (Below.refl _ w).alloc (Nat.le_refl _) _
  have x1 : Bx w1 g0 N A l.length c := by rw [← hw1, ← hg0]; exact Bx.made w N A l.length c
  have B1 := Lib.hid (And.intro b1 x1)
  clear b1 x1 h
  go_enter Try.func3, Try.ntmps3
  go_wp2_with fail
  refine (KA.out _).mono ?_
  rintro e w2 ⟨rfl, b2⟩
  have x2 := B1.out.2.below b2
  have e0 := x2.c0
  have e1 := x2.c1
  have B2 := Lib.hid (And.intro (up2 B1.out.1 b2) x2)
  have KL := Lib.hid (table11_any w2 N A l.length c l (HL.out.below B2.out.1))
  clear b2 x2
  go_wp2_with fail
  refine KL.out.mono ?_
  rintro e w3 ⟨b3, rfl | ⟨hsm, g, rfl, tab⟩⟩
  · have KL := Lib.hid ((list11_any w3 (.pointer none) v 9 (by omega) [] (by simp) w3.heap.size (Nat.le_refl _) (fun W b => rgaround_nil w3 v hv W b)).mono fun _ _ h => h.at)
    have B3 := Lib.hid (up2 B2.out.1 b3)
    clear b3
    go_wp2_with fail
    refine KL.out.mono ?_
    rintro e w4 ⟨A4, c4, rfl, _, b4, _⟩
    have B4 := Lib.hid (up2 B3.out b4)
    have hl0 : ((([] : List Int).take 9).length : Int) = 0 := rfl
    clear b4
    go_wp2_with fail
    go_ret
    exact ⟨rfl, B4.out⟩
  have x3 := B2.out.2.below b3
  have e0 := x3.c0
  have e1 := x3.c1
  have B3 := Lib.hid (And.intro (up2 B2.out.1 b3) x3)
  have TAB := Lib.hid tab
  have SF := Lib.hid tab.surf
  have hn40 : l.length ≤ 40 := by have := hsm.1; omega
  have hN60 : 0 ≤ N ∧ N ≤ 60 := ⟨hsm.2.2, hsm.2.1⟩
  clear b3 x3 tab hsm
  obtain ⟨L, hL⟩ := ring_exists SF.out v
  have hLn : L.length ≤ 40 := by rw [hL.len]; have := cAt_le SF.out v; omega
  obtain ⟨xl, hxl⟩ : ∃ xl, natsI L = xl := ⟨_, rfl⟩
  obtain ⟨nl, hnl⟩ : ∃ nl, xl.length = nl := ⟨_, rfl⟩
  have hn40' : nl ≤ 40 := by rw [← hnl, ← hxl, natsI_len]; exact hLn
  have KR := Lib.hid ((r11around_ring w3 N A l.length c l (HL.out.below B3.out.1) SF.out v L hL).mono fun _ _ h => h.at)
  have KL := Lib.hid (fun W (b : Below w3.heap.size w3 W) => (list11_any W (.pointer (some ⟨g, 0, none⟩)) v (1 + r) (by omega) xl (by omega) w3.heap.size b.size (fun W' b' => hxl ▸ rgaround_any w3 _ g N l TAB.out v hv L hL W' (up2 b b'))).mono fun _ _ h => h.at)
  clear hL hLn
  rw [hxl] at KR
  go_wp2_with fail
  refine KR.out.mono ?_
  rintro e w4 ⟨A1, c1, rfl, r1, b4, hc1⟩
  rw [hnl] at r1 hc1
  simp only [hnl]
  obtain ⟨k, hk⟩ : ∃ k : Nat, min (1 + r) nl = k := ⟨_, rfl⟩
  have hkn : k ≤ nl := by omega
  have rmn : ∀ W, (Builtin.min_ #[3, 3] 3 #[.int .i64 (1 + (r : Int)), .int .i64 (nl : Int)]).run Try.prog W = .ok (.int .i64 (k : Int)) W := by
    intro W
    rw [run_min_int2, show (if (nl : Int) < 1 + (r : Int) then (nl : Int) else 1 + (r : Int)) = (k : Int) by split <;> omega]
  have rsl : ∀ W, (Instr.slice 28 (.slice A1 nl c1) none (some (.int .i64 (k : Int))) none).run Try.prog W = .ok (.slice A1 k c1) W := fun W => run_headI A1 nl c1 k (by omega) W
  have HR := Lib.hid (And.intro (reads_takeI r1 hkn) b4)
  have KM := Lib.hid (fun W (b : Below w4.heap.size w4 W) => (show Calls Try.prog 12 #[.pointer (some ⟨g, 0, none⟩), .int .i64 v, .int .i64 (1 + (r : Int))] W (RowAt W (xl.take (1 + r))) from by
    have := KL.out W (up2 HR.out.2 b)
    rwa [show ((1 + r : Nat) : Int) = 1 + (r : Int) by omega] at this))
  have KI := Lib.hid (fun W A2 c2 (r2 : Reads W A2 (xl.take (1 + r)).length (ints (xl.take (1 + r)))) (r3 : Reads W A1 k (ints (xl.take k))) => (show Calls Try.prog 14 #[.slice A2 (xl.take (1 + r)).length c2, .slice A1 k c1] W (BoolTold10 W true) from by
    have := r11ints_any W A2 A1 _ c2 _ c1 _ _ r2 r3 (by rw [List.length_take]; omega)
    rwa [decide_eq_true (show xl.take (1 + r) = xl.take k from take_min hnl hk)] at this))
  obtain ⟨xm, hxm⟩ : ∃ xm, xl.take (1 + r) = xm := ⟨_, rfl⟩
  rw [hxm] at KM KI
  clear hk hkn r1 b4 hc1 hxm hnl hn40'
  have bd : Below w4.heap.size w4 w4.drew := Reading.below ⟨1, rfl⟩
  go_wp2_with fail
  refine wp_region_noPanic ?_
  refine wp_region_held_drew (S := fun _ => True) (by kernel_rfl) trivial (fun _ => ?_)
  refine wpAnyH_take (i := 0) (v := ?v0z1) rfl (by kernel_rfl) (by kernel_rfl) (by kernel_rfl) (fun _ _ _ h => h) (Or.inl ⟨by rfl, ?y0z1⟩) trivial ?_
  case y0z1 => (intro w hSw; (try dsimp only at hSw); go_simp; try with_reducible rfl)
  simp only [Act.put, List.setIfInBounds_toArray, List.set_cons_zero, List.set_cons_succ, List.getElem_toArray, List.getElem_cons_zero]
  refine wpAnyH_take (i := 1) (v := ?v1z2) rfl (by kernel_rfl) (by kernel_rfl) (by kernel_rfl) (fun _ _ _ h => h) (Or.inl ⟨by rfl, ?y1z2⟩) trivial ?_
  case y1z2 => (intro w hSw; (try dsimp only at hSw); go_simp; try with_reducible rfl)
  simp only [Act.put, List.setIfInBounds_toArray, List.set_cons_zero, List.set_cons_succ, List.getElem_toArray, List.getElem_cons_zero, List.getElem_cons_succ]
  refine wpAnyH_take (i := 2) (v := ?v2z3) rfl (by kernel_rfl) (by kernel_rfl) (by kernel_rfl) (fun _ _ _ h => h) (Or.inl ⟨by rfl, ?y2z3⟩) trivial ?_
  case y2z3 => (intro w hSw; (try dsimp only at hSw); go_simp; try with_reducible rfl)
  simp only [Act.put, List.setIfInBounds_toArray, List.set_cons_zero, List.set_cons_succ, List.getElem_toArray, List.getElem_cons_zero, List.getElem_cons_succ]
  refine wpAnyH_take (i := 4) (v := ?v4z4) rfl (by kernel_rfl) (by kernel_rfl) (by kernel_rfl) (fun _ _ _ h => h) (Or.inl ⟨by rfl, ?y4z4⟩) trivial ?_
  case y4z4 => (intro w hSw; (try dsimp only at hSw); go_simp; try with_reducible rfl)
  simp only [Act.put, List.setIfInBounds_toArray, List.set_cons_zero, List.set_cons_succ, List.getElem_toArray, List.getElem_cons_zero, List.getElem_cons_succ]
  refine wpAnyH_take (i := 5) (v := ?v5z5) rfl (by kernel_rfl) (by kernel_rfl) (by kernel_rfl) (fun _ _ _ h => h) (Or.inl ⟨by rfl, ?y5z5⟩) trivial ?_
  case y5z5 => (intro w hSw; (try dsimp only at hSw); go_simp; try with_reducible rfl)
  simp only [Act.put, List.setIfInBounds_toArray, List.set_cons_zero, List.set_cons_succ, List.getElem_toArray, List.getElem_cons_zero, List.getElem_cons_succ]
  refine wpAnyH_take (i := 6) (v := ?v6z6) rfl (by kernel_rfl) (by kernel_rfl) (by kernel_rfl) (fun _ _ _ h => h) (Or.inl ⟨by rfl, ?y6z6⟩) trivial ?_
  case y6z6 => (intro w hSw; (try dsimp only at hSw); go_simp; try with_reducible rfl)
  simp only [Act.put, List.setIfInBounds_toArray, List.set_cons_zero, List.set_cons_succ, List.getElem_toArray, List.getElem_cons_zero, List.getElem_cons_succ]
  refine wpAnyH_take (i := 7) (v := ?v7z7) rfl (by kernel_rfl) (by kernel_rfl) (by kernel_rfl) (fun _ _ _ h => h) (Or.inl ⟨by rfl, ?y7z7⟩) trivial ?_
  case y7z7 => (intro w hSw; (try dsimp only at hSw); go_simp; try with_reducible rfl)
  simp only [Act.put, List.setIfInBounds_toArray, List.set_cons_zero, List.set_cons_succ, List.getElem_toArray, List.getElem_cons_zero, List.getElem_cons_succ]
  refine wpAnyH_take (i := 8) (v := ?v8z8) rfl (by kernel_rfl) (by kernel_rfl) (by kernel_rfl) (fun _ _ _ h => h) (Or.inl ⟨by rfl, ?y8z8⟩) trivial ?_
  case y8z8 => (intro w hSw; (try dsimp only at hSw); go_simp; try with_reducible rfl)
  simp only [Act.put, List.setIfInBounds_toArray, List.set_cons_zero, List.set_cons_succ, List.getElem_toArray, List.getElem_cons_zero, List.getElem_cons_succ]
  refine wpAnyH_take (i := 9) (v := ?v9z9) rfl (by kernel_rfl) (by kernel_rfl) (by kernel_rfl) (fun _ _ _ h => h) (Or.inl ⟨by rfl, ?y9z9⟩) trivial ?_
  case y9z9 => (intro w hSw; (try dsimp only at hSw); go_simp; try with_reducible rfl)
  simp only [Act.put, List.setIfInBounds_toArray, List.set_cons_zero, List.set_cons_succ, List.getElem_toArray, List.getElem_cons_zero, List.getElem_cons_succ]
  refine wpAnyH_ready (rs := [3]) (by kernel_rfl) (by simp) ?_
  refine AllReadyH.cons rfl (fun K hK => ?_) AllReadyH.nil
  rw [if_pos (by rfl)]
  go_wp2_with fail
  refine (KM.out _ bd).mono ?_
  rintro e vv1 ⟨A2, c2, rfl, r2, b9, _⟩
  have dd1 := up2 bd b9
  have KII := Lib.hid (KI.out _ A2 c2 r2 (HR.out.1.below dd1))
  clear r2
  clear b9
  go_wp2_with fail
  refine hK.out _ _ (trivial) (fun _ => ?_)
  clear hK K
  try simp only [Act.put, List.setIfInBounds_toArray, List.set_cons_zero, List.set_cons_succ, List.getElem_toArray, List.getElem_cons_zero, List.getElem_cons_succ]
  refine wpAnyH_ready (rs := [10]) (by kernel_rfl) (by simp) ?_
  refine AllReadyH.cons rfl (fun K hK => ?_) AllReadyH.nil
  rw [if_pos (by rfl)]
  go_wp2_with fail
  refine (KII.out).mono ?_
  rintro e vv2 ⟨rfl, b9⟩
  have dd2 := up2 dd1 b9
  clear b9
  go_wp2_with fail
  refine hK.out _ _ (trivial) (fun _ => ?_)
  clear hK K
  try simp only [Act.put, List.setIfInBounds_toArray, List.set_cons_zero, List.set_cons_succ, List.getElem_toArray, List.getElem_cons_zero, List.getElem_cons_succ]
  refine wpAnyH_take (i := 11) (v := ?v11z10) rfl (by kernel_rfl) (by kernel_rfl) (by kernel_rfl) (fun _ _ _ h => h) (Or.inl ⟨by rfl, ?y11z10⟩) (trivial) ?_
  case y11z10 => (intro w hSw; (try dsimp only at hSw); go_simp; try with_reducible rfl)
  simp only [Act.put, List.setIfInBounds_toArray, List.set_cons_zero, List.set_cons_succ, List.getElem_toArray, List.getElem_cons_zero, List.getElem_cons_succ]
  refine wpAnyH_done (by kernel_rfl) ?_ _
  refine NoPanic.normal ?_
  go_wp2_with fail
  go_ret
  exact ⟨by simp, up2 B3.out.1 (up2 HR.out.2 dd2)⟩
set_option maxRecDepth 100000 in
theorem lifted (os : Os) (started : os.Started) (H : Type) (enc : TypeId × Value → H) :
    ReturnsInHanded {} Try.checked os 3 .any (Rows.ringAroundsSpec.pre6 enc Try.prog Try.f3 Rows.ringAroundsRow.domain false) (Rows.ringAroundsSpec.post enc Try.prog Try.f3 false true false false) := by
  refine returnsInHanded_of_change (C := Try.checked) own_knob started (by kernel_rfl) Try.func3
    (ChangeSpec.witness6 (enc := enc) (C := Try.checked) false ⟨#[], #[.agg #[.int .i64 0, .slice none 0 0], .int .i64 0, .int .u8 0], []⟩ 8 (by kernel_rfl) (by kernel_rfl) (by kernel_rfl) (by kernel_rfl)) ?_
  intro W base args ds gs before hval0 hW hcnd _
  have hval : ∀ (j : Nat) t v, Try.f3.params[j]? = some t → args[j]? = some v → Value.okWide Try.prog W .any base t v := hval0
  have hW' := hW
  obtain ⟨p, q, hA0, hV, rfl, hfz, hnd⟩ := hW
  have hA : DataW.TrodAll enc Try.prog W 0 (fun _ => true) true Try.f3.params.toList args.toList ds p := hA0
  rw [Try.params3] at hA hval
  obtain ⟨v0, vs0, d0, ds0, p0, q0, hargs, rfl, rfl, h0, r0⟩ := trodAll_cons hA
  obtain ⟨v1, vs1, d1, ds1, p1, q1, rfl, rfl, rfl, h1, r1⟩ := trodAll_cons r0
  obtain ⟨v2, vs2, d2, ds2, p2, q2, rfl, rfl, rfl, h2, r2⟩ := trodAll_cons r1
  obtain ⟨rfl, rfl, rfl⟩ := trodAll_nil r2
  obtain rfl : args = #[v0, v1, v2] := by cases args; simp_all
  obtain ⟨rfl, rfl⟩ := trodVars_none hV
  have lt0 : ∀ x ∈ p0, x.block < W.heap.size := by obtain ⟨m, hm⟩ := h0; exact DataW.trod_lt m _ _ _ hm
  obtain ⟨N0, a0, len0, cap0, xs0, rfl, hN0, hr0⟩ := arg_soup (hval 0 24 v0 rfl rfl) h0
  obtain ⟨a1, rfl, rfl, rfl, w1⟩ := open_int Try.underlying3 (hval 1 3 v1 rfl rfl) h1
  have bd1 := bounds_i64 w1
  obtain ⟨a2, rfl, rfl, rfl, w2⟩ := open_int Try.underlying5 (hval 2 5 v2 rfl rfl) h2
  have bd2 := bounds_u8 w2
  clear hA0 hval0
  refine (walk N0 a0 len0 cap0 xs0 a1 a2 W hN0.1 hN0.2 hr0 (by omega) (by omega) (by omega) (by omega)).mono fun e W' ⟨he, bel⟩ => ?_
  subst he
  exact ⟨_, rfl, _, _, _, [], _, [], hW', trodAll_mk1 (shut_bool Try.underlying4 _), (trodAll_cons_mk (Below.trod laid_out (by kernel_rfl) (of_decide_eq_true (by kernel_rfl)) h0 bel lt0) (trodAll_cons_mk (shut_int Try.underlying3 w1) (trodAll_cons_mk (shut_int Try.underlying5 w2) trodAll_mk0))), rfl, bel.frame _, fun h => by cases h⟩

theorem over : Rows.ringAroundsRow.holds Try.pinned (OpenSpec.ofChange Rows.ringAroundsSpec) :=
  OpenClaim.holds_of_wide 3 Try.f3 rfl rfl rfl rfl rfl rfl rfl ⟨rfl, rfl, rfl, rfl, rfl⟩ rfl rfl rfl rfl rfl (by kernel_rfl) Try.func3 (by kernel_rfl)
    (of_decide_eq_true (by kernel_rfl)) (by unfold Func.isWrapper; first | (rw [if_pos (by decide +kernel)]; kernel_rfl) | (rw [if_neg (by decide +kernel)]; exact ⟨rfl, rfl⟩))
    (fun os started H enc _ => lifted os started H enc)

theorem proved : Rows.RingAroundsSaid := over
end Go.Proofs.Ytoianhaocjiffaa.ringArounds
