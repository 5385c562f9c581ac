/- SoupPicks: what is picked by any corners, and what part any triangles are, or why not, is as the document says. No condition. -/
import Derived.Test.YtfdoemebongdbaaSouTell
namespace Go.Proofs.Ytfdoemebongdbaa.soupPicks
open Go.RowKit Go.ChangeShapes Go.WideShapes Go.ChangeAt

theorem own_lenI {w : World} {B n : Nat} {A : Option Addr} {c : Nat} {l : List Int} (h : w.ownsRow B 3 1 (.slice A n c) n (ints l)) : Reads w A n (ints l) := by
  obtain ⟨A', c', e, _, r⟩ := Reads.of_own h
  injection e with e1 e2 e3
  subst e1 e3
  exact r

set_option maxHeartbeats 8000000 in
set_option maxRecDepth 100000 in
theorem walk (N : Int) (A : Option Addr) (n c : Nat) (l : List Tr) (B : Option Addr) (m d : Nat) (cs : List Int) (w : World) (_ : -9223372036854775808 ≤ N) (_ : N ≤ 9223372036854775807) (h : T3 w A n l)
    (_ : (B = none → d = 0) ∧ m ≤ d) (_ : ∀ x ∈ cs, -9223372036854775808 ≤ x ∧ x ≤ 9223372036854775807) (ht : Reads w B m (ints cs)) :
    Calls Try.prog 5 #[.agg #[.int .i64 N, .slice A n c], .slice B m d] w (Yes8 w) := by
  have HL := Lib.hid h
  have HT := Lib.hid ht
  have KA := Lib.hid awake8_true
  have KG := Lib.hid (fun W => great8_any W N A n c)
  have B0 := Lib.hid ((Below.refl _ w).alloc (Nat.le_refl _) (.cells #[.int .i64 N, .slice A n c] 24))
  have X0 := Lib.hid (Bx.made w N A n c)
  clear h ht
  go_enter Try.func5, Try.ntmps5
  go_wp2_with fail
  refine (KA.out _).mono ?_
  rintro e w1 ⟨rfl, b1⟩
  have B1 := Lib.hid (up2 B0.out b1)
  have X1 := Lib.hid (X0.out.below b1)
  clear b1
  have e0 := X1.out.c0
  have e1 := X1.out.c1
  obtain ⟨g, hg⟩ : ∃ g, w.heap.size = g := ⟨_, rfl⟩
  have HG := Lib.hid hg
  simp only [hg]
  rw [hg] at X1 e0 e1
  clear hg
  go_wp2_with fail
  refine (KG.out _).mono ?_
  rintro e w2 ⟨rfl, b2⟩
  have B2 := Lib.hid (up2 B1.out b2)
  have X2 := Lib.hid (X1.out.below b2)
  clear b2 e0 e1
  have e0 := X2.out.c0
  have e1 := X2.out.c1
  by_cases h40 : (40 : Int) < n
  · simp only [decide_eq_true h40]
    clear h40
    go_wp2_with fail
    go_ret
    exact ⟨rfl, B2.out⟩
  simp only [decide_eq_false h40]
  by_cases m40 : (40 : Int) < m
  · go_wp2_with fail
    go_ret
    exact ⟨rfl, B2.out⟩
  have hn : n ≤ 40 := by omega
  have hm : m ≤ 40 := by omega
  have KP := Lib.hid (fun W (h : T3 W A n l) (h' : Reads W B m (ints cs)) => spick_tell W N A B n c m d l cs h h' (by omega) (by omega))
  have KQ := Lib.hid (fun W (h : T3 W A n l) (h' : Reads W B m (ints cs)) => rpick_tell W N A B n c m d l cs h h' (by omega) (by omega))
  have KR := Lib.hid (fun W (h : T3 W A n l) (h' : Reads W B m (ints cs)) => spart_tell W N A B n c m d l cs h h' (by omega) (by omega))
  have KT := Lib.hid (fun W (h : T3 W A n l) (h' : Reads W B m (ints cs)) => rpart_tell W N A B n c m d l cs h h' (by omega) (by omega))
  have KS := Lib.hid rsame_any
  have KI := Lib.hid rints_any
  go_wp2_with fail
  refine (KP.out _ (HL.out.below B2.out) (HT.out.below B2.out)).mono ?_
  rintro e w3 ⟨N3, A3, m3, c3, l3, k3, rfl, a3, o3, hm3, b3⟩
  have bx := (Below.refl _ w3).alloc (Nat.le_refl _) (.cells #[.int .i64 N3, .slice A3 m3 c3] 24)
  have B4 := Lib.hid (up2 (up2 B2.out b3) bx)
  have X4 := Lib.hid ((X2.out.below b3).below bx)
  have Y4 := Lib.hid (Bx.made w3 N3 A3 m3 c3)
  have T4 := Lib.hid ((T3.of_own o3).below bx)
  have A4 := Lib.hid a3
  clear b3 bx o3 a3 e0 e1
  have e0 := X4.out.c0
  have e1 := X4.out.c1
  go_wp2_with fail
  obtain ⟨y3, hy3⟩ : ∃ y, w3.heap.size = y := ⟨_, rfl⟩
  obtain ⟨w4, hw4⟩ : ∃ w4, w3.alloc (.cells #[.int .i64 N3, .slice A3 m3 c3] 24) = w4 := ⟨_, rfl⟩
  rw [hw4] at B4 X4 Y4 T4
  rw [hy3] at Y4
  simp only [hw4, hy3]
  clear hw4 hy3
  refine (KQ.out _ (HL.out.below B4.out) (HT.out.below B4.out)).mono ?_
  rintro e w5 ⟨N5, A5, m5, c5, l5, k5, rfl, a5, o5, hm5, b5⟩
  obtain ⟨rfl, rfl, rfl⟩ := A4.out.one a5
  have bx := (Below.refl _ w5).alloc (Nat.le_refl _) (.cells #[.int .i64 N5, .slice A5 m5 c5] 24)
  have B6 := Lib.hid (up2 (up2 B4.out b5) bx)
  have X6 := Lib.hid ((X4.out.below b5).below bx)
  have Y6 := Lib.hid (And.intro ((Y4.out.below b5).below bx) (Bx.made w5 N5 A5 m5 c5))
  have T6 := Lib.hid (And.intro ((T4.out.below b5).below bx) ((T3.of_own o5).below bx))
  clear b5 bx o5 a5 e0 e1 A4 Y4 T4
  have e0 := X6.out.c0
  have e1 := X6.out.c1
  go_wp2_with fail
  obtain ⟨y5, hy5⟩ : ∃ y, w5.heap.size = y := ⟨_, rfl⟩
  obtain ⟨w6, hw6⟩ : ∃ w6, w5.alloc (.cells #[.int .i64 N5, .slice A5 m5 c5] 24) = w6 := ⟨_, rfl⟩
  rw [hw6] at B6 X6 Y6 T6
  rw [hy5] at Y6
  simp only [hw6, hy5]
  clear hw6 hy5
  refine (KR.out _ (HL.out.below B6.out) (HT.out.below B6.out)).mono ?_
  rintro e w7 ⟨N7, A7, m7, c7, l7, Ao7, mo7, co7, vs7, k7, rfl, a7, o7, oi7, hm7, hmo7, b7⟩
  have bx := (Below.refl _ w7).alloc (Nat.le_refl _) (.cells #[.int .i64 N7, .slice A7 m7 c7] 24)
  have B8 := Lib.hid (up2 (up2 B6.out b7) bx)
  have X8 := Lib.hid ((X6.out.below b7).below bx)
  have Y8 := Lib.hid (And.intro ((Y6.out.1.below b7).below bx) ((Y6.out.2.below b7).below bx))
  have T8 := Lib.hid (And.intro ((T6.out.1.below b7).below bx) ((T6.out.2.below b7).below bx))
  have Z8 := Lib.hid (Bx.made w7 N7 A7 m7 c7)
  have U8 := Lib.hid ((T3.of_own o7).below bx)
  have I8 := Lib.hid ((own_lenI oi7).below bx)
  have A8 := Lib.hid a7
  clear b7 bx o7 oi7 a7 e0 e1 X6 Y6 T6
  have e0 := X8.out.c0
  have e1 := X8.out.c1
  go_wp2_with fail
  obtain ⟨y7, hy7⟩ : ∃ y, w7.heap.size = y := ⟨_, rfl⟩
  obtain ⟨w8, hw8⟩ : ∃ w8, w7.alloc (.cells #[.int .i64 N7, .slice A7 m7 c7] 24) = w8 := ⟨_, rfl⟩
  rw [hw8] at B8 X8 Y8 T8 Z8 U8 I8
  rw [hy7] at Z8
  simp only [hw8, hy7]
  clear hw8 hy7
  refine (KT.out _ (HL.out.below B8.out) (HT.out.below B8.out)).mono ?_
  rintro e w9 ⟨N9, A9, m9, c9, l9, Ao9, mo9, co9, vs9, k9, rfl, a9, o9, oi9, hm9, hmo9, b9⟩
  obtain ⟨rfl, rfl, rfl, rfl⟩ := A8.out.one a9
  have bx := (Below.refl _ w9).alloc (Nat.le_refl _) (.cells #[.int .i64 N9, .slice A9 m9 c9] 24)
  have B10 := Lib.hid (up2 (up2 B8.out b9) bx)
  have Y10 := Lib.hid (And.intro ((Y8.out.1.below b9).below bx) ((Y8.out.2.below b9).below bx))
  have T10 := Lib.hid (And.intro ((T8.out.1.below b9).below bx) ((T8.out.2.below b9).below bx))
  have Z10 := Lib.hid (And.intro ((Z8.out.below b9).below bx) (Bx.made w9 N9 A9 m9 c9))
  have U10 := Lib.hid (And.intro ((U8.out.below b9).below bx) ((T3.of_own o9).below bx))
  have I10 := Lib.hid (And.intro ((I8.out.below b9).below bx) ((own_lenI oi9).below bx))
  clear b9 bx o9 oi9 a9 e0 e1 X8 Y8 T8 Z8 U8 I8 A8
  have y0 := Y10.out.1.c0
  have y1 := Y10.out.1.c1
  have z0 := Y10.out.2.c0
  have z1 := Y10.out.2.c1
  go_wp2_with fail
  obtain ⟨y9, hy9⟩ : ∃ y, w9.heap.size = y := ⟨_, rfl⟩
  obtain ⟨w10, hw10⟩ : ∃ w10, w9.alloc (.cells #[.int .i64 N9, .slice A9 m9 c9] 24) = w10 := ⟨_, rfl⟩
  rw [hw10] at B10 Y10 T10 Z10 U10 I10
  rw [hy9] at Z10
  simp only [hw10, hy9]
  clear hw10 hy9
  refine (KS.out _ N5 N5 A3 A5 m3 c3 m5 c5 l5 l5 T10.out.1 T10.out.2 (by omega)).mono ?_
  rintro e w11 ⟨rfl, b11⟩
  have B11 := Lib.hid (up2 B10.out b11)
  have Z11 := Lib.hid (And.intro (Z10.out.1.below b11) (Z10.out.2.below b11))
  have U11 := Lib.hid (And.intro (U10.out.1.below b11) (U10.out.2.below b11))
  have I11 := Lib.hid (And.intro (I10.out.1.below b11) (I10.out.2.below b11))
  clear b11 y0 y1 z0 z1 Z10 U10 I10
  have y0 := Z11.out.1.c0
  have y1 := Z11.out.1.c1
  have z0 := Z11.out.2.c0
  have z1 := Z11.out.2.c1
  simp only [and_self, decide_true]
  go_wp2_with fail
  refine (KS.out _ N9 N9 A7 A9 m7 c7 m9 c9 l9 l9 U11.out.1 U11.out.2 (by omega)).mono ?_
  rintro e w12 ⟨rfl, b12⟩
  have B12 := Lib.hid (up2 B11.out b12)
  have I12 := Lib.hid (And.intro (I11.out.1.below b12) (I11.out.2.below b12))
  clear b12 y0 y1 z0 z1 Z11 U11 I11
  simp only [and_self, decide_true]
  go_wp2_with fail
  refine (KI.out _ Ao7 Ao9 mo7 co7 mo9 co9 vs9 vs9 I12.out.1 I12.out.2 (by omega)).mono ?_
  rintro e w13 h13
  obtain ⟨rfl, b13⟩ := h13
  have B13 := Lib.hid (up2 B12.out (Reading.below b13))
  clear b13
  simp only [decide_true]
  go_wp2_with fail
  go_ret
  exact ⟨rfl, B13.out⟩

set_option maxRecDepth 100000 in
theorem lifted (os : Os) (started : os.Started) (H : Type) (enc : TypeId × Value → H) :
    ReturnsInHanded {} Try.checked os 5 .any (Rows.soupPicksSpec.pre6 enc Try.prog Try.f5 Rows.soupPicksRow.domain false) (Rows.soupPicksSpec.post enc Try.prog Try.f5 false true false false) := by
  refine returnsInHanded_of_change (C := Try.checked) own_knob started (by kernel_rfl) Try.func5
    (ChangeSpec.witness6 (enc := enc) (C := Try.checked) false ⟨#[], #[.agg #[.int .i64 0, .slice none 0 0], .slice none 0 0], []⟩ 8 (by kernel_rfl) (by kernel_rfl) (by kernel_rfl) (by kernel_rfl)) ?_
  intro W base args ds gs before hval0 hW hcnd _
  have hval : ∀ (j : Nat) t v, Try.f5.params[j]? = some t → args[j]? = some v → Value.okWide Try.prog W .any base t v := hval0
  have hW' := hW
  obtain ⟨p, q, hA0, hV, rfl, hfz, hnd⟩ := hW
  have hA : DataW.TrodAll enc Try.prog W 0 (fun _ => true) true Try.f5.params.toList args.toList ds p := hA0
  rw [Try.params5] at hA hval
  obtain ⟨v0, vs0, d0, ds0, p0, q0, hargs, rfl, rfl, h0, r0⟩ := trodAll_cons hA
  obtain ⟨v1, vs1, d1, ds1, p1, q1, rfl, rfl, rfl, h1, r1⟩ := trodAll_cons r0
  obtain ⟨rfl, rfl, rfl⟩ := trodAll_nil r1
  obtain rfl : args = #[v0, v1] := by cases args; simp_all
  obtain ⟨rfl, rfl⟩ := trodVars_none hV
  have lt0 : ∀ x ∈ p0, x.block < W.heap.size := by obtain ⟨m, hm⟩ := h0; exact DataW.trod_lt m _ _ _ hm
  obtain ⟨N0, a0, len0, cap0, xs0, rfl, hN0, hr0⟩ := arg_soup (hval 0 24 v0 rfl rfl) h0
  obtain ⟨a1, len1, cap1, rfl⟩ := okWide_slice Try.underlying29 (hval 1 29 v1 rfl rfl)
  have lt1 : ∀ x ∈ p1, x.block < W.heap.size := by obtain ⟨m, hm⟩ := h1; exact DataW.trod_lt m _ _ _ hm
  obtain ⟨hc1, xs1, hx1, hr1⟩ := arg_ints h1
  clear hA0 hval0
  refine (walk N0 a0 len0 cap0 xs0 a1 len1 cap1 xs1 W hN0.1 hN0.2 hr0 hc1 hx1 hr1).mono fun e W' ⟨he, bel⟩ => ?_
  subst he
  exact ⟨_, rfl, _, _, _, [], _, [], hW', trodAll_mk1 (shut_bool Try.underlying4 _), (trodAll_cons_mk (Below.trod laid_out (by kernel_rfl) (of_decide_eq_true (by kernel_rfl)) h0 bel lt0) (trodAll_cons_mk (Below.trod laid_out (by kernel_rfl) (of_decide_eq_true (by kernel_rfl)) h1 bel lt1) trodAll_mk0)), rfl, bel.frame _, fun h => by cases h⟩

theorem over : Rows.soupPicksRow.holds Try.pinned (OpenSpec.ofChange Rows.soupPicksSpec) :=
  OpenClaim.holds_of_wide 5 Try.f5 rfl rfl rfl rfl rfl rfl rfl ⟨rfl, rfl, rfl, rfl, rfl⟩ rfl rfl rfl rfl rfl (by kernel_rfl) Try.func5 (by kernel_rfl)
    (of_decide_eq_true (by kernel_rfl)) (by unfold Func.isWrapper; first | (rw [if_pos (by decide +kernel)]; kernel_rfl) | (rw [if_neg (by decide +kernel)]; exact ⟨rfl, rfl⟩))
    (fun os started H enc _ => lifted os started H enc)

theorem proved : Rows.SoupPicksSaid := over
end Go.Proofs.Ytfdoemebongdbaa.soupPicks
