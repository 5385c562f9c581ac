/- SoupRenames: what any soup is by other numbers, or why not, is as the document says. No condition. -/
import Derived.Test.YtfdoemebongdbaaSouLaw
import Derived.Test.YtfdoemebongdbaaSouRefB
import Derived.Test.YtfdoemebongdbaaSouRefC
import Derived.Test.YtfdoemebongdbaaSouRFit
namespace Go.Proofs.Ytfdoemebongdbaa.soupRenames
open Go.RowKit Go.ChangeShapes Go.WideShapes Go.ChangeAt


set_option maxHeartbeats 8000000 in
set_option maxRecDepth 100000 in
theorem walk (N : Int) (A : Option Addr) (n c : Nat) (l : List Tr) (B : Option Addr) (m d : Nat) (to : List Int) (w : World) (_ : -9223372036854775808 ≤ N) (_ : N ≤ 9223372036854775807) (h : T3 w A n l)
    (_ : (B = none → d = 0) ∧ m ≤ d) (_ : ∀ x ∈ to, -9223372036854775808 ≤ x ∧ x ≤ 9223372036854775807) (ht : Reads w B m (ints to)) :
    Calls Try.prog 4 #[.agg #[.int .i64 N, .slice A n c], .slice B m d] w (Yes8 w) := by
  have HL := Lib.hid h
  have HT := Lib.hid ht
  have KA := Lib.hid awake8_true
  have KG := Lib.hid (fun W => great8_any W N A n c)
  have B0 := Lib.hid ((Below.refl _ w).alloc (Nat.le_refl _) (.cells #[.int .i64 N, .slice A n c] 24))
  have X0 := Lib.hid (Bx.made w N A n c)
  clear h ht
  go_enter Try.func4, Try.ntmps4
  go_wp2_with fail
  refine (KA.out _).mono ?_
  rintro e w1 ⟨rfl, b1⟩
  have B1 := Lib.hid (up2 B0.out b1)
  have X1 := Lib.hid (X0.out.below b1)
  clear b1
  have e0 := X1.out.c0
  have e1 := X1.out.c1
  obtain ⟨g, hg⟩ : ∃ g, w.heap.size = g := ⟨_, rfl⟩
  have HG := Lib.hid hg
  simp only [hg]
  rw [hg] at X1 e0 e1
  clear hg
  go_wp2_with fail
  refine (KG.out _).mono ?_
  rintro e w2 ⟨rfl, b2⟩
  have B2 := Lib.hid (up2 B1.out b2)
  have X2 := Lib.hid (X1.out.below b2)
  clear b2 e0 e1
  have e0 := X2.out.c0
  have e1 := X2.out.c1
  by_cases h40 : (40 : Int) < n
  · simp only [decide_eq_true h40]
    clear h40
    go_wp2_with fail
    go_ret
    exact ⟨rfl, B2.out⟩
  simp only [decide_eq_false h40]
  by_cases m40 : (40 : Int) < m
  · go_wp2_with fail
    go_ret
    exact ⟨rfl, B2.out⟩
  by_cases N40 : 40 < N
  · go_wp2_with fail
    go_ret
    exact ⟨rfl, B2.out⟩
  have hn : n ≤ 40 := by omega
  have hm : m ≤ 40 := by omega
  have T2 := Lib.hid (HL.out.below B2.out)
  have R2 := Lib.hid (HT.out.below B2.out)
  by_cases hf : Fit N l
  case neg =>
    have KR := Lib.hid (sreytfdoemebongdbaaarg w2 N A B n c m d l T2.out (by omega) hf)
    have KF := Lib.hid (fun W (h : T3 W A n l) => rfits_any W N A n c l h (by omega))
    have KS := Lib.hid (fun W => rsame_any W 0 0 none none 0 0 0 0 [] [] (T3.nil _ _) (T3.nil _ _) (by omega))
    have HF := Lib.hid hf
    clear hf
    go_wp2_with fail
    refine KR.out.mono ?_
    rintro e w3 ⟨rfl, b3⟩
    have bx := (Below.refl _ w3).alloc (Nat.le_refl _) (.cells #[.int .i64 0, .slice none 0 0] 24)
    have B4 := Lib.hid (up2 (up2 B2.out b3) bx)
    have X4 := Lib.hid ((X2.out.below b3).below bx)
    have Y4 := Lib.hid (Bx.made w3 0 none 0 0)
    clear b3 bx e0 e1
    have e0 := X4.out.c0
    have e1 := X4.out.c1
    go_wp2_with fail
    refine (KF.out _ (HL.out.below B4.out)).mono ?_
    rintro e w5 ⟨rfl, b5⟩
    have B5 := Lib.hid (up2 B4.out b5)
    have Y5 := Lib.hid (Y4.out.below b5)
    simp only [decide_eq_false HF.out]
    clear b5 e0 e1
    have y0 := Y5.out.c0
    have y1 := Y5.out.c1
    go_wp2_with fail
    refine (KS.out _).mono ?_
    rintro e w6 ⟨rfl, b6⟩
    have B6 := Lib.hid (up2 B5.out b6)
    clear b6
    go_wp2_with fail
    go_ret
    exact ⟨rfl, B6.out⟩
  have hN0 := hf.1
  have KF := Lib.hid (fun W (h : T3 W A n l) => rfits_any W N A n c l h (by omega))
  have KP := Lib.hid (fun W (h : Reads W B m (ints to)) => rperm_any W B m d to N h (by omega))
  have HF := Lib.hid hf
  by_cases hp : IsPerm N to
  case neg =>
    have KR := Lib.hid (sreytfdoemebongdbaaform w2 N A B n c m d l to T2.out R2.out (by omega) (by omega) hf hp)
    have KS := Lib.hid (fun W => rsame_any W 0 0 none none 0 0 0 0 [] [] (T3.nil _ _) (T3.nil _ _) (by omega))
    have HP := Lib.hid hp
    clear hf hp
    go_wp2_with fail
    refine KR.out.mono ?_
    rintro e w3 ⟨rfl, b3⟩
    have bx := (Below.refl _ w3).alloc (Nat.le_refl _) (.cells #[.int .i64 0, .slice none 0 0] 24)
    have B4 := Lib.hid (up2 (up2 B2.out b3) bx)
    have X4 := Lib.hid ((X2.out.below b3).below bx)
    have Y4 := Lib.hid (Bx.made w3 0 none 0 0)
    clear b3 bx e0 e1
    have e0 := X4.out.c0
    have e1 := X4.out.c1
    go_wp2_with fail
    refine (KF.out _ (HL.out.below B4.out)).mono ?_
    rintro e w5 ⟨rfl, b5⟩
    have B5 := Lib.hid (up2 B4.out b5)
    have Y5 := Lib.hid (Y4.out.below b5)
    have X5 := Lib.hid (X4.out.below b5)
    simp only [decide_eq_true HF.out]
    clear b5 e0 e1
    have e0 := X5.out.c0
    have y0 := Y5.out.c0
    have y1 := Y5.out.c1
    go_wp2_with fail
    refine (KP.out _ (HT.out.below B5.out)).mono ?_
    rintro e w6 ⟨rfl, rfl⟩
    simp only [decide_eq_false HP.out]
    go_wp2_with fail
    refine (KS.out _).mono ?_
    rintro e w7 ⟨rfl, b7⟩
    have B7 := Lib.hid (up2 B5.out b7)
    clear b7
    go_wp2_with fail
    go_ret
    exact ⟨rfl, B7.out⟩
  have KR := Lib.hid (sreytfdoemebongdbaaok w2 N A B n c m d l to T2.out R2.out (by omega) (by omega) hf hp)
  have hmN : (m : Int) = N := by rw [← HT.out.len]; exact hp.1
  have KQ := Lib.hid (fun W (h : T3 W A n l) (h2 : Reads W B m (ints to)) => rreytfdoemebongdbaaany W N A B n c m d l to h2 HF.out hmN h (by omega))
  have HP := Lib.hid hp
  clear hf hp
  go_wp2_with fail
  refine KR.out.mono ?_
  rintro e w3 ⟨v3, rfl, A3, c3, rfl, o3, b3⟩
  obtain ⟨L, hL⟩ : ∃ L, l.map (renT to) = L := ⟨_, rfl⟩
  rw [hL] at o3 KQ
  have hLl : L.length ≤ 40 := by rw [← hL, List.length_map, HL.out.1]; exact hn
  simp only [hL]
  have bx := (Below.refl _ w3).alloc (Nat.le_refl _) (.cells #[.int .i64 N, .slice A3 L.length c3] 24)
  have B4 := Lib.hid (up2 (up2 B2.out b3) bx)
  have X4 := Lib.hid ((X2.out.below b3).below bx)
  have Y4 := Lib.hid (Bx.made w3 N A3 L.length c3)
  have T4 := Lib.hid ((T3.of_own o3).below bx)
  clear b3 bx e0 e1 o3 hL
  have e0 := X4.out.c0
  have e1 := X4.out.c1
  go_wp2_with fail
  refine (KF.out _ (HL.out.below B4.out)).mono ?_
  rintro e w5 ⟨rfl, b5⟩
  have B5 := Lib.hid (up2 B4.out b5)
  have Y5 := Lib.hid (Y4.out.below b5)
  have X5 := Lib.hid (X4.out.below b5)
  have T5 := Lib.hid (T4.out.below b5)
  simp only [decide_eq_true HF.out]
  clear b5 e0 e1
  have e0 := X5.out.c0
  have e1 := X5.out.c1
  have y0 := Y5.out.c0
  have y1 := Y5.out.c1
  obtain ⟨xb, hxb⟩ : ∃ xb, w3.heap.size = xb := ⟨_, rfl⟩
  simp only [hxb]
  rw [hxb] at Y5 y0 y1
  clear hxb
  go_wp2_with fail
  refine (KP.out _ (HT.out.below B5.out)).mono ?_
  rintro e w6 ⟨rfl, rfl⟩
  simp only [decide_eq_true HP.out]
  go_wp2_with fail
  have hd := boxes_held Y5.out X5.out w6.drew (Reading.below ⟨1, rfl⟩)
  have HH := Lib.hid (boxes_held Y5.out X5.out)
  have KQ9 := Lib.hid (KQ.out w6.drew (HL.out.below (B5.out.trans (Reading.below ⟨1, rfl⟩))) (HT.out.below (B5.out.trans (Reading.below ⟨1, rfl⟩))))
  go_region_held3 (fun w' => w'.cell? ⟨xb, 0, none⟩ = some (.int .i64 N) ∧ w'.cell? ⟨xb, 1, none⟩ = some (.slice A3 L.length c3) ∧ w'.cell? ⟨g, 0, none⟩ = some (.int .i64 N) ∧ w'.cell? ⟨g, 1, none⟩ = some (.slice A n c))
    (first | exact hd | exact hd8 | exact hd9 | fail)
    (first
      | (go_at_call 21; refine KQ9.out.mono ?_; rintro e w8 ⟨v8, rfl, A8, c8, rfl, o8, b8⟩; have c8' := (Reading.below (w' := w6.drew) ⟨1, rfl⟩).trans b8; have hd8 := HH.out w8 c8'; have B8 := Lib.hid (up2 B5.out c8'); have KS8 := Lib.hid (rsame_any w8 N N A3 A8 L.length c3 L.length c8 L L (T5.out.below c8') (T3.of_own o8) (by omega)); have C8 := Lib.hid c8'; clear o8 b8 c8')
      | (go_at_call 16; refine KS8.out.mono ?_; rintro e w9 ⟨rfl, b9⟩; have hd9 := HH.out w9 (C8.out.trans (b9.mono C8.out.size)); have B9 := Lib.hid (up2 B8.out b9); clear b9)
      | fail)
  all_goals
    go_wp2_with fail
    go_ret
    exact ⟨rfl, B9.out⟩

set_option maxRecDepth 100000 in
theorem lifted (os : Os) (started : os.Started) (H : Type) (enc : TypeId × Value → H) :
    ReturnsInHanded {} Try.checked os 4 .any (Rows.soupRenamesSpec.pre6 enc Try.prog Try.f4 Rows.soupRenamesRow.domain false) (Rows.soupRenamesSpec.post enc Try.prog Try.f4 false true false false) := by
  refine returnsInHanded_of_change (C := Try.checked) own_knob started (by kernel_rfl) Try.func4
    (ChangeSpec.witness6 (enc := enc) (C := Try.checked) false ⟨#[], #[.agg #[.int .i64 0, .slice none 0 0], .slice none 0 0], []⟩ 8 (by kernel_rfl) (by kernel_rfl) (by kernel_rfl) (by kernel_rfl)) ?_
  intro W base args ds gs before hval0 hW hcnd _
  have hval : ∀ (j : Nat) t v, Try.f4.params[j]? = some t → args[j]? = some v → Value.okWide Try.prog W .any base t v := hval0
  have hW' := hW
  obtain ⟨p, q, hA0, hV, rfl, hfz, hnd⟩ := hW
  have hA : DataW.TrodAll enc Try.prog W 0 (fun _ => true) true Try.f4.params.toList args.toList ds p := hA0
  rw [Try.params4] at hA hval
  obtain ⟨v0, vs0, d0, ds0, p0, q0, hargs, rfl, rfl, h0, r0⟩ := trodAll_cons hA
  obtain ⟨v1, vs1, d1, ds1, p1, q1, rfl, rfl, rfl, h1, r1⟩ := trodAll_cons r0
  obtain ⟨rfl, rfl, rfl⟩ := trodAll_nil r1
  obtain rfl : args = #[v0, v1] := by cases args; simp_all
  obtain ⟨rfl, rfl⟩ := trodVars_none hV
  have lt0 : ∀ x ∈ p0, x.block < W.heap.size := by obtain ⟨m, hm⟩ := h0; exact DataW.trod_lt m _ _ _ hm
  obtain ⟨N0, a0, len0, cap0, xs0, rfl, hN0, hr0⟩ := arg_soup (hval 0 24 v0 rfl rfl) h0
  obtain ⟨a1, len1, cap1, rfl⟩ := okWide_slice Try.underlying29 (hval 1 29 v1 rfl rfl)
  have lt1 : ∀ x ∈ p1, x.block < W.heap.size := by obtain ⟨m, hm⟩ := h1; exact DataW.trod_lt m _ _ _ hm
  obtain ⟨hc1, xs1, hx1, hr1⟩ := arg_ints h1
  clear hA0 hval0
  refine (walk N0 a0 len0 cap0 xs0 a1 len1 cap1 xs1 W hN0.1 hN0.2 hr0 hc1 hx1 hr1).mono fun e W' ⟨he, bel⟩ => ?_
  subst he
  exact ⟨_, rfl, _, _, _, [], _, [], hW', trodAll_mk1 (shut_bool Try.underlying4 _), (trodAll_cons_mk (Below.trod laid_out (by kernel_rfl) (of_decide_eq_true (by kernel_rfl)) h0 bel lt0) (trodAll_cons_mk (Below.trod laid_out (by kernel_rfl) (of_decide_eq_true (by kernel_rfl)) h1 bel lt1) trodAll_mk0)), rfl, bel.frame _, fun h => by cases h⟩

theorem over : Rows.soupRenamesRow.holds Try.pinned (OpenSpec.ofChange Rows.soupRenamesSpec) :=
  OpenClaim.holds_of_wide 4 Try.f4 rfl rfl rfl rfl rfl rfl rfl ⟨rfl, rfl, rfl, rfl, rfl⟩ rfl rfl rfl rfl rfl (by kernel_rfl) Try.func4 (by kernel_rfl)
    (of_decide_eq_true (by kernel_rfl)) (by unfold Func.isWrapper; first | (rw [if_pos (by decide +kernel)]; kernel_rfl) | (rw [if_neg (by decide +kernel)]; exact ⟨rfl, rfl⟩))
    (fun os started H enc _ => lifted os started H enc)

theorem proved : Rows.SoupRenamesSaid := over
end Go.Proofs.Ytfdoemebongdbaa.soupRenames
