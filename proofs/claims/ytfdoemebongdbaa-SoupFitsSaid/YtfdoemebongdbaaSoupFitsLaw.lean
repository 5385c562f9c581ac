/- SoupFits: whether any soup fits, whether two are the same, and what one is mirrored, is as the document says. No condition. -/
import Derived.Test.YtfdoemebongdbaaSouLaw
import Derived.Test.YtfdoemebongdbaaSouRefA
import Derived.Test.YtfdoemebongdbaaSouRFit
namespace Go.Proofs.Ytfdoemebongdbaa.soupFits
open Go.RowKit Go.ChangeShapes Go.WideShapes Go.ChangeAt

set_option maxHeartbeats 8000000 in
set_option maxRecDepth 100000 in
theorem walk (N : Int) (A : Option Addr) (n c : Nat) (l : List Tr) (M : Int) (B : Option Addr) (m d : Nat) (k : List Tr) (w : World) (_ : -9223372036854775808 ≤ N) (_ : N ≤ 9223372036854775807) (h : T3 w A n l)
    (_ : -9223372036854775808 ≤ M) (_ : M ≤ 9223372036854775807) (h2 : T3 w B m k) :
    Calls Try.prog 3 #[.agg #[.int .i64 N, .slice A n c], .agg #[.int .i64 M, .slice B m d]] w (Yes8 w) := by
  have HL := Lib.hid h
  have HK := Lib.hid h2
  have KA := Lib.hid awake8_true
  have KG := Lib.hid (fun W => great8_any W N A n c)
  have KG2 := Lib.hid (fun W => great8_any W M B m d)
  have B0 := Lib.hid (up1 (up1 (Below.refl _ w) (.cells #[.int .i64 N, .slice A n c] 24)) (.cells #[.int .i64 M, .slice B m d] 24))
  have X0 : Bx ((w.alloc (.cells #[.int .i64 N, .slice A n c] 24)).alloc (.cells #[.int .i64 M, .slice B m d] 24)) w.heap.size N A n c := (Bx.made w N A n c).below ((Below.refl _ _).alloc (Nat.le_refl _) _)
  have Y0 : Bx ((w.alloc (.cells #[.int .i64 N, .slice A n c] 24)).alloc (.cells #[.int .i64 M, .slice B m d] 24)) (w.heap.size + 1) M B m d := by
    have := Bx.made (w.alloc (.cells #[.int .i64 N, .slice A n c] 24)) M B m d
    rwa [World.size_alloc] at this
  have XY := Lib.hid (And.intro X0 Y0)
  clear h h2 X0 Y0
  go_enter Try.func3, Try.ntmps3
  go_wp2_with fail
  refine (KA.out _).mono ?_
  rintro e w1 ⟨rfl, b1⟩
  have B1 := Lib.hid (up2 B0.out b1)
  have X1 := Lib.hid (And.intro (XY.out.1.below b1) (XY.out.2.below b1))
  clear b1
  obtain ⟨g, hg⟩ : ∃ g, w.heap.size = g := ⟨_, rfl⟩
  have HG := Lib.hid hg
  simp only [hg]
  rw [hg] at X1
  clear hg
  have e0 := X1.out.1.c0
  have e1 := X1.out.1.c1
  go_wp2_with fail
  refine (KG.out _).mono ?_
  rintro e w2 ⟨rfl, b2⟩
  have B2 := Lib.hid (up2 B1.out b2)
  have X2 := Lib.hid (And.intro (X1.out.1.below b2) (X1.out.2.below b2))
  clear b2 e0 e1
  by_cases h40 : (40 : Int) < n
  · simp only [decide_eq_true h40]
    clear h40
    go_wp2_with fail
    go_ret
    exact ⟨rfl, B2.out⟩
  simp only [decide_eq_false h40]
  have y0 := X2.out.2.c0
  have y1 := X2.out.2.c1
  go_wp2_with fail
  refine (KG2.out _).mono ?_
  rintro e w3 ⟨rfl, b3⟩
  have B3 := Lib.hid (up2 B2.out b3)
  have X3 := Lib.hid (And.intro (X2.out.1.below b3) (X2.out.2.below b3))
  clear b3 y0 y1
  by_cases m40 : (40 : Int) < m
  · simp only [decide_eq_true m40]
    clear m40
    go_wp2_with fail
    go_ret
    exact ⟨rfl, B3.out⟩
  simp only [decide_eq_false m40]
  have hn : n ≤ 40 := by omega
  have hm : m ≤ 40 := by omega
  go_wp2_with fail
  have hd := boxes_held X3.out.1 X3.out.2 w3.drew (Reading.below ⟨1, rfl⟩)
  have HH := Lib.hid (boxes_held X3.out.1 X3.out.2)
  obtain ⟨f, hf⟩ : ∃ f, decide (Fit N l) = f := ⟨_, rfl⟩
  obtain ⟨s, hs⟩ : ∃ s, decide (N = M ∧ l = k) = s := ⟨_, rfl⟩
  have K1 := Lib.hid (fun W (b : Below w3.heap.size w3 W) => (show Calls Try.prog 13 #[.agg #[.int .i64 N, .slice A n c]] W fun e w' => e = .returned (.bool f) ∧ Below W.heap.size W w' by rw [← hf]; exact sfits_any W N A n c l (HL.out.below (up2 B3.out b)) (by omega)))
  have K2 := Lib.hid (fun W (b : Below w3.heap.size w3 W) => (show Calls Try.prog 14 #[.agg #[.int .i64 N, .slice A n c]] W fun e w' => e = .returned (.bool f) ∧ Below W.heap.size W w' by rw [← hf]; exact rfits_any W N A n c l (HL.out.below (up2 B3.out b)) (by omega)))
  have K3 := Lib.hid (fun W (b : Below w3.heap.size w3 W) => (show Calls Try.prog 15 #[.agg #[.int .i64 N, .slice A n c], .agg #[.int .i64 M, .slice B m d]] W fun e w' => e = .returned (.bool s) ∧ Below W.heap.size W w' by rw [← hs]; exact ssame_any W N M A B n c m d l k (HL.out.below (up2 B3.out b)) (HK.out.below (up2 B3.out b)) (by omega)))
  have K4 := Lib.hid (fun W (b : Below w3.heap.size w3 W) => (show Calls Try.prog 16 #[.agg #[.int .i64 N, .slice A n c], .agg #[.int .i64 M, .slice B m d]] W fun e w' => e = .returned (.bool s) ∧ Below W.heap.size W w' by rw [← hs]; exact rsame_any W N M A B n c m d l k (HL.out.below (up2 B3.out b)) (HK.out.below (up2 B3.out b)) (by omega)))
  have K5 := Lib.hid (fun W (b : Below w3.heap.size w3 W) => (show Calls Try.prog 15 #[.agg #[.int .i64 N, .slice A n c], .agg #[.int .i64 N, .slice A n c]] W fun e w' => e = .returned (.bool true) ∧ Below W.heap.size W w' by
    have := ssame_any W N N A A n c n c l l (HL.out.below (up2 B3.out b)) (HL.out.below (up2 B3.out b)) (by omega)
    unfold SameTold at this
    rwa [decide_eq_true (⟨rfl, rfl⟩ : N = N ∧ l = l)] at this))
  have K6 := Lib.hid (fun W (b : Below w3.heap.size w3 W) => smirror_any W N A n c l (HL.out.below (up2 B3.out b)) (by omega))
  have K7 := Lib.hid (fun W (b : Below w3.heap.size w3 W) => rmirror_any W N A n c l (HL.out.below (up2 B3.out b)) (by omega))
  obtain ⟨L, hL⟩ : ∃ L, l.map mirT = L := ⟨_, rfl⟩
  have hLl : L.length ≤ 40 := by rw [← hL, List.length_map, HL.out.1]; exact hn
  rw [hL] at K6 K7
  have bd : Below w3.heap.size w3 w3.drew := Reading.below ⟨1, rfl⟩
  clear hL hf hs
  go_region_held3 (fun w' => w'.cell? ⟨g, 0, none⟩ = some (.int .i64 N) ∧ w'.cell? ⟨g, 1, none⟩ = some (.slice A n c) ∧ w'.cell? ⟨g + 1, 0, none⟩ = some (.int .i64 M) ∧ w'.cell? ⟨g + 1, 1, none⟩ = some (.slice B m d))
    (first | exact hd | exact HH.out _ (by assumption) | fail)
    (first
      | (go_at_call 13; (with_reducible refine (K1.out _ (by assumption)).mono ?_); rintro e w5 ⟨rfl, b5⟩; have c5 := up2 bd b5; clear b5)
      | (go_at_call 14; (with_reducible refine (K2.out _ (by assumption)).mono ?_); rintro e w6 ⟨rfl, b6⟩; have c6 := up2 c5 b6; clear b6)
      | (go_at_call 15; (with_reducible refine (K3.out _ (by assumption)).mono ?_); rintro e w7 ⟨rfl, b7⟩; have c7 := up2 c6 b7; clear b7)
      | (go_at_call 16; (with_reducible refine (K4.out _ (by assumption)).mono ?_); rintro e w8 ⟨rfl, b8⟩; have c8 := up2 c7 b8; clear b8)
      | (go_at_call 15; (with_reducible refine (K5.out _ (by assumption)).mono ?_); rintro e w9 ⟨rfl, b9⟩; have c9 := up2 c8 b9; clear b9)
      | (go_at_call 17; (with_reducible refine (K6.out _ (by assumption)).mono ?_); rintro e w10 ⟨v10, rfl, A10, d10, rfl, o10, b10⟩; have c10 := up2 c9 b10; have t10 := T3.of_own o10; clear b10 o10)
      | (go_at_call 18; (with_reducible refine (K7.out _ (by assumption)).mono ?_); rintro e w11 ⟨v11, rfl, A11, d11, rfl, o11, b11⟩; have c11 := up2 c10 b11; have KS := Lib.hid (rsame_any w11 N N A10 A11 L.length d10 L.length d11 L L (t10.below b11) (T3.of_own o11) (by omega)); clear b11 o11 t10)
      | (go_at_call 16; (with_reducible refine KS.out.mono ?_); rintro e w12 ⟨rfl, b12⟩; have c12 := up2 c11 b12; clear b12)
      | fail)
  all_goals
    have C := Lib.hid (up2 B3.out c12)
    go_wp2_with fail
    go_ret
    exact ⟨rfl, C.out⟩

set_option maxRecDepth 100000 in
theorem lifted (os : Os) (started : os.Started) (H : Type) (enc : TypeId × Value → H) :
    ReturnsInHanded {} Try.checked os 3 .any (Rows.soupFitsSpec.pre6 enc Try.prog Try.f3 Rows.soupFitsRow.domain false) (Rows.soupFitsSpec.post enc Try.prog Try.f3 false true false false) := by
  refine returnsInHanded_of_change (C := Try.checked) own_knob started (by kernel_rfl) Try.func3
    (ChangeSpec.witness6 (enc := enc) (C := Try.checked) false ⟨#[], #[.agg #[.int .i64 0, .slice none 0 0], .agg #[.int .i64 0, .slice none 0 0]], []⟩ 8 (by kernel_rfl) (by kernel_rfl) (by kernel_rfl) (by kernel_rfl)) ?_
  intro W base args ds gs before hval0 hW hcnd _
  have hval : ∀ (j : Nat) t v, Try.f3.params[j]? = some t → args[j]? = some v → Value.okWide Try.prog W .any base t v := hval0
  have hW' := hW
  obtain ⟨p, q, hA0, hV, rfl, hfz, hnd⟩ := hW
  have hA : DataW.TrodAll enc Try.prog W 0 (fun _ => true) true Try.f3.params.toList args.toList ds p := hA0
  rw [Try.params3] at hA hval
  obtain ⟨v0, vs0, d0, ds0, p0, q0, hargs, rfl, rfl, h0, r0⟩ := trodAll_cons hA
  obtain ⟨v1, vs1, d1, ds1, p1, q1, rfl, rfl, rfl, h1, r1⟩ := trodAll_cons r0
  obtain ⟨rfl, rfl, rfl⟩ := trodAll_nil r1
  obtain rfl : args = #[v0, v1] := by cases args; simp_all
  obtain ⟨rfl, rfl⟩ := trodVars_none hV
  have lt0 : ∀ x ∈ p0, x.block < W.heap.size := by obtain ⟨m, hm⟩ := h0; exact DataW.trod_lt m _ _ _ hm
  obtain ⟨N0, a0, len0, cap0, xs0, rfl, hN0, hr0⟩ := arg_soup (hval 0 24 v0 rfl rfl) h0
  have lt1 : ∀ x ∈ p1, x.block < W.heap.size := by obtain ⟨m, hm⟩ := h1; exact DataW.trod_lt m _ _ _ hm
  obtain ⟨N1, a1, len1, cap1, xs1, rfl, hN1, hr1⟩ := arg_soup (hval 1 24 v1 rfl rfl) h1
  clear hA0 hval0
  refine (walk N0 a0 len0 cap0 xs0 N1 a1 len1 cap1 xs1 W hN0.1 hN0.2 hr0 hN1.1 hN1.2 hr1).mono fun e W' ⟨he, bel⟩ => ?_
  subst he
  exact ⟨_, rfl, _, _, _, [], _, [], hW', trodAll_mk1 (shut_bool Try.underlying4 _), (trodAll_cons_mk (Below.trod laid_out (by kernel_rfl) (of_decide_eq_true (by kernel_rfl)) h0 bel lt0) (trodAll_cons_mk (Below.trod laid_out (by kernel_rfl) (of_decide_eq_true (by kernel_rfl)) h1 bel lt1) trodAll_mk0)), rfl, bel.frame _, fun h => by cases h⟩

theorem over : Rows.soupFitsRow.holds Try.pinned (OpenSpec.ofChange Rows.soupFitsSpec) :=
  OpenClaim.holds_of_wide 3 Try.f3 rfl rfl rfl rfl rfl rfl rfl ⟨rfl, rfl, rfl, rfl, rfl⟩ rfl rfl rfl rfl rfl (by kernel_rfl) Try.func3 (by kernel_rfl)
    (of_decide_eq_true (by kernel_rfl)) (by unfold Func.isWrapper; first | (rw [if_pos (by decide +kernel)]; kernel_rfl) | (rw [if_neg (by decide +kernel)]; exact ⟨rfl, rfl⟩))
    (fun os started H enc _ => lifted os started H enc)

theorem proved : Rows.SoupFitsSaid := over
end Go.Proofs.Ytfdoemebongdbaa.soupFits
