/- SoupEdges: the edges of any soup are as the document says. No condition. -/
import Derived.Test.YtfdoemebongdbaaSouLaw
import Derived.Test.YtfdoemebongdbaaSouRefG
namespace Go.Proofs.Ytfdoemebongdbaa.soupEdges
open Go.RowKit Go.ChangeShapes Go.WideShapes Go.ChangeAt

set_option maxHeartbeats 8000000 in
set_option maxRecDepth 100000 in
theorem walk (N : Int) (A : Option Addr) (n c : Nat) (l : List Tr) (w : World) (_ : -9223372036854775808 ≤ N) (_ : N ≤ 9223372036854775807) (h : T3 w A n l) :
    Calls Try.prog 7 #[.agg #[.int .i64 N, .slice A n c]] w (Yes8 w) := by
  have HL := Lib.hid h
  have KA := Lib.hid awake8_true
  have KG := Lib.hid (fun W => great8_any W N A n c)
  have B0 := Lib.hid ((Below.refl _ w).alloc (Nat.le_refl _) (.cells #[.int .i64 N, .slice A n c] 24))
  have X0 := Lib.hid (Bx.made w N A n c)
  clear h
  go_enter Try.func7, Try.ntmps7
  go_wp2_with fail
  refine (KA.out _).mono ?_
  rintro e w1 ⟨rfl, b1⟩
  have B1 := Lib.hid (up2 B0.out b1)
  have X1 := Lib.hid (X0.out.below b1)
  clear b1
  obtain ⟨g, hg⟩ : ∃ g, w.heap.size = g := ⟨_, rfl⟩
  simp only [hg]
  rw [hg] at X1
  have HG := Lib.hid hg
  clear hg
  have e0 := X1.out.c0
  have e1 := X1.out.c1
  go_wp2_with fail
  refine (KG.out _).mono ?_
  rintro e w2 ⟨rfl, b2⟩
  have B2 := Lib.hid (up2 B1.out b2)
  have X2 := Lib.hid (X1.out.below b2)
  clear b2 e0 e1
  by_cases h40 : (40 : Int) < n
  · simp only [decide_eq_true h40]
    clear h40
    go_wp2_with fail
    go_ret
    exact ⟨rfl, B2.out⟩
  simp only [decide_eq_false h40]
  have hn : n ≤ 40 := by omega
  have hd := box_held X2.out w2.drew (Reading.below ⟨1, rfl⟩)
  have HH := Lib.hid (box_held X2.out)
  have bd : Below w2.heap.size w2 w2.drew := Reading.below ⟨1, rfl⟩
  go_wp2_with fail
  by_cases hf : Fit N l
  · have K1 := Lib.hid (fun W (b : Below w2.heap.size w2 W) => sedges_any W N A n c l (HL.out.below (up2 B2.out b)) (by omega) hf)
    have K2 := Lib.hid (fun W (b : Below w2.heap.size w2 W) => redges_any W N A n c l (HL.out.below (up2 B2.out b)) (by omega) hf)
    clear hf
    go_region_held3 (fun w' => w'.cell? ⟨g, 0, none⟩ = some (.int .i64 N) ∧ w'.cell? ⟨g, 1, none⟩ = some (.slice A n c))
      (first | exact hd | exact HH.out _ (by assumption) | fail)
      (first
        | (go_at_call 30; (with_reducible refine (K1.out _ (by assumption)).mono ?_); rintro e w5 ⟨es, A5, c5, rfl, i5, o5, b5, l5⟩; have d5 := up2 bd b5; have t5 := E2.of_own o5; clear b5 o5)
        | (go_at_call 31; (with_reducible refine (K2.out _ (by assumption)).mono ?_); rintro e w6 ⟨fs, A6, c6, rfl, i6, o6, b6, l6⟩; have d6 := up2 d5 b6; have ee := i5.one i6 (fun _ => Iff.rfl); subst ee; have KS := Lib.hid (ralike_any w6 A5 A6 es.length c5 es.length c6 es es (t5.below b6) (E2.of_own o6) (by rw [HL.out.1] at l5; omega)); clear b6 o6 t5 i5 i6)
        | (go_at_call 29; (with_reducible refine KS.out.mono ?_); rintro e w7 ⟨rfl, b7⟩; have d7 := d6.trans (b7.below (B := w2.heap.size)); clear b7)
        | fail)
    all_goals
      have C := Lib.hid (up2 B2.out d7)
      go_wp2_with fail
      go_ret
      exact ⟨rfl, C.out⟩
  · have K1 := Lib.hid (fun W (b : Below w2.heap.size w2 W) => sedges_no W N A n c l (HL.out.below (up2 B2.out b)) (by omega) hf)
    have K2 := Lib.hid (fun W (b : Below w2.heap.size w2 W) => redges_no W N A n c l (HL.out.below (up2 B2.out b)) (by omega) hf)
    have KS := Lib.hid (fun W => ralike_any W none none 0 0 0 0 [] [] (E2.nil _ _) (E2.nil _ _) (by omega))
    clear hf
    go_region_held3 (fun w' => w'.cell? ⟨g, 0, none⟩ = some (.int .i64 N) ∧ w'.cell? ⟨g, 1, none⟩ = some (.slice A n c))
      (first | exact hd | exact HH.out _ (by assumption) | fail)
      (first
        | (go_at_call 30; (with_reducible refine (K1.out _ (by assumption)).mono ?_); rintro e w5 ⟨rfl, b5⟩; have d5 := up2 bd b5; clear b5)
        | (go_at_call 31; (with_reducible refine (K2.out _ (by assumption)).mono ?_); rintro e w6 ⟨rfl, b6⟩; have d6 := up2 d5 b6; clear b6)
        | (go_at_call 29; (with_reducible refine (KS.out _).mono ?_); rintro e w7 ⟨rfl, b7⟩; have d7 := d6.trans (b7.below (B := w2.heap.size)); clear b7)
        | fail)
    all_goals
      have C := Lib.hid (up2 B2.out d7)
      go_wp2_with fail
      go_ret
      exact ⟨rfl, C.out⟩

set_option maxRecDepth 100000 in
theorem lifted (os : Os) (started : os.Started) (H : Type) (enc : TypeId × Value → H) :
    ReturnsInHanded {} Try.checked os 7 .any (Rows.soupEdgesSpec.pre6 enc Try.prog Try.f7 Rows.soupEdgesRow.domain false) (Rows.soupEdgesSpec.post enc Try.prog Try.f7 false true false false) := by
  refine returnsInHanded_of_change (C := Try.checked) own_knob started (by kernel_rfl) Try.func7
    (ChangeSpec.witness6 (enc := enc) (C := Try.checked) false ⟨#[], #[.agg #[.int .i64 0, .slice none 0 0]], []⟩ 8 (by kernel_rfl) (by kernel_rfl) (by kernel_rfl) (by kernel_rfl)) ?_
  intro W base args ds gs before hval0 hW hcnd _
  have hval : ∀ (j : Nat) t v, Try.f7.params[j]? = some t → args[j]? = some v → Value.okWide Try.prog W .any base t v := hval0
  have hW' := hW
  obtain ⟨p, q, hA0, hV, rfl, hfz, hnd⟩ := hW
  have hA : DataW.TrodAll enc Try.prog W 0 (fun _ => true) true Try.f7.params.toList args.toList ds p := hA0
  rw [Try.params7] at hA hval
  obtain ⟨v0, vs0, d0, ds0, p0, q0, hargs, rfl, rfl, h0, r0⟩ := trodAll_cons hA
  obtain ⟨rfl, rfl, rfl⟩ := trodAll_nil r0
  obtain rfl : args = #[v0] := by cases args; simp_all
  obtain ⟨rfl, rfl⟩ := trodVars_none hV
  have lt0 : ∀ x ∈ p0, x.block < W.heap.size := by obtain ⟨m, hm⟩ := h0; exact DataW.trod_lt m _ _ _ hm
  obtain ⟨N0, a0, len0, cap0, xs0, rfl, hN0, hr0⟩ := arg_soup (hval 0 24 v0 rfl rfl) h0
  clear hA0 hval0
  refine (walk N0 a0 len0 cap0 xs0 W hN0.1 hN0.2 hr0).mono fun e W' ⟨he, bel⟩ => ?_
  subst he
  exact ⟨_, rfl, _, _, _, [], _, [], hW', trodAll_mk1 (shut_bool Try.underlying4 _), (trodAll_cons_mk (Below.trod laid_out (by kernel_rfl) (of_decide_eq_true (by kernel_rfl)) h0 bel lt0) trodAll_mk0), rfl, bel.frame _, fun h => by cases h⟩

theorem over : Rows.soupEdgesRow.holds Try.pinned (OpenSpec.ofChange Rows.soupEdgesSpec) :=
  OpenClaim.holds_of_wide 7 Try.f7 rfl rfl rfl rfl rfl rfl rfl ⟨rfl, rfl, rfl, rfl, rfl⟩ rfl rfl rfl rfl rfl (by kernel_rfl) Try.func7 (by kernel_rfl)
    (of_decide_eq_true (by kernel_rfl)) (by unfold Func.isWrapper; first | (rw [if_pos (by decide +kernel)]; kernel_rfl) | (rw [if_neg (by decide +kernel)]; exact ⟨rfl, rfl⟩))
    (fun os started H enc _ => lifted os started H enc)

theorem proved : Rows.SoupEdgesSaid := over
end Go.Proofs.Ytfdoemebongdbaa.soupEdges
