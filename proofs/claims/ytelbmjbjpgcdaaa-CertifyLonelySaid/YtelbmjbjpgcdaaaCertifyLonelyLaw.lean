/- CertifyLonely: a surface with a vertex more is none: that one is the only witness. No condition. -/
import Derived.Test.YtelbmjbjpgcdaaaCrAwk
import Derived.Test.YtelbmjbjpgcdaaaCerMore
import Derived.Test.YtelbmjbjpgcdaaaArgSoup
namespace Go.Proofs.Ytelbmjbjpgcdaaa.certifyLonely
open Go.RowKit Go.ChangeShapes Go.WideShapes Go.ChangeAt

set_option maxHeartbeats 8000000 in
set_option maxRecDepth 100000 in
theorem walk (N : Int) (A : Option Addr) (n c : Nat) (l : List Tr) (w : World) (_ : -9223372036854775808 ≤ N) (_ : N ≤ 9223372036854775807) (h : T3 w A n l) :
    Calls Try.prog 10 #[.agg #[.int .i64 N, .slice A n c]] w (BoolTold9 w true) := by
  obtain ⟨p, hp⟩ := isPin_exists l
  have HL := Lib.hid h
  have HP := Lib.hid hp
  have KA := Lib.hid awake9_true
  have KG := Lib.hid (fun W => great9_any W N A n c)
  have B0 := Lib.hid ((Below.refl _ w).alloc (Nat.le_refl _) (.cells #[.int .i64 N, .slice A n c] 24))
  have X0 := Lib.hid (Bx.made w N A n c)
  clear h hp
  go_enter Try.func10, Try.ntmps10
  go_wp2_with fail
  refine (KA.out _).mono ?_
  rintro e w1 ⟨rfl, b1⟩
  have B1 := Lib.hid (up2 B0.out b1)
  have X1 := Lib.hid (X0.out.below b1)
  clear b1
  obtain ⟨g, hg⟩ : ∃ g, w.heap.size = g := ⟨_, rfl⟩
  simp only [hg]
  rw [hg] at X1
  have HG := Lib.hid hg
  clear hg
  have e0 := X1.out.c0
  have e1 := X1.out.c1
  go_wp2_with fail
  refine (KG.out _).mono ?_
  rintro e w2 ⟨rfl, b2⟩
  have B2 := Lib.hid (up2 B1.out b2)
  have X2 := Lib.hid (X1.out.below b2)
  clear b2 e0 e1
  by_cases h40 : (40 : Int) < n ∨ 40 < N
  · simp only [decide_eq_true h40]
    clear h40
    go_wp2_with fail
    refine (KA.out _).mono ?_
    rintro e w3 ⟨rfl, b3⟩
    have B3 := Lib.hid (up2 B2.out b3)
    clear b3
    go_wp2_with fail
    go_ret
    exact ⟨rfl, B3.out⟩
  simp only [decide_eq_false h40]
  have hn : n ≤ 40 := by omega
  have n1 : N ≤ 40 := by omega
  have e0 := X2.out.c0
  have e1 := X2.out.c1
  have KI := Lib.hid (cis_any w2 N A n c l p (HL.out.below B2.out) HP.out (by omega))
  have HW := Lib.hid (surf_iff (N := N) HP.out)
  obtain ⟨ws, hws⟩ : ∃ ws, wits p N l = ws := ⟨_, rfl⟩
  rw [hws] at KI HW
  clear hws h40
  go_wp2_with fail
  refine KI.out.mono ?_
  rintro e w3 ⟨rfl, b3⟩
  have B3 := Lib.hid (up2 B2.out b3)
  have X3 := Lib.hid (X2.out.below b3)
  clear b3 e0 e1
  cases ws with
  | cons x r =>
    simp only [List.isEmpty_cons]
    go_wp2_with fail
    refine (KA.out _).mono ?_
    rintro e w4 ⟨rfl, b4⟩
    have B4 := Lib.hid (up2 B3.out b4)
    clear b4
    go_wp2_with fail
    go_ret
    exact ⟨rfl, B4.out⟩
  | nil =>
    simp only [List.isEmpty_nil]
    have HS := Lib.hid (HW.out.1 rfl)
    have n0 : 0 ≤ N := HS.out.n0
    have KO := Lib.hid (own9_any w3 N A n c l (HL.out.below B3.out) (by omega))
    have e0 := X3.out.c0
    have e1 := X3.out.c1
    go_wp2_with fail
    refine KO.out.mono ?_
    rintro e w4 ⟨_, rfl, A4, c4, rfl, o4, b4⟩
    rw [HL.out.1] at o4 ⊢
    have t4 : T3 w4 A4 n l := T3.of_own o4
    obtain ⟨w5, hw5⟩ : ∃ w5, w4.alloc (.cells #[.int .i64 N, .slice A4 n c4] 24) = w5 := ⟨_, rfl⟩
    obtain ⟨k, hk⟩ : ∃ k, w4.heap.size = k := ⟨_, rfl⟩
    have b5 : Below w4.heap.size w4 w5 := by rw [← hw5]; exact (Below.refl _ w4).alloc (Nat.le_refl _) _
    have x5 : Bx w5 k N A4 n c4 := by rw [← hw5, ← hk]; exact Bx.made w4 N A4 n c4
    obtain ⟨w6, hw6⟩ : ∃ w6, w5.setCell ⟨k, 0, none⟩ (.int .i64 (N + 1)) = w6 := ⟨_, rfl⟩
    have x6 : Bx w6 k (N + 1) A4 n c4 := by rw [← hw6]; exact heap_set x5 0 (.int .i64 (N + 1))
    have b6 : Below w4.heap.size w4 w6 := by rw [← hw6]; exact b5.setCell (p := ⟨k, 0, none⟩) (show w4.heap.size ≤ k by omega) _
    have X6 := Lib.hid ((X3.out.below b4).below b6)
    have B6 := Lib.hid (up2 (up2 B3.out b4) b6)
    have hm := surf_more HS.out (by omega) (⟨p, HP.out, rfl⟩ : IsAll (N + 1) l (wits p (N + 1) l))
    have KL := Lib.hid (call_any w6 (N + 1) A4 n c4 l p (t4.below b6) HP.out (by omega))
    rw [hm] at KL
    have y0 := x5.c0
    have y1 := frozen_in x5 0
    have y2 := x6.c0
    have y3 := x6.c1
    clear t4 o4 b4 b5 b6 x5 x6 hm e0 e1
    go_wp2_with fail
    refine KL.out.mono ?_
    rintro e w7 ⟨q, rfl, t7, b7, l7⟩
    obtain ⟨_, _, he, hc⟩ := t7.2 (by simp)
    injection he with he
    injection he with he1 he2
    subst he1 he2
    obtain ⟨c0, c1, c2⟩ := hc 0 (by simp)
    simp only [Nat.zero_mul, Nat.add_zero, Nat.zero_add, List.getD_cons_zero] at c0 c1 c2
    have e0 := (X6.out.below b7).c0
    have B7 := Lib.hid (up2 B6.out b7)
    have gd := fun W op u v xs ys => run_eqGuard_agg (P := Try.prog) W op 35 u v xs ys Try.eqGuardType35
    have ql := eqlW
    simp only [List.length_singleton]
    clear t7 b7 l7 hc
    go_wp2_with fail
    go_quiet (fail)
    go_wp2_with fail
    go_ret
    exact ⟨rfl, B7.out.trans (Reading.below ⟨_, rfl⟩)⟩
set_option maxRecDepth 100000 in
theorem lifted (os : Os) (started : os.Started) (H : Type) (enc : TypeId × Value → H) :
    ReturnsInHanded {} Try.checked os 10 .any (Rows.certifyLonelySpec.pre6 enc Try.prog Try.f10 Rows.certifyLonelyRow.domain false) (Rows.certifyLonelySpec.post enc Try.prog Try.f10 false true false false) := by
  refine returnsInHanded_of_change (C := Try.checked) own_knob started (by kernel_rfl) Try.func10
    (ChangeSpec.witness6 (enc := enc) (C := Try.checked) false ⟨#[], #[.agg #[.int .i64 0, .slice none 0 0]], []⟩ 8 (by kernel_rfl) (by kernel_rfl) (by kernel_rfl) (by kernel_rfl)) ?_
  intro W base args ds gs before hval0 hW hcnd _
  have hval : ∀ (j : Nat) t v, Try.f10.params[j]? = some t → args[j]? = some v → Value.okWide Try.prog W .any base t v := hval0
  have hW' := hW
  obtain ⟨p, q, hA0, hV, rfl, hfz, hnd⟩ := hW
  have hA : DataW.TrodAll enc Try.prog W 0 (fun _ => true) true Try.f10.params.toList args.toList ds p := hA0
  rw [Try.params10] at hA hval
  obtain ⟨v0, vs0, d0, ds0, p0, q0, hargs, rfl, rfl, h0, r0⟩ := trodAll_cons hA
  obtain ⟨rfl, rfl, rfl⟩ := trodAll_nil r0
  obtain rfl : args = #[v0] := by cases args; simp_all
  obtain ⟨rfl, rfl⟩ := trodVars_none hV
  have lt0 : ∀ x ∈ p0, x.block < W.heap.size := by obtain ⟨m, hm⟩ := h0; exact DataW.trod_lt m _ _ _ hm
  obtain ⟨N0, a0, len0, cap0, xs0, rfl, hN0, hr0⟩ := arg_soup (hval 0 24 v0 rfl rfl) h0
  clear hA0 hval0
  refine (walk N0 a0 len0 cap0 xs0 W hN0.1 hN0.2 hr0).mono fun e W' ⟨he, bel⟩ => ?_
  subst he
  exact ⟨_, rfl, _, _, _, [], _, [], hW', trodAll_mk1 (shut_bool Try.underlying4 _), (trodAll_cons_mk (Below.trod laid_out (by kernel_rfl) (of_decide_eq_true (by kernel_rfl)) h0 bel lt0) trodAll_mk0), rfl, bel.frame _, fun h => by cases h⟩

theorem over : Rows.certifyLonelyRow.holds Try.pinned (OpenSpec.ofChange Rows.certifyLonelySpec) :=
  OpenClaim.holds_of_wide 10 Try.f10 rfl rfl rfl rfl rfl rfl rfl ⟨rfl, rfl, rfl, rfl, rfl⟩ rfl rfl rfl rfl rfl (by kernel_rfl) Try.func10 (by kernel_rfl)
    (of_decide_eq_true (by kernel_rfl)) (by unfold Func.isWrapper; first | (rw [if_pos (by decide +kernel)]; kernel_rfl) | (rw [if_neg (by decide +kernel)]; exact ⟨rfl, rfl⟩))
    (fun os started H enc _ => lifted os started H enc)

theorem proved : Rows.CertifyLonelySaid := over
end Go.Proofs.Ytelbmjbjpgcdaaa.certifyLonely
