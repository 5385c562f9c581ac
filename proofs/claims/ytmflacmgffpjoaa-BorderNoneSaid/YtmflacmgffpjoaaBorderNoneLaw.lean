/- BorderNone: a nil table has no border. No condition. -/
import Derived.Test.YtmflacmgffpjoaaBdLaw
import Derived.Test.YtmflacmgffpjoaaBdList
namespace Go.Proofs.Ytmflacmgffpjoaa.borderNone
open Go.RowKit Go.ChangeShapes Go.WideShapes Go.ChangeAt

set_option maxHeartbeats 16000000 in
set_option maxRecDepth 100000 in
theorem walk (v : Int) (w : World) (hv1 : -9223372036854775808 ≤ v) (hv2 : v ≤ 9223372036854775807) :
    Calls Try.prog 9 #[.int .i64 v] w (BoolTold10 w true) := by
  have hv : -9223372036854775808 ≤ v ∧ v ≤ 9223372036854775807 := ⟨hv1, hv2⟩
  clear hv1 hv2
  have KA := Lib.hid awake12_true
  have KE := Lib.hid (fun W => bdedges_nil W)
  have KL := Lib.hid (fun W => bdloops_nil W)
  have KF := Lib.hid (fun W => bdafter_nil W v hv)
  have KW := Lib.hid (fun W => walk12_any W (.pointer none) v [] (by simp) W.heap.size (Nat.le_refl _) fun W' b => bdwalk_nil W v hv W' b)
  clear hv
  go_enter Try.func9, Try.ntmps9
  go_wp2_with fail
  refine (KA.out _).mono ?_
  rintro e w2 ⟨rfl, b2⟩
  have B2 := Lib.hid b2
  clear b2
  go_wp2_with fail
  refine (KE.out _).mono ?_
  rintro e w3 ⟨A3, n3, c3, rfl, r3, b3⟩
  obtain rfl : n3 = 0 := by have := r3.1; exact this.symm
  have B3 := Lib.hid (up2 B2.out b3)
  clear b3 r3
  have z0 : ((((0 : Nat) : Int)) == 0) = true := rfl
  go_wp2_with fail
  refine (KL.out _).mono ?_
  rintro e w4 ⟨A4, n4, c4, rfl, r4, b4⟩
  obtain rfl : n4 = 0 := by have := r4.1; exact this.symm
  have B4 := Lib.hid (up2 B3.out b4)
  clear b4 r4
  go_wp2_with fail
  refine (KF.out _).mono ?_
  rintro e w5 ⟨rfl, b5⟩
  have B5 := Lib.hid (up2 B4.out b5)
  clear b5
  go_wp2_with fail
  refine (KW.out _).mono ?_
  rintro e w6 ⟨A6, n6, c6, rfl, r6, b6⟩
  obtain rfl : n6 = 0 := by have := r6.1; rw [length_ints] at this; simpa using this.symm
  have B6 := Lib.hid (up2 B5.out b6)
  clear b6 r6
  go_wp2_with fail
  go_ret
  exact ⟨rfl, B6.out⟩
set_option maxRecDepth 100000 in
theorem lifted (os : Os) (started : os.Started) (H : Type) (enc : TypeId × Value → H) :
    ReturnsInHanded {} Try.checked os 9 .any (Rows.borderNoneSpec.pre6 enc Try.prog Try.f9 Rows.borderNoneRow.domain false) (Rows.borderNoneSpec.post enc Try.prog Try.f9 false true false false) := by
  refine returnsInHanded_of_change (C := Try.checked) own_knob started (by kernel_rfl) Try.func9
    (ChangeSpec.witness6 (enc := enc) (C := Try.checked) false ⟨#[], #[.int .i64 0], []⟩ 8 (by kernel_rfl) (by kernel_rfl) (by kernel_rfl) (by kernel_rfl)) ?_
  intro W base args ds gs before hval0 hW hcnd _
  have hval : ∀ (j : Nat) t v, Try.f9.params[j]? = some t → args[j]? = some v → Value.okWide Try.prog W .any base t v := hval0
  have hW' := hW
  obtain ⟨p, q, hA0, hV, rfl, hfz, hnd⟩ := hW
  have hA : DataW.TrodAll enc Try.prog W 0 (fun _ => true) true Try.f9.params.toList args.toList ds p := hA0
  rw [Try.params9] at hA hval
  obtain ⟨v0, vs0, d0, ds0, p0, q0, hargs, rfl, rfl, h0, r0⟩ := trodAll_cons hA
  obtain ⟨rfl, rfl, rfl⟩ := trodAll_nil r0
  obtain rfl : args = #[v0] := by cases args; simp_all
  obtain ⟨rfl, rfl⟩ := trodVars_none hV
  obtain ⟨a0, rfl, rfl, rfl, w0⟩ := open_int Try.underlying3 (hval 0 3 v0 rfl rfl) h0
  have bd0 := bounds_i64 w0
  clear hA0 hval0
  refine (walk a0 W (by omega) (by omega)).mono fun e W' ⟨he, bel⟩ => ?_
  subst he
  exact ⟨_, rfl, _, _, _, [], _, [], hW', trodAll_mk1 (shut_bool Try.underlying4 _), (trodAll_cons_mk (shut_int Try.underlying3 w0) trodAll_mk0), rfl, bel.frame _, fun h => by cases h⟩

theorem over : Rows.borderNoneRow.holds Try.pinned (OpenSpec.ofChange Rows.borderNoneSpec) :=
  OpenClaim.holds_of_wide 9 Try.f9 rfl rfl rfl rfl rfl rfl rfl ⟨rfl, rfl, rfl, rfl, rfl⟩ rfl rfl rfl rfl rfl (by kernel_rfl) Try.func9 (by kernel_rfl)
    (of_decide_eq_true (by kernel_rfl)) (by unfold Func.isWrapper; first | (rw [if_pos (by decide +kernel)]; kernel_rfl) | (rw [if_neg (by decide +kernel)]; exact ⟨rfl, rfl⟩))
    (fun os started H enc _ => lifted os started H enc)

theorem proved : Rows.BorderNoneSaid := over
end Go.Proofs.Ytmflacmgffpjoaa.borderNone
