/- BoxPacks: few chunks (12 of up to 100 bytes each) are packed as the document says, and that is a container. No condition. -/
import Derived.Test.YtngambkbpdjddaaBoxLaw
namespace Go.Proofs.Ytngambkbpdjddaa.boxPacks
open Go.ChangeShapes Go.WideShapes Go.ChangeAt Go.RowKit

set_option maxHeartbeats 3200000 in
set_option maxRecDepth 100000 in
theorem walk (A : Option Addr) (n c : Nat) (cs : List (Nat × List Nat)) (w : World) (hd : DigC cs) (h : Chunks0 w A n cs) :
    Calls Try.prog 3 #[.slice A n c] w fun e w' => e = .returned (.bool true) ∧ Below w.heap.size w w' := by
  have H := Lib.hid (And.intro hd h)
  clear hd h
  go_enter Try.func3, Try.ntmps3
  go_wp2_with fail
  refine (awake7_true w).mono ?_
  rintro e w1 ⟨rfl, b1⟩
  have B1 := Lib.hid b1
  have KG := Lib.hid (great7_any w1 A n c cs (H.out.2.below b1))
  clear b1
  go_wp2_with fail
  refine KG.out.mono ?_
  rintro e w2 ⟨r, hr, rfl, rfl⟩
  rcases hr with rfl | ⟨rfl, hs⟩
  · go_wp2
    go_ret
    exact ⟨rfl, B1.out⟩
  have S1 := Lib.hid (⟨(H.out.2.below B1.out).small hs, H.out.1, hs⟩ : Small7 w1 A n cs)
  have K1 := Lib.hid (S1.out.pack c)
  clear hs
  go_wp2_with fail
  refine K1.out.mono ?_
  rintro e w2 ⟨v2, rfl, o2, b2⟩
  obtain ⟨A2, c2, rfl, _, r2⟩ := Reads.of_own o2
  have hc2 := own_cap o2
  have hsz := S1.out.size.2.2
  have B2 := up2 B1.out b2
  have c2d := upd B2
  have K2 := Lib.hid (fun w' (b : Below w1.heap.size w1 w') => (S1.out.below b).lpack c)
  have HB := Lib.hid b2
  have bb2 := b2.trans (Reading.below (B := w1.heap.size) (w' := w2.drew) ⟨1, rfl⟩)
  have q2 := run_bstr w2.drew A2 (boxB cs).length c2 (boxB cs) (r2.below (Reading.below ⟨1, rfl⟩))
  have RD := Lib.hid (fun w' (b : Below w2.drew.heap.size w2.drew w') => r2.below ((Reading.below (B := w2.heap.size) (w' := w2.drew) ⟨1, rfl⟩).trans b))
  have R3 := Lib.hid (fun w' A' c' (r : Reads w' A' (boxB cs).length (bts (boxB cs))) => run_bstr w' A' (boxB cs).length c' (boxB cs) r)
  have K3 := Lib.hid (fun w' (r : Reads w' A2 (boxB cs).length (bts (boxB cs))) => bright_any w' A2 (boxB cs).length c2 (boxB cs) r (dig_box S1.out.dig) hc2 (by omega))
  have BX := Lib.hid (show IsBox (boxB cs) from ⟨cs, rfl, S1.out.dig⟩)
  generalize (boxB cs).length = N at *
  generalize bstr (boxB cs) = sb at *
  generalize boxB cs = bx at *
  have t0 : ((0 : Int) == 0) = true := by decide
  clear o2 r2 b2 hc2 hsz
  go_wp2_with fail
  go_region_with (first
    | (go_at_call 14; refine (K2.out _ bb2).mono ?_; rintro e w3 ⟨v3, rfl, o3, b3⟩; obtain ⟨A3, c3, rfl, _, r3⟩ := Reads.of_own o3; have q3 := R3.out w3 A3 c3 r3; have r23 := RD.out w3 b3; have q4 := R3.out w3 A2 c2 r23; have B3 := up2 c2d b3; clear o3 b3 r3)
    | (go_at_call 15; refine (K3.out _ r23).mono ?_; rintro e w4 ⟨r, hr, rfl, b4⟩; obtain rfl : r = true := hr.2 BX.out; have B4 := up2 B3 b4; clear hr b4)
    | fail)
  all_goals
    have Z := Lib.hid B4
    go_wp2
    go_ret
    exact ⟨rfl, Z.out⟩

set_option maxRecDepth 100000 in
theorem lifted (os : Os) (started : os.Started) (H : Type) (enc : TypeId × Value → H) :
    ReturnsInHanded {} Try.checked os 3 .any (Rows.boxPacksSpec.pre6 enc Try.prog Try.f3 Rows.boxPacksRow.domain false) (Rows.boxPacksSpec.post enc Try.prog Try.f3 false true false false) := by
  refine returnsInHanded_of_change (C := Try.checked) own_knob started (by kernel_rfl) Try.func3
    (ChangeSpec.witness6 (enc := enc) (C := Try.checked) false ⟨#[], #[.slice none 0 0], []⟩ 8 (by kernel_rfl) (by kernel_rfl) (by kernel_rfl) (by kernel_rfl)) ?_
  intro W base args ds gs before hval0 hW hcnd _
  have hval : ∀ (j : Nat) t v, Try.f3.params[j]? = some t → args[j]? = some v → Value.okWide Try.prog W .any base t v := hval0
  have hW' := hW
  obtain ⟨p, q, hA0, hV, rfl, hfz, hnd⟩ := hW
  have hA : DataW.TrodAll enc Try.prog W 0 (fun _ => true) true Try.f3.params.toList args.toList ds p := hA0
  rw [Try.params3] at hA hval
  obtain ⟨v0, vs0, d0, ds0, p0, q0, hargs, rfl, rfl, h0, r0⟩ := trodAll_cons hA
  obtain ⟨rfl, rfl, rfl⟩ := trodAll_nil r0
  obtain rfl : args = #[v0] := by cases args; simp_all
  obtain ⟨rfl, rfl⟩ := trodVars_none hV
  obtain ⟨a0, len0, cap0, rfl⟩ := okWide_slice Try.underlying22 (hval 0 22 v0 rfl rfl)
  have lt0 : ∀ x ∈ p0, x.block < W.heap.size := by obtain ⟨m, hm⟩ := h0; exact DataW.trod_lt m _ _ _ hm
  obtain ⟨xs0, hx0, hr0⟩ := arg_chunks h0
  clear hA0 hval0
  refine (walk a0 len0 cap0 xs0 W hx0 hr0).mono fun e W' ⟨he, bel⟩ => ?_
  subst he
  exact ⟨_, rfl, _, _, _, [], _, [], hW', trodAll_mk1 (shut_bool Try.underlying4 _), (trodAll_cons_mk (Below.trod laid_out (by kernel_rfl) (of_decide_eq_true (by kernel_rfl)) h0 bel lt0) trodAll_mk0), rfl, bel.frame _, fun h => by cases h⟩

theorem over : Rows.boxPacksRow.holds Try.pinned (OpenSpec.ofChange Rows.boxPacksSpec) :=
  OpenClaim.holds_of_wide 3 Try.f3 rfl rfl rfl rfl rfl rfl rfl ⟨rfl, rfl, rfl, rfl, rfl⟩ rfl rfl rfl rfl rfl (by kernel_rfl) Try.func3 (by kernel_rfl)
    (of_decide_eq_true (by kernel_rfl)) (by unfold Func.isWrapper; first | (rw [if_pos (by decide +kernel)]; kernel_rfl) | (rw [if_neg (by decide +kernel)]; exact ⟨rfl, rfl⟩))
    (fun os started H enc _ => lifted os started H enc)

theorem proved : Rows.BoxPacksSaid := over
end Go.Proofs.Ytngambkbpdjddaa.boxPacks
