/- NumZigs: for every int and every uint64 Zig and Zag answer as the document says, undo each other, and near noughts they are near. No condition. -/
import Derived.Test.YtdlblpmjghjhlaaAwakeTwo
import Derived.Test.YtdlblpmjghjhlaaArgsB
namespace Go.Proofs.Ytdlblpmjghjhlaa.numZigs
open Go.ChangeShapes Go.WideShapes Go.ChangeAt Go.RowKit

set_option maxHeartbeats 2000000 in
set_option maxRecDepth 100000 in
theorem walk (n u : Int) (w : World) (h0 : -9223372036854775808 ≤ n) (h1 : n ≤ 9223372036854775807) (h2 : 0 ≤ u) (h3 : u ≤ 18446744073709551615) :
    Calls Try.prog 9 #[.int .i64 n, .int .u64 u] w fun e w' => e = .returned (.bool true) ∧ Below w.heap.size w w' := by
  have C1 := fun w => zig_any w n h0 (by omega)
  have C2 := fun w => rzig_any w n h0 (by omega)
  have C3 := fun w => zag_any w u h2 (by omega)
  have C4 := fun w => rzag_any w u h2 (by omega)
  have C5 := fun w => zag_any w (zig n) (zig_range n h0 (by omega)).1 (zig_range n h0 (by omega)).2
  have C6 := fun w => zig_any w (zag u) (zag_range u h2 (by omega)).1 (zag_range u h2 (by omega)).2
  rw [zag_zig] at C5
  rw [zig_zag u h2] at C6
  have zr := zig_range n h0 (by omega)
  have zd : zig n = if 0 ≤ n then 2 * n else -2 * n - 1 := rfl
  generalize zig n = z at *
  generalize zag u = y at *
  have ZD := Lib.hid zd
  have K1 := Lib.hid C1
  have K2 := Lib.hid C2
  have K3 := Lib.hid C3
  have K4 := Lib.hid C4
  have K5 := Lib.hid C5
  have K6 := Lib.hid C6
  clear C1 C2 C3 C4 C5 C6 zd
  go_enter Try.func9, Try.ntmps9
  go_wp2_with fail
  refine (awake_true w).mono ?_
  rintro e w1 ⟨rfl, b1⟩
  have B1 := Lib.hid b1
  clear b1
  go_wp2_with fail
  refine (K1.out w1).mono ?_
  rintro e w2 ⟨rfl, rfl⟩
  go_wp2_with fail
  refine (K2.out w1).mono ?_
  rintro e w2 ⟨rfl, rfl⟩
  go_wp2_with fail
  refine (K3.out w1).mono ?_
  rintro e w2 ⟨rfl, rfl⟩
  go_wp2_with fail
  refine (K4.out w1).mono ?_
  rintro e w2 ⟨rfl, rfl⟩
  go_wp2_with fail
  refine (K1.out w1).mono ?_
  rintro e w2 ⟨rfl, rfl⟩
  go_wp2_with fail
  refine (K5.out w1).mono ?_
  rintro e w2 ⟨rfl, rfl⟩
  go_wp2_with fail
  refine (K3.out w1).mono ?_
  rintro e w2 ⟨rfl, rfl⟩
  go_wp2_with fail
  refine (K6.out w1).mono ?_
  rintro e w2 ⟨rfl, rfl⟩
  by_cases hlow : n < -4611686018427387904
  · go_wp2
    go_ret
    exact ⟨rfl, B1.out⟩
  by_cases hhigh : 4611686018427387904 ≤ n
  · have hl2 : -4611686018427387904 ≤ n := by omega
    clear hlow
    go_wp2
    go_ret
    exact ⟨rfl, B1.out⟩
  have hl2 : -4611686018427387904 ≤ n := by omega
  have hh2 : n < 4611686018427387904 := by omega
  clear hlow hhigh
  go_wp2_with fail
  refine (K1.out w1).mono ?_
  rintro e w2 ⟨rfl, rfl⟩
  go_wp2
  go_ret
  have hz : z / 2 ≤ max n (-n) := by
    have := ZD.out
    split at this <;> omega
  refine ⟨congrArg Ending.returned (congrArg Value.bool ?_), B1.out⟩
  simp [hz]

set_option maxRecDepth 100000 in
theorem lifted (os : Os) (started : os.Started) (H : Type) (enc : TypeId × Value → H) :
    ReturnsInHanded {} Try.checked os 9 .any (Rows.numZigsSpec.pre6 enc Try.prog Try.f9 Rows.numZigsRow.domain false) (Rows.numZigsSpec.post enc Try.prog Try.f9 false true false false) := by
  refine returnsInHanded_of_change (C := Try.checked) own_knob started (by kernel_rfl) Try.func9
    (ChangeSpec.witness6 (enc := enc) (C := Try.checked) false ⟨#[], #[.int .i64 0, .int .u64 0], []⟩ 8 (by kernel_rfl) (by kernel_rfl) (by kernel_rfl) (by kernel_rfl)) ?_
  intro W base args ds gs before hval0 hW hcnd _
  have hval : ∀ (j : Nat) t v, Try.f9.params[j]? = some t → args[j]? = some v → Value.okWide Try.prog W .any base t v := hval0
  have hW' := hW
  obtain ⟨p, q, hA0, hV, rfl, hfz, hnd⟩ := hW
  have hA : DataW.TrodAll enc Try.prog W 0 (fun _ => true) true Try.f9.params.toList args.toList ds p := hA0
  rw [Try.params9] at hA hval
  obtain ⟨v0, vs0, d0, ds0, p0, q0, hargs, rfl, rfl, h0, r0⟩ := trodAll_cons hA
  obtain ⟨v1, vs1, d1, ds1, p1, q1, rfl, rfl, rfl, h1, r1⟩ := trodAll_cons r0
  obtain ⟨rfl, rfl, rfl⟩ := trodAll_nil r1
  obtain rfl : args = #[v0, v1] := by cases args; simp_all
  obtain ⟨rfl, rfl⟩ := trodVars_none hV
  obtain ⟨a0, rfl, rfl, rfl, w0⟩ := open_int Try.underlying3 (hval 0 3 v0 rfl rfl) h0
  have bd0 := bounds_i64 w0
  obtain ⟨a1, rfl, rfl, rfl, w1⟩ := open_int Try.underlying22 (hval 1 22 v1 rfl rfl) h1
  have bd1 := bounds_u64 w1
  clear hA0 hval0
  refine (walk a0 a1 W (by omega) (by omega) (by omega) (by omega)).mono fun e W' ⟨he, bel⟩ => ?_
  subst he
  exact ⟨_, rfl, _, _, _, [], _, [], hW', trodAll_mk1 (shut_bool Try.underlying4 _), (trodAll_cons_mk (shut_int Try.underlying3 w0) (trodAll_cons_mk (shut_int Try.underlying22 w1) trodAll_mk0)), rfl, bel.frame _, fun h => by cases h⟩

theorem over : Rows.numZigsRow.holds Try.pinned (OpenSpec.ofChange Rows.numZigsSpec) :=
  OpenClaim.holds_of_wide 9 Try.f9 rfl rfl rfl rfl rfl rfl rfl ⟨rfl, rfl, rfl, rfl, rfl⟩ rfl rfl rfl rfl rfl (by kernel_rfl) Try.func9 (by kernel_rfl)
    (of_decide_eq_true (by kernel_rfl)) (by unfold Func.isWrapper; first | (rw [if_pos (by decide +kernel)]; kernel_rfl) | (rw [if_neg (by decide +kernel)]; exact ⟨rfl, rfl⟩))
    (fun os started H enc _ => lifted os started H enc)

theorem proved : Rows.NumZigsSaid := over
end Go.Proofs.Ytdlblpmjghjhlaa.numZigs
