/- NumPuts: for every uint64 the gamma code that is written, and its size, or that it has none, is the document's. No condition. -/
import Derived.Test.YtdlblpmjghjhlaaAwakeTwo
import Derived.Test.YtdlblpmjghjhlaaArgsB
import Derived.Test.YtdlblpmjghjhlaaStrEq
namespace Go.Proofs.Ytdlblpmjghjhlaa.numPuts
open Go.ChangeShapes Go.WideShapes Go.ChangeAt Go.RowKit

set_option maxHeartbeats 2000000 in
set_option maxRecDepth 100000 in
theorem small (n : Nat) (w : World) (hn : n ≤ 4294967296) :
    Calls Try.prog 3 #[.int .u64 (n : Int)] w fun e w' => e = .returned (.bool true) ∧ Below w.heap.size w w' := by
  have C1 := fun w => long_ok w n hn
  have C2 := fun w => size_ok w n hn
  have C3 := fun w B g v h => written_any w B g v (gamma n) h (by rw [length_gamma]; have := gamma_small n hn; omega)
  have hp := digits_pos (n + 1) (by omega)
  have hlg := length_gamma n
  have hz : (str (gamma n)).size = (gamma n).length := size_str _
  generalize (gamma n).length = z at *
  have hz1 : 1 ≤ z := by omega
  have hd := str_some (gamma n) (by rw [length_gamma]; omega)
  generalize str (gamma n) = s at *
  have K1 := Lib.hid C1
  have K2 := Lib.hid C2
  have K3 := Lib.hid C3
  have HLG := Lib.hid hlg
  clear C1 C2 C3 hlg
  go_enter Try.func3, Try.ntmps3
  go_wp2_with fail
  refine (awake_true w).mono ?_
  rintro e w1 ⟨rfl, b1⟩
  have W0 := Lib.hid (WIs.new w1 w.heap.size)
  have B1 := Lib.hid (b1.alloc b1.size (.cells #[.slice none 0 0, .int .i64 0] 27))
  have S1 := Lib.hid b1.size
  clear b1
  go_wp2_with fail
  refine (nput_ok _ w.heap.size w1.heap.size _ [] n hn W0.out B1.out.size (by simp)).mono ?_
  rintro e w2 ⟨rfl, v2, h2, k2, m2⟩
  have W2 := Lib.hid (show WIs w2 w.heap.size w1.heap.size v2 (gamma n) from h2)
  have B2 := Lib.hid (B1.out.trans (k2.below (B := w.heap.size) S1.out B1.out.size W0.out.own_ge))
  clear h2 k2 m2
  go_wp2_with fail
  refine (K1.out w2).mono ?_
  rintro e w3 ⟨rfl, rfl⟩
  go_wp2_with fail
  refine (K3.out w2 w.heap.size w1.heap.size v2 W2.out).mono ?_
  rintro e w3 ⟨rfl, b3⟩
  have B3 := Lib.hid (B2.out.trans (b3.mono B2.out.size))
  clear b3
  go_wp2_with fail
  refine (K2.out w3).mono ?_
  rintro e w4 ⟨rfl, rfl⟩
  go_wp2
  go_ret
  exact ⟨rfl, B3.out⟩

set_option maxHeartbeats 2000000 in
set_option maxRecDepth 100000 in
theorem great (n : Nat) (w : World) (hn : 4294967296 < n) :
    Calls Try.prog 3 #[.int .u64 (n : Int)] w fun e w' => e = .returned (.bool true) ∧ Below w.heap.size w w' := by
  go_enter Try.func3, Try.ntmps3
  go_wp2_with fail
  refine (awake_true w).mono ?_
  rintro e w1 ⟨rfl, b1⟩
  have W0 := Lib.hid (WIs.new w1 w.heap.size)
  have B1 := Lib.hid (b1.alloc b1.size (.cells #[.slice none 0 0, .int .i64 0] 27))
  clear b1
  go_wp2_with fail
  refine (nput_range _ w1.heap.size n hn).mono ?_
  rintro e w2 ⟨rfl, rfl⟩
  go_wp2_with fail
  refine (long_over _ n hn).mono ?_
  rintro e w3 ⟨rfl, rfl⟩
  go_wp2_with fail
  refine (len_any _ w.heap.size w1.heap.size _ [] W0.out).mono ?_
  rintro e w3 ⟨rfl, rfl⟩
  go_wp2_with fail
  refine (size_over _ n hn).mono ?_
  rintro e w4 ⟨rfl, rfl⟩
  go_wp2
  go_ret
  exact ⟨rfl, B1.out⟩

theorem walk (n : Int) (w : World) (h0 : 0 ≤ n) (_ : n ≤ 18446744073709551615) :
    Calls Try.prog 3 #[.int .u64 n] w fun e w' => e = .returned (.bool true) ∧ Below w.heap.size w w' := by
  obtain ⟨m, rfl⟩ := Int.eq_ofNat_of_zero_le h0
  by_cases h : m ≤ 4294967296
  · exact small m w h
  · exact great m w (by omega)

set_option maxRecDepth 100000 in
theorem lifted (os : Os) (started : os.Started) (H : Type) (enc : TypeId × Value → H) :
    ReturnsInHanded {} Try.checked os 3 .any (Rows.numPutsSpec.pre6 enc Try.prog Try.f3 Rows.numPutsRow.domain false) (Rows.numPutsSpec.post enc Try.prog Try.f3 false true false false) := by
  refine returnsInHanded_of_change (C := Try.checked) own_knob started (by kernel_rfl) Try.func3
    (ChangeSpec.witness6 (enc := enc) (C := Try.checked) false ⟨#[], #[.int .u64 0], []⟩ 8 (by kernel_rfl) (by kernel_rfl) (by kernel_rfl) (by kernel_rfl)) ?_
  intro W base args ds gs before hval0 hW hcnd _
  have hval : ∀ (j : Nat) t v, Try.f3.params[j]? = some t → args[j]? = some v → Value.okWide Try.prog W .any base t v := hval0
  have hW' := hW
  obtain ⟨p, q, hA0, hV, rfl, hfz, hnd⟩ := hW
  have hA : DataW.TrodAll enc Try.prog W 0 (fun _ => true) true Try.f3.params.toList args.toList ds p := hA0
  rw [Try.params3] at hA hval
  obtain ⟨v0, vs0, d0, ds0, p0, q0, hargs, rfl, rfl, h0, r0⟩ := trodAll_cons hA
  obtain ⟨rfl, rfl, rfl⟩ := trodAll_nil r0
  obtain rfl : args = #[v0] := by cases args; simp_all
  obtain ⟨rfl, rfl⟩ := trodVars_none hV
  obtain ⟨a0, rfl, rfl, rfl, w0⟩ := open_int Try.underlying22 (hval 0 22 v0 rfl rfl) h0
  have bd0 := bounds_u64 w0
  clear hA0 hval0
  refine (walk a0 W (by omega) (by omega)).mono fun e W' ⟨he, bel⟩ => ?_
  subst he
  exact ⟨_, rfl, _, _, _, [], _, [], hW', trodAll_mk1 (shut_bool Try.underlying4 _), (trodAll_cons_mk (shut_int Try.underlying22 w0) trodAll_mk0), rfl, bel.frame _, fun h => by cases h⟩

theorem over : Rows.numPutsRow.holds Try.pinned (OpenSpec.ofChange Rows.numPutsSpec) :=
  OpenClaim.holds_of_wide 3 Try.f3 rfl rfl rfl rfl rfl rfl rfl ⟨rfl, rfl, rfl, rfl, rfl⟩ rfl rfl rfl rfl rfl (by kernel_rfl) Try.func3 (by kernel_rfl)
    (of_decide_eq_true (by kernel_rfl)) (by unfold Func.isWrapper; first | (rw [if_pos (by decide +kernel)]; kernel_rfl) | (rw [if_neg (by decide +kernel)]; exact ⟨rfl, rfl⟩))
    (fun os started H enc _ => lifted os started H enc)

theorem proved : Rows.NumPutsSaid := over
end Go.Proofs.Ytdlblpmjghjhlaa.numPuts
