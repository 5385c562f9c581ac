/- NumPrefix: of any two uint32 the gamma codes begin with each other just where they are the same, and the greater number's is not shorter. No condition. -/
import Derived.Test.YtdlblpmjghjhlaaAwakeTwo
import Derived.Test.YtdlblpmjghjhlaaArgsB
import Derived.Test.YtdlblpmjghjhlaaStrEq
import Derived.Test.YtdlblpmjghjhlaaPrefixFree
import Derived.Test.YtdlblpmjghjhlaaApart
import Derived.BigQuiet
import Derived.Deep.QuietTactic
namespace Go.Proofs.Ytdlblpmjghjhlaa.numPrefix
open Go.ChangeShapes Go.WideShapes Go.ChangeAt Go.RowKit

set_option maxHeartbeats 4000000 in
set_option maxRecDepth 100000 in
theorem both (a b : Nat) (w : World) (ha : a ≤ 4294967295) (hb : b ≤ 4294967295) :
    Calls Try.prog 8 #[.int .u32 (a : Int), .int .u32 (b : Int)] w fun e w' => e = .returned (.bool true) ∧ Below w.heap.size w w' := by
  have la := length_gamma a
  have lb := length_gamma b
  have da := gamma_small a (by omega)
  have db := gamma_small b (by omega)
  have C1 := fun w B g v h => written_any w B g v (gamma a) h (by omega)
  have C2 := fun w B g v h => written_any w B g v (gamma b) h (by omega)
  obtain ⟨m, hm⟩ : ∃ m, m = min (gamma a).length (gamma b).length := ⟨_, rfl⟩
  have e1 : (str (gamma a)).extract 0 m = str ((gamma a).take m) := by rw [str_slice]; rfl
  have e2 : (str (gamma b)).extract 0 m = str ((gamma b).take m) := by rw [str_slice]; rfl
  have hcmp : (((str (gamma a)).extract 0 m).toList == ((str (gamma b)).extract 0 m).toList) = decide (a = b) := by
    rw [e1, e2, str_beq]
    by_cases h : a = b
    · subst h; simp
    · have : (gamma a).take m ≠ (gamma b).take m := fun e => h (prefix_free a b m hm e)
      simp [h, this]
  have hmono : a ≤ b → (gamma a).length ≤ (gamma b).length := fun h => by
    have := digits_mono (a + 1) (b + 1) (by omega)
    omega
  have s1 := size_str (gamma a)
  have s2 := size_str (gamma b)
  have K1 := Lib.hid C1
  have K2 := Lib.hid C2
  generalize (gamma a).length = x at *
  generalize (gamma b).length = y at *
  generalize str (gamma a) = p at *
  generalize str (gamma b) = q at *
  have HM := Lib.hid hm
  have HMO := Lib.hid hmono
  have hmi : min (x : Int) (y : Int) = (m : Int) := by omega
  have hmx : m ≤ x := by omega
  have hmy : m ≤ y := by omega
  clear la lb e1 e2 C1 C2 hm hmono
  go_enter Try.func8, Try.ntmps8
  go_wp2_with fail
  refine (awake_true w).mono ?_
  rintro e w1 ⟨rfl, b1⟩
  have S1 := Lib.hid b1.size
  have W0 := Lib.hid (WIs.new w1 w.heap.size)
  have B1 := Lib.hid (b1.alloc b1.size (.cells #[.slice none 0 0, .int .i64 0] 27))
  clear b1
  have V0 := Lib.hid (WIs.new (w1.alloc (.cells #[.slice none 0 0, .int .i64 0] 27)) w.heap.size)
  have U0 := Lib.hid (W0.out.below ((Below.refl _ _).alloc (Nat.le_refl _) (.cells #[.slice none 0 0, .int .i64 0] 27)))
  have B2 := Lib.hid (B1.out.alloc B1.out.size (.cells #[.slice none 0 0, .int .i64 0] 27))
  have HS := Lib.hid (show (w1.alloc (.cells #[.slice none 0 0, .int .i64 0] 27)).heap.size = w1.heap.size + 1 by simp)
  have V1 := Lib.hid (HS.out ▸ V0.out)
  clear HS V0
  have A0 := Lib.hid (Apart.nil (g1 := w1.heap.size + 1) (g2 := w1.heap.size) (by omega))
  go_wp2_with fail
  refine (nput_ok _ w.heap.size w1.heap.size _ [] a (by omega) U0.out B2.out.size (by simp)).mono ?_
  rintro e w2 ⟨rfl, v2, h2, k2, m2⟩
  have W2 := Lib.hid (show WIs w2 w.heap.size w1.heap.size v2 (gamma a) from h2)
  have V2 := Lib.hid (V1.out.aside A0.out k2)
  have A2 := Lib.hid (A0.out.moved V1.out m2)
  have B3 := Lib.hid (B2.out.trans (k2.below (B := w.heap.size) S1.out B2.out.size U0.out.own_ge))
  clear h2 k2 m2
  go_wp2_with fail
  refine (nput_ok w2 w.heap.size (w1.heap.size + 1) _ [] b (by omega) V2.out B3.out.size (by simp)).mono ?_
  rintro e w3 ⟨rfl, v3, h3, k3, m3⟩
  have V3 := Lib.hid (show WIs w3 w.heap.size (w1.heap.size + 1) v3 (gamma b) from h3)
  have W3 := Lib.hid (W2.out.aside A2.out.symm k3)
  have B4 := Lib.hid (B3.out.trans (k3.below (B := w.heap.size) (by have := S1.out; omega) B3.out.size V2.out.own_ge))
  clear h3 k3 m3
  go_wp2_with fail
  refine (K1.out w3 _ _ _ W3.out).mono ?_
  rintro e w4 ⟨rfl, b4⟩
  have V4 := Lib.hid (V3.out.below b4)
  have B5 := Lib.hid (B4.out.trans (b4.mono B4.out.size))
  clear b4
  go_wp2_with fail
  refine (K2.out w4 _ _ _ V4.out).mono ?_
  rintro e w5 ⟨rfl, b5⟩
  have B6 := Lib.hid (B5.out.trans (b5.mono B5.out.size))
  clear b5
  by_cases heq : a = b
  · have c1 : ((a : Int) == (b : Int)) = true := by simp [heq]
    rw [show decide (a = b) = true by simp [heq]] at hcmp
    have c3 : decide ((b : Int) < (a : Int)) = false := by simp; omega
    have c3n : decide (b < a) = false := by simp; omega
    have c4 : x ≤ y := HMO.out (by omega)
    have c5 : decide ((x : Int) ≤ (y : Int)) = true := by simp; omega
    have c5n : decide (x ≤ y) = true := by simp; omega
    clear heq
    go_wp2_with fail
    go_quiet (fail)
    go_wp2
    go_ret
    exact ⟨rfl, B6.out.trans (Same.below ⟨rfl, rfl, rfl, rfl⟩)⟩
  · have c1 : ((a : Int) == (b : Int)) = false := by simp; omega
    rw [show decide (a = b) = false by simp [heq]] at hcmp
    by_cases hlt : a < b
    · have c3 : decide ((b : Int) < (a : Int)) = false := by simp; omega
      have c3n : decide (b < a) = false := by simp; omega
      have c4 : x ≤ y := HMO.out (by omega)
      have c5 : decide ((x : Int) ≤ (y : Int)) = true := by simp; omega
      have c5n : decide (x ≤ y) = true := by simp; omega
      clear heq hlt
      go_wp2_with fail
      go_quiet (fail)
      go_wp2
      go_ret
      exact ⟨rfl, B6.out.trans (Same.below ⟨rfl, rfl, rfl, rfl⟩)⟩
    · have c3 : decide ((b : Int) < (a : Int)) = true := by simp; omega
      have c3n : decide (b < a) = true := by simp; omega
      clear heq hlt
      go_wp2_with fail
      go_quiet (fail)
      go_wp2
      go_ret
      exact ⟨rfl, B6.out.trans (Same.below ⟨rfl, rfl, rfl, rfl⟩)⟩

theorem walk (a b : Int) (w : World) (h0 : 0 ≤ a) (h1 : a ≤ 4294967295) (h2 : 0 ≤ b) (h3 : b ≤ 4294967295) :
    Calls Try.prog 8 #[.int .u32 a, .int .u32 b] w fun e w' => e = .returned (.bool true) ∧ Below w.heap.size w w' := by
  obtain ⟨m, rfl⟩ := Int.eq_ofNat_of_zero_le h0
  obtain ⟨n, rfl⟩ := Int.eq_ofNat_of_zero_le h2
  exact both m n w (by omega) (by omega)

set_option maxRecDepth 100000 in
theorem lifted (os : Os) (started : os.Started) (H : Type) (enc : TypeId × Value → H) :
    ReturnsInHanded {} Try.checked os 8 .any (Rows.numPrefixSpec.pre6 enc Try.prog Try.f8 Rows.numPrefixRow.domain false) (Rows.numPrefixSpec.post enc Try.prog Try.f8 false true false false) := by
  refine returnsInHanded_of_change (C := Try.checked) own_knob started (by kernel_rfl) Try.func8
    (ChangeSpec.witness6 (enc := enc) (C := Try.checked) false ⟨#[], #[.int .u32 0, .int .u32 0], []⟩ 8 (by kernel_rfl) (by kernel_rfl) (by kernel_rfl) (by kernel_rfl)) ?_
  intro W base args ds gs before hval0 hW hcnd _
  have hval : ∀ (j : Nat) t v, Try.f8.params[j]? = some t → args[j]? = some v → Value.okWide Try.prog W .any base t v := hval0
  have hW' := hW
  obtain ⟨p, q, hA0, hV, rfl, hfz, hnd⟩ := hW
  have hA : DataW.TrodAll enc Try.prog W 0 (fun _ => true) true Try.f8.params.toList args.toList ds p := hA0
  rw [Try.params8] at hA hval
  obtain ⟨v0, vs0, d0, ds0, p0, q0, hargs, rfl, rfl, h0, r0⟩ := trodAll_cons hA
  obtain ⟨v1, vs1, d1, ds1, p1, q1, rfl, rfl, rfl, h1, r1⟩ := trodAll_cons r0
  obtain ⟨rfl, rfl, rfl⟩ := trodAll_nil r1
  obtain rfl : args = #[v0, v1] := by cases args; simp_all
  obtain ⟨rfl, rfl⟩ := trodVars_none hV
  obtain ⟨a0, rfl, rfl, rfl, w0⟩ := open_int Try.underlying53 (hval 0 53 v0 rfl rfl) h0
  have bd0 := bounds_u32 w0
  obtain ⟨a1, rfl, rfl, rfl, w1⟩ := open_int Try.underlying53 (hval 1 53 v1 rfl rfl) h1
  have bd1 := bounds_u32 w1
  clear hA0 hval0
  refine (walk a0 a1 W (by omega) (by omega) (by omega) (by omega)).mono fun e W' ⟨he, bel⟩ => ?_
  subst he
  exact ⟨_, rfl, _, _, _, [], _, [], hW', trodAll_mk1 (shut_bool Try.underlying4 _), (trodAll_cons_mk (shut_int Try.underlying53 w0) (trodAll_cons_mk (shut_int Try.underlying53 w1) trodAll_mk0)), rfl, bel.frame _, fun h => by cases h⟩

theorem over : Rows.numPrefixRow.holds Try.pinned (OpenSpec.ofChange Rows.numPrefixSpec) :=
  OpenClaim.holds_of_wide 8 Try.f8 rfl rfl rfl rfl rfl rfl rfl ⟨rfl, rfl, rfl, rfl, rfl⟩ rfl rfl rfl rfl rfl (by kernel_rfl) Try.func8 (by kernel_rfl)
    (of_decide_eq_true (by kernel_rfl)) (by unfold Func.isWrapper; first | (rw [if_pos (by decide +kernel)]; kernel_rfl) | (rw [if_neg (by decide +kernel)]; exact ⟨rfl, rfl⟩))
    (fun os started H enc _ => lifted os started H enc)

theorem proved : Rows.NumPrefixSaid := over
end Go.Proofs.Ytdlblpmjghjhlaa.numPrefix
