/- TableMakes: of any counts (at most 300), any symbol and any number, the table is made, or not, and why, as the document says; its counts, low ends and total, and the symbol of the number, are the document's. No condition. -/
import Derived.Test.YtjacjgchbpghiaaTabMade
import Derived.Test.YtjacjgchbpghiaaTabAwake
import Derived.Test.YtjacjgchbpghiaaTabSame
import Derived.Test.YtjacjgchbpghiaaTabRefC
namespace Go.Proofs.Ytjacjgchbpghiaa.tableMakes
open Go.ChangeShapes Go.WideShapes Go.ChangeAt Go.RowKit

set_option maxHeartbeats 2000000 in
set_option maxRecDepth 100000 in
theorem many (w : World) (A : Option Addr) (n c : Nat) (s x : Int) (h : 300 < n) :
    Calls Try.prog 3 #[.slice A n c, .int .i64 s, .int .i64 x] w fun e w' => e = .returned (.bool true) ∧ Below w.heap.size w w' := by
  have t0 : (300 : Int) < n := by omega
  go_enter Try.func3, Try.ntmps3
  go_wp2_with fail
  refine (awake_true w).mono ?_
  rintro e w1 ⟨rfl, b1⟩
  have B1 := Lib.hid b1
  clear b1
  go_wp2
  go_ret
  exact ⟨rfl, B1.out⟩

set_option maxHeartbeats 2000000 in
set_option maxRecDepth 100000 in
theorem bad (w : World) (A : Option Addr) (n c : Nat) (l : List Int) (s x f : Int) (hn : n ≤ 300) (h : Reads w A n (ints l)) (hf : Chk l f) (h0 : f ≠ 0) :
    Calls Try.prog 3 #[.slice A n c, .int .i64 s, .int .i64 x] w fun e w' => e = .returned (.bool true) ∧ Below w.heap.size w w' := by
  have t0 : ¬ (300 : Int) < n := by omega
  have t1 : (f != f) = false := by simp
  have t2 : (f != 0) = true := by simpa using h0
  have HR := Lib.hid h
  have HF := Lib.hid hf
  have H0 := Lib.hid h0
  clear h hf h0
  go_enter Try.func3, Try.ntmps3
  go_wp2_with fail
  refine (awake_true w).mono ?_
  rintro e w1 ⟨rfl, b1⟩
  have B1 := Lib.hid b1
  have R1 := Lib.hid (HR.out.below b1)
  clear b1
  go_wp2_with fail
  refine (new_fail w1 A n c l f R1.out HF.out H0.out).mono ?_
  rintro e w2 ⟨rfl, b2⟩
  have B2 := Lib.hid (B1.out.trans (b2.mono B1.out.size))
  have R2 := Lib.hid (R1.out.below b2)
  clear b2
  go_wp2_with fail
  refine (rcheck_any w2 A n c l f R2.out HF.out).mono ?_
  rintro e w3 ⟨rfl, b3⟩
  have B3 := Lib.hid (B2.out.trans b3.below)
  clear b3
  go_wp2
  go_ret
  exact ⟨rfl, B3.out⟩

set_option maxHeartbeats 4000000 in
set_option maxRecDepth 100000 in
theorem good (w : World) (A : Option Addr) (n c : Nat) (l : List Int) (s x : Int) (fs : Int) (fb : Bool) (hn : n ≤ 300) (hc : n ≤ c) (h : Reads w A n (ints l)) (ok : Ok l)
    (k1 : ∀ W g q cap, TIs W g q cap l → Calls Try.prog 14 #[.pointer (some ⟨g, 0, none⟩), .int .i64 x] W fun e w' => e = .returned (.tuple #[.int .i64 fs, .bool fb]) ∧ Below W.heap.size W w')
    (k2 : ∀ W, Reads W A n (ints l) → Calls Try.prog 15 #[.slice A n c, .int .i64 x] W fun e w' => e = .returned (.tuple #[.int .i64 fs, .bool fb]) ∧ Reading W w') :
    Calls Try.prog 3 #[.slice A n c, .int .i64 s, .int .i64 x] w fun e w' => e = .returned (.bool true) ∧ Below w.heap.size w w' := by
  have t0 : ¬ (300 : Int) < n := by omega
  have HR := Lib.hid h
  have HOK := Lib.hid ok
  have K1 := Lib.hid k1
  have K2 := Lib.hid k2
  have HF := Lib.hid (show Chk l 0 from .inr (.inr (.inr ⟨rfl, ok⟩)))
  have HC := Lib.hid hc
  have K3 := Lib.hid (fun W g q cap (t : TIs W g q cap l) => low_any W g q cap l s t ok.few)
  have K4 := Lib.hid (fun W (r : Reads W A n (ints l)) => rlow_any W A n c l s r hc ok)
  have K5 := Lib.hid (fun W g q cap (t : TIs W g q cap l) => count_any W g q cap l s t ok)
  have K6 := Lib.hid (fun W (r : Reads W A n (ints l)) => rcount_any W A n c l s r)
  clear h ok k1 k2 hc
  generalize lowOf l s = L at *
  generalize cntOf l s = D at *
  have t1 : (L == L) = true := by simp
  have t2 : (D == D) = true := by simp
  have t3 : (fs == fs) = true := by simp
  have t4 : (fb == fb) = true := by simp
  go_enter Try.func3, Try.ntmps3
  go_wp2_with fail
  refine (awake_true w).mono ?_
  rintro e w1 ⟨rfl, b1⟩
  have B1 := Lib.hid b1
  have R1 := Lib.hid (HR.out.below b1)
  clear b1
  go_wp2_with fail
  refine (new_good w1 A n c l R1.out HOK.out).mono ?_
  rintro e w2 ⟨g, q, cap, rfl, tt, _, _, b2⟩
  have T2 := Lib.hid tt
  have B2 := Lib.hid (B1.out.trans (b2.mono B1.out.size))
  have R2 := Lib.hid (R1.out.below b2)
  clear b2 tt
  go_wp2_with fail
  refine (rcheck_any w2 A n c l 0 R2.out HF.out).mono ?_
  rintro e w3 ⟨rfl, b3⟩
  have T3 := Lib.hid (T2.out.read b3)
  have B3 := Lib.hid (B2.out.trans b3.below)
  have R3 := Lib.hid (R2.out.read b3)
  clear b3
  go_wp2_with fail
  refine (K1.out w3 g q cap T3.out).mono ?_
  rintro e w4 ⟨rfl, b4⟩
  have T4 := Lib.hid (T3.out.below b4)
  have B4 := Lib.hid (B3.out.trans (b4.mono B3.out.size))
  have R4 := Lib.hid (R3.out.below b4)
  clear b4
  go_wp2_with fail
  refine (K2.out w4 R4.out).mono ?_
  rintro e w5 ⟨rfl, b5⟩
  have T5 := Lib.hid (T4.out.read b5)
  have B5 := Lib.hid (B4.out.trans b5.below)
  have R5 := Lib.hid (R4.out.read b5)
  clear b5
  go_wp2_with fail
  refine (same_true w5 g q cap A n c l T5.out HOK.out R5.out).mono ?_
  rintro e w6 ⟨rfl, b6⟩
  have T6 := Lib.hid (T5.out.read b6)
  have B6 := Lib.hid (B5.out.trans b6.below)
  have R6 := Lib.hid (R5.out.read b6)
  clear b6
  go_wp2_with fail
  refine (K3.out w6 g q cap T6.out).mono ?_
  rintro e w7 ⟨rfl, b7⟩
  have T7 := Lib.hid (T6.out.read b7)
  have B7 := Lib.hid (B6.out.trans b7.below)
  have R7 := Lib.hid (R6.out.read b7)
  clear b7
  go_wp2_with fail
  refine (K4.out w7 R7.out).mono ?_
  rintro e w8 ⟨rfl, b8⟩
  have T8 := Lib.hid (T7.out.read b8)
  have B8 := Lib.hid (B7.out.trans b8.below)
  have R8 := Lib.hid (R7.out.read b8)
  clear b8
  go_wp2_with fail
  refine (K5.out w8 g q cap T8.out).mono ?_
  rintro e w9 ⟨rfl, b9⟩
  have B9 := Lib.hid (B8.out.trans b9.below)
  have R9 := Lib.hid (R8.out.read b9)
  clear b9
  go_wp2_with fail
  refine (K6.out w9 R9.out).mono ?_
  rintro e w10 ⟨rfl, b10⟩
  have B10 := Lib.hid (B9.out.trans b10.below)
  clear b10
  go_wp2
  go_ret
  exact ⟨rfl, B10.out⟩

theorem walk (A : Option Addr) (n c : Nat) (l : List Int) (s x : Int) (w : World) (hc : (A = none → c = 0) ∧ n ≤ c) (_ : ∀ x ∈ l, -9223372036854775808 ≤ x ∧ x ≤ 9223372036854775807) (h : Reads w A n (ints l))
    (_ : -9223372036854775808 ≤ s) (_ : s ≤ 9223372036854775807) (_ : -9223372036854775808 ≤ x) (_ : x ≤ 9223372036854775807) :
    Calls Try.prog 3 #[.slice A n c, .int .i64 s, .int .i64 x] w fun e w' => e = .returned (.bool true) ∧ Below w.heap.size w w' := by
  by_cases hN : 300 < n
  · exact many w A n c s x hN
  obtain ⟨f, hf⟩ := chk_exists l
  by_cases h0 : f = 0
  · subst h0
    have ok := hf.good
    by_cases hx : x < 0 ∨ l.sum ≤ x
    · exact good w A n c l s x 0 false (by omega) hc.2 h ok (fun W g q cap t => find_out W g q cap l x t ok hx) (fun W r => rfind_out W A n c l x r hc.2 ok hx)
    · obtain ⟨k, hk, h1, h2⟩ := sym_exists l x (by omega) l.length (by rw [low_all l _ (Nat.le_refl _)]; omega)
      exact good w A n c l s x k true (by omega) hc.2 h ok (fun W g q cap t => find_ok W g q cap l x k t ok hk h1 h2) (fun W r => rfind_ok W A n c l x k r hc.2 ok (by rw [h.len] at hk; exact hk) h1 h2)
  · exact bad w A n c l s x f (by omega) h hf h0

set_option maxRecDepth 100000 in
theorem lifted (os : Os) (started : os.Started) (H : Type) (enc : TypeId × Value → H) :
    ReturnsInHanded {} Try.checked os 3 .any (Rows.tableMakesSpec.pre6 enc Try.prog Try.f3 Rows.tableMakesRow.domain false) (Rows.tableMakesSpec.post enc Try.prog Try.f3 false true false false) := by
  refine returnsInHanded_of_change (C := Try.checked) own_knob started (by kernel_rfl) Try.func3
    (ChangeSpec.witness6 (enc := enc) (C := Try.checked) false ⟨#[], #[.slice none 0 0, .int .i64 0, .int .i64 0], []⟩ 8 (by kernel_rfl) (by kernel_rfl) (by kernel_rfl) (by kernel_rfl)) ?_
  intro W base args ds gs before hval0 hW hcnd _
  have hval : ∀ (j : Nat) t v, Try.f3.params[j]? = some t → args[j]? = some v → Value.okWide Try.prog W .any base t v := hval0
  have hW' := hW
  obtain ⟨p, q, hA0, hV, rfl, hfz, hnd⟩ := hW
  have hA : DataW.TrodAll enc Try.prog W 0 (fun _ => true) true Try.f3.params.toList args.toList ds p := hA0
  rw [Try.params3] at hA hval
  obtain ⟨v0, vs0, d0, ds0, p0, q0, hargs, rfl, rfl, h0, r0⟩ := trodAll_cons hA
  obtain ⟨v1, vs1, d1, ds1, p1, q1, rfl, rfl, rfl, h1, r1⟩ := trodAll_cons r0
  obtain ⟨v2, vs2, d2, ds2, p2, q2, rfl, rfl, rfl, h2, r2⟩ := trodAll_cons r1
  obtain ⟨rfl, rfl, rfl⟩ := trodAll_nil r2
  obtain rfl : args = #[v0, v1, v2] := by cases args; simp_all
  obtain ⟨rfl, rfl⟩ := trodVars_none hV
  obtain ⟨a0, len0, cap0, rfl⟩ := okWide_slice Try.underlying22 (hval 0 22 v0 rfl rfl)
  have lt0 : ∀ x ∈ p0, x.block < W.heap.size := by obtain ⟨m, hm⟩ := h0; exact DataW.trod_lt m _ _ _ hm
  obtain ⟨hc0, xs0, hx0, hr0⟩ := arg_ints h0
  obtain ⟨a1, rfl, rfl, rfl, w1⟩ := open_int Try.underlying3 (hval 1 3 v1 rfl rfl) h1
  have bd1 := bounds_i64 w1
  obtain ⟨a2, rfl, rfl, rfl, w2⟩ := open_int Try.underlying3 (hval 2 3 v2 rfl rfl) h2
  have bd2 := bounds_i64 w2
  clear hA0 hval0
  refine (walk a0 len0 cap0 xs0 a1 a2 W hc0 hx0 hr0 (by omega) (by omega) (by omega) (by omega)).mono fun e W' ⟨he, bel⟩ => ?_
  subst he
  exact ⟨_, rfl, _, _, _, [], _, [], hW', trodAll_mk1 (shut_bool Try.underlying4 _), (trodAll_cons_mk (Below.trod laid_out (by kernel_rfl) (of_decide_eq_true (by kernel_rfl)) h0 bel lt0) (trodAll_cons_mk (shut_int Try.underlying3 w1) (trodAll_cons_mk (shut_int Try.underlying3 w2) trodAll_mk0))), rfl, bel.frame _, fun h => by cases h⟩

theorem over : Rows.tableMakesRow.holds Try.pinned (OpenSpec.ofChange Rows.tableMakesSpec) :=
  OpenClaim.holds_of_wide 3 Try.f3 rfl rfl rfl rfl rfl rfl rfl ⟨rfl, rfl, rfl, rfl, rfl⟩ rfl rfl rfl rfl rfl (by kernel_rfl) Try.func3 (by kernel_rfl)
    (of_decide_eq_true (by kernel_rfl)) (by unfold Func.isWrapper; first | (rw [if_pos (by decide +kernel)]; kernel_rfl) | (rw [if_neg (by decide +kernel)]; exact ⟨rfl, rfl⟩))
    (fun os started H enc _ => lifted os started H enc)

theorem proved : Rows.TableMakesSaid := over
end Go.Proofs.Ytjacjgchbpghiaa.tableMakes
