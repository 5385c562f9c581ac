/- CrcAhead: no two texts of noughts (of up to 255 bytes) of unlike lengths have the same sum. No condition. -/
import Derived.Test.YtofchndeafobaaaCrcLaw
namespace Go.Proofs.Ytofchndeafobaaa.crcAhead
open Go.ChangeShapes Go.WideShapes Go.ChangeAt Go.RowKit

set_option maxHeartbeats 3200000 in
set_option maxRecDepth 100000 in
theorem ways (n m s t : Nat) (w : World) (hn : n ≤ 255) (hm : m ≤ 255)
    (K1 : Hid (∀ w (A : Option Addr), Reads w A n (bts (List.replicate n 0)) → Calls Try.prog 12 #[.slice A n n] w fun e w' => e = .returned (.int .u32 (s : Int)) ∧ Below w.heap.size w w'))
    (K2 : Hid (∀ w (A : Option Addr), Reads w A m (bts (List.replicate m 0)) → Calls Try.prog 12 #[.slice A m m] w fun e w' => e = .returned (.int .u32 (t : Int)) ∧ Below w.heap.size w w'))
    (hd : (((s : Int) == (t : Int)) == ((n : Int) == (m : Int))) = true) :
    Calls Try.prog 10 #[.int .u8 (n : Int), .int .u8 (m : Int)] w fun e w' => e = .returned (.bool true) ∧ Below w.heap.size w w' := by
  have hmk := fun W => run_make_row' (P := Try.prog) 22 5 (.int .u8 0) 1 Try.underlying22 Try.infoU8 rfl .i64 .i64 n (by omega) (by omega) W
  have hmk2 := fun W => run_make_row' (P := Try.prog) 22 5 (.int .u8 0) 1 Try.underlying22 Try.infoU8 rfl .i64 .i64 m (by omega) (by omega) W
  have hw1 : IntKind.i64.wrap (n : Int) = (n : Int) := IntWalk.i64_in _ (by omega)
  have hw2 : IntKind.i64.wrap (m : Int) = (m : Int) := IntWalk.i64_in _ (by omega)
  have HD := Lib.hid hd
  clear hd
  generalize hS : (s : Int) = S at *
  generalize hT : (t : Int) = T at *
  clear hS hT
  go_enter Try.func10, Try.ntmps10
  go_wp2_with fail
  refine (awake6_true w).mono ?_
  rintro e w1 ⟨rfl, b1⟩
  have B1 := Lib.hid b1
  clear b1
  go_wp2_with fail
  go_region_held3 (fun _ => True)
    (trivial)
    (first
      | (go_at_call 12; with_reducible refine (K1.out _ _ (by first | with_reducible exact (zeros_made _ n _ (by simp)).drew | with_reducible exact ((zeros_made _ n _ (by simp)).below (mk_below _ _)).drew)).mono ?_; rintro e w2 ⟨rfl, b2⟩; have B2 := Lib.hid b2; clear b2)
      | (go_at_call 12; with_reducible refine (K2.out _ _ (by first | with_reducible exact zeros_made _ m _ (by simp) | with_reducible exact (zeros_made _ m _ (by simp)).drew.below B2.out | with_reducible exact ((zeros_made _ m _ (by simp)).below (mk_below _ _)).drew.below B2.out)).mono ?_; rintro e w3 ⟨rfl, b3⟩; have B3 := Lib.hid b3; clear b3))
  all_goals
    go_wp2
    go_ret
    refine ⟨congrArg _ (congrArg _ HD.out), ?_⟩
    first
      | exact up2 (up1 (up2 (upd (up1 B1.out _)) B2.out) _) B3.out
      | exact up2 (up2 (upd (up1 (up1 B1.out _) _)) B2.out) B3.out
theorem walk (a b : Int) (w : World) (h0 : 0 ≤ a) (h1 : a ≤ 255) (h2 : 0 ≤ b) (h3 : b ≤ 255) :
    Calls Try.prog 10 #[.int .u8 a, .int .u8 b] w fun e w' => e = .returned (.bool true) ∧ Below w.heap.size w w' := by
  obtain ⟨n, rfl⟩ := Int.eq_ofNat_of_zero_le h0
  obtain ⟨m, rfl⟩ := Int.eq_ofNat_of_zero_le h2
  have HZ := zeros_told n m (by omega) (by omega)
  refine ways n m (crcSum (List.replicate n 0)) (crcSum (List.replicate m 0)) w (by omega) (by omega) (Lib.hid fun w A h => csum_any w A n n _ h (dig_zeros n) (by omega)) (Lib.hid fun w A h => csum_any w A m m _ h (dig_zeros m) (by omega)) ?_
  by_cases e : n = m
  · subst e; simp
  · have h1 : (((crcSum (List.replicate n 0) : Nat) : Int) == ((crcSum (List.replicate m 0) : Nat) : Int)) = false := by
      rw [beq_eq_false_iff_ne]; intro h; exact e (HZ.1 (by omega))
    have h2 : ((n : Int) == (m : Int)) = false := by rw [beq_eq_false_iff_ne]; omega
    rw [h1, h2]; rfl

set_option maxRecDepth 100000 in
theorem lifted (os : Os) (started : os.Started) (H : Type) (enc : TypeId × Value → H) :
    ReturnsInHanded {} Try.checked os 10 .any (Rows.crcAheadSpec.pre6 enc Try.prog Try.f10 Rows.crcAheadRow.domain false) (Rows.crcAheadSpec.post enc Try.prog Try.f10 false true false false) := by
  refine returnsInHanded_of_change (C := Try.checked) own_knob started (by kernel_rfl) Try.func10
    (ChangeSpec.witness6 (enc := enc) (C := Try.checked) false ⟨#[], #[.int .u8 0, .int .u8 0], []⟩ 8 (by kernel_rfl) (by kernel_rfl) (by kernel_rfl) (by kernel_rfl)) ?_
  intro W base args ds gs before hval0 hW hcnd _
  have hval : ∀ (j : Nat) t v, Try.f10.params[j]? = some t → args[j]? = some v → Value.okWide Try.prog W .any base t v := hval0
  have hW' := hW
  obtain ⟨p, q, hA0, hV, rfl, hfz, hnd⟩ := hW
  have hA : DataW.TrodAll enc Try.prog W 0 (fun _ => true) true Try.f10.params.toList args.toList ds p := hA0
  rw [Try.params10] at hA hval
  obtain ⟨v0, vs0, d0, ds0, p0, q0, hargs, rfl, rfl, h0, r0⟩ := trodAll_cons hA
  obtain ⟨v1, vs1, d1, ds1, p1, q1, rfl, rfl, rfl, h1, r1⟩ := trodAll_cons r0
  obtain ⟨rfl, rfl, rfl⟩ := trodAll_nil r1
  obtain rfl : args = #[v0, v1] := by cases args; simp_all
  obtain ⟨rfl, rfl⟩ := trodVars_none hV
  obtain ⟨a0, rfl, rfl, rfl, w0⟩ := open_int Try.underlying5 (hval 0 5 v0 rfl rfl) h0
  have bd0 := bounds_u8 w0
  obtain ⟨a1, rfl, rfl, rfl, w1⟩ := open_int Try.underlying5 (hval 1 5 v1 rfl rfl) h1
  have bd1 := bounds_u8 w1
  clear hA0 hval0
  refine (walk a0 a1 W (by omega) (by omega) (by omega) (by omega)).mono fun e W' ⟨he, bel⟩ => ?_
  subst he
  exact ⟨_, rfl, _, _, _, [], _, [], hW', trodAll_mk1 (shut_bool Try.underlying4 _), (trodAll_cons_mk (shut_int Try.underlying5 w0) (trodAll_cons_mk (shut_int Try.underlying5 w1) trodAll_mk0)), rfl, bel.frame _, fun h => by cases h⟩

theorem over : Rows.crcAheadRow.holds Try.pinned (OpenSpec.ofChange Rows.crcAheadSpec) :=
  OpenClaim.holds_of_wide 10 Try.f10 rfl rfl rfl rfl rfl rfl rfl ⟨rfl, rfl, rfl, rfl, rfl⟩ rfl rfl rfl rfl rfl (by kernel_rfl) Try.func10 (by kernel_rfl)
    (of_decide_eq_true (by kernel_rfl)) (by unfold Func.isWrapper; first | (rw [if_pos (by decide +kernel)]; kernel_rfl) | (rw [if_neg (by decide +kernel)]; exact ⟨rfl, rfl⟩))
    (fun os started H enc _ => lifted os started H enc)

theorem proved : Rows.CrcAheadSaid := over
end Go.Proofs.Ytofchndeafobaaa.crcAhead
