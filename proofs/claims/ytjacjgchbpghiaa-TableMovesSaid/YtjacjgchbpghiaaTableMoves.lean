/- TableMoves: of any counts (at most 40, in order, whose total bears 32 more), and any symbol, a bump moves the low ends behind it by 32, and no others. No condition. -/
import Derived.Test.YtjacjgchbpghiaaTabMade
import Derived.Test.YtjacjgchbpghiaaTabAwake
import Derived.Test.YtjacjgchbpghiaaTabRefB
namespace Go.Proofs.Ytjacjgchbpghiaa.tableMoves
open Go.ChangeShapes Go.WideShapes Go.ChangeAt Go.RowKit

set_option maxHeartbeats 2000000 in
set_option maxRecDepth 100000 in
theorem many (w : World) (A : Option Addr) (n c : Nat) (a : Int) (h : 40 < n ∨ n = 0) :
    Calls Try.prog 10 #[.slice A n c, .int .u8 a] w fun e w' => e = .returned (.bool true) ∧ Below w.heap.size w w' := by
  by_cases h1 : 40 < n
  · have t0 : (40 : Int) < n := by omega
    clear h
    go_enter Try.func10, Try.ntmps10
    go_wp2_with fail
    refine (awake_true w).mono ?_
    rintro e w1 ⟨rfl, b1⟩
    have B1 := Lib.hid b1
    clear b1
    go_wp2
    go_ret
    exact ⟨rfl, B1.out⟩
  · obtain rfl : n = 0 := by omega
    go_enter Try.func10, Try.ntmps10
    go_wp2_with fail
    refine (awake_true w).mono ?_
    rintro e w1 ⟨rfl, b1⟩
    have B1 := Lib.hid b1
    clear b1
    go_wp2
    go_ret
    exact ⟨rfl, B1.out⟩

set_option maxHeartbeats 2000000 in
set_option maxRecDepth 100000 in
theorem bad (w : World) (A : Option Addr) (n c : Nat) (l : List Int) (a f : Int) (hn : n ≤ 40) (hn0 : 0 < n) (h : Reads w A n (ints l)) (hf : Chk l f) (h0 : f ≠ 0) :
    Calls Try.prog 10 #[.slice A n c, .int .u8 a] w fun e w' => e = .returned (.bool true) ∧ Below w.heap.size w w' := by
  have t0 : ¬ (40 : Int) < n := by omega
  have t1 : ((n : Int) == 0) = false := by simp; omega
  have t2 : (f != 0) = true := by simpa using h0
  have HR := Lib.hid h
  have HF := Lib.hid hf
  clear h hf h0
  go_enter Try.func10, Try.ntmps10
  go_wp2_with fail
  refine (awake_true w).mono ?_
  rintro e w1 ⟨rfl, b1⟩
  have B1 := Lib.hid b1
  have R1 := Lib.hid (HR.out.below b1)
  clear b1
  go_wp2_with fail
  refine (rcheck_any w1 A n c l f R1.out HF.out).mono ?_
  rintro e w3 ⟨rfl, b3⟩
  have B3 := Lib.hid (B1.out.trans b3.below)
  clear b3
  go_wp2
  go_ret
  exact ⟨rfl, B3.out⟩

def MovesAt (w : World) (A : Option Addr) (l : List Int) (g q cap n s : Nat) (i : Value) (wr : World) : Prop :=
  ∃ k : Nat, k ≤ n ∧ i = .int .i64 (k : Int) ∧ TIs wr g q cap (more l s) ∧ Reads wr A n (ints l) ∧ Below w.heap.size w wr

set_option maxHeartbeats 4000000 in
set_option maxRecDepth 100000 in
theorem good (w : World) (A : Option Addr) (n c : Nat) (l : List Int) (a : Nat) (hn : n ≤ 40) (hn0 : 0 < n) (hc : n ≤ c) (h : Reads w A n (ints l)) (ok : Ok l) (ha : a ≤ 255) :
    Calls Try.prog 10 #[.slice A n c, .int .u8 (a : Int)] w fun e w' => e = .returned (.bool true) ∧ Below w.heap.size w w' := by
  have t0 : ¬ (40 : Int) < n := by omega
  have t1 : ((n : Int) == 0) = false := by simp; omega
  have HR := Lib.hid h
  have HOK := Lib.hid ok
  have HF := Lib.hid (show Chk l 0 from .inr (.inr (.inr ⟨rfl, ok⟩)))
  have KT := Lib.hid (fun W (r : Reads W A n (ints l)) => rtotal_any W A n c l r ok.zero (by have := ok.total; omega) (by omega))
  have hl := h.len
  have hs : a % n < n := Nat.mod_lt _ hn0
  by_cases hbig : 65504 < l.sum
  · clear h ok hl
    generalize l.sum = S at *
    go_enter Try.func10, Try.ntmps10
    go_wp2_with fail
    refine (awake_true w).mono ?_
    rintro e w1 ⟨rfl, b1⟩
    have B1 := Lib.hid b1
    have R1 := Lib.hid (HR.out.below b1)
    clear b1
    go_wp2_with fail
    refine (rcheck_any w1 A n c l 0 R1.out HF.out).mono ?_
    rintro e w3 ⟨rfl, b3⟩
    have B3 := Lib.hid (B1.out.trans b3.below)
    have R3 := Lib.hid (R1.out.read b3)
    clear b3
    go_wp2_with fail
    refine (KT.out w3 R3.out).mono ?_
    rintro e w4 ⟨rfl, b4⟩
    have B4 := Lib.hid (B3.out.trans b4.below)
    clear b4
    go_wp2
    go_ret
    exact ⟨rfl, B4.out⟩
  have HBM := Lib.hid (show bumped l (a % n) = more l (a % n) by unfold bumped; rw [if_neg (by omega)])
  have hokb := ok.bumped (a % n) (by omega)
  rw [HBM.out] at hokb
  have HOB := Lib.hid hokb
  have HLM := Lib.hid (fun k => low_more l (a % n) k (by omega))
  have HSM := sum_more l (a % n) (by omega)
  have KM := Lib.hid (fun W g q cap (t : TIs W g q cap (more l (a % n))) => total_any W g q cap (more l (a % n)) t hokb.pos hokb.few)
  rw [HSM] at KM
  have KL := Lib.hid (fun W g q cap (t : TIs W g q cap (more l (a % n))) (k : Nat) => low_any W g q cap (more l (a % n)) (k : Int) t hokb.few)
  have KR := Lib.hid (fun W (r : Reads W A n (ints l)) (k : Nat) => rlow_any W A n c l (k : Int) r hc ok)
  have KB := Lib.hid (fun W g q cap (t : TIs W g q cap l) => bump_ok W g q cap l (a % n) t ok (by omega))
  rw [HBM.out] at KB
  have hS0 := ok.len_sum
  have HL := Lib.hid hl
  have HLL := Lib.hid (show (more l (a % n)).length = n by rw [length_more]; exact hl)
  have hsum0 : 0 ≤ l.sum := by omega
  clear h ok hokb HSM hl hS0
  have HSB := Lib.hid hbig
  generalize l.sum = S at *
  have eS : IntKind.i64.wrap (S + 32) = S + 32 := IntWalk.i64_in _ (by omega)
  have dS : (S + 32 == S + 32) = true := by simp
  go_enter Try.func10, Try.ntmps10
  go_wp2_with fail
  refine (awake_true w).mono ?_
  rintro e w1 ⟨rfl, b1⟩
  have B1 := Lib.hid b1
  have R1 := Lib.hid (HR.out.below b1)
  clear b1
  go_wp2_with fail
  refine (rcheck_any w1 A n c l 0 R1.out HF.out).mono ?_
  rintro e w3 ⟨rfl, b3⟩
  have B3 := Lib.hid (B1.out.trans b3.below)
  have R3 := Lib.hid (R1.out.read b3)
  clear b3
  go_wp2_with fail
  refine (KT.out w3 R3.out).mono ?_
  rintro e w4 ⟨rfl, b4⟩
  have B4 := Lib.hid (B3.out.trans b4.below)
  have R4 := Lib.hid (R3.out.read b4)
  clear b4
  go_wp2_with fail
  refine (new_good w4 A n c l R4.out HOK.out).mono ?_
  rintro e w5 ⟨g, q, cap, rfl, tt, _, hq, b5⟩
  have T5 := Lib.hid tt
  have B5 := Lib.hid (B4.out.trans (b5.mono B4.out.size))
  have R5 := Lib.hid (R4.out.below b5)
  have HQ := Lib.hid (Nat.le_trans B4.out.size hq)
  have HQ4 := Lib.hid hq
  clear b5 tt hq
  have t6 : (0 : Int) < n := by omega
  go_wp2_with fail
  rw [show (a : Int) % (n : Int) = ((a % n : Nat) : Int) by omega]
  refine (KB.out w5 g q cap T5.out).mono ?_
  rintro e w6 ⟨rfl, t6, g6⟩
  have T6 := Lib.hid t6
  have B6 := Lib.hid (B5.out.trans (grown_below g6 HQ.out B5.out.size))
  have R6 := Lib.hid (HR.out.below B6.out)
  clear t6 g6
  go_wp2_with fail
  generalize hs2 : a % n = s at *
  have HS2 := Lib.hid hs2
  clear hs2
  rw [show (a : Int) % (n : Int) = (s : Int) by rw [← HS2.out]; omega]
  go_loopw [8] (MovesAt w A l g q cap n s) (fun i _ => n - (intOf i).toNat)
  case atStart => exact ⟨0, Nat.zero_le _, rfl, T6.out, R6.out, B6.out⟩
  case round =>
    obtain ⟨k, hk, rfl, tt, rr, bb⟩ := hrel
    have T := Lib.hid tt
    have R := Lib.hid rr
    have B := Lib.hid bb
    clear tt rr bb
    by_cases hlt : k < n
    · have hkn : (k : Int) < n := by omega
      have kr := KR.out wr R.out k
      rw [lowOf_at l k (by rw [HL.out]; exact hlt)] at kr
      have KR1 := Lib.hid kr
      have hb := HOK.out.low_le' k
      have hlm := HLM.out k
      clear kr
      go_wp2_with fail
      refine KR1.out.mono ?_
      rintro e w8 ⟨rfl, b8⟩
      have kl := KL.out w8 g q cap (T.out.read b8) k
      rw [lowOf_at (more l s) k (by rw [HLL.out]; exact hlt)] at kl
      have T8 := Lib.hid (T.out.read b8)
      have R8 := Lib.hid (R.out.read b8)
      have B8 := Lib.hid (B.out.trans b8.below)
      clear b8
      by_cases hsk : s < k
      · rw [if_pos hsk] at hlm
        rw [hlm] at kl
        have KL1 := Lib.hid kl
        clear kl hlm
        generalize low l k = t at *
        have e6 : IntKind.i64.wrap (t + 32) = t + 32 := IntWalk.i64_in _ (by omega)
        have d6 : (t + 32 != t + 32) = false := by simp
        have hskz : (s : Int) < k := by omega
        go_wp2_with fail
        refine KL1.out.mono ?_
        rintro e w9 ⟨rfl, b9⟩
        have T9 := Lib.hid (T8.out.read b9)
        have R9 := Lib.hid (R8.out.read b9)
        have B9 := Lib.hid (B8.out.trans b9.below)
        clear b9
        go_wp2_with fail
        exact ⟨⟨k + 1, by omega, by go_num, T9.out, R9.out, B9.out⟩, by simp [intOf]; omega⟩
      · rw [if_neg hsk] at hlm
        rw [hlm] at kl
        have KL1 := Lib.hid kl
        clear kl hlm
        generalize low l k = t at *
        have d6 : (t != t) = false := by simp
        have hskz : ¬ (s : Int) < k := by omega
        go_wp2_with fail
        refine KL1.out.mono ?_
        rintro e w9 ⟨rfl, b9⟩
        have T9 := Lib.hid (T8.out.read b9)
        have R9 := Lib.hid (R8.out.read b9)
        have B9 := Lib.hid (B8.out.trans b9.below)
        clear b9
        go_wp2_with fail
        exact ⟨⟨k + 1, by omega, by go_num, T9.out, R9.out, B9.out⟩, by simp [intOf]; omega⟩
    · obtain rfl : k = n := by omega
      have hnl : ¬ (k : Int) < k := by omega
      go_wp2_with fail
      refine (KM.out wr g q cap T.out).mono ?_
      rintro e w8 ⟨rfl, b8⟩
      have R8 := Lib.hid (R.out.read b8)
      have B8 := Lib.hid (B.out.trans b8.below)
      clear b8
      go_wp2_with fail
      refine (KT.out w8 R8.out).mono ?_
      rintro e w9 ⟨rfl, b9⟩
      have B9 := Lib.hid (B8.out.trans b9.below)
      clear b9
      go_wp2
      go_ret
      exact ⟨rfl, B9.out⟩

theorem walk (A : Option Addr) (n c : Nat) (l : List Int) (a : Int) (w : World) (hc : (A = none → c = 0) ∧ n ≤ c) (_ : ∀ x ∈ l, -9223372036854775808 ≤ x ∧ x ≤ 9223372036854775807) (h : Reads w A n (ints l)) (h0 : 0 ≤ a) (h1 : a ≤ 255) :
    Calls Try.prog 10 #[.slice A n c, .int .u8 a] w fun e w' => e = .returned (.bool true) ∧ Below w.heap.size w w' := by
  by_cases hN : 40 < n ∨ n = 0
  · exact many w A n c a hN
  obtain ⟨f, hf⟩ := chk_exists l
  by_cases hf0 : f = 0
  · subst hf0
    obtain ⟨m, rfl⟩ := Int.eq_ofNat_of_zero_le h0
    exact good w A n c l m (by omega) (by omega) hc.2 h hf.good (by omega)
  · exact bad w A n c l a f (by omega) (by omega) h hf hf0

set_option maxRecDepth 100000 in
theorem lifted (os : Os) (started : os.Started) (H : Type) (enc : TypeId × Value → H) :
    ReturnsInHanded {} Try.checked os 10 .any (Rows.tableMovesSpec.pre6 enc Try.prog Try.f10 Rows.tableMovesRow.domain false) (Rows.tableMovesSpec.post enc Try.prog Try.f10 false true false false) := by
  refine returnsInHanded_of_change (C := Try.checked) own_knob started (by kernel_rfl) Try.func10
    (ChangeSpec.witness6 (enc := enc) (C := Try.checked) false ⟨#[], #[.slice none 0 0, .int .u8 0], []⟩ 8 (by kernel_rfl) (by kernel_rfl) (by kernel_rfl) (by kernel_rfl)) ?_
  intro W base args ds gs before hval0 hW hcnd _
  have hval : ∀ (j : Nat) t v, Try.f10.params[j]? = some t → args[j]? = some v → Value.okWide Try.prog W .any base t v := hval0
  have hW' := hW
  obtain ⟨p, q, hA0, hV, rfl, hfz, hnd⟩ := hW
  have hA : DataW.TrodAll enc Try.prog W 0 (fun _ => true) true Try.f10.params.toList args.toList ds p := hA0
  rw [Try.params10] at hA hval
  obtain ⟨v0, vs0, d0, ds0, p0, q0, hargs, rfl, rfl, h0, r0⟩ := trodAll_cons hA
  obtain ⟨v1, vs1, d1, ds1, p1, q1, rfl, rfl, rfl, h1, r1⟩ := trodAll_cons r0
  obtain ⟨rfl, rfl, rfl⟩ := trodAll_nil r1
  obtain rfl : args = #[v0, v1] := by cases args; simp_all
  obtain ⟨rfl, rfl⟩ := trodVars_none hV
  obtain ⟨a0, len0, cap0, rfl⟩ := okWide_slice Try.underlying22 (hval 0 22 v0 rfl rfl)
  have lt0 : ∀ x ∈ p0, x.block < W.heap.size := by obtain ⟨m, hm⟩ := h0; exact DataW.trod_lt m _ _ _ hm
  obtain ⟨hc0, xs0, hx0, hr0⟩ := arg_ints h0
  obtain ⟨a1, rfl, rfl, rfl, w1⟩ := open_int Try.underlying5 (hval 1 5 v1 rfl rfl) h1
  have bd1 := bounds_u8 w1
  clear hA0 hval0
  refine (walk a0 len0 cap0 xs0 a1 W hc0 hx0 hr0 (by omega) (by omega)).mono fun e W' ⟨he, bel⟩ => ?_
  subst he
  exact ⟨_, rfl, _, _, _, [], _, [], hW', trodAll_mk1 (shut_bool Try.underlying4 _), (trodAll_cons_mk (Below.trod laid_out (by kernel_rfl) (of_decide_eq_true (by kernel_rfl)) h0 bel lt0) (trodAll_cons_mk (shut_int Try.underlying5 w1) trodAll_mk0)), rfl, bel.frame _, fun h => by cases h⟩

theorem over : Rows.tableMovesRow.holds Try.pinned (OpenSpec.ofChange Rows.tableMovesSpec) :=
  OpenClaim.holds_of_wide 10 Try.f10 rfl rfl rfl rfl rfl rfl rfl ⟨rfl, rfl, rfl, rfl, rfl⟩ rfl rfl rfl rfl rfl (by kernel_rfl) Try.func10 (by kernel_rfl)
    (of_decide_eq_true (by kernel_rfl)) (by unfold Func.isWrapper; first | (rw [if_pos (by decide +kernel)]; kernel_rfl) | (rw [if_neg (by decide +kernel)]; exact ⟨rfl, rfl⟩))
    (fun os started H enc _ => lifted os started H enc)

theorem proved : Rows.TableMovesSaid := over
end Go.Proofs.Ytjacjgchbpghiaa.tableMoves
