/- TableFinds: of any counts (at most 40), any bumps (at most 40) and any number, each number below the total belongs to the symbol within whose ends it lies, the first and the last of each to it, and no other number to any. No condition. -/
import Derived.Test.YtjacjgchbpghiaaTabApart
import Derived.Test.YtjacjgchbpghiaaTabFind
namespace Go.Proofs.Ytjacjgchbpghiaa.tableFinds
open Go.ChangeShapes Go.WideShapes Go.ChangeAt Go.RowKit

set_option maxHeartbeats 2000000 in
set_option maxRecDepth 100000 in
theorem many (w : World) (A C : Option Addr) (n c m d : Nat) (x : Int) (h : 40 < n ∨ 40 < m) :
    Calls Try.prog 5 #[.slice A n c, .slice C m d, .int .i64 x] w fun e w' => e = .returned (.bool true) ∧ Below w.heap.size w w' := by
  by_cases h1 : 40 < n
  · have t0 : (40 : Int) < n := by omega
    clear h
    go_enter Try.func5, Try.ntmps5
    go_wp2_with fail
    refine (awake_true w).mono ?_
    rintro e w1 ⟨rfl, b1⟩
    have B1 := Lib.hid b1
    clear b1
    go_wp2
    go_ret
    exact ⟨rfl, B1.out⟩
  · have t0 : ¬ (40 : Int) < n := by omega
    have t1 : (40 : Int) < m := by omega
    clear h
    go_enter Try.func5, Try.ntmps5
    go_wp2_with fail
    refine (awake_true w).mono ?_
    rintro e w1 ⟨rfl, b1⟩
    have B1 := Lib.hid b1
    clear b1
    go_wp2
    go_ret
    exact ⟨rfl, B1.out⟩

set_option maxHeartbeats 2000000 in
set_option maxRecDepth 100000 in
theorem bad (w : World) (A C : Option Addr) (n c m d : Nat) (x : Int) (l : List Int) (f : Int) (hn : n ≤ 40) (hm : m ≤ 40) (h : Reads w A n (ints l)) (hf : Chk l f) (h0 : f ≠ 0) :
    Calls Try.prog 5 #[.slice A n c, .slice C m d, .int .i64 x] w fun e w' => e = .returned (.bool true) ∧ Below w.heap.size w w' := by
  have t0 : ¬ (40 : Int) < n := by omega
  have t1 : ¬ (40 : Int) < m := by omega
  have t2 : (f != 0) = true := by simpa using h0
  have HR := Lib.hid h
  have HF := Lib.hid hf
  have H0 := Lib.hid h0
  clear h hf h0
  go_enter Try.func5, Try.ntmps5
  go_wp2_with fail
  refine (awake_true w).mono ?_
  rintro e w1 ⟨rfl, b1⟩
  have B1 := Lib.hid b1
  have R1 := Lib.hid (HR.out.below b1)
  clear b1
  go_wp2_with fail
  refine (new_fail w1 A n c l f R1.out HF.out H0.out).mono ?_
  rintro e w3 ⟨rfl, b3⟩
  have B3 := Lib.hid (B1.out.trans (b3.mono B1.out.size))
  clear b3
  go_wp2
  go_ret
  exact ⟨rfl, B3.out⟩

def BumpsAt (w : World) (g q cap n m : Nat) (i : Value) (wr : World) : Prop :=
  ∃ (k : Nat) (l : List Int), k ≤ m ∧ i = .int .i64 (k : Int) ∧ Hid (Ok l ∧ l.length = n ∧ TIs wr g q cap l ∧ Below w.heap.size w wr)
def EachAt (w : World) (g q cap n : Nat) (l : List Int) (i : Value) (wr : World) : Prop :=
  ∃ k : Nat, k ≤ n ∧ i = .int .i64 (k : Int) ∧ Hid (TIs wr g q cap l ∧ Below w.heap.size w wr)

set_option maxHeartbeats 8000000 in
set_option maxRecDepth 100000 in
theorem good (w : World) (A C : Option Addr) (n c m d : Nat) (x : Int) (l bl : List Int) (hn : n ≤ 40) (hm : m ≤ 40) (h : Reads w A n (ints l)) (hb : Reads w C m (ints bl)) (ok : Ok l) :
    Calls Try.prog 5 #[.slice A n c, .slice C m d, .int .i64 x] w fun e w' => e = .returned (.bool true) ∧ Below w.heap.size w w' := by
  have t0 : ¬ (40 : Int) < n := by omega
  have t1 : ¬ (40 : Int) < m := by omega
  have HR := Lib.hid h
  have HC := Lib.hid hb
  have HOK := Lib.hid ok
  have HL := Lib.hid h.len
  clear h ok hb
  go_enter Try.func5, Try.ntmps5
  go_wp2_with fail
  refine (awake_true w).mono ?_
  rintro e w1 ⟨rfl, b1⟩
  have B1 := Lib.hid b1
  have R1 := Lib.hid (HR.out.below b1)
  clear b1
  go_wp2_with fail
  refine (new_good w1 A n c l R1.out HOK.out).mono ?_
  rintro e w5 ⟨g, q, cap, rfl, tt, _, hq, b5⟩
  have T5 := Lib.hid tt
  have B5 := Lib.hid (B1.out.trans (b5.mono B1.out.size))
  have HQ := Lib.hid (Nat.le_trans B1.out.size hq)
  clear b5 tt hq
  go_wp2_with fail
  go_loopw [9] (BumpsAt w g q cap n m) (fun i _ => m - (intOf i).toNat)
  case atStart => exact ⟨0, l, Nat.zero_le _, rfl, Lib.hid ⟨HOK.out, HL.out, T5.out, B5.out⟩⟩
  case round =>
    obtain ⟨k, l2, hk, rfl, H⟩ := hrel
    by_cases hlt : k < m
    · have hkm : (k : Int) < m := by omega
      obtain ⟨cd, rfl, ckw⟩ := HC.out.int k hlt
      have ck := (H.out.2.2.2.cell (World.block_lt_of_cell? _ _ ckw)).trans ckw
      clear ckw
      generalize bl.getD k 0 = y at *
      have KB := Lib.hid (bump_any wr g q cap l2 y H.out.2.2.1 H.out.1)
      go_wp2_with fail
      refine KB.out.mono ?_
      rintro e w6 ⟨rfl, t6, g6⟩
      have T6 := Lib.hid t6
      have B6 := Lib.hid (H.out.2.2.2.trans (grown_below g6 HQ.out H.out.2.2.2.size))
      have HOB := Lib.hid (H.out.1.after y)
      have HLB := Lib.hid (show (after l2 y).length = n by rw [length_after]; exact H.out.2.1)
      clear t6 g6 ck
      go_wp2_with fail
      exact ⟨⟨k + 1, after l2 y, by omega, by go_num, Lib.hid ⟨HOB.out, HLB.out, T6.out, B6.out⟩⟩, by simp [intOf]; omega⟩
    · obtain rfl : k = m := by omega
      have hnl : ¬ (k : Int) < k := by omega
      have OK2 := Lib.hid H.out.1
      have HL2 := Lib.hid H.out.2.1
      have KL := Lib.hid (fun W (t : TIs W g q cap l2) (y : Int) => low_any W g q cap l2 y t OK2.out.few)
      have KC := Lib.hid (fun W (t : TIs W g q cap l2) (y : Int) => count_any W g q cap l2 y t OK2.out)
      go_wp2_with fail
      go_loopw [10] (EachAt w g q cap n l2) (fun i _ => n - (intOf i).toNat)
      case atStart => exact ⟨0, Nat.zero_le _, rfl, Lib.hid ⟨H.out.2.2.1, H.out.2.2.2⟩⟩
      case round =>
        obtain ⟨s, hs, rfl, HE⟩ := hrel
        by_cases hsn : s < n
        · have hsz : (s : Int) < n := by omega
          have hsl : s < l2.length := by rw [HL2.out]; exact hsn
          have kl := fun W t => KL.out W t (s : Int)
          have kc := fun W t => KC.out W t (s : Int)
          rw [lowOf_at l2 s hsl] at kl
          rw [cntOf_at l2 s hsl] at kc
          have s1 := low_succ l2 s
          have b4 := OK2.out.low_le' s
          have b5 := OK2.out.low_le' (s + 1)
          have y1 := one_at OK2.out.one s hsl
          rw [s1] at b5
          have kf1 := fun W t => find_ok W g q cap l2 (low l2 s) s t OK2.out hsl (Int.le_refl _) (by omega)
          have kf2 := fun W t => find_ok W g q cap l2 (low l2 s + l2.getD s 0 - 1) s t OK2.out hsl (by omega) (by omega)
          have kn := fun W t => KL.out W t ((s : Int) + 1)
          have hln : lowOf l2 ((s : Int) + 1) = if s + 1 < n then low l2 s + l2.getD s 0 else 0 := by
            by_cases hh : s + 1 < n
            · rw [if_pos hh, show ((s : Int) + 1) = ((s + 1 : Nat) : Int) by omega, lowOf_at l2 (s + 1) (by rw [HL2.out]; exact hh), s1]
            · rw [if_neg hh, lowOf_out l2 _ (by rw [HL2.out]; omega)]
          rw [hln] at kn
          have L1 := Lib.hid kl
          have C1 := Lib.hid kc
          have F1 := Lib.hid kf1
          have F2 := Lib.hid kf2
          clear kl kc kf1 kf2 s1 hln
          generalize l2.getD s 0 = y at *
          generalize low l2 s = t at *
          have e6 : IntKind.i64.wrap (t + y) = t + y := IntWalk.i64_in _ (by omega)
          have e7 : IntKind.i64.wrap (t + y - 1) = t + y - 1 := IntWalk.i64_in _ (by omega)
          have d1 : ((s : Int) != (s : Int)) = false := by simp
          go_wp2_with fail
          refine (L1.out wr HE.out.1).mono ?_
          rintro e w2 ⟨rfl, b2⟩
          have T2 := Lib.hid (HE.out.1.read b2)
          have B2 := Lib.hid (HE.out.2.trans b2.below)
          clear b2
          go_wp2_with fail
          refine (F1.out w2 T2.out).mono ?_
          rintro e w3 ⟨rfl, b3⟩
          have T3 := Lib.hid (T2.out.below b3)
          have B3 := Lib.hid (B2.out.trans (b3.mono B2.out.size))
          clear b3
          go_wp2_with fail
          refine (L1.out w3 T3.out).mono ?_
          rintro e w4 ⟨rfl, b4'⟩
          have T4 := Lib.hid (T3.out.read b4')
          have B4 := Lib.hid (B3.out.trans b4'.below)
          clear b4'
          go_wp2_with fail
          refine (C1.out w4 T4.out).mono ?_
          rintro e w6 ⟨rfl, b6⟩
          have T6 := Lib.hid (T4.out.read b6)
          have B6 := Lib.hid (B4.out.trans b6.below)
          clear b6
          go_wp2_with fail
          refine (F2.out w6 T6.out).mono ?_
          rintro e w7 ⟨rfl, b7⟩
          have T7 := Lib.hid (T6.out.below b7)
          have B7 := Lib.hid (B6.out.trans (b7.mono B6.out.size))
          clear b7
          by_cases hh : s + 1 < n
          · rw [if_pos hh] at kn
            have N1 := Lib.hid kn
            clear kn
            have d2 : (t + y != t + y) = false := by simp
            go_wp2_with fail
            refine (N1.out w7 T7.out).mono ?_
            rintro e w8 ⟨rfl, b8⟩
            have T8 := Lib.hid (T7.out.read b8)
            have B8 := Lib.hid (B7.out.trans b8.below)
            clear b8
            go_wp2_with fail
            refine (L1.out w8 T8.out).mono ?_
            rintro e w9 ⟨rfl, b9⟩
            have T9 := Lib.hid (T8.out.read b9)
            have B9 := Lib.hid (B8.out.trans b9.below)
            clear b9
            go_wp2_with fail
            refine (C1.out w9 T9.out).mono ?_
            rintro e w10 ⟨rfl, b10⟩
            have T10 := Lib.hid (T9.out.read b10)
            have B10 := Lib.hid (B9.out.trans b10.below)
            clear b10
            go_wp2_with fail
            exact ⟨⟨s + 1, by omega, by go_num, Lib.hid ⟨T10.out, B10.out⟩⟩, by simp [intOf]; omega⟩
          · rw [if_neg hh] at kn
            have N1 := Lib.hid kn
            clear kn
            have d2 : ((0 : Int) != t + y) = true := by simp; omega
            have d3 : ¬ (s : Int) + 1 < n := by omega
            go_wp2_with fail
            refine (N1.out w7 T7.out).mono ?_
            rintro e w8 ⟨rfl, b8⟩
            have T8 := Lib.hid (T7.out.read b8)
            have B8 := Lib.hid (B7.out.trans b8.below)
            clear b8
            go_wp2_with fail
            refine (L1.out w8 T8.out).mono ?_
            rintro e w9 ⟨rfl, b9⟩
            have T9 := Lib.hid (T8.out.read b9)
            have B9 := Lib.hid (B8.out.trans b9.below)
            clear b9
            go_wp2_with fail
            refine (C1.out w9 T9.out).mono ?_
            rintro e w10 ⟨rfl, b10⟩
            have T10 := Lib.hid (T9.out.read b10)
            have B10 := Lib.hid (B9.out.trans b10.below)
            clear b10
            go_wp2_with fail
            exact ⟨⟨s + 1, by omega, by go_num, Lib.hid ⟨T10.out, B10.out⟩⟩, by simp [intOf]; omega⟩
        · obtain rfl : s = n := by omega
          have hnl2 : ¬ (s : Int) < s := by omega
          have KT := Lib.hid (fun W (t : TIs W g q cap l2) => total_any W g q cap l2 t OK2.out.pos OK2.out.few)
          by_cases hx : x < 0 ∨ l2.sum ≤ x
          · have KF := Lib.hid (fun W (t : TIs W g q cap l2) => find_out W g q cap l2 x t OK2.out hx)
            generalize l2.sum = S at *
            by_cases hx0 : x < 0
            · clear hx
              go_wp2_with fail
              refine (KF.out wr HE.out.1).mono ?_
              rintro e w2 ⟨rfl, b2⟩
              have B2 := Lib.hid (HE.out.2.trans (b2.mono HE.out.2.size))
              clear b2
              go_wp2
              go_ret
              exact ⟨rfl, B2.out⟩
            · have hx1 : S ≤ x := by omega
              clear hx
              go_wp2_with fail
              refine (KF.out wr HE.out.1).mono ?_
              rintro e w2 ⟨rfl, b2⟩
              have T2 := Lib.hid (HE.out.1.below b2)
              have B2 := Lib.hid (HE.out.2.trans (b2.mono HE.out.2.size))
              clear b2
              go_wp2_with fail
              refine (KT.out w2 T2.out).mono ?_
              rintro e w3 ⟨rfl, b3⟩
              have B3 := Lib.hid (B2.out.trans b3.below)
              clear b3
              go_wp2
              go_ret
              exact ⟨rfl, B3.out⟩
          · have hx0 : ¬ x < 0 := by omega
            have hx1 : ¬ l2.sum ≤ x := by omega
            obtain ⟨j, hj, h1, h2⟩ := sym_exists l2 x (by omega) l2.length (by rw [low_all l2 _ (Nat.le_refl _)]; omega)
            have KF := Lib.hid (fun W (t : TIs W g q cap l2) => find_ok W g q cap l2 x j t OK2.out hj h1 h2)
            have kl := fun W t => KL.out W t (j : Int)
            have kc := fun W t => KC.out W t (j : Int)
            rw [lowOf_at l2 j hj] at kl
            rw [cntOf_at l2 j hj] at kc
            have s1 := low_succ l2 j
            have b4 := OK2.out.low_le' j
            have b5 := OK2.out.low_le' (j + 1)
            rw [s1] at h2 b5
            have L1 := Lib.hid kl
            have C1 := Lib.hid kc
            clear kl kc s1 hx hj
            generalize l2.getD j 0 = y at *
            generalize low l2 j = t at *
            generalize l2.sum = S at *
            have e6 : IntKind.i64.wrap (t + y) = t + y := IntWalk.i64_in _ (by omega)
            go_wp2_with fail
            refine (KF.out wr HE.out.1).mono ?_
            rintro e w2 ⟨rfl, b2⟩
            have T2 := Lib.hid (HE.out.1.below b2)
            have B2 := Lib.hid (HE.out.2.trans (b2.mono HE.out.2.size))
            clear b2
            go_wp2_with fail
            refine (KT.out w2 T2.out).mono ?_
            rintro e w3 ⟨rfl, b3⟩
            have T3 := Lib.hid (T2.out.read b3)
            have B3 := Lib.hid (B2.out.trans b3.below)
            clear b3
            go_wp2_with fail
            refine (L1.out w3 T3.out).mono ?_
            rintro e w4 ⟨rfl, b4'⟩
            have T4 := Lib.hid (T3.out.read b4')
            have B4 := Lib.hid (B3.out.trans b4'.below)
            clear b4'
            go_wp2_with fail
            refine (L1.out w4 T4.out).mono ?_
            rintro e w6 ⟨rfl, b6⟩
            have T6 := Lib.hid (T4.out.read b6)
            have B6 := Lib.hid (B4.out.trans b6.below)
            clear b6
            go_wp2_with fail
            refine (C1.out w6 T6.out).mono ?_
            rintro e w7 ⟨rfl, b7⟩
            have B7 := Lib.hid (B6.out.trans b7.below)
            clear b7
            go_wp2
            go_ret
            exact ⟨by simp [*], B7.out⟩

theorem walk (A : Option Addr) (n c : Nat) (l : List Int) (C : Option Addr) (m d : Nat) (bl : List Int) (x : Int) (w : World) (_ : (A = none → c = 0) ∧ n ≤ c) (_ : ∀ x ∈ l, -9223372036854775808 ≤ x ∧ x ≤ 9223372036854775807) (h : Reads w A n (ints l))
    (_ : (C = none → d = 0) ∧ m ≤ d) (_ : ∀ x ∈ bl, -9223372036854775808 ≤ x ∧ x ≤ 9223372036854775807) (hb : Reads w C m (ints bl)) (_ : -9223372036854775808 ≤ x) (_ : x ≤ 9223372036854775807) :
    Calls Try.prog 5 #[.slice A n c, .slice C m d, .int .i64 x] w fun e w' => e = .returned (.bool true) ∧ Below w.heap.size w w' := by
  by_cases hN : 40 < n ∨ 40 < m
  · exact many w A C n c m d x hN
  obtain ⟨f, hf⟩ := chk_exists l
  by_cases hf0 : f = 0
  · subst hf0
    exact good w A C n c m d x l bl (by omega) (by omega) h hb hf.good
  · exact bad w A C n c m d x l f (by omega) (by omega) h hf hf0

set_option maxRecDepth 100000 in
theorem lifted (os : Os) (started : os.Started) (H : Type) (enc : TypeId × Value → H) :
    ReturnsInHanded {} Try.checked os 5 .any (Rows.tableFindsSpec.pre6 enc Try.prog Try.f5 Rows.tableFindsRow.domain false) (Rows.tableFindsSpec.post enc Try.prog Try.f5 false true false false) := by
  refine returnsInHanded_of_change (C := Try.checked) own_knob started (by kernel_rfl) Try.func5
    (ChangeSpec.witness6 (enc := enc) (C := Try.checked) false ⟨#[], #[.slice none 0 0, .slice none 0 0, .int .i64 0], []⟩ 8 (by kernel_rfl) (by kernel_rfl) (by kernel_rfl) (by kernel_rfl)) ?_
  intro W base args ds gs before hval0 hW hcnd _
  have hval : ∀ (j : Nat) t v, Try.f5.params[j]? = some t → args[j]? = some v → Value.okWide Try.prog W .any base t v := hval0
  have hW' := hW
  obtain ⟨p, q, hA0, hV, rfl, hfz, hnd⟩ := hW
  have hA : DataW.TrodAll enc Try.prog W 0 (fun _ => true) true Try.f5.params.toList args.toList ds p := hA0
  rw [Try.params5] at hA hval
  obtain ⟨v0, vs0, d0, ds0, p0, q0, hargs, rfl, rfl, h0, r0⟩ := trodAll_cons hA
  obtain ⟨v1, vs1, d1, ds1, p1, q1, rfl, rfl, rfl, h1, r1⟩ := trodAll_cons r0
  obtain ⟨v2, vs2, d2, ds2, p2, q2, rfl, rfl, rfl, h2, r2⟩ := trodAll_cons r1
  obtain ⟨rfl, rfl, rfl⟩ := trodAll_nil r2
  obtain rfl : args = #[v0, v1, v2] := by cases args; simp_all
  obtain ⟨rfl, rfl⟩ := trodVars_none hV
  obtain ⟨a0, len0, cap0, rfl⟩ := okWide_slice Try.underlying22 (hval 0 22 v0 rfl rfl)
  have lt0 : ∀ x ∈ p0, x.block < W.heap.size := by obtain ⟨m, hm⟩ := h0; exact DataW.trod_lt m _ _ _ hm
  obtain ⟨hc0, xs0, hx0, hr0⟩ := arg_ints h0
  obtain ⟨a1, len1, cap1, rfl⟩ := okWide_slice Try.underlying22 (hval 1 22 v1 rfl rfl)
  have lt1 : ∀ x ∈ p1, x.block < W.heap.size := by obtain ⟨m, hm⟩ := h1; exact DataW.trod_lt m _ _ _ hm
  obtain ⟨hc1, xs1, hx1, hr1⟩ := arg_ints h1
  obtain ⟨a2, rfl, rfl, rfl, w2⟩ := open_int Try.underlying3 (hval 2 3 v2 rfl rfl) h2
  have bd2 := bounds_i64 w2
  clear hA0 hval0
  refine (walk a0 len0 cap0 xs0 a1 len1 cap1 xs1 a2 W hc0 hx0 hr0 hc1 hx1 hr1 (by omega) (by omega)).mono fun e W' ⟨he, bel⟩ => ?_
  subst he
  exact ⟨_, rfl, _, _, _, [], _, [], hW', trodAll_mk1 (shut_bool Try.underlying4 _), (trodAll_cons_mk (Below.trod laid_out (by kernel_rfl) (of_decide_eq_true (by kernel_rfl)) h0 bel lt0) (trodAll_cons_mk (Below.trod laid_out (by kernel_rfl) (of_decide_eq_true (by kernel_rfl)) h1 bel lt1) (trodAll_cons_mk (shut_int Try.underlying3 w2) trodAll_mk0))), rfl, bel.frame _, fun h => by cases h⟩

theorem over : Rows.tableFindsRow.holds Try.pinned (OpenSpec.ofChange Rows.tableFindsSpec) :=
  OpenClaim.holds_of_wide 5 Try.f5 rfl rfl rfl rfl rfl rfl rfl ⟨rfl, rfl, rfl, rfl, rfl⟩ rfl rfl rfl rfl rfl (by kernel_rfl) Try.func5 (by kernel_rfl)
    (of_decide_eq_true (by kernel_rfl)) (by unfold Func.isWrapper; first | (rw [if_pos (by decide +kernel)]; kernel_rfl) | (rw [if_neg (by decide +kernel)]; exact ⟨rfl, rfl⟩))
    (fun os started H enc _ => lifted os started H enc)

theorem proved : Rows.TableFindsSaid := over
end Go.Proofs.Ytjacjgchbpghiaa.tableFinds
