/- TableBounds: of any counts (at most 40), whatever symbol is bumped, up to 199 times, each count stays 1 or more, the total at most 65,536 and not below the number of symbols, and the symbol has no less of the whole than it had. No condition. -/
import Derived.Test.YtjacjgchbpghiaaTabApart
namespace Go.Proofs.Ytjacjgchbpghiaa.tableBounds
open Go.ChangeShapes Go.WideShapes Go.ChangeAt Go.RowKit

set_option maxHeartbeats 2000000 in
set_option maxRecDepth 100000 in
theorem many (w : World) (A : Option Addr) (n c : Nat) (a b : Int) (h : 40 < n) :
    Calls Try.prog 6 #[.slice A n c, .int .u8 a, .int .u8 b] w fun e w' => e = .returned (.bool true) ∧ Below w.heap.size w w' := by
  have t0 : (40 : Int) < n := by omega
  go_enter Try.func6, Try.ntmps6
  go_wp2_with fail
  refine (awake_true w).mono ?_
  rintro e w1 ⟨rfl, b1⟩
  have B1 := Lib.hid b1
  clear b1
  go_wp2
  go_ret
  exact ⟨rfl, B1.out⟩

set_option maxHeartbeats 2000000 in
set_option maxRecDepth 100000 in
theorem bad (w : World) (A : Option Addr) (n c : Nat) (a b : Int) (l : List Int) (f : Int) (hn : n ≤ 40) (h : Reads w A n (ints l)) (hf : Chk l f) (h0 : f ≠ 0) :
    Calls Try.prog 6 #[.slice A n c, .int .u8 a, .int .u8 b] w fun e w' => e = .returned (.bool true) ∧ Below w.heap.size w w' := by
  have t0 : ¬ (40 : Int) < n := by omega
  have t2 : (f != 0) = true := by simpa using h0
  have HR := Lib.hid h
  have HF := Lib.hid hf
  have H0 := Lib.hid h0
  clear h hf h0
  go_enter Try.func6, Try.ntmps6
  go_wp2_with fail
  refine (awake_true w).mono ?_
  rintro e w1 ⟨rfl, b1⟩
  have B1 := Lib.hid b1
  have R1 := Lib.hid (HR.out.below b1)
  clear b1
  go_wp2_with fail
  refine (new_fail w1 A n c l f R1.out HF.out H0.out).mono ?_
  rintro e w3 ⟨rfl, b3⟩
  have B3 := Lib.hid (B1.out.trans (b3.mono B1.out.size))
  clear b3
  go_wp2
  go_ret
  exact ⟨rfl, B3.out⟩

theorem at_le {c : List Int} (h : Ok c) (k : Nat) : 0 ≤ c.getD k 0 ∧ c.getD k 0 ≤ 65536 := by
  have h1 := low_succ c k
  have h2 := h.low_le' k
  have h3 := h.low_le' (k + 1)
  have h4 := zero_at h.zero k
  omega
theorem mul_le {a b : Int} (ha : 0 ≤ a ∧ a ≤ 65536) (hb : 0 ≤ b ∧ b ≤ 70000) : 0 ≤ a * b ∧ a * b ≤ 65536 * 70000 :=
  ⟨Int.mul_nonneg ha.1 hb.1, Int.le_trans (Int.mul_le_mul_of_nonneg_right ha.2 hb.1) (Int.mul_le_mul_of_nonneg_left hb.2 (by omega))⟩
/-- A symbol that is bumped has no less of the whole than it had. -/
theorem share {c : List Int} (h : Ok c) (s : Nat) (hs : s < c.length) : c.getD s 0 * ((bumped c s).sum - c.length) ≤ (bumped c s).getD s 0 * (c.sum + 32) := by
  have h0 := (at_le h s).1
  have hS := h.len_sum
  have hm := sum_more c s hs
  have ha := more_at c s s hs
  rw [if_pos rfl] at ha
  unfold bumped
  by_cases hb : 65536 < c.sum + 32
  · rw [if_pos hb]
    have h1 := (sum_half (more c s)).1
    have h2 := half_at (more c s) s (by rw [length_more]; exact hs)
    rw [length_more] at h1
    rw [ha] at h2
    generalize (half (more c s)).sum = T at *
    generalize (half (more c s)).getD s 0 = D at *
    generalize c.getD s 0 = y at *
    generalize c.sum = S at *
    generalize (more c s).sum = M at *
    have e1 : y * (2 * (T - c.length)) ≤ y * (S + 32) := Int.mul_le_mul_of_nonneg_left (by omega) h0
    have e2 : y * (S + 32) ≤ (2 * D) * (S + 32) := Int.mul_le_mul_of_nonneg_right (by omega) (by omega)
    rw [Int.mul_left_comm] at e1
    rw [Int.mul_assoc] at e2
    generalize y * (T - c.length) = P at *
    generalize D * (S + 32) = Q at *
    omega
  · rw [if_neg hb, hm, ha]
    generalize c.getD s 0 = y at *
    generalize c.sum = S at *
    have e1 : y * (S + 32 - c.length) ≤ y * (S + 32) := Int.mul_le_mul_of_nonneg_left (by omega) h0
    have e2 : y * (S + 32) ≤ (y + 32) * (S + 32) := Int.mul_le_mul_of_nonneg_right (by omega) (by omega)
    exact Int.le_trans e1 e2

def BumpsAt (w : World) (g q cap n m : Nat) (i : Value) (wr : World) : Prop :=
  ∃ (k : Nat) (l : List Int), k ≤ m ∧ i = .int .i64 (k : Int) ∧ Hid (Ok l ∧ l.length = n ∧ TIs wr g q cap l ∧ Below w.heap.size w wr)
def EachAt (w : World) (g q cap n : Nat) (l : List Int) (i : Value) (wr : World) : Prop :=
  ∃ k : Nat, k ≤ n ∧ i = .int .i64 (k : Int) ∧ Hid (TIs wr g q cap l ∧ Below w.heap.size w wr)

set_option maxHeartbeats 8000000 in
set_option maxRecDepth 100000 in
theorem good (w : World) (A : Option Addr) (n c : Nat) (a b : Nat) (l : List Int) (hn : n ≤ 40) (h : Reads w A n (ints l)) (ok : Ok l) (ha : a ≤ 255) (hb : b ≤ 255) :
    Calls Try.prog 6 #[.slice A n c, .int .u8 (a : Int), .int .u8 (b : Int)] w fun e w' => e = .returned (.bool true) ∧ Below w.heap.size w w' := by
  have t0 : ¬ (40 : Int) < n := by omega
  have HR := Lib.hid h
  have HOK := Lib.hid ok
  have HL := Lib.hid h.len
  have hn0 : 0 < n := by have := ok.pos; rwa [h.len] at this
  have t1 : ((n : Int) == 0) = false := by simp; omega
  have hs : a % n < n := Nat.mod_lt _ hn0
  obtain ⟨r, hr⟩ : ∃ r, r = b % 200 := ⟨_, rfl⟩
  clear h ok
  go_enter Try.func6, Try.ntmps6
  go_wp2_with fail
  refine (awake_true w).mono ?_
  rintro e w1 ⟨rfl, b1⟩
  have B1 := Lib.hid b1
  have R1 := Lib.hid (HR.out.below b1)
  clear b1
  go_wp2_with fail
  refine (new_good w1 A n c l R1.out HOK.out).mono ?_
  rintro e w5 ⟨g, q, cap, rfl, tt, _, hq, b5⟩
  have T5 := Lib.hid tt
  have B5 := Lib.hid (B1.out.trans (b5.mono B1.out.size))
  have HQ := Lib.hid (Nat.le_trans B1.out.size hq)
  clear b5 tt hq
  have t6 : (0 : Int) < n := by omega
  go_wp2_with fail
  generalize hs2 : a % n = s at *
  have HS2 := Lib.hid hs2
  clear hs2
  rw [show (a : Int) % (n : Int) = (s : Int) by rw [← HS2.out]; omega]
  go_loopw [10] (BumpsAt w g q cap n r) (fun i _ => r - (intOf i).toNat)
  case atStart => exact ⟨0, l, Nat.zero_le _, rfl, Lib.hid ⟨HOK.out, HL.out, T5.out, B5.out⟩⟩
  case round =>
    obtain ⟨k, l2, hk, rfl, H⟩ := hrel
    by_cases hlt : k < r
    · have hkr : (k : Int) < (b : Int) % 200 := by omega
      have hsl : s < l2.length := by rw [H.out.2.1]; exact hs
      have kt := Lib.hid (fun W (t : TIs W g q cap l2) => total_any W g q cap l2 t H.out.1.pos H.out.1.few)
      have kc := fun W (t : TIs W g q cap l2) => count_any W g q cap l2 (s : Int) t H.out.1
      rw [cntOf_at l2 s hsl] at kc
      have KC := Lib.hid kc
      have KB := Lib.hid (fun W (t : TIs W g q cap l2) => bump_ok W g q cap l2 s t H.out.1 hsl)
      have hshare := share H.out.1 s hsl
      have hok3 := H.out.1.bumped s hsl
      have hl3 := length_bumped l2 s
      rw [H.out.2.1] at hshare hl3
      have hS := H.out.1.len_sum
      have hS2 := H.out.1.total
      have hy := at_le H.out.1 s
      rw [H.out.2.1] at hS
      generalize bumped l2 s = l3 at *
      have hT := hok3.len_sum
      have hT2 := hok3.total
      have hD := at_le hok3 s
      rw [hl3] at hT
      have kt3 := Lib.hid (fun W (t : TIs W g q cap l3) => total_any W g q cap l3 t hok3.pos hok3.few)
      have kc3 := fun W (t : TIs W g q cap l3) => count_any W g q cap l3 (s : Int) t hok3
      rw [cntOf_at l3 s (by rw [hl3]; exact hs)] at kc3
      have KC3 := Lib.hid kc3
      have OK3 := Lib.hid hok3
      have HL3 := Lib.hid hl3
      clear kc kc3 hok3 hl3
      generalize l2.getD s 0 = y at *
      generalize l3.getD s 0 = D at *
      generalize l2.sum = S at *
      generalize l3.sum = T at *
      have m1 := mul_le hD (show 0 ≤ S + 32 ∧ S + 32 ≤ 70000 by omega)
      have m2 := mul_le hy (show 0 ≤ T - (n : Int) ∧ T - (n : Int) ≤ 70000 by omega)
      have e1 : IntKind.i64.wrap (S + 32) = S + 32 := IntWalk.i64_in _ (by omega)
      have e2 : IntKind.i64.wrap (T - n) = T - n := IntWalk.i64_in _ (by omega)
      have e3 : IntKind.i64.wrap (D * (S + 32)) = D * (S + 32) := IntWalk.i64_in _ (by omega)
      have e4 : IntKind.i64.wrap (y * (T - n)) = y * (T - n) := IntWalk.i64_in _ (by omega)
      have d1 : ¬ (65536 : Int) < T := by omega
      have d2 : ¬ T < (n : Int) := by omega
      have d3 : ¬ D * (S + 32) < y * (T - n) := by omega
      clear hshare m1 m2
      go_wp2_with fail
      refine (kt.out wr H.out.2.2.1).mono ?_
      rintro e w2 ⟨rfl, b2⟩
      have T2 := Lib.hid (H.out.2.2.1.read b2)
      have B2 := Lib.hid (H.out.2.2.2.trans b2.below)
      clear b2
      go_wp2_with fail
      refine (KC.out w2 T2.out).mono ?_
      rintro e w3 ⟨rfl, b3⟩
      have T3 := Lib.hid (T2.out.read b3)
      have B3 := Lib.hid (B2.out.trans b3.below)
      clear b3
      go_wp2_with fail
      refine (KB.out w3 T3.out).mono ?_
      rintro e w4 ⟨rfl, t4, g4⟩
      have T4 := Lib.hid t4
      have B4 := Lib.hid (B3.out.trans (grown_below g4 HQ.out B3.out.size))
      clear t4 g4
      go_wp2_with fail
      refine (kt3.out w4 T4.out).mono ?_
      rintro e w6 ⟨rfl, b6⟩
      have T6 := Lib.hid (T4.out.read b6)
      have B6 := Lib.hid (B4.out.trans b6.below)
      clear b6
      go_wp2_with fail
      refine (kt3.out w6 T6.out).mono ?_
      rintro e w7 ⟨rfl, b7⟩
      have T7 := Lib.hid (T6.out.read b7)
      have B7 := Lib.hid (B6.out.trans b7.below)
      clear b7
      go_wp2_with fail
      go_loopw [13] (EachAt w g q cap n l3) (fun i _ => n - (intOf i).toNat)
      case atStart => exact ⟨0, Nat.zero_le _, rfl, Lib.hid ⟨T7.out, B7.out⟩⟩
      case round =>
        obtain ⟨j, hj, rfl, HE⟩ := hrel
        by_cases hjn : j < n
        · have hjz : (j : Int) < n := by omega
          have hjl : j < l3.length := by rw [HL3.out]; exact hjn
          have kc4 := count_any wr g q cap l3 (j : Int) HE.out.1 OK3.out
          rw [cntOf_at l3 j hjl] at kc4
          have y1 := one_at OK3.out.one j hjl
          have K4 := Lib.hid kc4
          clear kc4
          generalize l3.getD j 0 = z at *
          have d4 : ¬ z < 1 := by omega
          go_wp2_with fail
          refine K4.out.mono ?_
          rintro e w8 ⟨rfl, b8⟩
          have T8 := Lib.hid (HE.out.1.read b8)
          have B8 := Lib.hid (HE.out.2.trans b8.below)
          clear b8
          go_wp2_with fail
          exact ⟨⟨j + 1, by omega, by go_num, Lib.hid ⟨T8.out, B8.out⟩⟩, by simp [intOf]; omega⟩
        · obtain rfl : j = n := by omega
          have hnl2 : ¬ (j : Int) < j := by omega
          go_wp2_with fail
          refine (KC3.out wr HE.out.1).mono ?_
          rintro e w8 ⟨rfl, b8⟩
          have T8 := Lib.hid (HE.out.1.read b8)
          have B8 := Lib.hid (HE.out.2.trans b8.below)
          clear b8
          go_wp2_with fail
          refine (kt3.out w8 T8.out).mono ?_
          rintro e w9 ⟨rfl, b9⟩
          have T9 := Lib.hid (T8.out.read b9)
          have B9 := Lib.hid (B8.out.trans b9.below)
          clear b9
          go_wp2_with fail
          exact ⟨⟨k + 1, l3, by omega, by go_num, Lib.hid ⟨OK3.out, HL3.out, T9.out, B9.out⟩⟩, by simp [intOf]; omega⟩
    · obtain rfl : k = r := by omega
      have hkr : ¬ (k : Int) < (b : Int) % 200 := by omega
      go_wp2
      go_ret
      exact ⟨rfl, H.out.2.2.2⟩

theorem walk (A : Option Addr) (n c : Nat) (l : List Int) (a b : Int) (w : World) (_ : (A = none → c = 0) ∧ n ≤ c) (_ : ∀ x ∈ l, -9223372036854775808 ≤ x ∧ x ≤ 9223372036854775807) (h : Reads w A n (ints l)) (h0 : 0 ≤ a) (h1 : a ≤ 255) (h2 : 0 ≤ b) (h3 : b ≤ 255) :
    Calls Try.prog 6 #[.slice A n c, .int .u8 a, .int .u8 b] w fun e w' => e = .returned (.bool true) ∧ Below w.heap.size w w' := by
  by_cases hN : 40 < n
  · exact many w A n c a b hN
  obtain ⟨f, hf⟩ := chk_exists l
  by_cases hf0 : f = 0
  · subst hf0
    obtain ⟨p, rfl⟩ := Int.eq_ofNat_of_zero_le h0
    obtain ⟨r, rfl⟩ := Int.eq_ofNat_of_zero_le h2
    exact good w A n c p r l (by omega) h hf.good (by omega) (by omega)
  · exact bad w A n c a b l f (by omega) h hf hf0

set_option maxRecDepth 100000 in
theorem lifted (os : Os) (started : os.Started) (H : Type) (enc : TypeId × Value → H) :
    ReturnsInHanded {} Try.checked os 6 .any (Rows.tableBoundsSpec.pre6 enc Try.prog Try.f6 Rows.tableBoundsRow.domain false) (Rows.tableBoundsSpec.post enc Try.prog Try.f6 false true false false) := by
  refine returnsInHanded_of_change (C := Try.checked) own_knob started (by kernel_rfl) Try.func6
    (ChangeSpec.witness6 (enc := enc) (C := Try.checked) false ⟨#[], #[.slice none 0 0, .int .u8 0, .int .u8 0], []⟩ 8 (by kernel_rfl) (by kernel_rfl) (by kernel_rfl) (by kernel_rfl)) ?_
  intro W base args ds gs before hval0 hW hcnd _
  have hval : ∀ (j : Nat) t v, Try.f6.params[j]? = some t → args[j]? = some v → Value.okWide Try.prog W .any base t v := hval0
  have hW' := hW
  obtain ⟨p, q, hA0, hV, rfl, hfz, hnd⟩ := hW
  have hA : DataW.TrodAll enc Try.prog W 0 (fun _ => true) true Try.f6.params.toList args.toList ds p := hA0
  rw [Try.params6] at hA hval
  obtain ⟨v0, vs0, d0, ds0, p0, q0, hargs, rfl, rfl, h0, r0⟩ := trodAll_cons hA
  obtain ⟨v1, vs1, d1, ds1, p1, q1, rfl, rfl, rfl, h1, r1⟩ := trodAll_cons r0
  obtain ⟨v2, vs2, d2, ds2, p2, q2, rfl, rfl, rfl, h2, r2⟩ := trodAll_cons r1
  obtain ⟨rfl, rfl, rfl⟩ := trodAll_nil r2
  obtain rfl : args = #[v0, v1, v2] := by cases args; simp_all
  obtain ⟨rfl, rfl⟩ := trodVars_none hV
  obtain ⟨a0, len0, cap0, rfl⟩ := okWide_slice Try.underlying22 (hval 0 22 v0 rfl rfl)
  have lt0 : ∀ x ∈ p0, x.block < W.heap.size := by obtain ⟨m, hm⟩ := h0; exact DataW.trod_lt m _ _ _ hm
  obtain ⟨hc0, xs0, hx0, hr0⟩ := arg_ints h0
  obtain ⟨a1, rfl, rfl, rfl, w1⟩ := open_int Try.underlying5 (hval 1 5 v1 rfl rfl) h1
  have bd1 := bounds_u8 w1
  obtain ⟨a2, rfl, rfl, rfl, w2⟩ := open_int Try.underlying5 (hval 2 5 v2 rfl rfl) h2
  have bd2 := bounds_u8 w2
  clear hA0 hval0
  refine (walk a0 len0 cap0 xs0 a1 a2 W hc0 hx0 hr0 (by omega) (by omega) (by omega) (by omega)).mono fun e W' ⟨he, bel⟩ => ?_
  subst he
  exact ⟨_, rfl, _, _, _, [], _, [], hW', trodAll_mk1 (shut_bool Try.underlying4 _), (trodAll_cons_mk (Below.trod laid_out (by kernel_rfl) (of_decide_eq_true (by kernel_rfl)) h0 bel lt0) (trodAll_cons_mk (shut_int Try.underlying5 w1) (trodAll_cons_mk (shut_int Try.underlying5 w2) trodAll_mk0))), rfl, bel.frame _, fun h => by cases h⟩

theorem over : Rows.tableBoundsRow.holds Try.pinned (OpenSpec.ofChange Rows.tableBoundsSpec) :=
  OpenClaim.holds_of_wide 6 Try.f6 rfl rfl rfl rfl rfl rfl rfl ⟨rfl, rfl, rfl, rfl, rfl⟩ rfl rfl rfl rfl rfl (by kernel_rfl) Try.func6 (by kernel_rfl)
    (of_decide_eq_true (by kernel_rfl)) (by unfold Func.isWrapper; first | (rw [if_pos (by decide +kernel)]; kernel_rfl) | (rw [if_neg (by decide +kernel)]; exact ⟨rfl, rfl⟩))
    (fun os started H enc _ => lifted os started H enc)

theorem proved : Rows.TableBoundsSaid := over
end Go.Proofs.Ytjacjgchbpghiaa.tableBounds
