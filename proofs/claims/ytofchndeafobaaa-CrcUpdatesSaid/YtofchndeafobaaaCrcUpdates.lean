/- CrcUpdates: whatever the sum of a text is, with another one behind it (each of up to 500 bytes) it is that of both. No condition. -/
import Derived.Test.YtofchndeafobaaaCrcLaw
import Derived.Test.YtofchndeafobaaaArgB4
namespace Go.Proofs.Ytofchndeafobaaa.crcUpdates
open Go.ChangeShapes Go.WideShapes Go.ChangeAt Go.RowKit

set_option maxHeartbeats 3200000 in
set_option maxRecDepth 100000 in
theorem many (A : Option Addr) (n c : Nat) (A' : Option Addr) (n' c' : Nat) (A'' : Option Addr) (n'' c'' : Nat) (w : World) (hg : 500 < n ∨ 500 < n' ∨ 500 < n'') :
    Calls Try.prog 4 #[.slice A n c, .slice A' n' c', .slice A'' n'' c''] w fun e w' => e = .returned (.bool true) ∧ Below w.heap.size w w' := by
  rcases Nat.lt_or_ge 500 n with h | h
  · have t0 : (500 : Int) < n := by omega
    clear hg
    go_enter Try.func4, Try.ntmps4
    go_wp2_with fail
    refine (awake6_true w).mono ?_
    rintro e w1 ⟨rfl, b1⟩
    have B1 := Lib.hid b1
    clear b1
    go_wp2
    go_ret
    exact ⟨rfl, B1.out⟩
  · have t0 : ¬ (500 : Int) < n := by omega
    rcases Nat.lt_or_ge 500 n' with h' | h'
    · have t1 : (500 : Int) < n' := by omega
      clear hg
      go_enter Try.func4, Try.ntmps4
      go_wp2_with fail
      refine (awake6_true w).mono ?_
      rintro e w1 ⟨rfl, b1⟩
      have B1 := Lib.hid b1
      clear b1
      go_wp2
      go_ret
      exact ⟨rfl, B1.out⟩
    · have t1 : ¬ (500 : Int) < n' := by omega
      have t2 : (500 : Int) < n'' := by omega
      clear hg
      go_enter Try.func4, Try.ntmps4
      go_wp2_with fail
      refine (awake6_true w).mono ?_
      rintro e w1 ⟨rfl, b1⟩
      have B1 := Lib.hid b1
      clear b1
      go_wp2
      go_ret
      exact ⟨rfl, B1.out⟩

set_option maxHeartbeats 3200000 in
set_option maxRecDepth 100000 in
theorem few (A : Option Addr) (n c : Nat) (a : List Nat) (A' : Option Addr) (n' c' : Nat) (b : List Nat) (A'' : Option Addr) (n'' c'' : Nat) (d : List Nat) (w : World) (hA : A = none → c = 0) (ha : Dig a) (h : Reads w A n (bts a))
    (hA' : A' = none → c' = 0) (hb : Dig b) (h' : Reads w A' n' (bts b)) (hA'' : A'' = none → c'' = 0) (hd : Dig d) (h'' : Reads w A'' n'' (bts d)) (hn : n ≤ 500) (hn' : n' ≤ 500) (hn'' : n'' ≤ 500) :
    Calls Try.prog 4 #[.slice A n c, .slice A' n' c', .slice A'' n'' c''] w fun e w' => e = .returned (.bool true) ∧ Below w.heap.size w w' := by
  obtain ⟨i0, hi, hz0, hz1, hz2⟩ := info_parts Try.infoU8
  have HI := Lib.hid hi
  have HZ := Lib.hid (And.intro hz0 (And.intro hz1 hz2))
  have HR := Lib.hid h
  have HR' := Lib.hid h'
  have HR'' := Lib.hid h''
  have HA := Lib.hid hA
  have HA' := Lib.hid hA'
  have HA'' := Lib.hid hA''
  have HD := Lib.hid ha
  have HD' := Lib.hid hb
  have HD'' := Lib.hid hd
  have t0 : ¬ (500 : Int) < n := by omega
  have t1 : ¬ (500 : Int) < n' := by omega
  have t2 : ¬ (500 : Int) < n'' := by omega
  have E1 := Lib.hid (crcUpd_sum ha b)
  have E2 := Lib.hid (crcUpd_sum (dig_append ha hb) d)
  have E3 := Lib.hid (crcUpd_none (crcSum a) (crcSum_lt a))
  have KA := Lib.hid (fun w1 (b : Below w.heap.size w w1) => csum_any w1 A n c a (h.below b) ha (by omega))
  have KB := Lib.hid (fun w1 (k : Below w.heap.size w w1) => csum_any w1 A' n' c' b (h'.below k) hb (by omega))
  have UB := Lib.hid (fun w1 (k : Below w.heap.size w w1) => cupdate_any w1 A' n' c' b (crcSum a) (h'.below k) hb (crcSum_lt a) (by omega))
  have UD := Lib.hid (fun w1 (k : Below w.heap.size w w1) => cupdate_any w1 A'' n'' c'' d (crcSum (a ++ b)) (h''.below k) hd (crcSum_lt _) (by omega))
  have UN := Lib.hid (fun w1 => cupdate_any w1 none 0 0 [] (crcSum a) ⟨rfl, fun h => absurd h (by omega)⟩ (by intro d hd; cases hd) (crcSum_lt a) (by omega))
  have U0 := Lib.hid (fun w1 (k : Below w.heap.size w w1) => cupdate_any w1 A' n' c' b 0 (h'.below k) hb (by omega) (by omega))
  rw [E1.out] at UB
  rw [E2.out] at UD
  rw [E3.out] at UN
  rw [crcUpd_zero] at U0
  have KL := Lib.hid (fun w1 (A : Option Addr) (c : Nat) (h : Reads w1 A (n + n' + n'') (bts (a ++ b ++ d))) => csum_any w1 A (n + n' + n'') c _ h (dig_append (dig_append ha hb) hd) (by omega))
  generalize crcSum a = sa at *
  generalize crcSum (a ++ b) = sb at *
  generalize crcSum (a ++ b ++ d) = sd at *
  generalize crcSum b = se at *
  clear h h' h'' hA hA' hA'' ha hb hd hi hz0 hz1 hz2
  go_enter Try.func4, Try.ntmps4
  go_wp2_with fail
  refine (awake6_true w).mono ?_
  rintro e w1 ⟨rfl, b1⟩
  have B1 := Lib.hid b1
  clear b1
  have O1 := Lib.hid (World.ownsRow_made (base := w.heap.size) (e := 5) (size := 1) w1 #[] 0 B1.out.size (by unfold maxLen; omega) rfl)
  have B2 := Lib.hid (up1 B1.out (.cells #[] 5))
  have R2 := Lib.hid (HR.out.below B2.out)
  go_wp2_with (at_builtin; refine wpList_append_reads rfl (.tmp 23) (.tmp 24) 22 rfl w.heap.size 5 i0 (.int .u8 0) 1 Try.underlying22 HI.out HZ.out rfl (.slice (some ⟨w1.heap.size, 0, none⟩) 0 0) 0 [] rfl O1.out A n c (bts a) rfl R2.out HA.out (bts_one a) ?b1 ?b2 ?b3 ?_)
  case b1 => unfold maxLen; omega
  case b2 => omega
  case b3 => exact B2.out.size
  intro v3 w3 hown0 hgr
  have hown : w3.ownsRow w.heap.size 5 1 v3 n (bts a) := by simpa using hown0
  have B3 := Lib.hid (own_grown_below B2.out hgr B2.out.size (fun k hk => by simp [Value.ownBlock] at hk; have := B1.out.size; omega))
  have O3 := Lib.hid hown
  have R3 := Lib.hid (HR'.out.below B3.out)
  clear hown0 hgr hown
  go_wp2_with (at_builtin; refine wpList_append_reads rfl (.tmp 25) (.tmp 26) 22 rfl w.heap.size 5 i0 (.int .u8 0) 1 Try.underlying22 HI.out HZ.out rfl v3 n (bts a) rfl O3.out A' n' c' (bts b) rfl R3.out HA'.out (bts_one b) ?b1 ?b2 ?b3 ?_)
  case b1 => unfold maxLen; omega
  case b2 => omega
  case b3 => exact B3.out.size
  intro v4 w4 hown hgr
  have B4 := Lib.hid (own_grown_below B3.out hgr B3.out.size (fun k hk => (own_lt O3.out k hk).1))
  have O4 := Lib.hid hown
  have R4 := Lib.hid (HR''.out.below B4.out)
  clear hgr hown
  go_wp2_with (at_builtin; refine wpList_append_reads rfl (.tmp 27) (.tmp 28) 22 rfl w.heap.size 5 i0 (.int .u8 0) 1 Try.underlying22 HI.out HZ.out rfl v4 (n + n') (bts a ++ bts b) rfl O4.out A'' n'' c'' (bts d) rfl R4.out HA''.out (bts_one d) ?b1 ?b2 ?b3 ?_)
  case b1 => unfold maxLen; omega
  case b2 => omega
  case b3 => exact B4.out.size
  intro v5 w5 hown0 hgr
  have hown : w5.ownsRow w.heap.size 5 1 v5 (n + n' + n'') (bts (a ++ b ++ d)) := by rw [bts_append, bts_append, List.append_assoc]; exact hown0
  have B5 := Lib.hid (own_grown_below B4.out hgr B4.out.size (fun k hk => (own_lt O4.out k hk).1))
  obtain ⟨A5, c5, rfl, _, hr5⟩ := Reads.of_own hown
  have R5 := Lib.hid hr5
  clear hown0 hgr hown hr5
  generalize n + n' + n'' = N at *
  go_wp2_with fail
  refine (KA.out w5 B5.out).mono ?_
  rintro e w6 ⟨rfl, b6⟩
  have B6 := Lib.hid (up2 B5.out b6)
  have R6 := Lib.hid (R5.out.below b6)
  clear b6
  go_wp2_with fail
  refine (UB.out w6 B6.out).mono ?_
  rintro e w7 ⟨rfl, b7⟩
  have B7 := Lib.hid (up2 B6.out b7)
  have R7 := Lib.hid (R6.out.below b7)
  clear b7
  go_wp2_with fail
  refine (UD.out w7 B7.out).mono ?_
  rintro e w8 ⟨rfl, b8⟩
  have B8 := Lib.hid (up2 B7.out b8)
  have R8 := Lib.hid (R7.out.below b8)
  clear b8
  go_wp2_with fail
  refine (KL.out w8 _ _ R8.out).mono ?_
  rintro e w9 ⟨rfl, b9⟩
  have B9 := Lib.hid (up2 B8.out b9)
  clear b9
  go_wp2_with fail
  refine (KA.out w9 B9.out).mono ?_
  rintro e w10 ⟨rfl, b10⟩
  have B10 := Lib.hid (up2 B9.out b10)
  clear b10
  go_wp2_with fail
  refine (UN.out w10).mono ?_
  rintro e w11 ⟨rfl, b11⟩
  have B11 := Lib.hid (up2 B10.out b11)
  clear b11
  go_wp2_with fail
  refine (KA.out w11 B11.out).mono ?_
  rintro e w12 ⟨rfl, b12⟩
  have B12 := Lib.hid (up2 B11.out b12)
  clear b12
  go_wp2_with fail
  refine (U0.out w12 B12.out).mono ?_
  rintro e w13 ⟨rfl, b13⟩
  have B13 := Lib.hid (up2 B12.out b13)
  clear b13
  go_wp2_with fail
  refine (KB.out w13 B13.out).mono ?_
  rintro e w14 ⟨rfl, b14⟩
  have B14 := Lib.hid (up2 B13.out b14)
  clear b14
  go_wp2
  go_ret
  exact ⟨rfl, B14.out⟩
theorem walk (A : Option Addr) (n c : Nat) (a : List Nat) (A' : Option Addr) (n' c' : Nat) (b : List Nat) (A'' : Option Addr) (n'' c'' : Nat) (d : List Nat) (w : World) (hA : (A = none → c = 0) ∧ n ≤ c) (ha : Dig a) (h : Reads w A n (bts a))
    (hA' : (A' = none → c' = 0) ∧ n' ≤ c') (hb : Dig b) (h' : Reads w A' n' (bts b)) (hA'' : (A'' = none → c'' = 0) ∧ n'' ≤ c'') (hd : Dig d) (h'' : Reads w A'' n'' (bts d)) :
    Calls Try.prog 4 #[.slice A n c, .slice A' n' c', .slice A'' n'' c''] w fun e w' => e = .returned (.bool true) ∧ Below w.heap.size w w' := by
  by_cases hg : 500 < n ∨ 500 < n' ∨ 500 < n''
  · exact many A n c A' n' c' A'' n'' c'' w hg
  · exact few A n c a A' n' c' b A'' n'' c'' d w hA.1 ha h hA'.1 hb h' hA''.1 hd h'' (by omega) (by omega) (by omega)

set_option maxRecDepth 100000 in
theorem lifted (os : Os) (started : os.Started) (H : Type) (enc : TypeId × Value → H) :
    ReturnsInHanded {} Try.checked os 4 .any (Rows.crcUpdatesSpec.pre6 enc Try.prog Try.f4 Rows.crcUpdatesRow.domain false) (Rows.crcUpdatesSpec.post enc Try.prog Try.f4 false true false false) := by
  refine returnsInHanded_of_change (C := Try.checked) own_knob started (by kernel_rfl) Try.func4
    (ChangeSpec.witness6 (enc := enc) (C := Try.checked) false ⟨#[], #[.slice none 0 0, .slice none 0 0, .slice none 0 0], []⟩ 8 (by kernel_rfl) (by kernel_rfl) (by kernel_rfl) (by kernel_rfl)) ?_
  intro W base args ds gs before hval0 hW hcnd _
  have hval : ∀ (j : Nat) t v, Try.f4.params[j]? = some t → args[j]? = some v → Value.okWide Try.prog W .any base t v := hval0
  have hW' := hW
  obtain ⟨p, q, hA0, hV, rfl, hfz, hnd⟩ := hW
  have hA : DataW.TrodAll enc Try.prog W 0 (fun _ => true) true Try.f4.params.toList args.toList ds p := hA0
  rw [Try.params4] at hA hval
  obtain ⟨v0, vs0, d0, ds0, p0, q0, hargs, rfl, rfl, h0, r0⟩ := trodAll_cons hA
  obtain ⟨v1, vs1, d1, ds1, p1, q1, rfl, rfl, rfl, h1, r1⟩ := trodAll_cons r0
  obtain ⟨v2, vs2, d2, ds2, p2, q2, rfl, rfl, rfl, h2, r2⟩ := trodAll_cons r1
  obtain ⟨rfl, rfl, rfl⟩ := trodAll_nil r2
  obtain rfl : args = #[v0, v1, v2] := by cases args; simp_all
  obtain ⟨rfl, rfl⟩ := trodVars_none hV
  obtain ⟨a0, len0, cap0, rfl⟩ := okWide_slice Try.underlying22 (hval 0 22 v0 rfl rfl)
  have lt0 : ∀ x ∈ p0, x.block < W.heap.size := by obtain ⟨m, hm⟩ := h0; exact DataW.trod_lt m _ _ _ hm
  obtain ⟨hc0, xs0, hx0, hr0⟩ := arg_bytes4 h0
  obtain ⟨a1, len1, cap1, rfl⟩ := okWide_slice Try.underlying22 (hval 1 22 v1 rfl rfl)
  have lt1 : ∀ x ∈ p1, x.block < W.heap.size := by obtain ⟨m, hm⟩ := h1; exact DataW.trod_lt m _ _ _ hm
  obtain ⟨hc1, xs1, hx1, hr1⟩ := arg_bytes4 h1
  obtain ⟨a2, len2, cap2, rfl⟩ := okWide_slice Try.underlying22 (hval 2 22 v2 rfl rfl)
  have lt2 : ∀ x ∈ p2, x.block < W.heap.size := by obtain ⟨m, hm⟩ := h2; exact DataW.trod_lt m _ _ _ hm
  obtain ⟨hc2, xs2, hx2, hr2⟩ := arg_bytes4 h2
  clear hA0 hval0
  refine (walk a0 len0 cap0 xs0 a1 len1 cap1 xs1 a2 len2 cap2 xs2 W hc0 hx0 hr0 hc1 hx1 hr1 hc2 hx2 hr2).mono fun e W' ⟨he, bel⟩ => ?_
  subst he
  exact ⟨_, rfl, _, _, _, [], _, [], hW', trodAll_mk1 (shut_bool Try.underlying4 _), (trodAll_cons_mk (Below.trod laid_out (by kernel_rfl) (of_decide_eq_true (by kernel_rfl)) h0 bel lt0) (trodAll_cons_mk (Below.trod laid_out (by kernel_rfl) (of_decide_eq_true (by kernel_rfl)) h1 bel lt1) (trodAll_cons_mk (Below.trod laid_out (by kernel_rfl) (of_decide_eq_true (by kernel_rfl)) h2 bel lt2) trodAll_mk0))), rfl, bel.frame _, fun h => by cases h⟩

theorem over : Rows.crcUpdatesRow.holds Try.pinned (OpenSpec.ofChange Rows.crcUpdatesSpec) :=
  OpenClaim.holds_of_wide 4 Try.f4 rfl rfl rfl rfl rfl rfl rfl ⟨rfl, rfl, rfl, rfl, rfl⟩ rfl rfl rfl rfl rfl (by kernel_rfl) Try.func4 (by kernel_rfl)
    (of_decide_eq_true (by kernel_rfl)) (by unfold Func.isWrapper; first | (rw [if_pos (by decide +kernel)]; kernel_rfl) | (rw [if_neg (by decide +kernel)]; exact ⟨rfl, rfl⟩))
    (fun os started H enc _ => lifted os started H enc)

theorem proved : Rows.CrcUpdatesSaid := over
end Go.Proofs.Ytofchndeafobaaa.crcUpdates
