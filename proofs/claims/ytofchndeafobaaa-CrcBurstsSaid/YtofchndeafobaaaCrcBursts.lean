/- CrcBursts: any burst of at most 32 bits is told: two texts (of up to 200 bytes) that are unlike within 32 bits in a row have unlike sums. No condition. -/
import Derived.Test.YtofchndeafobaaaCrcLaw
import Derived.Test.YtofchndeafobaaaCrcSpoil
import Derived.Test.YtofchndeafobaaaCrcBurstW
import Derived.Test.YtofchndeafobaaaArgB4
namespace Go.Proofs.Ytofchndeafobaaa.crcBursts
open Go.ChangeShapes Go.WideShapes Go.ChangeAt Go.RowKit

set_option maxHeartbeats 3200000 in
set_option maxRecDepth 100000 in
theorem out (A : Option Addr) (n c : Nat) (i y : Int) (w : World) (hg : n = 0 ∨ 200 < n) :
    Calls Try.prog 6 #[.slice A n c, .int .u16 i, .int .u32 y] w fun e w' => e = .returned (.bool true) ∧ Below w.heap.size w w' := by
  rcases Nat.eq_zero_or_pos n with h | h
  · subst h
    clear hg
    go_enter Try.func6, Try.ntmps6
    go_wp2_with fail
    refine (awake6_true w).mono ?_
    rintro e w1 ⟨rfl, b1⟩
    have B1 := Lib.hid b1
    clear b1
    go_wp2
    go_ret
    exact ⟨rfl, B1.out⟩
  · have t0 : ((n : Int) == 0) = false := by rw [beq_eq_false_iff_ne]; omega
    have t1 : (200 : Int) < n := by omega
    clear hg
    go_enter Try.func6, Try.ntmps6
    go_wp2_with fail
    refine (awake6_true w).mono ?_
    rintro e w1 ⟨rfl, b1⟩
    have B1 := Lib.hid b1
    clear b1
    go_wp2
    go_ret
    exact ⟨rfl, B1.out⟩

def SpoilAt (w : World) (q : Nat) (l : List Nat) (f b : Nat) (rest : List Value) (i : Value) (wr : World) : Prop :=
  ∃ (j : Nat) (d : List Nat), j ≤ 32 ∧ i = .int .i64 (j : Int) ∧ Spoilt l f b j d ∧ BRow wr q d rest ∧ Below w.heap.size w wr

set_option maxHeartbeats 3200000 in
set_option maxRecDepth 100000 in
theorem inn (A : Option Addr) (n c : Nat) (l : List Nat) (i y f : Nat) (w : World) (hA : A = none → c = 0) (hd : Dig l) (h : Reads w A n (bts l)) (h2 : 1 ≤ n) (h3 : n ≤ 200) (hy : y < 4294967296) (hi16 : i < 65536) (hf : i % (8 * n) = f) :
    Calls Try.prog 6 #[.slice A n c, .int .u16 (i : Int), .int .u32 (y : Int)] w fun e w' => e = .returned (.bool true) ∧ Below w.heap.size w w' := by
  obtain ⟨i0, hi, hz0, hz1, hz2⟩ := info_parts Try.infoU8
  have HI := Lib.hid hi
  have HZ := Lib.hid (And.intro hz0 (And.intro hz1 hz2))
  have HR := Lib.hid h
  have HL := Lib.hid h.lenB
  have HA := Lib.hid hA
  have HD := Lib.hid hd
  have t0 : ((n : Int) == 0) = false := by rw [beq_eq_false_iff_ne]; omega
  have t1 : ¬ (200 : Int) < n := by omega
  have hf1 : f < 8 * n := by rw [← hf]; exact Nat.mod_lt _ (by omega)
  obtain ⟨I, hI⟩ : ∃ I : Int, I = (i : Int) := ⟨_, rfl⟩
  have hm : I.tmod (8 * (n : Int)) = (f : Int) := by
    rw [hI, ← hf, Int.tmod_eq_emod_of_nonneg (by omega), Int.natCast_emod, Int.natCast_mul]; rfl
  have hw : IntKind.i64.wrap I = I := IntWalk.i64_in _ (by omega)
  have hw1 : IntKind.i64.wrap (8 * (n : Int)) = 8 * (n : Int) := IntWalk.i64_in _ (by omega)
  rw [← hI]
  have bI : 0 ≤ I ∧ I < 65536 := by omega
  have hz : ¬ (8 * (n : Int) = 0) := by omega
  obtain ⟨Y, hY⟩ : ∃ Y : Int, Y = (y : Int) := ⟨_, rfl⟩
  rw [← hY]
  have HY := Lib.hid hY
  have bY : 0 ≤ Y ∧ Y < 4294967296 := by omega
  clear hf hI h hA hd hi hz0 hz1 hz2 hi16 hY
  go_enter Try.func6, Try.ntmps6
  go_wp2_with fail
  refine (awake6_true w).mono ?_
  rintro e w1 ⟨rfl, b1⟩
  have B1 := Lib.hid b1
  clear b1
  have E1 := Lib.hid (World.ownsRow_made (base := w.heap.size) (e := 5) (size := 1) w1 #[] 0 B1.out.size (by unfold maxLen; omega) rfl)
  have B2 := Lib.hid (up1 B1.out (.cells #[] 5))
  have R2 := Lib.hid (HR.out.below B2.out)
  go_wp2_with (at_builtin; refine wpList_append_reads rfl (.tmp 21) (.tmp 22) 22 rfl w.heap.size 5 i0 (.int .u8 0) 1 Try.underlying22 HI.out HZ.out rfl (.slice (some ⟨w1.heap.size, 0, none⟩) 0 0) 0 [] rfl E1.out A n c (bts l) rfl R2.out HA.out (bts_one l) ?b1 ?b2 ?b3 ?_)
  case b1 => unfold maxLen; omega
  case b2 => omega
  case b3 => exact B2.out.size
  intro v3 w3 hown0 hgr
  have hown : w3.ownsRow w.heap.size 5 1 v3 n (bts l) := by simpa using hown0
  have B3 := Lib.hid (own_grown_below B2.out hgr B2.out.size (fun k hk => by simp [Value.ownBlock] at hk; have := B1.out.size; omega))
  obtain ⟨q, c3, rest, rfl, hb3, _, _, _, hq3⟩ := own_block hown (by omega)
  have Q3 := Lib.hid (And.intro hb3 hq3)
  clear hown0 hgr hown hb3 hq3
  go_wp2_with fail
  clear hm hw hz bI
  go_loopw [30] (SpoilAt w q l f y rest) (fun i _ => 32 - (intOf i).toNat)
  case atStart => exact ⟨0, l, by omega, rfl, Spoilt.start HD.out f y, Q3.out.1, B3.out⟩
  case round =>
    obtain ⟨j, d, hj, rfl, hsp, hrow, hbel⟩ := hrel
    have HS := Lib.hid (And.intro hsp (And.intro hrow hbel))
    clear hsp hrow hbel
    by_cases hlt : j < 32
    · have hu : (j : Int) < 32 := by omega
      have e2 : IntKind.u64.wrap (j : Int) = (j : Int) := by simp [IntKind.wrap, IntKind.bits, IntKind.signed]; omega
      obtain ⟨v, hv⟩ : ∃ v, y / 2 ^ j = v := ⟨_, rfl⟩
      have hvlt : v < 4294967296 := by rw [← hv]; exact Nat.lt_of_le_of_lt (Nat.div_le_self _ _) hy
      have hvb : v % 2 = (y.testBit j).toNat := by rw [← hv, Nat.toNat_testBit]
      have e3 : Y / 2 ^ j = (v : Int) := by rw [HY.out, ← hv]; simp
      have e4 := and_one v hvlt
      have e5 : IntKind.i64.wrap ((f : Int) + j) = (f : Int) + j := IntWalk.i64_in _ (by omega)
      by_cases hb : y.testBit j = true
      · rw [hvb, hb] at e4
        have e4' : bits .and .u32 (v : Int) 1 = 1 := e4
        clear e4
        by_cases hp : f + j < 8 * n
        · have t2 : (f : Int) + j < 8 * (n : Int) := by omega
          have N := Lib.hid (HS.out.1.flip hb (by rw [HL.out]; exact hp))
          obtain ⟨m, hmm⟩ : ∃ m, (f + j) / 8 = m := ⟨_, rfl⟩
          obtain ⟨s, hss⟩ : ∃ s, (f + j) % 8 = s := ⟨_, rfl⟩
          rw [hmm, hss] at N
          have hmn : m < n := by omega
          have hmd : m < d.length := by rw [HS.out.1.2.1, HL.out]; exact hmn
          have ck := HS.out.2.1.cell m hmd
          have fk := frozen_in HS.out.2.1 m
          have hdm := dig_at HS.out.1.1 m
          have R := Lib.hid (HS.out.2.1.set m (d.getD m 0 ^^^ 2 ^ s) hmd)
          have B := Lib.hid (HS.out.2.2.setCell (p := ⟨q, m, none⟩) Q3.out.2 (.int .u8 ((d.getD m 0 ^^^ 2 ^ s : Nat) : Int)))
          have hs8 : s < 8 := by omega
          have hpow : 2 ^ s < 256 := by
            have : 2 ^ s ≤ 2 ^ 7 := Nat.pow_le_pow_right (by omega) (by omega)
            omega
          have e6 := u8_xor_nat (d.getD m 0) (2 ^ s) hdm hpow
          have e7 : ((f : Int) + j) / 8 = (m : Int) := by omega
          have e8 : ((f : Int) + j) % 8 = (s : Int) := by omega
          have e9 : IntKind.u64.wrap (s : Int) = (s : Int) := by simp [IntKind.wrap, IntKind.bits, IntKind.signed]; omega
          obtain ⟨P, hP⟩ : ∃ P : Int, P = ((2 ^ s : Nat) : Int) := ⟨_, rfl⟩
          have bP : 0 ≤ P ∧ P < 256 := ⟨by rw [hP]; exact Int.natCast_nonneg _, by rw [hP]; exact Int.ofNat_lt.2 hpow⟩
          have e10 : IntKind.u8.wrap (2 ^ s) = P := by
            rw [show (2 : Int) ^ s = P by rw [hP, Int.natCast_pow]; rfl, IntKind.wrap_u8]
            exact Int.emod_eq_of_lt bP.1 bP.2
          rw [← hP] at e6
          have tm : (m : Int) < n := by omega
          have ts : (s : Int) < 8 := by omega
          generalize hE : d.getD m 0 ^^^ 2 ^ s = E at *
          generalize d.getD m 0 = D at *
          clear hE hP hpow hmm hss hvb hv hvlt hb hp
          go_wp2_with fail
          exact ⟨⟨j + 1, _, by omega, by go_num, N.out, R.out, B.out⟩, by simp [intOf]; omega⟩
        · have t2 : ¬ (f : Int) + j < 8 * (n : Int) := by omega
          have N := Lib.hid (HS.out.1.past (by rw [HL.out]; omega))
          clear hvb hv hvlt hb hp
          go_wp2_with fail
          exact ⟨⟨j + 1, _, by omega, by go_num, N.out, HS.out.2.1, HS.out.2.2⟩, by simp [intOf]; omega⟩
      · have hb0 : y.testBit j = false := by simpa using hb
        rw [hvb, hb0] at e4
        have e4' : bits .and .u32 (v : Int) 1 = 0 := e4
        have N := Lib.hid (HS.out.1.clear hb0)
        clear e4 hvb hv hvlt hb hb0
        go_wp2_with fail
        exact ⟨⟨j + 1, _, by omega, by go_num, N.out, HS.out.2.1, HS.out.2.2⟩, by simp [intOf]; omega⟩
    · obtain rfl : j = 32 := by omega
      have hu : ¬ ((32 : Nat) : Int) < 32 := by omega
      have hld : d.length = n := by rw [HS.out.1.2.1, HL.out]
      have RL := Lib.hid (HR.out.below HS.out.2.2)
      have RD := Lib.hid (HS.out.2.1.reads hld)
      have KB := Lib.hid (burst_any wr A (some ⟨q, 0, none⟩) n c c3 l d RL.out RD.out HD.out HS.out.1.1 (by omega))
      have KL := Lib.hid (fun w' (b : Below w.heap.size w w') => csum_any w' A n c l (HR.out.below b) HD.out (by omega))
      have KD := Lib.hid (fun w' (h : Reads w' (some ⟨q, 0, none⟩) n (bts d)) => csum_any w' (some ⟨q, 0, none⟩) n c3 d h HS.out.1.1 (by omega))
      clear hld
      go_wp2_with fail
      refine KB.out.mono ?_
      rintro e w4 ⟨F, L, rfl, hst, hrd⟩
      rw [← HL.out] at hst
      have hto := HS.out.1.told HD.out hst
      have B4 := Lib.hid (up2 HS.out.2.2 hrd.below)
      have R4 := Lib.hid (RD.out.read hrd)
      clear hst hrd
      generalize crcSum l = s0 at *
      generalize crcSum d = s1 at *
      rcases hto with ⟨hF, hs⟩ | ⟨hF, hL1, hL2, hs⟩
      · have hbo : burstOf F L = 0 := by unfold burstOf; rw [if_pos hF]
        rw [hbo]
        subst hs
        clear hF hbo
        go_wp2_with fail
        refine (KL.out w4 B4.out).mono ?_
        rintro e w5 ⟨rfl, b5⟩
        have B5 := Lib.hid (up2 B4.out b5)
        have R5 := Lib.hid (R4.out.below b5)
        clear b5
        go_wp2_with fail
        refine (KD.out w5 R5.out).mono ?_
        rintro e w6 ⟨rfl, b6⟩
        have B6 := Lib.hid (up2 B5.out b6)
        clear b6
        go_wp2
        go_ret
        exact ⟨rfl, B6.out⟩
      · have hbo : burstOf F L = L - F + 1 := by unfold burstOf; rw [if_neg (by omega)]
        rw [hbo]
        obtain ⟨G, hG⟩ : ∃ G, L - F + 1 = G := ⟨_, rfl⟩
        rw [hG] at hL1 hL2 ⊢
        have g1 : ¬ 32 < G := by omega
        have g2 : (G == 0) = false := by rw [beq_eq_false_iff_ne]; omega
        have g3 : ((s0 : Int) == (s1 : Int)) = false := by rw [beq_eq_false_iff_ne]; omega
        clear hF hbo hG hs
        go_wp2_with fail
        refine (KL.out w4 B4.out).mono ?_
        rintro e w5 ⟨rfl, b5⟩
        have B5 := Lib.hid (up2 B4.out b5)
        have R5 := Lib.hid (R4.out.below b5)
        clear b5
        go_wp2_with fail
        refine (KD.out w5 R5.out).mono ?_
        rintro e w6 ⟨rfl, b6⟩
        have B6 := Lib.hid (up2 B5.out b6)
        clear b6
        go_wp2
        go_ret
        exact ⟨rfl, B6.out⟩
theorem walk (A : Option Addr) (n c : Nat) (l : List Nat) (i y : Int) (w : World) (hA : (A = none → c = 0) ∧ n ≤ c) (hd : Dig l) (h : Reads w A n (bts l)) (h0 : 0 ≤ i) (h1 : i ≤ 65535) (h2 : 0 ≤ y) (h3 : y ≤ 4294967295) :
    Calls Try.prog 6 #[.slice A n c, .int .u16 i, .int .u32 y] w fun e w' => e = .returned (.bool true) ∧ Below w.heap.size w w' := by
  by_cases hg : n = 0 ∨ 200 < n
  · exact out A n c i y w hg
  · obtain ⟨I, rfl⟩ := Int.eq_ofNat_of_zero_le h0
    obtain ⟨Y, rfl⟩ := Int.eq_ofNat_of_zero_le h2
    exact inn A n c l I Y _ w hA.1 hd h (by omega) (by omega) (by omega) (by omega) rfl

set_option maxRecDepth 100000 in
theorem lifted (os : Os) (started : os.Started) (H : Type) (enc : TypeId × Value → H) :
    ReturnsInHanded {} Try.checked os 6 .any (Rows.crcBurstsSpec.pre6 enc Try.prog Try.f6 Rows.crcBurstsRow.domain false) (Rows.crcBurstsSpec.post enc Try.prog Try.f6 false true false false) := by
  refine returnsInHanded_of_change (C := Try.checked) own_knob started (by kernel_rfl) Try.func6
    (ChangeSpec.witness6 (enc := enc) (C := Try.checked) false ⟨#[], #[.slice none 0 0, .int .u16 0, .int .u32 0], []⟩ 8 (by kernel_rfl) (by kernel_rfl) (by kernel_rfl) (by kernel_rfl)) ?_
  intro W base args ds gs before hval0 hW hcnd _
  have hval : ∀ (j : Nat) t v, Try.f6.params[j]? = some t → args[j]? = some v → Value.okWide Try.prog W .any base t v := hval0
  have hW' := hW
  obtain ⟨p, q, hA0, hV, rfl, hfz, hnd⟩ := hW
  have hA : DataW.TrodAll enc Try.prog W 0 (fun _ => true) true Try.f6.params.toList args.toList ds p := hA0
  rw [Try.params6] at hA hval
  obtain ⟨v0, vs0, d0, ds0, p0, q0, hargs, rfl, rfl, h0, r0⟩ := trodAll_cons hA
  obtain ⟨v1, vs1, d1, ds1, p1, q1, rfl, rfl, rfl, h1, r1⟩ := trodAll_cons r0
  obtain ⟨v2, vs2, d2, ds2, p2, q2, rfl, rfl, rfl, h2, r2⟩ := trodAll_cons r1
  obtain ⟨rfl, rfl, rfl⟩ := trodAll_nil r2
  obtain rfl : args = #[v0, v1, v2] := by cases args; simp_all
  obtain ⟨rfl, rfl⟩ := trodVars_none hV
  obtain ⟨a0, len0, cap0, rfl⟩ := okWide_slice Try.underlying22 (hval 0 22 v0 rfl rfl)
  have lt0 : ∀ x ∈ p0, x.block < W.heap.size := by obtain ⟨m, hm⟩ := h0; exact DataW.trod_lt m _ _ _ hm
  obtain ⟨hc0, xs0, hx0, hr0⟩ := arg_bytes4 h0
  obtain ⟨a1, rfl, rfl, rfl, w1⟩ := open_int Try.underlying36 (hval 1 36 v1 rfl rfl) h1
  have bd1 := bounds_u16 w1
  obtain ⟨a2, rfl, rfl, rfl, w2⟩ := open_int Try.underlying24 (hval 2 24 v2 rfl rfl) h2
  have bd2 := bounds_u32 w2
  clear hA0 hval0
  refine (walk a0 len0 cap0 xs0 a1 a2 W hc0 hx0 hr0 (by omega) (by omega) (by omega) (by omega)).mono fun e W' ⟨he, bel⟩ => ?_
  subst he
  exact ⟨_, rfl, _, _, _, [], _, [], hW', trodAll_mk1 (shut_bool Try.underlying4 _), (trodAll_cons_mk (Below.trod laid_out (by kernel_rfl) (of_decide_eq_true (by kernel_rfl)) h0 bel lt0) (trodAll_cons_mk (shut_int Try.underlying36 w1) (trodAll_cons_mk (shut_int Try.underlying24 w2) trodAll_mk0))), rfl, bel.frame _, fun h => by cases h⟩

theorem over : Rows.crcBurstsRow.holds Try.pinned (OpenSpec.ofChange Rows.crcBurstsSpec) :=
  OpenClaim.holds_of_wide 6 Try.f6 rfl rfl rfl rfl rfl rfl rfl ⟨rfl, rfl, rfl, rfl, rfl⟩ rfl rfl rfl rfl rfl (by kernel_rfl) Try.func6 (by kernel_rfl)
    (of_decide_eq_true (by kernel_rfl)) (by unfold Func.isWrapper; first | (rw [if_pos (by decide +kernel)]; kernel_rfl) | (rw [if_neg (by decide +kernel)]; exact ⟨rfl, rfl⟩))
    (fun os started H enc _ => lifted os started H enc)

theorem proved : Rows.CrcBurstsSaid := over
end Go.Proofs.Ytofchndeafobaaa.crcBursts
