/- CrcOne: one byte that is another one, or two bytes side by side that change places, unlike ones, are told (of 2 to 300 bytes). No condition. -/
import Derived.Test.YtofchndeafobaaaCrcLaw
import Derived.Test.YtofchndeafobaaaArgB4
namespace Go.Proofs.Ytofchndeafobaaa.crcOne
open Go.ChangeShapes Go.WideShapes Go.ChangeAt Go.RowKit

set_option maxHeartbeats 3200000 in
set_option maxRecDepth 100000 in
theorem out (A : Option Addr) (n c : Nat) (i y : Int) (w : World) (hg : n < 2 ∨ 300 < n) :
    Calls Try.prog 9 #[.slice A n c, .int .u16 i, .int .u8 y] w fun e w' => e = .returned (.bool true) ∧ Below w.heap.size w w' := by
  rcases Nat.lt_or_ge n 2 with h | h
  · have t0 : (n : Int) < 2 := by omega
    clear hg
    go_enter Try.func9, Try.ntmps9
    go_wp2_with fail
    refine (awake6_true w).mono ?_
    rintro e w1 ⟨rfl, b1⟩
    have B1 := Lib.hid b1
    clear b1
    go_wp2
    go_ret
    exact ⟨rfl, B1.out⟩
  · have t0 : ¬ (n : Int) < 2 := by omega
    have t1 : (300 : Int) < n := by omega
    clear hg
    go_enter Try.func9, Try.ntmps9
    go_wp2_with fail
    refine (awake6_true w).mono ?_
    rintro e w1 ⟨rfl, b1⟩
    have B1 := Lib.hid b1
    clear b1
    go_wp2
    go_ret
    exact ⟨rfl, B1.out⟩

set_option maxHeartbeats 3200000 in
set_option maxRecDepth 100000 in
theorem inn (A : Option Addr) (n c : Nat) (l : List Nat) (i y k : Nat) (w : World) (hA : A = none → c = 0) (hd : Dig l) (h : Reads w A n (bts l)) (h2 : 2 ≤ n) (h3 : n ≤ 300) (hy : y < 256) (hi16 : i < 65536) (hk : i % (n - 1) = k) :
    Calls Try.prog 9 #[.slice A n c, .int .u16 (i : Int), .int .u8 (y : Int)] w fun e w' => e = .returned (.bool true) ∧ Below w.heap.size w w' := by
  obtain ⟨i0, hi, hz0, hz1, hz2⟩ := info_parts Try.infoU8
  have HI := Lib.hid hi
  have HZ := Lib.hid (And.intro hz0 (And.intro hz1 hz2))
  have HR := Lib.hid h
  have HL := Lib.hid h.lenB
  have HA := Lib.hid hA
  have HD := Lib.hid hd
  have t0 : ¬ (n : Int) < 2 := by omega
  have t1 : ¬ (300 : Int) < n := by omega
  have hk1 : k < n - 1 := by rw [← hk]; exact Nat.mod_lt _ (by omega)
  obtain ⟨I, hI⟩ : ∃ I : Int, I = (i : Int) := ⟨_, rfl⟩
  have hm : I.tmod ((n : Int) - 1) = (k : Int) := by
    rw [hI, ← hk, Int.tmod_eq_emod_of_nonneg (by omega), show (n : Int) - 1 = ((n - 1 : Nat) : Int) by omega]; omega
  have hw : IntKind.i64.wrap I = I := IntWalk.i64_in _ (by omega)
  have hw1 : IntKind.i64.wrap ((n : Int) - 1) = (n : Int) - 1 := IntWalk.i64_in _ (by omega)
  rw [← hI]
  have bI : 0 ≤ I ∧ I < 65536 := by omega
  have hz : ¬ ((n : Int) - 1 = 0) := by omega
  clear hk hI h hA hd hi hz0 hz1 hz2 hi16
  go_enter Try.func9, Try.ntmps9
  go_wp2_with fail
  refine (awake6_true w).mono ?_
  rintro e w1 ⟨rfl, b1⟩
  have B1 := Lib.hid b1
  clear b1
  have E1 := Lib.hid (World.ownsRow_made (base := w.heap.size) (e := 5) (size := 1) w1 #[] 0 B1.out.size (by unfold maxLen; omega) rfl)
  have B2 := Lib.hid (up1 B1.out (.cells #[] 5))
  have R2 := Lib.hid (HR.out.below B2.out)
  go_wp2_with (at_builtin; refine wpList_append_reads rfl (.tmp 26) (.tmp 27) 22 rfl w.heap.size 5 i0 (.int .u8 0) 1 Try.underlying22 HI.out HZ.out rfl (.slice (some ⟨w1.heap.size, 0, none⟩) 0 0) 0 [] rfl E1.out A n c (bts l) rfl R2.out HA.out (bts_one l) ?b1 ?b2 ?b3 ?_)
  case b1 => unfold maxLen; omega
  case b2 => omega
  case b3 => exact B2.out.size
  intro v3 w3 hown0 hgr
  have hown : w3.ownsRow w.heap.size 5 1 v3 n (bts l) := by simpa using hown0
  have B3 := Lib.hid (own_grown_below B2.out hgr B2.out.size (fun k hk => by simp [Value.ownBlock] at hk; have := B1.out.size; omega))
  obtain ⟨q3, c3', rest3, rfl, hb3, _, _, _, hq3⟩ := own_block hown (by omega)
  have Q3 := Lib.hid (And.intro hb3 hq3)
  clear hown0 hgr hown hb3 hq3
  have E3 := Lib.hid (World.ownsRow_made (base := w3.heap.size) (e := 5) (size := 1) w3 #[] 0 (Nat.le_refl _) (by unfold maxLen; omega) rfl)
  have B4 := Lib.hid (mk_below w3 (.cells #[] 5))
  have R4 := Lib.hid (HR.out.below (up2 B3.out B4.out))
  go_wp2_with (at_builtin; refine wpList_append_reads rfl (.tmp 29) (.tmp 30) 22 rfl w3.heap.size 5 i0 (.int .u8 0) 1 Try.underlying22 HI.out HZ.out rfl (.slice (some ⟨w3.heap.size, 0, none⟩) 0 0) 0 [] rfl E3.out A n c (bts l) rfl R4.out HA.out (bts_one l) ?b1 ?b2 ?b3 ?_)
  case b1 => unfold maxLen; omega
  case b2 => omega
  case b3 => exact B4.out.size
  intro v5 w5 hown0 hgr
  have hown : w5.ownsRow w3.heap.size 5 1 v5 n (bts l) := by simpa using hown0
  have hb5 := own_grown_below B4.out hgr B4.out.size (fun k hk => by simp [Value.ownBlock] at hk; omega)
  obtain ⟨q5, c5, rest5, rfl, hr5, _, _, _, hq5⟩ := own_block hown (by omega)
  have hlt3 := heap_lt Q3.out.1
  have B5 := Lib.hid (up2 B3.out hb5)
  have Q5 := Lib.hid (show BRow w5 q3 l rest3 ∧ BRow w5 q5 l rest5 ∧ q3 ≠ q5 ∧ w.heap.size ≤ q3 ∧ w.heap.size ≤ q5 from ⟨(hb5.block q3 hlt3).trans Q3.out.1, hr5, by omega, Q3.out.2, by have := B3.out.size; omega⟩)
  clear hown0 hgr hown hb5 hr5 hq5 hlt3
  have hkl : k < l.length := by rw [HL.out]; omega
  have hkl1 : k + 1 < l.length := by rw [HL.out]; omega
  have T1 := Lib.hid (byte_told HD.out k y hkl hy)
  have T2 := Lib.hid (swap_told HD.out k hkl1)
  have hx := dig_at HD.out k
  have hx' := dig_at HD.out (k + 1)
  obtain ⟨x, ex⟩ : ∃ x, l.getD k 0 = x := ⟨_, rfl⟩
  obtain ⟨x', ex'⟩ : ∃ x', l.getD (k + 1) 0 = x' := ⟨_, rfl⟩
  rw [ex] at T1 hx
  rw [ex, ex'] at T2
  rw [ex'] at hx'
  have EX := Lib.hid (And.intro ex ex')
  clear ex ex'
  have c1 : w5.cell? ⟨q3, k, none⟩ = some (.int .u8 (x : Int)) := by rw [← EX.out.1]; exact Q5.out.1.cell k hkl
  have f1 := frozen_in Q5.out.1 k
  have e1 : bits .xor .u8 (x : Int) (y : Int) = ((x ^^^ y : Nat) : Int) := u8_xor_nat x y hx hy
  have hxy : x ^^^ y < 256 := Nat.xor_lt_two_pow (n := 8) hx hy
  have Q6 := Lib.hid (show BRow (w5.setCell ⟨q3, k, none⟩ (.int .u8 ((x ^^^ y : Nat) : Int))) q3 (l.set k (x ^^^ y)) rest3 from Q5.out.1.set k (x ^^^ y) hkl)
  have Q6' := Lib.hid (show BRow (w5.setCell ⟨q3, k, none⟩ (.int .u8 ((x ^^^ y : Nat) : Int))) q5 l rest5 from heap_far Q5.out.2.1 (fun e => Q5.out.2.2.1 e.symm) _)
  have B6 := Lib.hid (B5.out.setCell (p := ⟨q3, k, none⟩) Q5.out.2.2.2.1 (.int .u8 ((x ^^^ y : Nat) : Int)))
  have DC := Lib.hid (dig_set l k (x ^^^ y) HD.out hxy)
  clear hxy
  generalize x ^^^ y = z at *
  have u1 : (k : Int) < n := by omega
  go_wp2_with fail
  generalize w5.setCell ⟨q3, k, none⟩ (.int .u8 (z : Int)) = w6 at *
  have c2 : w6.cell? ⟨q5, k, none⟩ = some (.int .u8 (x : Int)) := by rw [← EX.out.1]; exact Q6'.out.cell k hkl
  have c3 : w6.cell? ⟨q5, k + 1, none⟩ = some (.int .u8 (x' : Int)) := by rw [← EX.out.2]; exact Q6'.out.cell (k + 1) hkl1
  have f2 := frozen_in Q6'.out k
  have f3 := frozen_in Q6'.out (k + 1)
  have u2 : (k : Int) + 1 < n := by omega
  have u3 : IntKind.i64.wrap ((k : Int) + 1) = (k : Int) + 1 := IntWalk.i64_in _ (by omega)
  have u4 : ((k : Int) + 1).toNat = k + 1 := by omega
  clear c1 f1 e1 hm hw hw1 bI hz
  have hls : (l.set k x').length = l.length := List.length_set
  have R7 := Lib.hid (show BRow ((w6.setCell ⟨q5, k, none⟩ (.int .u8 (x' : Int))).setCell ⟨q5, k + 1, none⟩ (.int .u8 (x : Int))).drew q5 ((l.set k x').set (k + 1) x) rest5 from (Q6'.out.set k x' hkl).set (k + 1) x (by rw [hls]; exact hkl1))
  have R7' := Lib.hid (show BRow ((w6.setCell ⟨q5, k, none⟩ (.int .u8 (x' : Int))).setCell ⟨q5, k + 1, none⟩ (.int .u8 (x : Int))).drew q3 (l.set k z) rest3 from heap_far (heap_far Q6.out Q5.out.2.2.1 _) Q5.out.2.2.1 _)
  have B7 := Lib.hid (upd ((B6.out.setCell (p := ⟨q5, k, none⟩) Q5.out.2.2.2.2 (.int .u8 (x' : Int))).setCell (p := ⟨q5, k + 1, none⟩) Q5.out.2.2.2.2 (.int .u8 (x : Int))))
  have DD := Lib.hid (dig_set _ (k + 1) x (dig_set l k x' HD.out hx') hx)
  clear hls
  go_region
  generalize ((w6.setCell ⟨q5, k, none⟩ (.int .u8 (x' : Int))).setCell ⟨q5, k + 1, none⟩ (.int .u8 (x : Int))).drew = w7 at *
  clear c2 c3 f2 f3
  obtain ⟨ad, rfl, ck⟩ := HR.out.byte k (by omega)
  obtain ⟨ad', hadd, ck'⟩ := HR.out.byte (k + 1) (by omega)
  injection hadd with hadd
  subst hadd
  rw [EX.out.1] at ck
  rw [EX.out.2] at ck'
  have CK := Lib.hid (And.intro ck ck')
  have CB := Lib.hid (fun w' (b : Below w.heap.size w w') => show w'.cell? (ad.add k) = some (.int .u8 (x : Int)) ∧ w'.cell? ⟨ad.block, ad.off + (k + 1), none⟩ = some (.int .u8 (x' : Int)) from
    ⟨(b.cell (World.block_lt_of_cell? _ _ CK.out.1)).trans CK.out.1, by have := (b.cell (World.block_lt_of_cell? _ _ CK.out.2)).trans CK.out.2; simpa [Addr.add] using this⟩)
  clear ck ck'
  have KC := Lib.hid (fun w' (h : BRow w' q3 (l.set k z) rest3) => csum_any w' (some ⟨q3, 0, none⟩) n c3' _ (h.reads (by rw [List.length_set]; exact HL.out)) DC.out (by omega))
  have KB := Lib.hid (fun w' (b : Below w.heap.size w w') => csum_any w' (some ad) n c l (HR.out.below b) HD.out (by omega))
  have KD := Lib.hid (fun w' (h : BRow w' q5 ((l.set k x').set (k + 1) x) rest5) => csum_any w' (some ⟨q5, 0, none⟩) n c5 _ (h.reads (by rw [List.length_set, List.length_set]; exact HL.out)) DD.out (by omega))
  have HD2 := Lib.hid (told_beq T2.out)
  have r7 : BRow w7.drew q3 (l.set k z) rest3 := R7'.out
  have s7 : BRow w7.drew q5 ((l.set k x').set (k + 1) x) rest5 := R7.out
  have b7 : Below w.heap.size w w7.drew := upd B7.out
  generalize crcSum (l.set k z) = s1 at *
  generalize crcSum ((l.set k x').set (k + 1) x) = s2 at *
  generalize crcSum l = s0 at *
  by_cases hy0 : y = 0
  · have e1 : ((s1 : Int) == (s0 : Int)) = true := by rw [T1.out.2 hy0]; simp
    have e2 : ((y : Int) == 0) = true := by rw [hy0]; rfl
    generalize (s1 : Int) = S1 at *
    generalize (s0 : Int) = S0 at *
    generalize (s2 : Int) = S2 at *
    generalize (y : Int) = Y at *
    clear T1 T2 hy0
    have u5 : (0 : Int) ≤ (k : Int) + 1 := by omega
    go_wp2_with fail
    go_region_held3 (fun w' => w'.cell? (ad.add k) = some (.int .u8 (x : Int)) ∧ w'.cell? ⟨ad.block, ad.off + (k + 1), none⟩ = some (.int .u8 (x' : Int)))
      (exact CB.out _ (by assumption))
      (first
        | (go_at_call 12; with_reducible refine (KC.out _ (by assumption)).mono ?_; rintro e w8 ⟨rfl, b8⟩; have c8 := up2 b7 b8; have s8 := s7.below b8; clear b8)
        | (go_at_call 12; with_reducible refine (KD.out _ (by assumption)).mono ?_; rintro e w8 ⟨rfl, b8⟩; have c8' := up2 c8 b8; have s8' := s8.below b8; clear b8 c8 s8; have c8 := c8'; have s8 := s8'; clear c8' s8')
        | (go_at_call 12; with_reducible refine (KB.out _ (by assumption)).mono ?_; rintro e w8 ⟨rfl, b8⟩; have c8' := up2 c8 b8; have s8' := s8.below b8; clear b8 c8 s8; have c8 := c8'; have s8 := s8'; clear c8' s8'))
    have C8 := Lib.hid c8
    clear c8 s8 b7 s7 r7
    go_wp2
    go_ret
    exact ⟨congrArg _ (congrArg _ HD2.out), C8.out⟩
  · have e1 : ((s1 : Int) == (s0 : Int)) = false := by rw [beq_eq_false_iff_ne]; intro h; exact hy0 (T1.out.1 (by omega))
    have e2 : ((y : Int) == 0) = false := by rw [beq_eq_false_iff_ne]; omega
    generalize (s1 : Int) = S1 at *
    generalize (s0 : Int) = S0 at *
    generalize (s2 : Int) = S2 at *
    generalize (y : Int) = Y at *
    clear T1 T2 hy0
    have u5 : (0 : Int) ≤ (k : Int) + 1 := by omega
    go_wp2_with fail
    go_region_held3 (fun w' => w'.cell? (ad.add k) = some (.int .u8 (x : Int)) ∧ w'.cell? ⟨ad.block, ad.off + (k + 1), none⟩ = some (.int .u8 (x' : Int)))
      (exact CB.out _ (by assumption))
      (first
        | (go_at_call 12; with_reducible refine (KC.out _ (by assumption)).mono ?_; rintro e w8 ⟨rfl, b8⟩; have c8 := up2 b7 b8; have s8 := s7.below b8; clear b8)
        | (go_at_call 12; with_reducible refine (KD.out _ (by assumption)).mono ?_; rintro e w8 ⟨rfl, b8⟩; have c8' := up2 c8 b8; have s8' := s8.below b8; clear b8 c8 s8; have c8 := c8'; have s8 := s8'; clear c8' s8')
        | (go_at_call 12; with_reducible refine (KB.out _ (by assumption)).mono ?_; rintro e w8 ⟨rfl, b8⟩; have c8' := up2 c8 b8; have s8' := s8.below b8; clear b8 c8 s8; have c8 := c8'; have s8 := s8'; clear c8' s8'))
    have C8 := Lib.hid c8
    clear c8 s8 b7 s7 r7
    go_wp2
    go_ret
    exact ⟨congrArg _ (congrArg _ HD2.out), C8.out⟩
theorem walk (A : Option Addr) (n c : Nat) (l : List Nat) (i y : Int) (w : World) (hA : (A = none → c = 0) ∧ n ≤ c) (hd : Dig l) (h : Reads w A n (bts l)) (h0 : 0 ≤ i) (h1 : i ≤ 65535) (h2 : 0 ≤ y) (h3 : y ≤ 255) :
    Calls Try.prog 9 #[.slice A n c, .int .u16 i, .int .u8 y] w fun e w' => e = .returned (.bool true) ∧ Below w.heap.size w w' := by
  by_cases hg : n < 2 ∨ 300 < n
  · exact out A n c i y w hg
  · obtain ⟨I, rfl⟩ := Int.eq_ofNat_of_zero_le h0
    obtain ⟨Y, rfl⟩ := Int.eq_ofNat_of_zero_le h2
    exact inn A n c l I Y _ w hA.1 hd h (by omega) (by omega) (by omega) (by omega) rfl

set_option maxRecDepth 100000 in
theorem lifted (os : Os) (started : os.Started) (H : Type) (enc : TypeId × Value → H) :
    ReturnsInHanded {} Try.checked os 9 .any (Rows.crcOneSpec.pre6 enc Try.prog Try.f9 Rows.crcOneRow.domain false) (Rows.crcOneSpec.post enc Try.prog Try.f9 false true false false) := by
  refine returnsInHanded_of_change (C := Try.checked) own_knob started (by kernel_rfl) Try.func9
    (ChangeSpec.witness6 (enc := enc) (C := Try.checked) false ⟨#[], #[.slice none 0 0, .int .u16 0, .int .u8 0], []⟩ 8 (by kernel_rfl) (by kernel_rfl) (by kernel_rfl) (by kernel_rfl)) ?_
  intro W base args ds gs before hval0 hW hcnd _
  have hval : ∀ (j : Nat) t v, Try.f9.params[j]? = some t → args[j]? = some v → Value.okWide Try.prog W .any base t v := hval0
  have hW' := hW
  obtain ⟨p, q, hA0, hV, rfl, hfz, hnd⟩ := hW
  have hA : DataW.TrodAll enc Try.prog W 0 (fun _ => true) true Try.f9.params.toList args.toList ds p := hA0
  rw [Try.params9] at hA hval
  obtain ⟨v0, vs0, d0, ds0, p0, q0, hargs, rfl, rfl, h0, r0⟩ := trodAll_cons hA
  obtain ⟨v1, vs1, d1, ds1, p1, q1, rfl, rfl, rfl, h1, r1⟩ := trodAll_cons r0
  obtain ⟨v2, vs2, d2, ds2, p2, q2, rfl, rfl, rfl, h2, r2⟩ := trodAll_cons r1
  obtain ⟨rfl, rfl, rfl⟩ := trodAll_nil r2
  obtain rfl : args = #[v0, v1, v2] := by cases args; simp_all
  obtain ⟨rfl, rfl⟩ := trodVars_none hV
  obtain ⟨a0, len0, cap0, rfl⟩ := okWide_slice Try.underlying22 (hval 0 22 v0 rfl rfl)
  have lt0 : ∀ x ∈ p0, x.block < W.heap.size := by obtain ⟨m, hm⟩ := h0; exact DataW.trod_lt m _ _ _ hm
  obtain ⟨hc0, xs0, hx0, hr0⟩ := arg_bytes4 h0
  obtain ⟨a1, rfl, rfl, rfl, w1⟩ := open_int Try.underlying36 (hval 1 36 v1 rfl rfl) h1
  have bd1 := bounds_u16 w1
  obtain ⟨a2, rfl, rfl, rfl, w2⟩ := open_int Try.underlying5 (hval 2 5 v2 rfl rfl) h2
  have bd2 := bounds_u8 w2
  clear hA0 hval0
  refine (walk a0 len0 cap0 xs0 a1 a2 W hc0 hx0 hr0 (by omega) (by omega) (by omega) (by omega)).mono fun e W' ⟨he, bel⟩ => ?_
  subst he
  exact ⟨_, rfl, _, _, _, [], _, [], hW', trodAll_mk1 (shut_bool Try.underlying4 _), (trodAll_cons_mk (Below.trod laid_out (by kernel_rfl) (of_decide_eq_true (by kernel_rfl)) h0 bel lt0) (trodAll_cons_mk (shut_int Try.underlying36 w1) (trodAll_cons_mk (shut_int Try.underlying5 w2) trodAll_mk0))), rfl, bel.frame _, fun h => by cases h⟩

theorem over : Rows.crcOneRow.holds Try.pinned (OpenSpec.ofChange Rows.crcOneSpec) :=
  OpenClaim.holds_of_wide 9 Try.f9 rfl rfl rfl rfl rfl rfl rfl ⟨rfl, rfl, rfl, rfl, rfl⟩ rfl rfl rfl rfl rfl (by kernel_rfl) Try.func9 (by kernel_rfl)
    (of_decide_eq_true (by kernel_rfl)) (by unfold Func.isWrapper; first | (rw [if_pos (by decide +kernel)]; kernel_rfl) | (rw [if_neg (by decide +kernel)]; exact ⟨rfl, rfl⟩))
    (fun os started H enc _ => lifted os started H enc)

theorem proved : Rows.CrcOneSaid := over
end Go.Proofs.Ytofchndeafobaaa.crcOne
