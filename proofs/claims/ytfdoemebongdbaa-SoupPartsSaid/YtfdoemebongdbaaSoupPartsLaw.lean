/- SoupParts: a part is what it was: by its old numbers each triangle of a part is the one that it was taken as; parts of what was joined, joined again, are what they were. No condition. -/
import Derived.Test.YtfdoemebongdbaaSouPartsQ
namespace Go.Proofs.Ytfdoemebongdbaa.soupParts
open Go.RowKit Go.ChangeShapes Go.WideShapes Go.ChangeAt

def P3At (w1 : World) (n : Nat) (i : Value) (wr : World) : Prop := ∃ t : Nat, t ≤ n ∧ i = .int .i64 (t : Int) ∧ Below w1.heap.size w1 wr
def P4At (w1 : World) (n : Nat) (i : Value) (wr : World) : Prop := ∃ t : Nat, 1 ≤ t ∧ t ≤ n + 1 ∧ i = .int .i64 (t : Int) ∧ Below w1.heap.size w1 wr
def P5At (w1 : World) (n m : Nat) (f s i : Value) (wr : World) : Prop := ∃ t : Nat, t ≤ n + m ∧ i = .int .i64 (t : Int) ∧ Below w1.heap.size w1 wr ∧ Lists w1 wr n f s t

set_option maxHeartbeats 16000000 in
set_option maxRecDepth 100000 in
theorem walk (N : Int) (A : Option Addr) (n c : Nat) (l : List Tr) (M : Int) (B : Option Addr) (m d : Nat) (k : List Tr) (C : Option Addr) (p q : Nat) (cs : List Int) (w : World) (_ : -9223372036854775808 ≤ N) (_ : N ≤ 9223372036854775807) (h : T3 w A n l)
    (_ : -9223372036854775808 ≤ M) (_ : M ≤ 9223372036854775807) (h2 : T3 w B m k) (_ : (C = none → q = 0) ∧ p ≤ q) (_ : ∀ x ∈ cs, -9223372036854775808 ≤ x ∧ x ≤ 9223372036854775807) (h3 : Reads w C p (ints cs)) :
    Calls Try.prog 9 #[.agg #[.int .i64 N, .slice A n c], .agg #[.int .i64 M, .slice B m d], .slice C p q] w (Yes8 w) := by
  have HL := Lib.hid h
  have HK := Lib.hid h2
  have HT := Lib.hid h3
  have KA := Lib.hid awake8_true
  have KG := Lib.hid (fun W => great8_any W N A n c)
  have KG2 := Lib.hid (fun W => great8_any W M B m d)
  obtain ⟨i0, hi0, hz0, hz1, hz2⟩ := info_parts Try.infoInt
  have HII := Lib.hid hi0
  have HZZ := Lib.hid (And.intro hz0 (And.intro hz1 hz2))
  clear hi0 hz0 hz1 hz2
  have B0 := Lib.hid (up1 (up1 (Below.refl _ w) (.cells #[.int .i64 N, .slice A n c] 24)) (.cells #[.int .i64 M, .slice B m d] 24))
  have X0 : Bx ((w.alloc (.cells #[.int .i64 N, .slice A n c] 24)).alloc (.cells #[.int .i64 M, .slice B m d] 24)) w.heap.size N A n c := (Bx.made w N A n c).below ((Below.refl _ _).alloc (Nat.le_refl _) _)
  have Y0 : Bx ((w.alloc (.cells #[.int .i64 N, .slice A n c] 24)).alloc (.cells #[.int .i64 M, .slice B m d] 24)) (w.heap.size + 1) M B m d := by
    have := Bx.made (w.alloc (.cells #[.int .i64 N, .slice A n c] 24)) M B m d
    rwa [World.size_alloc] at this
  have XY := Lib.hid (And.intro X0 Y0)
  clear h h2 h3 X0 Y0
  go_enter Try.func9, Try.ntmps9
  go_wp2_with fail
  refine (KA.out _).mono ?_
  rintro e w1 ⟨rfl, b1⟩
  have B1 := Lib.hid (up2 B0.out b1)
  have X1 := Lib.hid (And.intro (XY.out.1.below b1) (XY.out.2.below b1))
  clear b1
  obtain ⟨g, hg⟩ : ∃ g, w.heap.size = g := ⟨_, rfl⟩
  have HG := Lib.hid hg
  simp only [hg]
  rw [hg] at X1
  clear hg
  have e0 := X1.out.1.c0
  have e1 := X1.out.1.c1
  go_wp2_with fail
  refine (KG.out _).mono ?_
  rintro e w2 ⟨rfl, b2⟩
  have B2 := Lib.hid (up2 B1.out b2)
  have X2 := Lib.hid (And.intro (X1.out.1.below b2) (X1.out.2.below b2))
  clear b2 e0 e1
  by_cases h40 : (40 : Int) < n
  · simp only [decide_eq_true h40]
    clear h40
    go_wp2_with fail
    go_ret
    exact ⟨rfl, B2.out⟩
  simp only [decide_eq_false h40]
  have y0 := X2.out.2.c0
  have y1 := X2.out.2.c1
  go_wp2_with fail
  refine (KG2.out _).mono ?_
  rintro e w3 ⟨rfl, b3⟩
  have B3 := Lib.hid (up2 B2.out b3)
  have X3 := Lib.hid (And.intro (X2.out.1.below b3) (X2.out.2.below b3))
  clear b3 y0 y1
  by_cases m40 : (40 : Int) < m
  · simp only [decide_eq_true m40]
    clear m40
    go_wp2_with fail
    go_ret
    exact ⟨rfl, B3.out⟩
  simp only [decide_eq_false m40]
  by_cases p40 : (40 : Int) < p
  · go_wp2_with fail
    go_ret
    exact ⟨rfl, B3.out⟩
  have hn : n ≤ 40 := by omega
  have hm : m ≤ 40 := by omega
  have hp : p ≤ 40 := by omega
  have e0 := X3.out.1.c0
  have e1 := X3.out.1.c1
  have KF := Lib.hid (sfits_any w3 N A n c l (HL.out.below B3.out) (by omega))
  go_wp2_with fail
  refine KF.out.mono ?_
  rintro e w4 ⟨rfl, b4⟩
  have B4 := Lib.hid (up2 B3.out b4)
  have X4 := Lib.hid (And.intro (X3.out.1.below b4) (X3.out.2.below b4))
  clear b4 e0 e1
  by_cases hf : Fit N l
  case neg =>
    simp only [decide_eq_false hf]
    clear hf
    go_wp2_with fail
    go_ret
    exact ⟨rfl, B4.out⟩
  simp only [decide_eq_true hf]
  have y0 := X4.out.2.c0
  have y1 := X4.out.2.c1
  have KF2 := Lib.hid (sfits_any w4 M B m d k (HK.out.below B4.out) (by omega))
  have HF := Lib.hid hf
  clear hf
  go_wp2_with fail
  refine KF2.out.mono ?_
  rintro e w5 ⟨rfl, b5⟩
  have B5 := Lib.hid (up2 B4.out b5)
  have X5 := Lib.hid (And.intro (X4.out.1.below b5) (X4.out.2.below b5))
  clear b5 y0 y1
  by_cases hg : Fit M k
  case neg =>
    simp only [decide_eq_false hg]
    clear hg
    go_wp2_with fail
    go_ret
    exact ⟨rfl, B5.out⟩
  simp only [decide_eq_true hg]
  have HF2 := Lib.hid hg
  clear hg
  obtain ⟨N, rfl⟩ : ∃ N' : Nat, N = (N' : Int) := ⟨N.toNat, by have := HF.out.1; omega⟩
  obtain ⟨M, rfl⟩ : ∃ M' : Nat, M = (M' : Int) := ⟨M.toNat, by have := HF2.out.1; omega⟩
  have e0 := X5.out.1.c0
  have e1 := X5.out.1.c1
  have KP := Lib.hid (spart_tell w5 N A C n c p q l cs (HL.out.below B5.out) (HT.out.below B5.out) (by omega) (by omega))
  go_wp2_with fail
  refine KP.out.mono ?_
  rintro e w6 ⟨N6, A6, m6, c6, l6, Ao6, mo6, co6, vs6, k6, rfl, a6, o6, oi6, hm6, hmo6, b6⟩
  have bx := (Below.refl _ w6).alloc (Nat.le_refl _) (.cells #[.int .i64 N6, .slice A6 m6 c6] 24)
  have B7 := Lib.hid (up2 (up2 B5.out b6) bx)
  have X7 := Lib.hid (And.intro ((X5.out.1.below b6).below bx) ((X5.out.2.below b6).below bx))
  have P7 := Lib.hid (Bx.made w6 N6 A6 m6 c6)
  have T7 := Lib.hid ((T3.of_own o6).below bx)
  have I7 := Lib.hid ((own_lenI oi6).below bx)
  have A7 := Lib.hid a6
  clear b6 bx o6 oi6 a6 e0 e1
  by_cases hk0 : k6 = 0
  case neg =>
    have f0 : (k6 == 0) = false := by simpa using hk0
    have BT := B7
    have XT := X7
    clear A7 T7 I7 P7 hk0 B7 X7
    have e0 := XT.out.1.c0
    have e1 := XT.out.1.c1
    have y0 := XT.out.2.c0
    have y1 := XT.out.2.c1
    go_wp2_with fail
    clear f0
    obtain ⟨W0, hW0⟩ : ∃ W0, w6.alloc (.cells #[.int .i64 N6, .slice A6 m6 c6] 24) = W0 := ⟨_, rfl⟩
    rw [hW0] at BT XT e0 e1 y0 y1
    obtain ⟨jq, hjq⟩ : ∃ q, w6.heap.size + 1 = q := ⟨_, rfl⟩
    have hz : W0.heap.size = jq := by rw [← hW0, World.size_alloc, hjq]
    simp only [hW0, hjq]
    clear hW0 hjq
    have hN2 := HF.out.2.1
    have hM2 := HF2.out.2.1
    obtain ⟨S, hS⟩ : ∃ S : Nat, N + M = S := ⟨_, rfl⟩
    have hSI : (N : Int) + M = (S : Int) := by omega
    have wN : IntKind.i64.wrap ((N : Int) + M) = (S : Int) := by rw [hSI]; exact IntWalk.i64_in _ (by omega)
    have B10 := Lib.hid (up1 BT.out (twoO (N : Int) A n c (M : Int) B m d))
    have X10 := Lib.hid (And.intro (XT.out.1.below ((Below.refl _ W0).alloc (Nat.le_refl _) (twoO (N : Int) A n c (M : Int) B m d))) (XT.out.2.below ((Below.refl _ W0).alloc (Nat.le_refl _) (twoO (N : Int) A n c (M : Int) B m d))))
    have KJ := Lib.hid (sjoin_two (W0.alloc (twoO (N : Int) A n c (M : Int) B m d)) jq (N : Int) (M : Int) A B n c m d l k (by rw [← hz]; exact heap_alloc_new W0 _) (HL.out.below B10.out) (HK.out.below B10.out) (by omega) (by omega) HF.out HF2.out)
    have HS := Lib.hid hS
    clear e0 e1 y0 y1 hS hz
    refine KJ.out.mono ?_
    rintro e w11 (⟨hbig, rfl, b11⟩ | ⟨hle, v11, rfl, A11, c11, rfl, o11, b11⟩)
    · have bx := (Below.refl _ w11).alloc (Nat.le_refl _) (.cells #[.int .i64 0, .slice none 0 0] 24)
      have B12 := Lib.hid (up2 (up2 B10.out b11) bx)
      have e0 := ((X10.out.1.below b11).below bx).c0
      have y0 := ((X10.out.2.below b11).below bx).c0
      rw [hSI] at hbig
      clear b11 bx hSI
      go_wp2_with fail
      go_ret
      exact ⟨rfl, B12.out⟩
    obtain ⟨J, hJ⟩ : ∃ J, l ++ k.map (shT (N : Int)) = J := ⟨_, rfl⟩
    have hjn : J.length = n + m := by rw [← hJ, List.length_append, List.length_map, HL.out.1, HK.out.1]
    have hfj := fit_join HF.out HF2.out (by omega) (by rw [HL.out.1, HK.out.1]; omega)
    have hp1 := parts_first (N := N) (M := M) (la := l) (lb := k.map (shT (N : Int))) HF.out.2.2.2
    have hp2 := parts_second (N := N) (M := M) (la := l) (lb := k) HF2.out.2.2.2
    rw [HL.out.1, hJ, HS.out] at hp1
    rw [HL.out.1, HK.out.1, hJ, HS.out] at hp2
    rw [hJ, hSI] at hfj
    rw [hSI] at hle
    rw [hJ] at o11
    simp only [hJ, hSI]
    obtain ⟨j, hj⟩ : ∃ j, J.length = j := ⟨_, rfl⟩
    rw [hj] at o11 hjn
    simp only [hj]
    clear hj
    have HJ := Lib.hid hJ
    have HFJ := Lib.hid hfj
    have HP1 := Lib.hid hp1
    have HP2 := Lib.hid hp2
    have bx := (Below.refl _ w11).alloc (Nat.le_refl _) (.cells #[.int .i64 (S : Int), .slice A11 j c11] 24)
    have B12 := Lib.hid (up2 (up2 B10.out b11) bx)
    have X12 := Lib.hid (And.intro ((X10.out.1.below b11).below bx) ((X10.out.2.below b11).below bx))
    have J12 := Lib.hid (Bx.made w11 (S : Int) A11 j c11)
    have T12 := Lib.hid ((T3.of_own o11).below bx)
    have HJN := Lib.hid hjn
    clear hJ hfj hp1 hp2 b11 bx o11 hSI hjn
    have e0 := X12.out.1.c0
    have y0 := X12.out.2.c0
    have z0 := J12.out.c0
    obtain ⟨jb, hjb⟩ : ∃ jb, w11.heap.size = jb := ⟨_, rfl⟩
    have hbig : ¬ (4096 : Int) < S := by omega
    go_wp2_with fail
    obtain ⟨w12, hw12⟩ : ∃ w12, w11.alloc (.cells #[.int .i64 (S : Int), .slice A11 j c11] 24) = w12 := ⟨_, rfl⟩
    rw [hjb] at J12
    rw [hw12] at B12 X12 J12 T12
    simp only [hw12]
    clear hw12 hjb e0 y0 z0 hbig
    go_loopw [15, 16, 17] (P5At w12 n m) (fun _ _ i _ => n + m - (intOf i).toNat)
    case atStart => exact ⟨0, Nat.zero_le _, rfl, Below.refl _ _, Lists.start w12 n⟩
    case round =>
      obtain ⟨t, ht, rfl, hb, hli⟩ := hrel
      have HB3 := Lib.hid hb
      have HLI := Lib.hid hli
      have z1 := (J12.out.below hb).c1
      have e1 := (X12.out.1.below hb).c1
      clear hb
      by_cases hlt3 : t < n + m
      · have b3 : (t : Int) < j := by have := HJN.out; omega
        have O8 := Lib.hid (heap_alloc_new wr (.cells #[.int .i64 (t : Int)] 3))
        have B9 := Lib.hid (up1 HB3.out (.cells #[.int .i64 (t : Int)] 3))
        have L9 := Lib.hid (HLI.out.up ((Below.refl _ wr).alloc (Nat.le_refl _) (.cells #[.int .i64 (t : Int)] 3)))
        have R9 := Lib.hid (Reads.of_block (xs := ints [(t : Int)]) O8.out)
        clear hli
        rcases L9.out with ⟨h1, rfl, h3⟩ | ⟨r, Z, h1, h2, h3, h4, h5, h6⟩
        · have b4 : (t : Int) < n := by omega
          obtain ⟨Af, cf, rfl⟩ := ownK_form h3
          have O9 := Lib.hid h3
          clear h3 L9 HLI
          go_wp2_with (at_builtin; refine wpList_append_reads rfl (.tmp 168) (.tmp 170) 29 rfl _ 3 i0 (.int .i64 0) 8 Try.underlying29 HII.out HZZ.out rfl (.slice Af t cf) t (ints (upto 0 t)) rfl O9.out (some ⟨wr.heap.size, 0, none⟩) 1 1 (ints [(t : Int)]) rfl R9.out (fun e => (nomatch e)) (ints_one _) ?a1 ?a2 ?a3 ?_)
          case a1 => unfold maxLen; omega
          case a2 => omega
          case a3 => exact B9.out.size
          intro v' w13 own9 gr9
          have Z9 := Lib.hid (And.intro own9 (own_grown_below B9.out gr9 B9.out.size (fun q hq => ownK_lt O9.out q hq)))
          clear own9 gr9
          go_wp2_with fail
          go_roundw
          case rel => exact ⟨t + 1, by omega, by go_num, Z9.out.2, Lists.first h1 Z9.out.1 Z9.out.2.size⟩
          case measure => simp [intOf]; omega
        · have b4 : ¬ (t : Int) < n := by omega
          obtain ⟨Af, cf, rfl⟩ := ownK_form h2
          obtain ⟨As, cs9, rfl⟩ := ownK_form h6
          have O9 := Lib.hid h6
          have F9 := Lib.hid (And.intro h2 (And.intro h3 (And.intro h4 h5)))
          have HT9 := Lib.hid h1
          have hr : r ≤ 80 := by omega
          clear h1 h2 h3 h4 h5 h6 L9 HLI
          go_wp2_with (at_builtin; refine wpList_append_reads rfl (.tmp 172) (.tmp 174) 29 rfl _ 3 i0 (.int .i64 0) 8 Try.underlying29 HII.out HZZ.out rfl (.slice As r cs9) r (ints (upto n r)) rfl O9.out (some ⟨wr.heap.size, 0, none⟩) 1 1 (ints [(t : Int)]) rfl R9.out (fun e => (nomatch e)) (ints_one _) ?d1 ?d2 ?d3 ?_)
          case d1 => unfold maxLen; omega
          case d2 => omega
          case d3 => have := F9.out.2.2.2; rwa [World.size_alloc] at this
          intro v' w13 own9 gr9
          have Z9 := Lib.hid (own_grown_below B9.out gr9 B9.out.size (fun q hq => Nat.le_trans F9.out.2.2.1 (ownK_lt O9.out q hq)))
          have hs9 : ∀ q, (Value.slice As r cs9).ownBlock = some q → Z ≤ q := fun q hq => ownK_lt O9.out q hq
          have L13 := Lib.hid (show Lists w12 w13 n (.slice Af n cf) v' (t + 1) by
            have h9 := HT9.out
            subst h9
            exact Lists.second F9.out.1 F9.out.2.1 F9.out.2.2.1 F9.out.2.2.2 hs9 own9 gr9)
          clear own9 gr9 hs9
          go_wp2_with fail
          go_roundw
          case rel => exact ⟨t + 1, by omega, by go_num, Z9.out, L13.out⟩
          case measure => simp [intOf]; omega
      · have b3 : ¬ (t : Int) < j := by have := HJN.out; omega
        rcases hli with ⟨h1, _⟩ | ⟨r, Z, h1, h2, _, _, _, h6⟩
        · omega
        obtain rfl : r = m := by omega
        obtain ⟨Af, cf, rfl⟩ := ownK_form h2
        obtain ⟨As, cs9, rfl⟩ := ownK_form h6
        have RF := Lib.hid (own_lenI h2)
        have RS := Lib.hid (own_lenI h6)
        clear h1 h2 h6 HLI
        have z0 := (J12.out.below HB3.out).c0
        have KP1 := Lib.hid (spart_tell wr (S : Int) A11 Af j c11 n cf J (upto 0 n) (T12.out.below HB3.out) RF.out (by have := HJN.out; omega) (by omega))
        go_wp2_with fail
        refine KP1.out.mono ?_
        rintro e w14 ⟨N14, A14, m14, c14, l14, Ao14, mo14, co14, vs14, k14, rfl, a14, o14, oi14, hm14, hmo14, b14⟩
        obtain ⟨rfl, rfl, rfl, rfl⟩ := a14.ok HFJ.out (allIn_upto (by have := HJN.out; omega)) (upto_nodup 0 n)
        have hl14 := (own_lenI oi14).len
        subst hl14
        have hm14' := (T3.of_own o14).1
        rw [partL, List.length_map, upto_len] at hm14'
        subst hm14'
        have bx := (Below.refl _ w14).alloc (Nat.le_refl _) (.cells #[.int .i64 ((vertsUp J (upto 0 n) S).length : Int), .slice A14 n c14] 24)
        have B15 := Lib.hid (up2 (up2 (up2 B12.out HB3.out) b14) bx)
        have X15 := Lib.hid (And.intro (((X12.out.1.below HB3.out).below b14).below bx) (((X12.out.2.below HB3.out).below b14).below bx))
        have J15 := Lib.hid (((J12.out.below HB3.out).below b14).below bx)
        have T15 := Lib.hid (((T12.out.below HB3.out).below b14).below bx)
        have RS15 := Lib.hid ((RS.out.below b14).below bx)
        have Y15 := Lib.hid (Bx.made w14 ((vertsUp J (upto 0 n) S).length : Int) A14 n c14)
        have U15 := Lib.hid ((T3.of_own o14).below bx)
        clear a14 o14 oi14 hm14 b14 bx z0 z1 e1 RF RS
        obtain ⟨v14, hv14⟩ : ∃ v, vertsUp J (upto 0 n) S = v := ⟨_, rfl⟩
        have HQ1 := HP1.out
        rw [hv14] at B15 X15 J15 T15 RS15 Y15 U15 HQ1 hmo14
        simp only [hv14]
        clear hv14
        obtain ⟨o1, ho1⟩ : ∃ o, v14.length = o := ⟨_, rfl⟩
        rw [ho1] at B15 X15 J15 T15 RS15 Y15 U15 HQ1 hmo14
        simp only [ho1]
        clear ho1
        have HQ1 := Lib.hid HQ1
        have z0 := J15.out.c0
        have z1 := J15.out.c1
        obtain ⟨xb, hxb⟩ : ∃ xb, w14.heap.size = xb := ⟨_, rfl⟩
        have KP2 := Lib.hid (fun W (hT : T3 W A11 j J) (hR : Reads W As r (ints (upto n r))) => spart_tell W (S : Int) A11 As j c11 r cs9 J (upto n r) hT hR (by have := HJN.out; omega) (by omega))
        go_wp2_with fail
        obtain ⟨w15, hw15⟩ : ∃ w15, w14.alloc (.cells #[.int .i64 (o1 : Int), .slice A14 n c14] 24) = w15 := ⟨_, rfl⟩
        rw [hxb] at Y15
        rw [hw15] at B15 X15 J15 T15 RS15 Y15 U15
        simp only [hw15]
        clear hw15 hxb z0 z1
        refine (KP2.out _ T15.out RS15.out).mono ?_
        rintro e w16 ⟨N16, A16, m16, c16, l16, Ao16, mo16, co16, vs16, k16, rfl, a16, o16, oi16, hm16, hmo16, b16⟩
        obtain ⟨rfl, rfl, rfl, rfl⟩ := a16.ok HFJ.out (allIn_upto (by have := HJN.out; omega)) (upto_nodup n r)
        have hl16 := (own_lenI oi16).len
        subst hl16
        have hm16' := (T3.of_own o16).1
        rw [partL, List.length_map, upto_len] at hm16'
        subst hm16'
        have bx := (Below.refl _ w16).alloc (Nat.le_refl _) (.cells #[.int .i64 ((vertsUp J (upto n r) S).length : Int), .slice A16 r c16] 24)
        have B17 := Lib.hid (up2 (up2 B15.out b16) bx)
        have X17 := Lib.hid (And.intro ((X15.out.1.below b16).below bx) ((X15.out.2.below b16).below bx))
        have J17 := Lib.hid ((J15.out.below b16).below bx)
        have T17 := Lib.hid ((T15.out.below b16).below bx)
        have Y17 := Lib.hid ((Y15.out.below b16).below bx)
        have U17 := Lib.hid ((U15.out.below b16).below bx)
        have V17 := Lib.hid (Bx.made w16 ((vertsUp J (upto n r) S).length : Int) A16 r c16)
        have D17 := Lib.hid ((T3.of_own o16).below bx)
        clear a16 o16 oi16 hm16 b16 bx
        obtain ⟨v16, hv16⟩ : ∃ v, vertsUp J (upto n r) S = v := ⟨_, rfl⟩
        have HQ2 := HP2.out
        rw [hv16] at B17 X17 J17 T17 Y17 U17 V17 D17 HQ2 hmo16
        simp only [hv16]
        clear hv16
        obtain ⟨o2, ho2⟩ : ∃ o, v16.length = o := ⟨_, rfl⟩
        rw [ho2] at B17 X17 J17 T17 Y17 U17 V17 D17 HQ2 hmo16
        simp only [ho2]
        clear ho2
        have HQ2 := Lib.hid HQ2
        have e0 := X17.out.1.c0
        have y0 := X17.out.2.c0
        by_cases both : o1 = N ∧ o2 = M
        · obtain ⟨rfl, rfl⟩ := both
          have t1 := HQ1.out.2 rfl
          have t2 := HQ2.out.2 rfl
          rw [t1] at U17
          rw [t2] at D17
          clear t1 t2
          have x0 := Y17.out.c0
          have x1 := Y17.out.c1
          have v0 := V17.out.c0
          have v1 := V17.out.c1
          have B18 := Lib.hid (up1 B17.out (twoO (o1 : Int) A14 n c14 (o2 : Int) A16 r c16))
          have bz := (Below.refl _ (w16.alloc (.cells #[.int .i64 (o2 : Int), .slice A16 r c16] 24))).alloc (Nat.le_refl _) (twoO (o1 : Int) A14 n c14 (o2 : Int) A16 r c16)
          have KJ2 := Lib.hid (sjoin_two _ (w16.alloc (.cells #[.int .i64 (o2 : Int), .slice A16 r c16] 24)).heap.size (o1 : Int) (o2 : Int) A14 A16 n c14 r c16 l k (heap_alloc_new _ (twoO (o1 : Int) A14 n c14 (o2 : Int) A16 r c16)) (U17.out.below bz) (D17.out.below bz) (by omega) (by omega) HF.out HF2.out)
          have X18 := Lib.hid (And.intro (X17.out.1.below bz) (X17.out.2.below bz))
          have J18 := Lib.hid (And.intro (J17.out.below bz) (T17.out.below bz))
          have Y18 := Lib.hid (And.intro (Y17.out.below bz) (U17.out.below bz))
          have V18 := Lib.hid (And.intro (V17.out.below bz) (D17.out.below bz))
          have KS := Lib.hid ssame_any
          clear bz
          rw [World.size_alloc] at KJ2
          go_wp2_with fail
          obtain ⟨yb, hyb⟩ : ∃ yb, w16.heap.size = yb := ⟨_, rfl⟩
          rw [hyb] at V18 KJ2
          simp only [hyb]
          clear hyb
          refine KJ2.out.mono ?_
          rintro e w19 (⟨hbig, rfl, b19⟩ | ⟨hle2, v19, rfl, A19, c19, rfl, o19, b19⟩)
          · exfalso
            have := HS.out
            omega
          rw [HJ.out] at o19
          have hSI : (o1 : Int) + o2 = (S : Int) := by have := HS.out; omega
          have hj : J.length = j := T12.out.1
          simp only [HJ.out, hSI, hj]
          rw [hj] at o19
          have bx := (Below.refl _ w19).alloc (Nat.le_refl _) (.cells #[.int .i64 (S : Int), .slice A19 j c19] 24)
          have B20 := Lib.hid (up2 (up2 B18.out b19) bx)
          have X20 := Lib.hid (And.intro ((X18.out.1.below b19).below bx) ((X18.out.2.below b19).below bx))
          have J20 := Lib.hid (And.intro ((J18.out.1.below b19).below bx) ((J18.out.2.below b19).below bx))
          have Y20 := Lib.hid (And.intro ((Y18.out.1.below b19).below bx) ((Y18.out.2.below b19).below bx))
          have V20 := Lib.hid (And.intro ((V18.out.1.below b19).below bx) ((V18.out.2.below b19).below bx))
          have Z20 := Lib.hid (And.intro (Bx.made w19 (S : Int) A19 j c19) ((T3.of_own o19).below bx))
          clear b19 bx o19 hSI hj x0 x1 v0 v1 e0 y0 X18 J18 Y18 V18 hle2
          have e0 := X20.out.1.c0
          have e1 := X20.out.1.c1
          have x0 := Y20.out.1.c0
          have x1 := Y20.out.1.c1
          obtain ⟨zb, hzb⟩ : ∃ zb, w19.heap.size = zb := ⟨_, rfl⟩
          go_wp2_with fail
          obtain ⟨w20, hw20⟩ : ∃ w20, w19.alloc (.cells #[.int .i64 (S : Int), .slice A19 j c19] 24) = w20 := ⟨_, rfl⟩
          rw [hzb] at Z20
          rw [hw20] at B20 X20 J20 Y20 V20 Z20
          simp only [hw20]
          clear hw20 hzb e0 e1 x0 x1
          refine (KS.out _ (o1 : Int) (o1 : Int) A14 A n c14 n c l l Y20.out.2 (HL.out.below B20.out) (by omega)).mono ?_
          rintro e w21 ⟨rfl, b21⟩
          have B21 := Lib.hid (up2 B20.out b21)
          have y0 := (X20.out.2.below b21).c0
          have y1 := (X20.out.2.below b21).c1
          have v0 := (V20.out.1.below b21).c0
          have v1 := (V20.out.1.below b21).c1
          have D21 := Lib.hid (V20.out.2.below b21)
          have J21 := Lib.hid (And.intro (J20.out.1.below b21) (J20.out.2.below b21))
          have Z21 := Lib.hid (And.intro (Z20.out.1.below b21) (Z20.out.2.below b21))
          clear b21
          simp only [and_self, decide_true]
          go_wp2_with fail
          refine (KS.out _ (o2 : Int) (o2 : Int) A16 B r c16 r d k k D21.out (HK.out.below B21.out) (by omega)).mono ?_
          rintro e w22 ⟨rfl, b22⟩
          have B22 := Lib.hid (up2 B21.out b22)
          have z0 := (J21.out.1.below b22).c0
          have z1 := (J21.out.1.below b22).c1
          have s0 := (Z21.out.1.below b22).c0
          have s1 := (Z21.out.1.below b22).c1
          have T22 := Lib.hid (And.intro (J21.out.2.below b22) (Z21.out.2.below b22))
          clear b22 y0 y1 v0 v1
          simp only [and_self, decide_true]
          go_wp2_with fail
          refine (KS.out _ (S : Int) (S : Int) A19 A11 j c19 j c11 J J T22.out.2 T22.out.1 (by have := HJN.out; omega)).mono ?_
          rintro e w23 ⟨rfl, b23⟩
          have B23 := Lib.hid (up2 B22.out b23)
          clear b23 z0 z1 s0 s1
          simp only [and_self, decide_true]
          go_wp2_with fail
          go_ret
          exact ⟨rfl, B23.out⟩
        · have l1 : (o1 : Int) ≤ N := by have := HQ1.out.1; omega
          have l2 : (o2 : Int) ≤ M := by have := HQ2.out.1; omega
          by_cases c1 : o1 = N
          · have f1 : ((o1 : Int) == (N : Int)) = true := beq_iff_eq.2 (by omega)
            have f2 : ((o2 : Int) == (M : Int)) = false := by
              have : o2 ≠ M := fun h => both ⟨c1, h⟩
              exact beq_eq_false_iff_ne.2 (by omega)
            clear both c1
            go_wp2_with fail
            go_ret
            exact ⟨rfl, B17.out⟩
          · have f1 : ((o1 : Int) == (N : Int)) = false := beq_eq_false_iff_ne.2 (by omega)
            clear both c1
            go_wp2_with fail
            go_ret
            exact ⟨rfl, B17.out⟩
  subst hk0
  obtain ⟨hin, hnd, rfl, rfl, rfl⟩ := A7.out.zero rfl
  have hlo := I7.out.len
  have hlp : (partL l (vertsUp l cs N) cs).length = p := by rw [partL, List.length_map, HT.out.len]
  have hm6' := T7.out.1
  rw [hlp] at hm6'
  subst hm6'
  subst hlo
  have HIN := Lib.hid hin
  have hin' : allIn (l.length : Int) cs := by rw [HL.out.1]; exact hin
  have HTRI := Lib.hid (fun i (hk : i < cs.length) => part_tri HF.out hin' hk)
  have HPF := Lib.hid (part_fit HF.out hin' (by rw [HT.out.len]; omega))
  have HLT := Lib.hid (fun t (h : t + 1 < (vertsUp l cs N).length) => verts_lt h)
  clear hin hin' hnd A7 hlp
  obtain ⟨vs, hvs⟩ : ∃ vs, vertsUp l cs N = vs := ⟨_, rfl⟩
  obtain ⟨pl, hpl⟩ : ∃ pl, partL l (vertsUp l cs N) cs = pl := ⟨_, rfl⟩
  rw [hpl] at T7 HTRI HPF
  rw [hvs] at I7 HTRI HPF HLT P7 B7 X7 T7 hmo6
  simp only [hvs]
  clear hvs hpl
  obtain ⟨mo, hmo⟩ : ∃ mo, vs.length = mo := ⟨_, rfl⟩
  rw [hmo] at I7 HPF HLT P7 B7 X7 T7 hmo6 HTRI
  simp only [hmo]
  clear hmo
  obtain ⟨pb, hpb⟩ : ∃ pb, w6.heap.size = pb := ⟨_, rfl⟩
  have p0 := P7.out.c0
  have p1 := P7.out.c1
  have KF3 := Lib.hid (fun W (h : T3 W A6 p pl) => sfits_any W (mo : Int) A6 p c6 pl h (by omega))
  rw [hpb] at P7
  go_wp2_with fail
  obtain ⟨W0, hW0⟩ : ∃ W0, w6.alloc (.cells #[.int .i64 (mo : Int), .slice A6 p c6] 24) = W0 := ⟨_, rfl⟩
  rw [hW0] at B7 X7 P7 T7 I7
  simp only [hW0]
  clear hW0 hpb p0 p1
  refine (KF3.out _ T7.out).mono ?_
  rintro e w8 ⟨rfl, b8⟩
  have B8 := Lib.hid (up2 B7.out b8)
  have X8 := Lib.hid (And.intro (X7.out.1.below b8) (X7.out.2.below b8))
  have P8 := Lib.hid (P7.out.below b8)
  have T8 := Lib.hid (T7.out.below b8)
  have I8 := Lib.hid (I7.out.below b8)
  clear b8 B7 X7 P7 T7 I7
  simp only [decide_eq_true HPF.out]
  go_wp2_with fail
  go_loopw [10] (P3At w8 p) (fun i _ => p - (intOf i).toNat)
  case atStart => exact ⟨0, Nat.zero_le _, rfl, Below.refl _ _⟩
  case round =>
    obtain ⟨t, ht, rfl, hb⟩ := hrel
    have HB := Lib.hid hb
    have BW := Lib.hid (up2 B8.out hb)
    have p1 := (P8.out.below hb).c1
    clear hb
    by_cases hlt : t < p
    · have b1 : (t : Int) < p := by omega
      obtain ⟨pk, po, rfl, hat⟩ := (T8.out.below HB.out).2 (by omega)
      obtain ⟨c0, c1, c2⟩ := hat t hlt
      clear hat
      obtain ⟨x, hx⟩ : ∃ x, pl.getD t z3 = x := ⟨_, rfl⟩
      have htl : t < cs.length := by rw [HT.out.len]; exact hlt
      obtain ⟨hok, hu0, hu1, hu2⟩ := HTRI.out t htl
      have hmem := getDi_mem htl
      have hin := HIN.out _ hmem
      obtain ⟨a, ha⟩ : ∃ a : Nat, (cs.getD t 0).toNat = a := ⟨_, rfl⟩
      have hCa : cs.getD t 0 = (a : Int) := by have := hin.1; omega
      have han : a < n := by have := hin.2; omega
      have b5 : (a : Int) < n := by omega
      rw [hx] at c0 c1 c2 hok hu0 hu1 hu2
      rw [hCa] at hu0 hu1 hu2
      rw [show ((a : Nat) : Int).toNat = a from rfl] at hu0 hu1 hu2
      clear hx
      obtain ⟨x0, x1, x2⟩ := x
      obtain ⟨q0, q1, q2, _⟩ := hok
      simp only [inN] at q0 q1 q2
      obtain ⟨k0, rfl⟩ : ∃ k : Nat, x0 = k := ⟨x0.toNat, by omega⟩
      obtain ⟨k1, rfl⟩ : ∃ k : Nat, x1 = k := ⟨x1.toNat, by omega⟩
      obtain ⟨k2, rfl⟩ : ∃ k : Nat, x2 = k := ⟨x2.toNat, by omega⟩
      have r0 : (k0 : Int) < mo := q0.2
      have r1 : (k1 : Int) < mo := q1.2
      have r2 : (k2 : Int) < mo := q2.2
      clear q0 q1 q2 hmem hin htl
      simp only [show ((k0 : Nat) : Int).toNat = k0 from rfl, show ((k1 : Nat) : Int).toNat = k1 from rfl, show ((k2 : Nat) : Int).toNat = k2 from rfl] at hu0 hu1 hu2
      have HU := Lib.hid (And.intro hu0 (And.intro hu1 hu2))
      have HCA := Lib.hid hCa
      clear hu0 hu1 hu2 hCa ha
      have B5' := (Below.refl _ wr).alloc (Nat.le_refl _) (.cells #[.int .i64 (k0 : Int), .int .i64 (k1 : Int), .int .i64 (k2 : Int)] 51)
      have hb5 := heap_alloc_new wr (.cells #[.int .i64 (k0 : Int), .int .i64 (k1 : Int), .int .i64 (k2 : Int)] 51)
      go_wp2_with fail
      obtain ⟨w9, hw9⟩ : ∃ w9, wr.alloc (.cells #[.int .i64 (k0 : Int), .int .i64 (k1 : Int), .int .i64 (k2 : Int)] 51) = w9 := ⟨_, rfl⟩
      obtain ⟨tb, htb⟩ : ∃ tb, wr.heap.size = tb := ⟨_, rfl⟩
      rw [hw9] at B5' hb5
      have HBO := Lib.hid (up2 HB.out B5')
      have BW5 := Lib.hid (up2 BW.out B5')
      rw [htb] at hb5
      simp only [hw9, htb]
      clear hw9 htb B5' c0 c1 c2 p1
      have e1 := (X8.out.1.below HBO.out).c1
      obtain ⟨ad, rfl, t0⟩ := (HT.out.below BW5.out).int t (by omega)
      rw [HCA.out] at t0
      obtain ⟨av, rfl, v0⟩ := (I8.out.below HBO.out).int k0 (by omega)
      obtain ⟨_, hv, v1⟩ := (I8.out.below HBO.out).int k1 (by omega)
      injection hv with hv
      subst hv
      obtain ⟨_, hv, v2⟩ := (I8.out.below HBO.out).int k2 (by omega)
      injection hv with hv
      subst hv
      rw [HU.out.1] at v0
      rw [HU.out.2.1] at v1
      rw [HU.out.2.2] at v2
      obtain ⟨lb, lo, rfl, hat⟩ := (HL.out.below BW5.out).2 (by omega)
      obtain ⟨d0, d1, d2⟩ := hat a han
      clear hat
      have q0 : w9.cell? ⟨tb, 0, none⟩ = some (.int .i64 (k0 : Int)) := by rw [cell_in hb5]; rfl
      have q1 : w9.cell? ⟨tb, 1, none⟩ = some (.int .i64 (k1 : Int)) := by rw [cell_in hb5]; rfl
      have q2 : w9.cell? ⟨tb, 2, none⟩ = some (.int .i64 (k2 : Int)) := by rw [cell_in hb5]; rfl
      obtain ⟨u0, g0⟩ : ∃ u, (l.getD a z3).1 = u := ⟨_, rfl⟩
      obtain ⟨u1, g1⟩ : ∃ u, (l.getD a z3).2.1 = u := ⟨_, rfl⟩
      obtain ⟨u2, g2⟩ : ∃ u, (l.getD a z3).2.2 = u := ⟨_, rfl⟩
      rw [g0] at v0 d0
      rw [g1] at v1 d1
      rw [g2] at v2 d2
      clear g0 g1 g2 hb5
      have gd := fun op u v s => run_eqGuard_agg (P := Try.prog) (w9.drewN s) op 51 u v #[.int .i64 u0, .int .i64 u1, .int .i64 u2] #[.int .i64 u0, .int .i64 u1, .int .i64 u2] Try.eqGuardType51
      have nq := fun s => eqIn3 (w9.drewN s) u0 u1 u2 u0 u1 u2
      rw [(eq3_iff (u0, u1, u2) (u0, u1, u2)).2 rfl] at nq
      go_quiet (fail)
      go_wp2_with fail
      exact ⟨⟨t + 1, by omega, by go_num, HBO.out.trans ((Reading.below ⟨_, rfl⟩).mono HBO.out.size)⟩, by simp [intOf]; omega⟩
    · obtain rfl : t = p := by omega
      have b1 : ¬ (t : Int) < t := by omega
      go_wp2_with fail
      go_loopw [12] (P4At w8 mo) (fun i _ => mo + 1 - (intOf i).toNat)
      case atStart => exact ⟨1, Nat.le_refl _, by omega, rfl, HB.out⟩
      case round =>
        obtain ⟨s, hs1, hs, rfl, hb⟩ := hrel
        have HB2 := Lib.hid hb
        have BW2 := Lib.hid (up2 B8.out hb)
        clear hb
        by_cases hlt2 : s < mo
        · have b2 : (s : Int) < mo := by omega
          obtain ⟨r, hr⟩ : ∃ r, s - 1 = r := ⟨_, rfl⟩
          have hr1 : s = r + 1 := by omega
          have b3 : (r : Int) < mo := by omega
          obtain ⟨av, rfl, v0⟩ := (I8.out.below HB2.out).int r (by omega)
          obtain ⟨_, hv, v1⟩ := (I8.out.below HB2.out).int s (by omega)
          injection hv with hv
          subst hv
          have hlt3 := HLT.out r (by omega)
          rw [← hr1] at hlt3
          obtain ⟨u0, g0⟩ : ∃ u, vs.getD r 0 = u := ⟨_, rfl⟩
          obtain ⟨u1, g1⟩ : ∃ u, vs.getD s 0 = u := ⟨_, rfl⟩
          rw [g0] at v0 hlt3
          rw [g1] at v1 hlt3
          have f2 : ¬ u1 ≤ u0 := by omega
          have ws : IntKind.i64.wrap ((s : Int) - 1) = (r : Int) := by
            rw [show (s : Int) - 1 = (r : Int) by omega]
            exact IntWalk.i64_in _ (by omega)
          clear g0 g1 hlt3 hr hr1
          go_wp2_with fail
          go_quiet (fail)
          go_wp2_with fail
          exact ⟨⟨s + 1, by omega, by omega, by go_num, HB2.out.trans ((Reading.below ⟨_, rfl⟩).mono HB2.out.size)⟩, by simp [intOf]; omega⟩
        · have b2 : ¬ (s : Int) < mo := by omega
          have BT := BW2
          have XT := Lib.hid (And.intro (X8.out.1.below HB2.out) (X8.out.2.below HB2.out))
          obtain ⟨W0, rfl⟩ : ∃ W0, W0 = wr := ⟨wr, rfl⟩
          have e0 := XT.out.1.c0
          have e1 := XT.out.1.c1
          have y0 := XT.out.2.c0
          have y1 := XT.out.2.c1
          clear p1
          go_wp2_with fail
          clear b2
          obtain ⟨jq, hz⟩ : ∃ q, W0.heap.size = q := ⟨_, rfl⟩
          simp only [hz]
          have hN2 := HF.out.2.1
          have hM2 := HF2.out.2.1
          obtain ⟨S, hS⟩ : ∃ S : Nat, N + M = S := ⟨_, rfl⟩
          have hSI : (N : Int) + M = (S : Int) := by omega
          have wN : IntKind.i64.wrap ((N : Int) + M) = (S : Int) := by rw [hSI]; exact IntWalk.i64_in _ (by omega)
          have B10 := Lib.hid (up1 BT.out (twoO (N : Int) A n c (M : Int) B m d))
          have X10 := Lib.hid (And.intro (XT.out.1.below ((Below.refl _ W0).alloc (Nat.le_refl _) (twoO (N : Int) A n c (M : Int) B m d))) (XT.out.2.below ((Below.refl _ W0).alloc (Nat.le_refl _) (twoO (N : Int) A n c (M : Int) B m d))))
          have KJ := Lib.hid (sjoin_two (W0.alloc (twoO (N : Int) A n c (M : Int) B m d)) jq (N : Int) (M : Int) A B n c m d l k (by rw [← hz]; exact heap_alloc_new W0 _) (HL.out.below B10.out) (HK.out.below B10.out) (by omega) (by omega) HF.out HF2.out)
          have HS := Lib.hid hS
          clear e0 e1 y0 y1 hS hz
          refine KJ.out.mono ?_
          rintro e w11 (⟨hbig, rfl, b11⟩ | ⟨hle, v11, rfl, A11, c11, rfl, o11, b11⟩)
          · have bx := (Below.refl _ w11).alloc (Nat.le_refl _) (.cells #[.int .i64 0, .slice none 0 0] 24)
            have B12 := Lib.hid (up2 (up2 B10.out b11) bx)
            have e0 := ((X10.out.1.below b11).below bx).c0
            have y0 := ((X10.out.2.below b11).below bx).c0
            rw [hSI] at hbig
            clear b11 bx hSI
            go_wp2_with fail
            go_ret
            exact ⟨rfl, B12.out⟩
          obtain ⟨J, hJ⟩ : ∃ J, l ++ k.map (shT (N : Int)) = J := ⟨_, rfl⟩
          have hjn : J.length = n + m := by rw [← hJ, List.length_append, List.length_map, HL.out.1, HK.out.1]
          have hfj := fit_join HF.out HF2.out (by omega) (by rw [HL.out.1, HK.out.1]; omega)
          have hp1 := parts_first (N := N) (M := M) (la := l) (lb := k.map (shT (N : Int))) HF.out.2.2.2
          have hp2 := parts_second (N := N) (M := M) (la := l) (lb := k) HF2.out.2.2.2
          rw [HL.out.1, hJ, HS.out] at hp1
          rw [HL.out.1, HK.out.1, hJ, HS.out] at hp2
          rw [hJ, hSI] at hfj
          rw [hSI] at hle
          rw [hJ] at o11
          simp only [hJ, hSI]
          obtain ⟨j, hj⟩ : ∃ j, J.length = j := ⟨_, rfl⟩
          rw [hj] at o11 hjn
          simp only [hj]
          clear hj
          have HJ := Lib.hid hJ
          have HFJ := Lib.hid hfj
          have HP1 := Lib.hid hp1
          have HP2 := Lib.hid hp2
          have bx := (Below.refl _ w11).alloc (Nat.le_refl _) (.cells #[.int .i64 (S : Int), .slice A11 j c11] 24)
          have B12 := Lib.hid (up2 (up2 B10.out b11) bx)
          have X12 := Lib.hid (And.intro ((X10.out.1.below b11).below bx) ((X10.out.2.below b11).below bx))
          have J12 := Lib.hid (Bx.made w11 (S : Int) A11 j c11)
          have T12 := Lib.hid ((T3.of_own o11).below bx)
          have HJN := Lib.hid hjn
          clear hJ hfj hp1 hp2 b11 bx o11 hSI hjn
          have e0 := X12.out.1.c0
          have y0 := X12.out.2.c0
          have z0 := J12.out.c0
          obtain ⟨jb, hjb⟩ : ∃ jb, w11.heap.size = jb := ⟨_, rfl⟩
          have hbig : ¬ (4096 : Int) < S := by omega
          go_wp2_with fail
          obtain ⟨w12, hw12⟩ : ∃ w12, w11.alloc (.cells #[.int .i64 (S : Int), .slice A11 j c11] 24) = w12 := ⟨_, rfl⟩
          rw [hjb] at J12
          rw [hw12] at B12 X12 J12 T12
          simp only [hw12]
          clear hw12 hjb e0 y0 z0 hbig
          go_loopw [15, 16, 17] (P5At w12 n m) (fun _ _ i _ => n + m - (intOf i).toNat)
          case atStart => exact ⟨0, Nat.zero_le _, rfl, Below.refl _ _, Lists.start w12 n⟩
          case round =>
            obtain ⟨t, ht, rfl, hb, hli⟩ := hrel
            have HB3 := Lib.hid hb
            have HLI := Lib.hid hli
            have z1 := (J12.out.below hb).c1
            have e1 := (X12.out.1.below hb).c1
            clear hb
            by_cases hlt3 : t < n + m
            · have b3 : (t : Int) < j := by have := HJN.out; omega
              have O8 := Lib.hid (heap_alloc_new wr (.cells #[.int .i64 (t : Int)] 3))
              have B9 := Lib.hid (up1 HB3.out (.cells #[.int .i64 (t : Int)] 3))
              have L9 := Lib.hid (HLI.out.up ((Below.refl _ wr).alloc (Nat.le_refl _) (.cells #[.int .i64 (t : Int)] 3)))
              have R9 := Lib.hid (Reads.of_block (xs := ints [(t : Int)]) O8.out)
              clear hli
              rcases L9.out with ⟨h1, rfl, h3⟩ | ⟨r, Z, h1, h2, h3, h4, h5, h6⟩
              · have b4 : (t : Int) < n := by omega
                obtain ⟨Af, cf, rfl⟩ := ownK_form h3
                have O9 := Lib.hid h3
                clear h3 L9 HLI
                go_wp2_with (at_builtin; refine wpList_append_reads rfl (.tmp 168) (.tmp 170) 29 rfl _ 3 i0 (.int .i64 0) 8 Try.underlying29 HII.out HZZ.out rfl (.slice Af t cf) t (ints (upto 0 t)) rfl O9.out (some ⟨wr.heap.size, 0, none⟩) 1 1 (ints [(t : Int)]) rfl R9.out (fun e => (nomatch e)) (ints_one _) ?a1 ?a2 ?a3 ?_)
                case a1 => unfold maxLen; omega
                case a2 => omega
                case a3 => exact B9.out.size
                intro v' w13 own9 gr9
                have Z9 := Lib.hid (And.intro own9 (own_grown_below B9.out gr9 B9.out.size (fun q hq => ownK_lt O9.out q hq)))
                clear own9 gr9
                go_wp2_with fail
                go_roundw
                case rel => exact ⟨t + 1, by omega, by go_num, Z9.out.2, Lists.first h1 Z9.out.1 Z9.out.2.size⟩
                case measure => simp [intOf]; omega
              · have b4 : ¬ (t : Int) < n := by omega
                obtain ⟨Af, cf, rfl⟩ := ownK_form h2
                obtain ⟨As, cs9, rfl⟩ := ownK_form h6
                have O9 := Lib.hid h6
                have F9 := Lib.hid (And.intro h2 (And.intro h3 (And.intro h4 h5)))
                have HT9 := Lib.hid h1
                have hr : r ≤ 80 := by omega
                clear h1 h2 h3 h4 h5 h6 L9 HLI
                go_wp2_with (at_builtin; refine wpList_append_reads rfl (.tmp 172) (.tmp 174) 29 rfl _ 3 i0 (.int .i64 0) 8 Try.underlying29 HII.out HZZ.out rfl (.slice As r cs9) r (ints (upto n r)) rfl O9.out (some ⟨wr.heap.size, 0, none⟩) 1 1 (ints [(t : Int)]) rfl R9.out (fun e => (nomatch e)) (ints_one _) ?d1 ?d2 ?d3 ?_)
                case d1 => unfold maxLen; omega
                case d2 => omega
                case d3 => have := F9.out.2.2.2; rwa [World.size_alloc] at this
                intro v' w13 own9 gr9
                have Z9 := Lib.hid (own_grown_below B9.out gr9 B9.out.size (fun q hq => Nat.le_trans F9.out.2.2.1 (ownK_lt O9.out q hq)))
                have hs9 : ∀ q, (Value.slice As r cs9).ownBlock = some q → Z ≤ q := fun q hq => ownK_lt O9.out q hq
                have L13 := Lib.hid (show Lists w12 w13 n (.slice Af n cf) v' (t + 1) by
                  have h9 := HT9.out
                  subst h9
                  exact Lists.second F9.out.1 F9.out.2.1 F9.out.2.2.1 F9.out.2.2.2 hs9 own9 gr9)
                clear own9 gr9 hs9
                go_wp2_with fail
                go_roundw
                case rel => exact ⟨t + 1, by omega, by go_num, Z9.out, L13.out⟩
                case measure => simp [intOf]; omega
            · have b3 : ¬ (t : Int) < j := by have := HJN.out; omega
              rcases hli with ⟨h1, _⟩ | ⟨r, Z, h1, h2, _, _, _, h6⟩
              · omega
              obtain rfl : r = m := by omega
              obtain ⟨Af, cf, rfl⟩ := ownK_form h2
              obtain ⟨As, cs9, rfl⟩ := ownK_form h6
              have RF := Lib.hid (own_lenI h2)
              have RS := Lib.hid (own_lenI h6)
              clear h1 h2 h6 HLI
              have z0 := (J12.out.below HB3.out).c0
              have KP1 := Lib.hid (spart_tell wr (S : Int) A11 Af j c11 n cf J (upto 0 n) (T12.out.below HB3.out) RF.out (by have := HJN.out; omega) (by omega))
              go_wp2_with fail
              refine KP1.out.mono ?_
              rintro e w14 ⟨N14, A14, m14, c14, l14, Ao14, mo14, co14, vs14, k14, rfl, a14, o14, oi14, hm14, hmo14, b14⟩
              obtain ⟨rfl, rfl, rfl, rfl⟩ := a14.ok HFJ.out (allIn_upto (by have := HJN.out; omega)) (upto_nodup 0 n)
              have hl14 := (own_lenI oi14).len
              subst hl14
              have hm14' := (T3.of_own o14).1
              rw [partL, List.length_map, upto_len] at hm14'
              subst hm14'
              have bx := (Below.refl _ w14).alloc (Nat.le_refl _) (.cells #[.int .i64 ((vertsUp J (upto 0 n) S).length : Int), .slice A14 n c14] 24)
              have B15 := Lib.hid (up2 (up2 (up2 B12.out HB3.out) b14) bx)
              have X15 := Lib.hid (And.intro (((X12.out.1.below HB3.out).below b14).below bx) (((X12.out.2.below HB3.out).below b14).below bx))
              have J15 := Lib.hid (((J12.out.below HB3.out).below b14).below bx)
              have T15 := Lib.hid (((T12.out.below HB3.out).below b14).below bx)
              have RS15 := Lib.hid ((RS.out.below b14).below bx)
              have Y15 := Lib.hid (Bx.made w14 ((vertsUp J (upto 0 n) S).length : Int) A14 n c14)
              have U15 := Lib.hid ((T3.of_own o14).below bx)
              clear a14 o14 oi14 hm14 b14 bx z0 z1 e1 RF RS
              obtain ⟨v14, hv14⟩ : ∃ v, vertsUp J (upto 0 n) S = v := ⟨_, rfl⟩
              have HQ1 := HP1.out
              rw [hv14] at B15 X15 J15 T15 RS15 Y15 U15 HQ1 hmo14
              simp only [hv14]
              clear hv14
              obtain ⟨o1, ho1⟩ : ∃ o, v14.length = o := ⟨_, rfl⟩
              rw [ho1] at B15 X15 J15 T15 RS15 Y15 U15 HQ1 hmo14
              simp only [ho1]
              clear ho1
              have HQ1 := Lib.hid HQ1
              have z0 := J15.out.c0
              have z1 := J15.out.c1
              obtain ⟨xb, hxb⟩ : ∃ xb, w14.heap.size = xb := ⟨_, rfl⟩
              have KP2 := Lib.hid (fun W (hT : T3 W A11 j J) (hR : Reads W As r (ints (upto n r))) => spart_tell W (S : Int) A11 As j c11 r cs9 J (upto n r) hT hR (by have := HJN.out; omega) (by omega))
              go_wp2_with fail
              obtain ⟨w15, hw15⟩ : ∃ w15, w14.alloc (.cells #[.int .i64 (o1 : Int), .slice A14 n c14] 24) = w15 := ⟨_, rfl⟩
              rw [hxb] at Y15
              rw [hw15] at B15 X15 J15 T15 RS15 Y15 U15
              simp only [hw15]
              clear hw15 hxb z0 z1
              refine (KP2.out _ T15.out RS15.out).mono ?_
              rintro e w16 ⟨N16, A16, m16, c16, l16, Ao16, mo16, co16, vs16, k16, rfl, a16, o16, oi16, hm16, hmo16, b16⟩
              obtain ⟨rfl, rfl, rfl, rfl⟩ := a16.ok HFJ.out (allIn_upto (by have := HJN.out; omega)) (upto_nodup n r)
              have hl16 := (own_lenI oi16).len
              subst hl16
              have hm16' := (T3.of_own o16).1
              rw [partL, List.length_map, upto_len] at hm16'
              subst hm16'
              have bx := (Below.refl _ w16).alloc (Nat.le_refl _) (.cells #[.int .i64 ((vertsUp J (upto n r) S).length : Int), .slice A16 r c16] 24)
              have B17 := Lib.hid (up2 (up2 B15.out b16) bx)
              have X17 := Lib.hid (And.intro ((X15.out.1.below b16).below bx) ((X15.out.2.below b16).below bx))
              have J17 := Lib.hid ((J15.out.below b16).below bx)
              have T17 := Lib.hid ((T15.out.below b16).below bx)
              have Y17 := Lib.hid ((Y15.out.below b16).below bx)
              have U17 := Lib.hid ((U15.out.below b16).below bx)
              have V17 := Lib.hid (Bx.made w16 ((vertsUp J (upto n r) S).length : Int) A16 r c16)
              have D17 := Lib.hid ((T3.of_own o16).below bx)
              clear a16 o16 oi16 hm16 b16 bx
              obtain ⟨v16, hv16⟩ : ∃ v, vertsUp J (upto n r) S = v := ⟨_, rfl⟩
              have HQ2 := HP2.out
              rw [hv16] at B17 X17 J17 T17 Y17 U17 V17 D17 HQ2 hmo16
              simp only [hv16]
              clear hv16
              obtain ⟨o2, ho2⟩ : ∃ o, v16.length = o := ⟨_, rfl⟩
              rw [ho2] at B17 X17 J17 T17 Y17 U17 V17 D17 HQ2 hmo16
              simp only [ho2]
              clear ho2
              have HQ2 := Lib.hid HQ2
              have e0 := X17.out.1.c0
              have y0 := X17.out.2.c0
              by_cases both : o1 = N ∧ o2 = M
              · obtain ⟨rfl, rfl⟩ := both
                have t1 := HQ1.out.2 rfl
                have t2 := HQ2.out.2 rfl
                rw [t1] at U17
                rw [t2] at D17
                clear t1 t2
                have x0 := Y17.out.c0
                have x1 := Y17.out.c1
                have v0 := V17.out.c0
                have v1 := V17.out.c1
                have B18 := Lib.hid (up1 B17.out (twoO (o1 : Int) A14 n c14 (o2 : Int) A16 r c16))
                have bz := (Below.refl _ (w16.alloc (.cells #[.int .i64 (o2 : Int), .slice A16 r c16] 24))).alloc (Nat.le_refl _) (twoO (o1 : Int) A14 n c14 (o2 : Int) A16 r c16)
                have KJ2 := Lib.hid (sjoin_two _ (w16.alloc (.cells #[.int .i64 (o2 : Int), .slice A16 r c16] 24)).heap.size (o1 : Int) (o2 : Int) A14 A16 n c14 r c16 l k (heap_alloc_new _ (twoO (o1 : Int) A14 n c14 (o2 : Int) A16 r c16)) (U17.out.below bz) (D17.out.below bz) (by omega) (by omega) HF.out HF2.out)
                have X18 := Lib.hid (And.intro (X17.out.1.below bz) (X17.out.2.below bz))
                have J18 := Lib.hid (And.intro (J17.out.below bz) (T17.out.below bz))
                have Y18 := Lib.hid (And.intro (Y17.out.below bz) (U17.out.below bz))
                have V18 := Lib.hid (And.intro (V17.out.below bz) (D17.out.below bz))
                have KS := Lib.hid ssame_any
                clear bz
                rw [World.size_alloc] at KJ2
                go_wp2_with fail
                obtain ⟨yb, hyb⟩ : ∃ yb, w16.heap.size = yb := ⟨_, rfl⟩
                rw [hyb] at V18 KJ2
                simp only [hyb]
                clear hyb
                refine KJ2.out.mono ?_
                rintro e w19 (⟨hbig, rfl, b19⟩ | ⟨hle2, v19, rfl, A19, c19, rfl, o19, b19⟩)
                · exfalso
                  have := HS.out
                  omega
                rw [HJ.out] at o19
                have hSI : (o1 : Int) + o2 = (S : Int) := by have := HS.out; omega
                have hj : J.length = j := T12.out.1
                simp only [HJ.out, hSI, hj]
                rw [hj] at o19
                have bx := (Below.refl _ w19).alloc (Nat.le_refl _) (.cells #[.int .i64 (S : Int), .slice A19 j c19] 24)
                have B20 := Lib.hid (up2 (up2 B18.out b19) bx)
                have X20 := Lib.hid (And.intro ((X18.out.1.below b19).below bx) ((X18.out.2.below b19).below bx))
                have J20 := Lib.hid (And.intro ((J18.out.1.below b19).below bx) ((J18.out.2.below b19).below bx))
                have Y20 := Lib.hid (And.intro ((Y18.out.1.below b19).below bx) ((Y18.out.2.below b19).below bx))
                have V20 := Lib.hid (And.intro ((V18.out.1.below b19).below bx) ((V18.out.2.below b19).below bx))
                have Z20 := Lib.hid (And.intro (Bx.made w19 (S : Int) A19 j c19) ((T3.of_own o19).below bx))
                clear b19 bx o19 hSI hj x0 x1 v0 v1 e0 y0 X18 J18 Y18 V18 hle2
                have e0 := X20.out.1.c0
                have e1 := X20.out.1.c1
                have x0 := Y20.out.1.c0
                have x1 := Y20.out.1.c1
                obtain ⟨zb, hzb⟩ : ∃ zb, w19.heap.size = zb := ⟨_, rfl⟩
                go_wp2_with fail
                obtain ⟨w20, hw20⟩ : ∃ w20, w19.alloc (.cells #[.int .i64 (S : Int), .slice A19 j c19] 24) = w20 := ⟨_, rfl⟩
                rw [hzb] at Z20
                rw [hw20] at B20 X20 J20 Y20 V20 Z20
                simp only [hw20]
                clear hw20 hzb e0 e1 x0 x1
                refine (KS.out _ (o1 : Int) (o1 : Int) A14 A n c14 n c l l Y20.out.2 (HL.out.below B20.out) (by omega)).mono ?_
                rintro e w21 ⟨rfl, b21⟩
                have B21 := Lib.hid (up2 B20.out b21)
                have y0 := (X20.out.2.below b21).c0
                have y1 := (X20.out.2.below b21).c1
                have v0 := (V20.out.1.below b21).c0
                have v1 := (V20.out.1.below b21).c1
                have D21 := Lib.hid (V20.out.2.below b21)
                have J21 := Lib.hid (And.intro (J20.out.1.below b21) (J20.out.2.below b21))
                have Z21 := Lib.hid (And.intro (Z20.out.1.below b21) (Z20.out.2.below b21))
                clear b21
                simp only [and_self, decide_true]
                go_wp2_with fail
                refine (KS.out _ (o2 : Int) (o2 : Int) A16 B r c16 r d k k D21.out (HK.out.below B21.out) (by omega)).mono ?_
                rintro e w22 ⟨rfl, b22⟩
                have B22 := Lib.hid (up2 B21.out b22)
                have z0 := (J21.out.1.below b22).c0
                have z1 := (J21.out.1.below b22).c1
                have s0 := (Z21.out.1.below b22).c0
                have s1 := (Z21.out.1.below b22).c1
                have T22 := Lib.hid (And.intro (J21.out.2.below b22) (Z21.out.2.below b22))
                clear b22 y0 y1 v0 v1
                simp only [and_self, decide_true]
                go_wp2_with fail
                refine (KS.out _ (S : Int) (S : Int) A19 A11 j c19 j c11 J J T22.out.2 T22.out.1 (by have := HJN.out; omega)).mono ?_
                rintro e w23 ⟨rfl, b23⟩
                have B23 := Lib.hid (up2 B22.out b23)
                clear b23 z0 z1 s0 s1
                simp only [and_self, decide_true]
                go_wp2_with fail
                go_ret
                exact ⟨rfl, B23.out⟩
              · have l1 : (o1 : Int) ≤ N := by have := HQ1.out.1; omega
                have l2 : (o2 : Int) ≤ M := by have := HQ2.out.1; omega
                by_cases c1 : o1 = N
                · have f1 : ((o1 : Int) == (N : Int)) = true := beq_iff_eq.2 (by omega)
                  have f2 : ((o2 : Int) == (M : Int)) = false := by
                    have : o2 ≠ M := fun h => both ⟨c1, h⟩
                    exact beq_eq_false_iff_ne.2 (by omega)
                  clear both c1
                  go_wp2_with fail
                  go_ret
                  exact ⟨rfl, B17.out⟩
                · have f1 : ((o1 : Int) == (N : Int)) = false := beq_eq_false_iff_ne.2 (by omega)
                  clear both c1
                  go_wp2_with fail
                  go_ret
                  exact ⟨rfl, B17.out⟩

set_option maxRecDepth 100000 in
theorem lifted (os : Os) (started : os.Started) (H : Type) (enc : TypeId × Value → H) :
    ReturnsInHanded {} Try.checked os 9 .any (Rows.soupPartsSpec.pre6 enc Try.prog Try.f9 Rows.soupPartsRow.domain false) (Rows.soupPartsSpec.post enc Try.prog Try.f9 false true false false) := by
  refine returnsInHanded_of_change (C := Try.checked) own_knob started (by kernel_rfl) Try.func9
    (ChangeSpec.witness6 (enc := enc) (C := Try.checked) false ⟨#[], #[.agg #[.int .i64 0, .slice none 0 0], .agg #[.int .i64 0, .slice none 0 0], .slice none 0 0], []⟩ 8 (by kernel_rfl) (by kernel_rfl) (by kernel_rfl) (by kernel_rfl)) ?_
  intro W base args ds gs before hval0 hW hcnd _
  have hval : ∀ (j : Nat) t v, Try.f9.params[j]? = some t → args[j]? = some v → Value.okWide Try.prog W .any base t v := hval0
  have hW' := hW
  obtain ⟨p, q, hA0, hV, rfl, hfz, hnd⟩ := hW
  have hA : DataW.TrodAll enc Try.prog W 0 (fun _ => true) true Try.f9.params.toList args.toList ds p := hA0
  rw [Try.params9] at hA hval
  obtain ⟨v0, vs0, d0, ds0, p0, q0, hargs, rfl, rfl, h0, r0⟩ := trodAll_cons hA
  obtain ⟨v1, vs1, d1, ds1, p1, q1, rfl, rfl, rfl, h1, r1⟩ := trodAll_cons r0
  obtain ⟨v2, vs2, d2, ds2, p2, q2, rfl, rfl, rfl, h2, r2⟩ := trodAll_cons r1
  obtain ⟨rfl, rfl, rfl⟩ := trodAll_nil r2
  obtain rfl : args = #[v0, v1, v2] := by cases args; simp_all
  obtain ⟨rfl, rfl⟩ := trodVars_none hV
  have lt0 : ∀ x ∈ p0, x.block < W.heap.size := by obtain ⟨m, hm⟩ := h0; exact DataW.trod_lt m _ _ _ hm
  obtain ⟨N0, a0, len0, cap0, xs0, rfl, hN0, hr0⟩ := arg_soup (hval 0 24 v0 rfl rfl) h0
  have lt1 : ∀ x ∈ p1, x.block < W.heap.size := by obtain ⟨m, hm⟩ := h1; exact DataW.trod_lt m _ _ _ hm
  obtain ⟨N1, a1, len1, cap1, xs1, rfl, hN1, hr1⟩ := arg_soup (hval 1 24 v1 rfl rfl) h1
  obtain ⟨a2, len2, cap2, rfl⟩ := okWide_slice Try.underlying29 (hval 2 29 v2 rfl rfl)
  have lt2 : ∀ x ∈ p2, x.block < W.heap.size := by obtain ⟨m, hm⟩ := h2; exact DataW.trod_lt m _ _ _ hm
  obtain ⟨hc2, xs2, hx2, hr2⟩ := arg_ints h2
  clear hA0 hval0
  refine (walk N0 a0 len0 cap0 xs0 N1 a1 len1 cap1 xs1 a2 len2 cap2 xs2 W hN0.1 hN0.2 hr0 hN1.1 hN1.2 hr1 hc2 hx2 hr2).mono fun e W' ⟨he, bel⟩ => ?_
  subst he
  exact ⟨_, rfl, _, _, _, [], _, [], hW', trodAll_mk1 (shut_bool Try.underlying4 _), (trodAll_cons_mk (Below.trod laid_out (by kernel_rfl) (of_decide_eq_true (by kernel_rfl)) h0 bel lt0) (trodAll_cons_mk (Below.trod laid_out (by kernel_rfl) (of_decide_eq_true (by kernel_rfl)) h1 bel lt1) (trodAll_cons_mk (Below.trod laid_out (by kernel_rfl) (of_decide_eq_true (by kernel_rfl)) h2 bel lt2) trodAll_mk0))), rfl, bel.frame _, fun h => by cases h⟩

theorem over : Rows.soupPartsRow.holds Try.pinned (OpenSpec.ofChange Rows.soupPartsSpec) :=
  OpenClaim.holds_of_wide 9 Try.f9 rfl rfl rfl rfl rfl rfl rfl ⟨rfl, rfl, rfl, rfl, rfl⟩ rfl rfl rfl rfl rfl (by kernel_rfl) Try.func9 (by kernel_rfl)
    (of_decide_eq_true (by kernel_rfl)) (by unfold Func.isWrapper; first | (rw [if_pos (by decide +kernel)]; kernel_rfl) | (rw [if_neg (by decide +kernel)]; exact ⟨rfl, rfl⟩))
    (fun os started H enc _ => lifted os started H enc)

theorem proved : Rows.SoupPartsSaid := over
end Go.Proofs.Ytfdoemebongdbaa.soupParts
