/- BoxSecond: of few chunks (12 of up to 100 bytes each), packed, the beginning of which is noughts, or cut off: what is there is told by the second header, where no G stands at the beginning. No condition. -/
import Derived.Test.YtngambkbpdjddaaBoxLaw
namespace Go.Proofs.Ytngambkbpdjddaa.boxSecond
open Go.ChangeShapes Go.WideShapes Go.ChangeAt Go.RowKit

/-- bd is the container bx from byte k on, d bytes earlier. -/
structure Agree (bx bd : List Nat) (k d : Nat) : Prop where
  le : d ≤ k
  len : bd.length = bx.length - d
  kn : k ≤ bx.length
  seg : ∀ p m, k ≤ p → seg bd (p - d) m = seg bx p m
theorem agree_drop (bx : List Nat) (k : Nat) (h : k ≤ bx.length) : Agree bx (bx.drop k) k k :=
  ⟨Nat.le_refl _, by rw [List.length_drop], h, fun p m hp => by unfold Go.Proofs.Ytngambkbpdjddaa.seg; rw [List.drop_drop, show k + (p - k) = p by omega]⟩
theorem agree_zeros (bx : List Nat) (k : Nat) (h : k ≤ bx.length) : Agree bx (List.replicate k 0 ++ bx.drop k) k 0 :=
  ⟨Nat.zero_le _, by rw [List.length_append, List.length_replicate, List.length_drop]; omega, h, fun p m hp => by
    rw [Nat.sub_zero, seg_skip _ _ p m (p - k) (by rw [List.length_replicate]; omega)]
    unfold Go.Proofs.Ytngambkbpdjddaa.seg
    rw [List.drop_drop, show k + (p - k) = p by omega]⟩
theorem first_letter {b : List Nat} {n : Nat} (h : First b n) : b.getD 0 0 = 71 := by
  have e := congrArg (fun l => l.getD 0 0) h.2.2.1
  have e2 : (seg b 0 10).getD 0 0 = b.getD 0 0 := by rw [Go.Proofs.Ytngambkbpdjddaa.seg, getD_take, if_pos (by omega), getD_drop]
  rw [← e2]
  exact e
theorem second_opens {cs : List (Nat × List Nat)} (hl : cs.length < 65536) (hs : ∀ x ∈ cs, x.2.length < 4294967296) {bd : List Nat} {k d : Nat} (ha : Agree (boxB cs) bd k d) (hk : k ≤ 18 + 9 * cs.length + offs cs cs.length) (h0 : bd.getD 0 0 ≠ 71) :
    Opens bd cs.length (partV bd (tableB cs) (18 + 9 * (cs.length : Int) - d)) := by
  have h1 := second_at cs
  have hb := box_second cs hl
  have hd := ha.le
  have hlen := ha.len
  have e1 : seg bd (bd.length - 10) 10 = fixedPart cs.length := by
    rw [← hb.2.2.1, ← ha.seg ((boxB cs).length - 10) 10 (by omega), hlen]
    congr 1
    omega
  have e2 : seg bd (bd.length - 14 - 9 * cs.length) (4 + 9 * cs.length) = tableB cs := by
    rw [← box_table2 cs, ← ha.seg ((boxB cs).length - 14 - 9 * cs.length) (4 + 9 * cs.length) (by omega), hlen]
    congr 1
    omega
  have hg := hb.2.2.2
  rw [box_table2 cs] at hg
  refine .inr ⟨fun k' hk' => h0 (first_letter hk'), ⟨by omega, hl, e1, by rw [e2]; exact hg⟩, ?_⟩
  have h2 := tb_offs cs hs cs.length (Nat.le_refl _)
  rw [Nat.add_comm (9 * cs.length) 4, e2, h2, show (bd.length : Int) - 18 - 9 * (cs.length : Int) - (offs cs cs.length : Int) = 18 + 9 * (cs.length : Int) - (d : Int) by omega]
theorem second_part {cs : List (Nat × List Nat)} (hs : ∀ x ∈ cs, x.2.length < 4294967296) {bd : List Nat} {k d : Nat} (ha : Agree (boxB cs) bd k d) (i : Nat) (hi : i < cs.length) :
    (partV bd (tableB cs) (18 + 9 * (cs.length : Int) - d) i).at' = 18 + 9 * (cs.length : Int) - d + offs cs i ∧
    (k ≤ 18 + 9 * cs.length + offs cs i → (partV bd (tableB cs) (18 + 9 * (cs.length : Int) - d) i).whole = true ∧ (partV bd (tableB cs) (18 + 9 * (cs.length : Int) - d) i).data = (cs.getD i (0, [])).2) ∧
    ((partV bd (tableB cs) (18 + 9 * (cs.length : Int) - d) i).whole = true → (partV bd (tableB cs) (18 + 9 * (cs.length : Int) - d) i).data.length = (cs.getD i (0, [])).2.length) := by
  have hr := box_room cs i hi
  have hd := ha.le
  have hlen := ha.len
  have hkn := ha.kn
  rw [partV_table _ cs hs _ i hi]
  refine ⟨rfl, fun hk => ?_, fun hw => ?_⟩
  · have hto : (18 + 9 * (cs.length : Int) - d + offs cs i).toNat = 18 + 9 * cs.length + offs cs i - d := by omega
    have es : seg bd (18 + 9 * cs.length + offs cs i - d) (cs.getD i (0, [])).2.length = (cs.getD i (0, [])).2 := by rw [ha.seg _ _ hk, box_datum cs i hi]
    have hw : Whole bd (18 + 9 * (cs.length : Int) - d + offs cs i) (cs.getD i (0, [])).2.length (crcSum (cs.getD i (0, [])).2) := ⟨by omega, by omega, by rw [hto, es]⟩
    refine ⟨decide_eq_true hw, ?_⟩
    show (if _ then _ else _) = _
    rw [if_pos hw, hto, es]
  · have hw' := of_decide_eq_true hw
    show (if _ then _ else _ : List Nat).length = _
    rw [if_pos hw']
    have h1 := hw'.1
    have h2 := hw'.2.1
    exact length_seg _ _ _ (by omega)

def ZerosAt (w : World) (q k : Nat) (bx : List Nat) (rest : List Value) (i : Value) (wr : World) : Prop :=
  ∃ j : Nat, j ≤ k ∧ i = .int .i64 (j : Int) ∧ BRow wr q (List.replicate j 0 ++ bx.drop j) rest ∧ Below w.heap.size w wr
def SecondAt (w : World) (n : Nat) (cs : List (Nat × List Nat)) (a i : Value) (wr : World) : Prop :=
  ∃ j : Nat, j ≤ n ∧ i = .int .i64 (j : Int) ∧ a = .int .i64 (18 + 9 * (n : Int) + offs cs j) ∧ Reading w wr
theorem zeros_set (bx : List Nat) (j : Nat) (h : j < bx.length) : (List.replicate j 0 ++ bx.drop j).set j 0 = List.replicate (j + 1) 0 ++ bx.drop (j + 1) := by
  rw [List.set_append_right _ _ (by rw [List.length_replicate]; exact Nat.le_refl _), List.length_replicate, Nat.sub_self, List.drop_eq_getElem_cons h, List.set_cons_zero, List.replicate_succ', List.append_assoc]
  rfl

set_option maxHeartbeats 12800000 in
set_option maxRecDepth 100000 in
theorem cutOff (A : Option Addr) (n c : Nat) (cs : List (Nat × List Nat)) (a : Int) (w : World) (hd : DigC cs) (h : Chunks0 w A n cs) (ha0 : 0 ≤ a) (ha1 : a ≤ 65535) :
    Calls Try.prog 8 #[.slice A n c, .int .u16 a, .bool true] w fun e w' => e = .returned (.bool true) ∧ Below w.heap.size w w' := by
  obtain ⟨i0, hi, hz0, hz1, hz2⟩ := info_parts Try.infoU8
  have HI := Lib.hid hi
  have HZ := Lib.hid (And.intro hz0 (And.intro hz1 hz2))
  have H := Lib.hid (And.intro hd h)
  clear hd h hi hz0 hz1 hz2
  go_enter Try.func8, Try.ntmps8
  go_wp2_with fail
  refine (awake7_true w).mono ?_
  rintro e w1 ⟨rfl, b1⟩
  have B1 := Lib.hid b1
  have KG := Lib.hid (great7_any w1 A n c cs (H.out.2.below b1))
  clear b1
  go_wp2_with fail
  refine KG.out.mono ?_
  rintro e w2 ⟨r, hr, rfl, rfl⟩
  rcases hr with rfl | ⟨rfl, hs⟩
  · go_wp2
    go_ret
    exact ⟨rfl, B1.out⟩
  have S1 := Lib.hid (⟨(H.out.2.below B1.out).small hs, H.out.1, hs⟩ : Small7 w1 A n cs)
  have K1 := Lib.hid (S1.out.lpack c)
  clear hs
  go_wp2_with fail
  refine K1.out.mono ?_
  rintro e w2 ⟨v2, rfl, o2, b2⟩
  obtain ⟨A2, c2, rfl, hA2, r2⟩ := Reads.of_own o2
  have hsz := S1.out.size
  have hn12 := S1.out.n
  have hN36 : 36 ≤ (boxB cs).length := by omega
  have hN : (boxB cs).length ≤ 1452 := hsz.2.2
  obtain ⟨bx, hbx⟩ : ∃ bx, boxB cs = bx := ⟨_, rfl⟩
  have HBX := Lib.hid hbx
  have DBX := Lib.hid (show Dig bx by rw [← hbx]; exact dig_box S1.out.dig)
  rw [hbx] at r2 hN36 hN hsz ⊢
  obtain ⟨N, hNN⟩ : ∃ N, bx.length = N := ⟨_, rfl⟩
  have HNN := Lib.hid hNN
  rw [hNN] at r2 hN36 hN hsz ⊢
  obtain ⟨r, hr⟩ : ∃ r, a.toNat % (18 + 9 * n + offs cs n) = r := ⟨_, rfl⟩
  have hrlt : r < 18 + 9 * n + offs cs n := by rw [← hr]; exact Nat.mod_lt _ (by omega)
  have hexp : (18 + 9 * (n : Int) + ((N : Int) - 2 * (18 + 9 * (n : Int)))) = ((18 + 9 * n + offs cs n : Nat) : Int) := by omega
  have hm : a.tmod (18 + 9 * (n : Int) + ((N : Int) - 2 * (18 + 9 * (n : Int)))) = (r : Int) := by
    rw [hexp, Int.tmod_eq_emod_of_nonneg ha0, ← hr, Int.natCast_emod, show ((a.toNat : Nat) : Int) = a by omega]
  have hz : ¬ ((18 + 9 * (n : Int) + ((N : Int) - 2 * (18 + 9 * (n : Int))) : Int) = 0) := by omega
  have hrN : r + 1 ≤ N := by omega
  have hr2 : r ≤ 1452 := by omega
  have HRL := Lib.hid (And.intro hrlt hsz)
  have hw0 : IntKind.i64.wrap a = a := IntWalk.i64_in _ (by omega)
  have hof9 : offs cs n ≤ 1200 := hsz.2.1
  have bN : 36 + 18 * (n : Int) ≤ (N : Int) := by omega
  have B2 := Lib.hid (up2 B1.out b2)
  have S2 := Lib.hid (S1.out.below b2)
  have R2 := Lib.hid (And.intro r2 hA2)
  have E3 := Lib.hid (empty_bytes w2)
  have B3 := Lib.hid (mk_below w2 (.cells #[] 5))
  have R3 := Lib.hid (r2.below (mk_below w2 (.cells #[] 5)))
  clear o2 b2 r2 hsz hr hbx hNN hA2 hexp hrlt
  go_wp2_with (at_builtin; refine wpList_append_reads rfl (.tmp 42) (.tmp 43) 25 rfl w2.heap.size 5 i0 (.int .u8 0) 1 Try.underlying25 HI.out HZ.out rfl (.slice (some ⟨w2.heap.size, 0, none⟩) 0 0) 0 [] rfl E3.out A2 N c2 (bts bx) rfl R3.out R2.out.2 (bts_one _) ?b1 ?b2 ?b3 ?_)
  case b1 => unfold maxLen; omega
  case b2 => omega
  case b3 => exact B3.out.size
  intro v3 w3 hown0 hgr
  have hown : w3.ownsRow w2.heap.size 5 1 v3 N (bts bx) := by simpa using hown0
  have b3 := own_grown_below B3.out hgr B3.out.size (fun k hk => by simp [Value.ownBlock] at hk; omega)
  obtain ⟨q, c3, rest, rfl, hb3, hc3, _, _, hq3⟩ := own_block hown (by omega)
  have Q3 := Lib.hid (And.intro hb3 (And.intro hq3 b3))
  clear hown0 hgr hown hb3 hq3 b3
  have hs1 := fun W => run_tail (some ⟨q, 0, none⟩) N c3 (r + 1) (N - (r + 1)) (1 + (r : Int)) (by omega) (by omega) W
  have rdd : Reads w3 (cutA (some ⟨q, 0, none⟩) c3 (r + 1)) (N - (r + 1)) (bts (bx.drop (r + 1))) := by
    have := (Q3.out.1.reads HNN.out).cut hc3 (r + 1) (N - (r + 1)) (by omega)
    rwa [show seg bx (r + 1) (N - (r + 1)) = bx.drop (r + 1) by unfold seg; rw [List.take_of_length_le (by rw [List.length_drop, HNN.out]; exact Nat.le_refl _)]] at this
  have ddg : Dig (bx.drop (r + 1)) := dig_drop DBX.out _
  have agr := agree_drop bx (r + 1) (by rw [HNN.out]; omega)
  have hcb : N - (r + 1) ≤ c3 - (r + 1) := by omega
  have hNb : 18 ≤ N - (r + 1) := by have := HRL.out.1; have := HRL.out.2.1; omega
  have bwd : Below w2.heap.size w2 w3 := Q3.out.2.2
  generalize cutA (some ⟨q, 0, none⟩) c3 (r + 1) = Ab at *
  obtain ⟨Nb, hNb'⟩ : ∃ Nb, N - (r + 1) = Nb := ⟨_, rfl⟩
  rw [hNb'] at hs1 rdd hcb hNb
  generalize c3 - (r + 1) = cb at *
  generalize bx.drop (r + 1) = bd at *
  obtain ⟨wd, hwd⟩ : ∃ wd, wd = w3 := ⟨_, rfl⟩
  rw [← hwd] at rdd bwd ⊢
  have hNb9 : Nb ≤ 1452 := by omega
  clear hNb' hwd
  have hbd0 := rdd.cellB (by omega)
  obtain ⟨bb, boff, hAb, hcc⟩ := hbd0
  have hc0 := hcc 0 (by omega)
  have hd0 := dig_at ddg 0
  rw [Nat.add_zero] at hc0
  have AG := Lib.hid agr
  have KO := Lib.hid (bopen_any wd Ab Nb cb bd rdd ddg hcb (by omega))
  have SD := Lib.hid (S2.out.below bwd)
  have BD := Lib.hid (up2 B2.out bwd)
  obtain ⟨x0, hx0⟩ : ∃ x0, bd.getD 0 0 = x0 := ⟨_, rfl⟩
  have HX0 := Lib.hid hx0
  rw [hx0] at hc0 hd0
  subst hAb
  have s0 : 0 < Nb := by omega
  have s0' : (0 : Int) < (Nb : Int) := by omega
  clear hcc rdd ddg agr bwd hx0
  by_cases h71 : x0 = 71
  · have e71 : ((x0 : Int) == 71) = true := by rw [h71]; rfl
    clear h71
    go_wp2
    go_ret
    exact ⟨rfl, BD.out⟩
  have e71 : ((x0 : Int) == 71) = false := by rw [beq_eq_false_iff_ne]; omega
  have lt := SD.out.lt
  have hln := SD.out.ch.len
  have hrl := HRL.out.1
  have CO := Lib.hid (second_opens lt.1 lt.2 (by rw [HBX.out]; exact AG.out) (by rw [hln]; omega) (by rw [HX0.out]; exact h71))
  have CP := Lib.hid (fun i hi => second_part lt.2 (by rw [HBX.out]; exact AG.out) i hi)
  have HOF := Lib.hid (fun j hj => offs_mono cs (show j ≤ cs.length from hj) (Nat.le_refl _))
  rw [hln] at CO CP HOF
  generalize partV bd (tableB cs) (18 + 9 * (n : Int) - (r + 1 : Nat)) = P at *
  clear lt hln hrl h71
  go_wp2_with fail
  refine KO.out.mono ?_
  rintro e w4 (⟨k3, P3, q3, hO, rfl, hP, hq, b4⟩ | ⟨hno, rfl, b4⟩)
  · obtain ⟨rfl, rfl⟩ := hO.one CO.out
    have B4 := Lib.hid (up2 BD.out b4)
    have S4 := Lib.hid (SD.out.below b4)
    have P4 := Lib.hid hP
    clear hO hP b4 hq hm hz hw0 e71 hc0
    go_wp2_with fail
    go_loopw [15, 16] (SecondAt w4 k3 cs) (fun _ i _ => k3 - (intOf i).toNat)
    case atStart => exact ⟨0, Nat.zero_le _, rfl, by show _ = Value.int .i64 (18 + 9 * (k3 : Int) + 0); rw [Int.add_zero], Reading.refl _⟩
    case round =>
      obtain ⟨j, hj, rfl, rfl, hb⟩ := hrel
      by_cases hlt : j < k3
      · have hbw := hb.below (B := w4.heap.size)
        obtain ⟨b, off, rfl⟩ := S4.out.ch.ad (by omega)
        obtain ⟨Ai, ci, c0, c1, hA, hm9, hr⟩ := S4.out.ch.at j hlt
        obtain ⟨Ad, cd, p0, p1, p2, p3, hAd, hrd⟩ := P4.out.cells j hlt
        replace c1 := (hbw.cell (World.block_lt_of_cell? _ _ c1)).trans c1
        replace p1 := (hbw.cell (World.block_lt_of_cell? _ _ p1)).trans p1
        replace p2 := (hbw.cell (World.block_lt_of_cell? _ _ p2)).trans p2
        replace p3 := (hbw.cell (World.block_lt_of_cell? _ _ p3)).trans p3
        replace hr := hr.below hbw
        replace hrd := hrd.below hbw
        obtain ⟨cp1, cp2, cp3⟩ := CP.out j hlt
        have hof : offs cs (j + 1) = offs cs j + (cs.getD j (0, [])).2.length := rfl
        have hmo1 := HOF.out (j + 1) (by omega)
        rw [cp1] at p2
        generalize cs.getD j (0, []) = x at *
        obtain ⟨kd, dt⟩ := x
        simp only at c1 hm9 hr cp2 cp3 hof
        obtain ⟨m, hm'⟩ : ∃ m, dt.length = m := ⟨_, rfl⟩
        rw [hm'] at c1 hm9 hr cp3 hof
        rw [hof] at hmo1
        generalize offs cs j = o at *
        have HOO := Lib.hid hof
        have HR := Lib.hid hb
        have b1 : (j : Int) < k3 := by omega
        have b2 : o + m ≤ 1200 := by omega
        obtain ⟨WH, hWH⟩ : ∃ W : Int, 18 + 9 * (k3 : Int) - (r + 1 : Nat) + (o : Int) = W := ⟨_, rfl⟩
        rw [hWH] at p2
        have e0 : 18 + 9 * (k3 : Int) + (o : Int) - (1 + (r : Int)) = WH := by omega
        have hWb : -2000 ≤ WH ∧ WH ≤ 2000 := by omega
        by_cases hge : r + 1 ≤ 18 + 9 * k3 + o
        · obtain ⟨w9, d9⟩ := cp2 hge
          rw [w9] at p3
          rw [d9, hm'] at p1
          rw [d9, hm'] at hrd
          have q1 := fun t => run_bstr (wr.drewN t) Ai m ci dt (hr.below (Reading.below ⟨t, rfl⟩))
          have q2 := fun t => run_bstr (wr.drewN t) Ad m cd dt (hrd.below (Reading.below ⟨t, rfl⟩))
          generalize bstr dt = sb at *
          have e1 : (1 : Int) + (r : Int) ≤ 18 + 9 * (k3 : Int) + (o : Int) := by omega
          have e1' : decide ((1 : Int) + (r : Int) ≤ 18 + 9 * (k3 : Int) + (o : Int)) = true := by simp; omega
          clear hbw c0 hA hm9 hr p0 hAd hrd cp1 cp2 cp3 hof hmo1 hm' hb hWH hge w9 d9
          go_wp2_with fail
          go_quiet (fail)
          go_wp2_with fail
          refine ⟨⟨j + 1, by omega, by go_num, ?_, HR.out.trans ⟨_, rfl⟩⟩, by simp [intOf]; omega⟩
          rw [HOO.out]
          congr 1
          omega
        · have e1 : ¬ (1 : Int) + (r : Int) ≤ 18 + 9 * (k3 : Int) + (o : Int) := by omega
          have e1' : decide ((1 : Int) + (r : Int) ≤ 18 + 9 * (k3 : Int) + (o : Int)) = false := by simp; omega
          cases hwb : (P3 j).whole with
          | true =>
            rw [cp3 hwb] at p1
            rw [hwb] at p3
            clear hbw c0 hA hm9 hr p0 hAd hrd cp1 cp2 cp3 hof hmo1 hm' hb hWH hge hwb
            go_wp2_with fail
            go_quiet (fail)
            go_wp2_with fail
            refine ⟨⟨j + 1, by omega, by go_num, ?_, HR.out.trans ⟨_, rfl⟩⟩, by simp [intOf]; omega⟩
            rw [HOO.out]
            congr 1
            omega
          | false =>
            rw [hwb] at p3
            generalize (P3 j).data.length = md at *
            clear hbw c0 hA hm9 hr p0 hAd hrd cp1 cp2 cp3 hof hmo1 hm' hb hWH hge hwb
            go_wp2_with fail
            go_quiet (fail)
            go_wp2_with fail
            refine ⟨⟨j + 1, by omega, by go_num, ?_, HR.out.trans ⟨_, rfl⟩⟩, by simp [intOf]; omega⟩
            rw [HOO.out]
            congr 1
            omega
      · obtain rfl : j = k3 := by omega
        have b1 : ¬ (j : Int) < j := by omega
        have B5 := Lib.hid (up2 B4.out hb.below)
        clear hb
        generalize 18 + 9 * (j : Int) + (offs cs j : Int) = fz at *
        go_wp2
        go_ret
        exact ⟨rfl, B5.out⟩
  · exact (CO.out.no hno).elim

set_option maxHeartbeats 12800000 in
set_option maxRecDepth 100000 in
theorem noughts (A : Option Addr) (n c : Nat) (cs : List (Nat × List Nat)) (a : Int) (w : World) (hd : DigC cs) (h : Chunks0 w A n cs) (ha0 : 0 ≤ a) (ha1 : a ≤ 65535) :
    Calls Try.prog 8 #[.slice A n c, .int .u16 a, .bool false] w fun e w' => e = .returned (.bool true) ∧ Below w.heap.size w w' := by
  obtain ⟨i0, hi, hz0, hz1, hz2⟩ := info_parts Try.infoU8
  have HI := Lib.hid hi
  have HZ := Lib.hid (And.intro hz0 (And.intro hz1 hz2))
  have H := Lib.hid (And.intro hd h)
  clear hd h hi hz0 hz1 hz2
  go_enter Try.func8, Try.ntmps8
  go_wp2_with fail
  refine (awake7_true w).mono ?_
  rintro e w1 ⟨rfl, b1⟩
  have B1 := Lib.hid b1
  have KG := Lib.hid (great7_any w1 A n c cs (H.out.2.below b1))
  clear b1
  go_wp2_with fail
  refine KG.out.mono ?_
  rintro e w2 ⟨r, hr, rfl, rfl⟩
  rcases hr with rfl | ⟨rfl, hs⟩
  · go_wp2
    go_ret
    exact ⟨rfl, B1.out⟩
  have S1 := Lib.hid (⟨(H.out.2.below B1.out).small hs, H.out.1, hs⟩ : Small7 w1 A n cs)
  have K1 := Lib.hid (S1.out.lpack c)
  clear hs
  go_wp2_with fail
  refine K1.out.mono ?_
  rintro e w2 ⟨v2, rfl, o2, b2⟩
  obtain ⟨A2, c2, rfl, hA2, r2⟩ := Reads.of_own o2
  have hsz := S1.out.size
  have hn12 := S1.out.n
  have hN36 : 36 ≤ (boxB cs).length := by omega
  have hN : (boxB cs).length ≤ 1452 := hsz.2.2
  obtain ⟨bx, hbx⟩ : ∃ bx, boxB cs = bx := ⟨_, rfl⟩
  have HBX := Lib.hid hbx
  have DBX := Lib.hid (show Dig bx by rw [← hbx]; exact dig_box S1.out.dig)
  rw [hbx] at r2 hN36 hN hsz ⊢
  obtain ⟨N, hNN⟩ : ∃ N, bx.length = N := ⟨_, rfl⟩
  have HNN := Lib.hid hNN
  rw [hNN] at r2 hN36 hN hsz ⊢
  obtain ⟨r, hr⟩ : ∃ r, a.toNat % (18 + 9 * n + offs cs n) = r := ⟨_, rfl⟩
  have hrlt : r < 18 + 9 * n + offs cs n := by rw [← hr]; exact Nat.mod_lt _ (by omega)
  have hexp : (18 + 9 * (n : Int) + ((N : Int) - 2 * (18 + 9 * (n : Int)))) = ((18 + 9 * n + offs cs n : Nat) : Int) := by omega
  have hm : a.tmod (18 + 9 * (n : Int) + ((N : Int) - 2 * (18 + 9 * (n : Int)))) = (r : Int) := by
    rw [hexp, Int.tmod_eq_emod_of_nonneg ha0, ← hr, Int.natCast_emod, show ((a.toNat : Nat) : Int) = a by omega]
  have hz : ¬ ((18 + 9 * (n : Int) + ((N : Int) - 2 * (18 + 9 * (n : Int))) : Int) = 0) := by omega
  have hrN : r + 1 ≤ N := by omega
  have hr2 : r ≤ 1452 := by omega
  have HRL := Lib.hid (And.intro hrlt hsz)
  have hw0 : IntKind.i64.wrap a = a := IntWalk.i64_in _ (by omega)
  have hof9 : offs cs n ≤ 1200 := hsz.2.1
  have bN : 36 + 18 * (n : Int) ≤ (N : Int) := by omega
  have B2 := Lib.hid (up2 B1.out b2)
  have S2 := Lib.hid (S1.out.below b2)
  have R2 := Lib.hid (And.intro r2 hA2)
  have E3 := Lib.hid (empty_bytes w2)
  have B3 := Lib.hid (mk_below w2 (.cells #[] 5))
  have R3 := Lib.hid (r2.below (mk_below w2 (.cells #[] 5)))
  clear o2 b2 r2 hsz hr hbx hNN hA2 hexp hrlt
  go_wp2_with (at_builtin; refine wpList_append_reads rfl (.tmp 42) (.tmp 43) 25 rfl w2.heap.size 5 i0 (.int .u8 0) 1 Try.underlying25 HI.out HZ.out rfl (.slice (some ⟨w2.heap.size, 0, none⟩) 0 0) 0 [] rfl E3.out A2 N c2 (bts bx) rfl R3.out R2.out.2 (bts_one _) ?b1 ?b2 ?b3 ?_)
  case b1 => unfold maxLen; omega
  case b2 => omega
  case b3 => exact B3.out.size
  intro v3 w3 hown0 hgr
  have hown : w3.ownsRow w2.heap.size 5 1 v3 N (bts bx) := by simpa using hown0
  have b3 := own_grown_below B3.out hgr B3.out.size (fun k hk => by simp [Value.ownBlock] at hk; omega)
  obtain ⟨q, c3, rest, rfl, hb3, hc3, _, _, hq3⟩ := own_block hown (by omega)
  have Q3 := Lib.hid (And.intro hb3 (And.intro hq3 b3))
  clear hown0 hgr hown hb3 hq3 b3
  go_wp2_with fail
  go_loopw [12] (ZerosAt w2 q (r + 1) bx rest) (fun i _ => r + 1 - (intOf i).toNat)
  case atStart => exact ⟨0, Nat.zero_le _, rfl, by simpa using Q3.out.1, Q3.out.2.2⟩
  case round =>
    obtain ⟨z, hz1, rfl, hrow, hbel⟩ := hrel
    have hlz : (List.replicate z 0 ++ bx.drop z).length = N := by rw [List.length_append, List.length_replicate, List.length_drop, HNN.out]; omega
    by_cases hlt : z < r + 1
    · have b1 : (z : Int) < 1 + (r : Int) := by omega
      have ct := hrow.cell z (by omega)
      have ft := frozen_in hrow z
      have hset := hrow.set z 0 (by omega)
      rw [zeros_set bx z (by rw [HNN.out]; omega)] at hset
      have Z := Lib.hid (And.intro hset (hbel.setCell (p := ⟨q, z, none⟩) Q3.out.2.1 (.int .u8 0)))
      have b2 : (z : Int) < N := by omega
      generalize (List.replicate z 0 ++ bx.drop z).getD z 0 = u0 at ct
      clear hrow hbel hset hlz
      go_wp2_with fail
      exact ⟨⟨z + 1, by omega, by go_num, Z.out.1, Z.out.2⟩, by simp [intOf]; omega⟩
    · obtain rfl : z = r + 1 := by omega
      have b1 : ¬ (((r + 1 : Nat) : Int)) < 1 + (r : Int) := by omega
      have rdd := hrow.reads hlz
      have ddg : Dig (List.replicate (r + 1) 0 ++ bx.drop (r + 1)) := dig_append (dig_zeros _) (dig_drop DBX.out _)
      have agr := agree_zeros bx (r + 1) (by rw [HNN.out]; omega)
      have hcb : N ≤ c3 := hc3
      have bwd : Below w2.heap.size w2 wr := hbel
      generalize List.replicate (r + 1) 0 ++ bx.drop (r + 1) = bd at *
      obtain ⟨Ab, hAb0⟩ : ∃ Ab, some (⟨q, 0, none⟩ : Addr) = Ab := ⟨_, rfl⟩
      obtain ⟨Nb, hNb'⟩ : ∃ Nb, N = Nb := ⟨_, rfl⟩
      obtain ⟨cb, hcb'⟩ : ∃ cb, c3 = cb := ⟨_, rfl⟩
      obtain ⟨wd, hwd⟩ : ∃ wd, wd = wr := ⟨_, rfl⟩
      rw [← hwd] at rdd bwd ⊢
      rw [hAb0] at rdd ⊢
      subst hNb' hcb'
      clear hwd hrow hbel hlz hlt hz1
      have hbd0 := rdd.cellB (by omega)
      obtain ⟨bb, boff, hAb, hcc⟩ := hbd0
      have hc0 := hcc 0 (by omega)
      have hd0 := dig_at ddg 0
      rw [Nat.add_zero] at hc0
      have AG := Lib.hid agr
      have KO := Lib.hid (bopen_any wd Ab N c3 bd rdd ddg hc3 (by omega))
      have SD := Lib.hid (S2.out.below bwd)
      have BD := Lib.hid (up2 B2.out bwd)
      obtain ⟨x0, hx0⟩ : ∃ x0, bd.getD 0 0 = x0 := ⟨_, rfl⟩
      have HX0 := Lib.hid hx0
      rw [hx0] at hc0 hd0
      rw [hAb] at hAb0 KO ⊢
      clear hAb hAb0
      have s0 : 0 < N := by omega
      have s0' : (0 : Int) < (N : Int) := by omega
      clear hcc rdd ddg agr bwd hx0
      by_cases h71 : x0 = 71
      · have e71 : ((x0 : Int) == 71) = true := by rw [h71]; rfl
        clear h71
        go_wp2
        go_ret
        exact ⟨rfl, BD.out⟩
      have e71 : ((x0 : Int) == 71) = false := by rw [beq_eq_false_iff_ne]; omega
      have lt := SD.out.lt
      have hln := SD.out.ch.len
      have hrl := HRL.out.1
      have CO := Lib.hid (second_opens lt.1 lt.2 (by rw [HBX.out]; exact AG.out) (by rw [hln]; omega) (by rw [HX0.out]; exact h71))
      have CP := Lib.hid (fun i hi => second_part lt.2 (by rw [HBX.out]; exact AG.out) i hi)
      have HOF := Lib.hid (fun j hj => offs_mono cs (show j ≤ cs.length from hj) (Nat.le_refl _))
      rw [hln] at CO CP HOF
      generalize partV bd (tableB cs) (18 + 9 * (n : Int) - (0 : Nat)) = P at *
      clear lt hln hrl h71
      go_wp2_with fail
      refine KO.out.mono ?_
      rintro e w4 (⟨k3, P3, q3, hO, rfl, hP, hq, b4⟩ | ⟨hno, rfl, b4⟩)
      · obtain ⟨rfl, rfl⟩ := hO.one CO.out
        have B4 := Lib.hid (up2 BD.out b4)
        have S4 := Lib.hid (SD.out.below b4)
        have P4 := Lib.hid hP
        clear hO hP b4 hq hm hz hw0 e71 hc0
        go_wp2_with fail
        go_loopw [15, 16] (SecondAt w4 k3 cs) (fun _ i _ => k3 - (intOf i).toNat)
        case atStart => exact ⟨0, Nat.zero_le _, rfl, by show _ = Value.int .i64 (18 + 9 * (k3 : Int) + 0); rw [Int.add_zero], Reading.refl _⟩
        case round =>
          obtain ⟨j, hj, rfl, rfl, hb⟩ := hrel
          by_cases hlt : j < k3
          · have hbw := hb.below (B := w4.heap.size)
            obtain ⟨b, off, rfl⟩ := S4.out.ch.ad (by omega)
            obtain ⟨Ai, ci, c0, c1, hA, hm9, hr⟩ := S4.out.ch.at j hlt
            obtain ⟨Ad, cd, p0, p1, p2, p3, hAd, hrd⟩ := P4.out.cells j hlt
            replace c1 := (hbw.cell (World.block_lt_of_cell? _ _ c1)).trans c1
            replace p1 := (hbw.cell (World.block_lt_of_cell? _ _ p1)).trans p1
            replace p2 := (hbw.cell (World.block_lt_of_cell? _ _ p2)).trans p2
            replace p3 := (hbw.cell (World.block_lt_of_cell? _ _ p3)).trans p3
            replace hr := hr.below hbw
            replace hrd := hrd.below hbw
            obtain ⟨cp1, cp2, cp3⟩ := CP.out j hlt
            have hof : offs cs (j + 1) = offs cs j + (cs.getD j (0, [])).2.length := rfl
            have hmo1 := HOF.out (j + 1) (by omega)
            rw [cp1] at p2
            generalize cs.getD j (0, []) = x at *
            obtain ⟨kd, dt⟩ := x
            simp only at c1 hm9 hr cp2 cp3 hof
            obtain ⟨m, hm'⟩ : ∃ m, dt.length = m := ⟨_, rfl⟩
            rw [hm'] at c1 hm9 hr cp3 hof
            rw [hof] at hmo1
            generalize offs cs j = o at *
            have HOO := Lib.hid hof
            have HR := Lib.hid hb
            have b1 : (j : Int) < k3 := by omega
            have b2 : o + m ≤ 1200 := by omega
            rw [show (18 + 9 * (k3 : Int) - ((0 : Nat) : Int) + (o : Int)) = 18 + 9 * (k3 : Int) + (o : Int) by omega] at p2
            by_cases hge : r + 1 ≤ 18 + 9 * k3 + o
            · obtain ⟨w9, d9⟩ := cp2 hge
              rw [w9] at p3
              rw [d9, hm'] at p1
              rw [d9, hm'] at hrd
              have q1 := fun t => run_bstr (wr.drewN t) Ai m ci dt (hr.below (Reading.below ⟨t, rfl⟩))
              have q2 := fun t => run_bstr (wr.drewN t) Ad m cd dt (hrd.below (Reading.below ⟨t, rfl⟩))
              generalize bstr dt = sb at *
              have e1 : (1 : Int) + (r : Int) ≤ 18 + 9 * (k3 : Int) + (o : Int) := by omega
              have e1' : decide ((1 : Int) + (r : Int) ≤ 18 + 9 * (k3 : Int) + (o : Int)) = true := by simp; omega
              clear hbw c0 hA hm9 hr p0 hAd hrd cp1 cp2 cp3 hof hmo1 hm' hb hge w9 d9
              go_wp2_with fail
              go_quiet (fail)
              go_wp2_with fail
              refine ⟨⟨j + 1, by omega, by go_num, ?_, HR.out.trans ⟨_, rfl⟩⟩, by simp [intOf]; omega⟩
              rw [HOO.out]
              congr 1
              omega
            · have e1 : ¬ (1 : Int) + (r : Int) ≤ 18 + 9 * (k3 : Int) + (o : Int) := by omega
              have e1' : decide ((1 : Int) + (r : Int) ≤ 18 + 9 * (k3 : Int) + (o : Int)) = false := by simp; omega
              cases hwb : (P3 j).whole with
              | true =>
                rw [cp3 hwb] at p1
                rw [hwb] at p3
                clear hbw c0 hA hm9 hr p0 hAd hrd cp1 cp2 cp3 hof hmo1 hm' hb hge hwb
                go_wp2_with fail
                go_quiet (fail)
                go_wp2_with fail
                refine ⟨⟨j + 1, by omega, by go_num, ?_, HR.out.trans ⟨_, rfl⟩⟩, by simp [intOf]; omega⟩
                rw [HOO.out]
                congr 1
                omega
              | false =>
                rw [hwb] at p3
                generalize (P3 j).data.length = md at *
                clear hbw c0 hA hm9 hr p0 hAd hrd cp1 cp2 cp3 hof hmo1 hm' hb hge hwb
                go_wp2_with fail
                go_quiet (fail)
                go_wp2_with fail
                refine ⟨⟨j + 1, by omega, by go_num, ?_, HR.out.trans ⟨_, rfl⟩⟩, by simp [intOf]; omega⟩
                rw [HOO.out]
                congr 1
                omega
          · obtain rfl : j = k3 := by omega
            have b1 : ¬ (j : Int) < j := by omega
            have B5 := Lib.hid (up2 B4.out hb.below)
            clear hb
            generalize 18 + 9 * (j : Int) + (offs cs j : Int) = fz at *
            go_wp2
            go_ret
            exact ⟨rfl, B5.out⟩
      · exact (CO.out.no hno).elim

theorem walk (A : Option Addr) (n c : Nat) (cs : List (Nat × List Nat)) (a : Int) (cut : Bool) (w : World) (hd : DigC cs) (h : Chunks0 w A n cs) (ha0 : 0 ≤ a) (ha1 : a ≤ 65535) :
    Calls Try.prog 8 #[.slice A n c, .int .u16 a, .bool cut] w fun e w' => e = .returned (.bool true) ∧ Below w.heap.size w w' := by
  cases cut with
  | true => exact cutOff A n c cs a w hd h ha0 ha1
  | false => exact noughts A n c cs a w hd h ha0 ha1

set_option maxRecDepth 100000 in
theorem lifted (os : Os) (started : os.Started) (H : Type) (enc : TypeId × Value → H) :
    ReturnsInHanded {} Try.checked os 8 .any (Rows.boxSecondSpec.pre6 enc Try.prog Try.f8 Rows.boxSecondRow.domain false) (Rows.boxSecondSpec.post enc Try.prog Try.f8 false true false false) := by
  refine returnsInHanded_of_change (C := Try.checked) own_knob started (by kernel_rfl) Try.func8
    (ChangeSpec.witness6 (enc := enc) (C := Try.checked) false ⟨#[], #[.slice none 0 0, .int .u16 0, .bool false], []⟩ 8 (by kernel_rfl) (by kernel_rfl) (by kernel_rfl) (by kernel_rfl)) ?_
  intro W base args ds gs before hval0 hW hcnd _
  have hval : ∀ (j : Nat) t v, Try.f8.params[j]? = some t → args[j]? = some v → Value.okWide Try.prog W .any base t v := hval0
  have hW' := hW
  obtain ⟨p, q, hA0, hV, rfl, hfz, hnd⟩ := hW
  have hA : DataW.TrodAll enc Try.prog W 0 (fun _ => true) true Try.f8.params.toList args.toList ds p := hA0
  rw [Try.params8] at hA hval
  obtain ⟨v0, vs0, d0, ds0, p0, q0, hargs, rfl, rfl, h0, r0⟩ := trodAll_cons hA
  obtain ⟨v1, vs1, d1, ds1, p1, q1, rfl, rfl, rfl, h1, r1⟩ := trodAll_cons r0
  obtain ⟨v2, vs2, d2, ds2, p2, q2, rfl, rfl, rfl, h2, r2⟩ := trodAll_cons r1
  obtain ⟨rfl, rfl, rfl⟩ := trodAll_nil r2
  obtain rfl : args = #[v0, v1, v2] := by cases args; simp_all
  obtain ⟨rfl, rfl⟩ := trodVars_none hV
  obtain ⟨a0, len0, cap0, rfl⟩ := okWide_slice Try.underlying22 (hval 0 22 v0 rfl rfl)
  have lt0 : ∀ x ∈ p0, x.block < W.heap.size := by obtain ⟨m, hm⟩ := h0; exact DataW.trod_lt m _ _ _ hm
  obtain ⟨xs0, hx0, hr0⟩ := arg_chunks h0
  obtain ⟨a1, rfl, rfl, rfl, w1⟩ := open_int Try.underlying47 (hval 1 47 v1 rfl rfl) h1
  have bd1 := bounds_u16 w1
  obtain ⟨a2, rfl, rfl, rfl⟩ := open_bool Try.underlying4 (hval 2 4 v2 rfl rfl) h2
  clear hA0 hval0
  refine (walk a0 len0 cap0 xs0 a1 a2 W hx0 hr0 (by omega) (by omega)).mono fun e W' ⟨he, bel⟩ => ?_
  subst he
  exact ⟨_, rfl, _, _, _, [], _, [], hW', trodAll_mk1 (shut_bool Try.underlying4 _), (trodAll_cons_mk (Below.trod laid_out (by kernel_rfl) (of_decide_eq_true (by kernel_rfl)) h0 bel lt0) (trodAll_cons_mk (shut_int Try.underlying47 w1) (trodAll_cons_mk (shut_bool Try.underlying4 a2) trodAll_mk0))), rfl, bel.frame _, fun h => by cases h⟩

theorem over : Rows.boxSecondRow.holds Try.pinned (OpenSpec.ofChange Rows.boxSecondSpec) :=
  OpenClaim.holds_of_wide 8 Try.f8 rfl rfl rfl rfl rfl rfl rfl ⟨rfl, rfl, rfl, rfl, rfl⟩ rfl rfl rfl rfl rfl (by kernel_rfl) Try.func8 (by kernel_rfl)
    (of_decide_eq_true (by kernel_rfl)) (by unfold Func.isWrapper; first | (rw [if_pos (by decide +kernel)]; kernel_rfl) | (rw [if_neg (by decide +kernel)]; exact ⟨rfl, rfl⟩))
    (fun os started H enc _ => lifted os started H enc)

theorem proved : Rows.BoxSecondSaid := over
end Go.Proofs.Ytngambkbpdjddaa.boxSecond
