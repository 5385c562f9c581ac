/- BoxBurst: of few chunks (12 of up to 100 bytes each), packed, bits are changed that stand within 32 in a row: each chunk none of whose bytes was changed is told whole, as it was, and each other one not; and it is a container just if no bit was changed. No condition. -/
import Derived.Test.YtngambkbpdjddaaBoxLaw
namespace Go.Proofs.Ytngambkbpdjddaa.boxBurst
open Go.ChangeShapes Go.WideShapes Go.ChangeAt Go.RowKit

theorem burst_opens {cs : List (Nat × List Nat)} (hd : DigC cs) (hl : cs.length < 65536) (hs : ∀ x ∈ cs, x.2.length < 4294967296) {b : List Nat} (hb : Dig b) (hlen : (boxB cs).length = b.length) (h : Near (leNum (boxB cs) ^^^ leNum b)) :
    Opens b cs.length (partV b (tableB cs) (18 + 9 * (cs.length : Int))) := by
  rcases burst_heads hd hl hb hlen h with ⟨f, e⟩ | ⟨hno, s, e⟩
  · exact .inl ⟨f, by rw [Nat.add_comm (9 * cs.length) 4, e]⟩
  · refine .inr ⟨hno, s, ?_⟩
    have h1 := second_at cs
    have h2 := tb_offs cs hs cs.length (Nat.le_refl _)
    rw [Nat.add_comm (9 * cs.length) 4, e, h2, show (b.length : Int) - 18 - 9 * (cs.length : Int) - (offs cs cs.length : Int) = 18 + 9 * (cs.length : Int) by omega]
theorem burst_part {cs : List (Nat × List Nat)} (hd : DigC cs) (hs : ∀ x ∈ cs, x.2.length < 4294967296) {b : List Nat} (hb : Dig b) (hlen : (boxB cs).length = b.length) (h : Near (leNum (boxB cs) ^^^ leNum b)) (i : Nat) (hi : i < cs.length) :
    partV b (tableB cs) (18 + 9 * (cs.length : Int)) i = ⟨(cs.getD i (0, [])).1, if seg b (18 + 9 * cs.length + offs cs i) (cs.getD i (0, [])).2.length = (cs.getD i (0, [])).2 then (cs.getD i (0, [])).2 else [], 18 + 9 * (cs.length : Int) + offs cs i, decide (seg b (18 + 9 * cs.length + offs cs i) (cs.getD i (0, [])).2.length = (cs.getD i (0, [])).2)⟩ := by
  have hr := box_room cs i hi
  have hto : (18 + 9 * (cs.length : Int) + offs cs i).toNat = 18 + 9 * cs.length + offs cs i := by omega
  have hw : Whole b (18 + 9 * (cs.length : Int) + offs cs i) (cs.getD i (0, [])).2.length (crcSum (cs.getD i (0, [])).2) ↔ seg b (18 + 9 * cs.length + offs cs i) (cs.getD i (0, [])).2.length = (cs.getD i (0, [])).2 := by
    rw [← whole_near hd hb hlen h i hi]
    constructor
    · intro k
      have := k.2.2
      rw [hto] at this
      rw [this]
    · intro e
      refine ⟨by omega, by omega, ?_⟩
      rw [hto]
      exact (low4_inj (crcSum_lt _) (crcSum_lt _) e).symm
  rw [partV_table _ cs hs _ i hi, hto]
  congr 1
  · by_cases e : seg b (18 + 9 * cs.length + offs cs i) (cs.getD i (0, [])).2.length = (cs.getD i (0, [])).2
    · rw [if_pos (hw.2 e), if_pos e, e]
    · rw [if_neg (fun k => e (hw.1 k)), if_neg e]
  · exact decide_eq_decide.2 hw
theorem burst_box {cs : List (Nat × List Nat)} (hd : DigC cs) (hn : (boxB cs).length ≤ 2000) {b : List Nat} (hlen : (boxB cs).length = b.length) (h : Near (leNum (boxB cs) ^^^ leNum b)) : IsBox b ↔ b = boxB cs := by
  have sz : ∀ {ds : List (Nat × List Nat)}, (boxB ds).length ≤ 2000 → ds.length < 65536 ∧ ∀ x ∈ ds, x.2.length < 4294967296 := fun {ds} h => by
    have h1 := length_box ds
    refine ⟨by omega, fun x hx => ?_⟩
    obtain ⟨i, hi, rfl⟩ := getD_of_mem hx
    have := box_room ds i hi
    omega
  constructor
  · rintro ⟨ds, e, dd⟩
    subst e
    have s1 := sz hn
    have s2 := sz (ds := ds) (by omega)
    rw [box_near hd dd s1.1 s2.1 s1.2 s2.2 hlen h]
  · intro e
    exact ⟨cs, e, hd⟩

def SpoilAt (w : World) (q : Nat) (l : List Nat) (f b : Nat) (rest : List Value) (i : Value) (wr : World) : Prop :=
  ∃ (j : Nat) (d : List Nat), j ≤ 32 ∧ i = .int .i64 (j : Int) ∧ Spoilt l f b j d ∧ BRow wr q d rest ∧ Below w.heap.size w wr
def BurstAt (w : World) (n : Nat) (cs : List (Nat × List Nat)) (a i : Value) (wr : World) : Prop :=
  ∃ j : Nat, j ≤ n ∧ i = .int .i64 (j : Int) ∧ a = .int .i64 (18 + 9 * (n : Int) + offs cs j) ∧ Reading w wr

set_option maxHeartbeats 12800000 in
set_option maxRecDepth 100000 in
theorem walk (A : Option Addr) (n c : Nat) (cs : List (Nat × List Nat)) (a y : Int) (w : World) (hd : DigC cs) (h : Chunks0 w A n cs) (ha0 : 0 ≤ a) (ha1 : a ≤ 65535) (hy0 : 0 ≤ y) (hy1 : y ≤ 4294967295) :
    Calls Try.prog 6 #[.slice A n c, .int .u16 a, .int .u32 y] w fun e w' => e = .returned (.bool true) ∧ Below w.heap.size w w' := by
  obtain ⟨i0, hi, hz0, hz1, hz2⟩ := info_parts Try.infoU8
  have HI := Lib.hid hi
  have HZ := Lib.hid (And.intro hz0 (And.intro hz1 hz2))
  have H := Lib.hid (And.intro hd h)
  clear hd h hi hz0 hz1 hz2
  go_enter Try.func6, Try.ntmps6
  go_wp2_with fail
  refine (awake7_true w).mono ?_
  rintro e w1 ⟨rfl, b1⟩
  have B1 := Lib.hid b1
  have KG := Lib.hid (great7_any w1 A n c cs (H.out.2.below b1))
  clear b1
  go_wp2_with fail
  refine KG.out.mono ?_
  rintro e w2 ⟨r, hr, rfl, rfl⟩
  rcases hr with rfl | ⟨rfl, hs⟩
  · go_wp2
    go_ret
    exact ⟨rfl, B1.out⟩
  have S1 := Lib.hid (⟨(H.out.2.below B1.out).small hs, H.out.1, hs⟩ : Small7 w1 A n cs)
  have K1 := Lib.hid (S1.out.lpack c)
  clear hs
  go_wp2_with fail
  refine K1.out.mono ?_
  rintro e w2 ⟨v2, rfl, o2, b2⟩
  obtain ⟨A2, c2, rfl, hA2, r2⟩ := Reads.of_own o2
  have hc2 := own_cap o2
  have hsz := S1.out.size
  have hn12 := S1.out.n
  have hN36 : 36 ≤ (boxB cs).length := by omega
  have hN : (boxB cs).length ≤ 1452 := hsz.2.2
  obtain ⟨bx, hbx⟩ : ∃ bx, boxB cs = bx := ⟨_, rfl⟩
  have HBX := Lib.hid hbx
  have DBX := Lib.hid (show Dig bx by rw [← hbx]; exact dig_box S1.out.dig)
  rw [hbx] at r2 hc2 hN36 hN ⊢
  obtain ⟨N, hNN⟩ : ∃ N, bx.length = N := ⟨_, rfl⟩
  have HNN := Lib.hid hNN
  rw [hNN] at r2 hc2 hN36 hN ⊢
  obtain ⟨f, hf⟩ : ∃ f, a.toNat % (8 * N) = f := ⟨_, rfl⟩
  have hf1 : f < 8 * N := by rw [← hf]; exact Nat.mod_lt _ (by omega)
  have hm : a.tmod (8 * (N : Int)) = (f : Int) := by
    rw [Int.tmod_eq_emod_of_nonneg ha0, ← hf, Int.natCast_emod, Int.natCast_mul, show ((a.toNat : Nat) : Int) = a by omega]; rfl
  obtain ⟨yn, hyn⟩ : ∃ yn : Nat, (yn : Int) = y := ⟨y.toNat, by omega⟩
  have HY := Lib.hid hyn
  have hw0 : IntKind.i64.wrap a = a := IntWalk.i64_in _ (by omega)
  have hw1 : IntKind.i64.wrap (8 * (N : Int)) = 8 * (N : Int) := IntWalk.i64_in _ (by omega)
  have hz : ¬ (8 * (N : Int) = 0) := by omega
  have B2 := Lib.hid (up2 B1.out b2)
  have S2 := Lib.hid (S1.out.below b2)
  have R2 := Lib.hid (And.intro r2 hA2)
  have E3 := Lib.hid (empty_bytes w2)
  have B3 := Lib.hid (mk_below w2 (.cells #[] 5))
  have R3 := Lib.hid (r2.below (mk_below w2 (.cells #[] 5)))
  clear o2 b2 r2 hsz hf hyn hbx hNN hA2
  go_wp2_with (at_builtin; refine wpList_append_reads rfl (.tmp 24) (.tmp 25) 25 rfl w2.heap.size 5 i0 (.int .u8 0) 1 Try.underlying25 HI.out HZ.out rfl (.slice (some ⟨w2.heap.size, 0, none⟩) 0 0) 0 [] rfl E3.out A2 N c2 (bts bx) rfl R3.out R2.out.2 (bts_one _) ?b1 ?b2 ?b3 ?_)
  case b1 => unfold maxLen; omega
  case b2 => omega
  case b3 => exact B3.out.size
  intro v3 w3 hown0 hgr
  have hown : w3.ownsRow w2.heap.size 5 1 v3 N (bts bx) := by simpa using hown0
  have b3 := own_grown_below B3.out hgr B3.out.size (fun k hk => by simp [Value.ownBlock] at hk; omega)
  obtain ⟨q, c3, rest, rfl, hb3, hc3, _, _, hq3⟩ := own_block hown (by omega)
  have Q3 := Lib.hid (And.intro hb3 (And.intro hq3 b3))
  clear hown0 hgr hown hb3 hq3 b3
  go_wp2_with fail
  go_loopw [9] (SpoilAt w2 q bx f yn rest) (fun i _ => 32 - (intOf i).toNat)
  case atStart => exact ⟨0, bx, by omega, rfl, Spoilt.start DBX.out f yn, Q3.out.1, Q3.out.2.2⟩
  case round =>
    obtain ⟨j, d, hj, rfl, hsp, hrow, hbel⟩ := hrel
    have HS := Lib.hid (And.intro hsp (And.intro hrow hbel))
    clear hsp hrow hbel
    by_cases hlt : j < 32
    · have hu : (j : Int) < 32 := by omega
      have e2 : IntKind.u64.wrap (j : Int) = (j : Int) := by simp [IntKind.wrap, IntKind.bits, IntKind.signed]; omega
      obtain ⟨v, hv⟩ : ∃ v, yn / 2 ^ j = v := ⟨_, rfl⟩
      have hyb : yn < 4294967296 := by have := HY.out; omega
      have hvlt : v < 4294967296 := by rw [← hv]; exact Nat.lt_of_le_of_lt (Nat.div_le_self _ _) hyb
      have hvb : v % 2 = (yn.testBit j).toNat := by rw [← hv, Nat.toNat_testBit]
      obtain ⟨V, hV⟩ : ∃ V : Int, V = (v : Int) := ⟨_, rfl⟩
      have e3 : y / 2 ^ j = V := by rw [hV, ← HY.out, ← hv]; simp
      have bV : 0 ≤ V ∧ V < 4294967296 := by omega
      have e5 : IntKind.i64.wrap ((f : Int) + j) = (f : Int) + j := IntWalk.i64_in _ (by omega)
      by_cases hb : yn.testBit j = true
      · have e4 : V % 2 = 1 := by rw [hb] at hvb; simp at hvb; omega
        by_cases hp : f + j < 8 * N
        · have t2 : (f : Int) + j < 8 * (N : Int) := by omega
          have NX := Lib.hid (HS.out.1.flip hb (by rw [HNN.out]; exact hp))
          obtain ⟨m, hmm⟩ : ∃ m, (f + j) / 8 = m := ⟨_, rfl⟩
          obtain ⟨s, hss⟩ : ∃ s, (f + j) % 8 = s := ⟨_, rfl⟩
          rw [hmm, hss] at NX
          have hmn : m < N := by omega
          have hmd : m < d.length := by rw [HS.out.1.2.1, HNN.out]; exact hmn
          have ck := HS.out.2.1.cell m hmd
          have fk := frozen_in HS.out.2.1 m
          have hdm := dig_at HS.out.1.1 m
          have R := Lib.hid (HS.out.2.1.set m (d.getD m 0 ^^^ 2 ^ s) hmd)
          have B := Lib.hid (HS.out.2.2.setCell (p := ⟨q, m, none⟩) Q3.out.2.1 (.int .u8 ((d.getD m 0 ^^^ 2 ^ s : Nat) : Int)))
          have hs8 : s < 8 := by omega
          have hpow : 2 ^ s < 256 := by
            have : 2 ^ s ≤ 2 ^ 7 := Nat.pow_le_pow_right (by omega) (by omega)
            omega
          have e6 := u8_xor_nat (d.getD m 0) (2 ^ s) hdm hpow
          have e7 : ((f : Int) + j) / 8 = (m : Int) := by omega
          have e8 : ((f : Int) + j) % 8 = (s : Int) := by omega
          have e9 : IntKind.u64.wrap (s : Int) = (s : Int) := by simp [IntKind.wrap, IntKind.bits, IntKind.signed]; omega
          obtain ⟨P, hP⟩ : ∃ P : Int, P = ((2 ^ s : Nat) : Int) := ⟨_, rfl⟩
          have bP : 0 ≤ P ∧ P < 256 := ⟨by rw [hP]; exact Int.natCast_nonneg _, by rw [hP]; exact Int.ofNat_lt.2 hpow⟩
          have e10 : IntKind.u8.wrap (2 ^ s) = P := by
            rw [show (2 : Int) ^ s = P by rw [hP, Int.natCast_pow]; rfl, IntKind.wrap_u8]
            exact Int.emod_eq_of_lt bP.1 bP.2
          rw [← hP] at e6
          have tm : (m : Int) < N := by omega
          have ts : (s : Int) < 8 := by omega
          have g2 : decide ((f : Int) + j < 8 * (N : Int)) = true := by simp; omega
          generalize hE : d.getD m 0 ^^^ 2 ^ s = E at *
          generalize d.getD m 0 = D at *
          clear hE hP hpow hmm hss hvb hv hvlt hb hp hV
          go_wp2_with fail
          go_region
          go_wp2_with fail
          exact ⟨⟨j + 1, _, by omega, by go_num, NX.out, R.out, B.out.trans (Reading.below ⟨1, rfl⟩)⟩, by simp [intOf]; omega⟩
        · have t2 : ¬ (f : Int) + j < 8 * (N : Int) := by omega
          have NX := Lib.hid (HS.out.1.past (by rw [HNN.out]; omega))
          clear hvb hv hvlt hb hp hV
          go_wp2_with fail
          exact ⟨⟨j + 1, _, by omega, by go_num, NX.out, HS.out.2.1, HS.out.2.2⟩, by simp [intOf]; omega⟩
      · have hb0 : yn.testBit j = false := by simpa using hb
        have e4 : V % 2 = 0 := by rw [hb0] at hvb; simp at hvb; omega
        have NX := Lib.hid (HS.out.1.clear hb0)
        clear hvb hv hvlt hb hb0 hV
        go_wp2_with fail
        exact ⟨⟨j + 1, _, by omega, by go_num, NX.out, HS.out.2.1, HS.out.2.2⟩, by simp [intOf]; omega⟩
    · obtain rfl : j = 32 := by omega
      have hu : ¬ ((32 : Nat) : Int) < 32 := by omega
      have hld : d.length = N := by rw [HS.out.1.2.1, HNN.out]
      have near := HS.out.1.near (Nat.le_refl _)
      rw [← HBX.out] at near
      have hlb : (boxB cs).length = d.length := by rw [HBX.out, hld, HNN.out]
      have lt := S2.out.lt
      have hln := S2.out.ch.len
      have dgd := HS.out.1.1
      have CO := Lib.hid (burst_opens S2.out.dig lt.1 lt.2 dgd hlb near)
      have CP := Lib.hid (fun i hi => burst_part S2.out.dig lt.2 dgd hlb near i hi)
      have CB := Lib.hid (burst_box S2.out.dig (by rw [HBX.out, HNN.out]; omega) hlb near)
      have DTM := Lib.hid (fun i hi => box_datum cs i hi)
      have hsz := S2.out.size
      have HOF := Lib.hid (fun j hj => offs_mono cs (show j ≤ cs.length from hj) (Nat.le_refl _))
      rw [hln] at CO CP HOF DTM
      rw [HBX.out] at CB DTM hsz
      rw [HNN.out] at hsz
      have rd := HS.out.2.1.reads hld
      have K4 := Lib.hid (bopen_any wr (some ⟨q, 0, none⟩) N c3 d rd dgd hc3 (by omega))
      have KR := Lib.hid (fun w' (b : Below wr.heap.size wr w') => bright_any w' (some ⟨q, 0, none⟩) N c3 d (rd.below b) dgd hc3 (by omega))
      have RD := Lib.hid rd
      have RB := Lib.hid (R2.out.1.below HS.out.2.2)
      have SR := Lib.hid (S2.out.below HS.out.2.2)
      have BR := Lib.hid (up2 B2.out HS.out.2.2)
      have DD := Lib.hid dgd
      have hof9 := hsz.2.1
      have hNo := hsz.1
      have HNO := Lib.hid hNo
      generalize partV d (tableB cs) (18 + 9 * (n : Int)) = P at *
      clear hld near hlb lt hln dgd hsz rd hm hw0 hw1 hz hNo
      go_wp2_with fail
      refine K4.out.mono ?_
      rintro e w4 (⟨k3, P3, q3, hO, rfl, hP, hq, b4⟩ | ⟨hno, rfl, b4⟩)
      · obtain ⟨rfl, rfl⟩ := hO.one CO.out
        have B4 := Lib.hid (up2 BR.out b4)
        have S4 := Lib.hid (SR.out.below b4)
        have P4 := Lib.hid hP
        have HB4 := Lib.hid b4
        have RB4 := Lib.hid (RB.out.below b4)
        have RD4 := Lib.hid (RD.out.below b4)
        clear hO hP b4 hq
        go_wp2_with fail
        go_loopw [13, 14] (BurstAt w4 k3 cs) (fun _ i _ => k3 - (intOf i).toNat)
        case atStart => exact ⟨0, Nat.zero_le _, rfl, by show _ = Value.int .i64 (18 + 9 * (k3 : Int) + 0); rw [Int.add_zero], Reading.refl _⟩
        case round =>
          obtain ⟨j, hj, rfl, rfl, hb⟩ := hrel
          by_cases hlt : j < k3
          · have hbw := hb.below (B := w4.heap.size)
            obtain ⟨b, off, rfl⟩ := S4.out.ch.ad (by omega)
            obtain ⟨Ai, ci, c0, c1, hA, hm9, hr⟩ := S4.out.ch.at j hlt
            obtain ⟨Ad, cd, p0, p1, p2, p3, hAd, hrd⟩ := P4.out.cells j hlt
            replace c0 := (hbw.cell (World.block_lt_of_cell? _ _ c0)).trans c0
            replace c1 := (hbw.cell (World.block_lt_of_cell? _ _ c1)).trans c1
            replace p0 := (hbw.cell (World.block_lt_of_cell? _ _ p0)).trans p0
            replace p1 := (hbw.cell (World.block_lt_of_cell? _ _ p1)).trans p1
            replace p2 := (hbw.cell (World.block_lt_of_cell? _ _ p2)).trans p2
            replace p3 := (hbw.cell (World.block_lt_of_cell? _ _ p3)).trans p3
            replace hr := hr.below hbw
            replace hrd := hrd.below hbw
            rw [CP.out j hlt] at p0 p1 p2 p3 hrd
            simp only at p0 p1 p2 p3 hrd
            have hdj := S4.out.dig.at (k := j) (by rw [S4.out.ch.len]; exact hlt)
            have dtm := DTM.out j hlt
            have hof : offs cs (j + 1) = offs cs j + (cs.getD j (0, [])).2.length := rfl
            have hmo1 := HOF.out (j + 1) (by omega)
            have hNo := HNO.out
            generalize cs.getD j (0, []) = x at *
            obtain ⟨kd, dt⟩ := x
            simp only at c0 c1 hm9 hr p0 p1 p2 p3 hrd hdj hof dtm
            obtain ⟨m, hm'⟩ : ∃ m, dt.length = m := ⟨_, rfl⟩
            rw [hm'] at c1 hm9 hr p1 p3 hrd hof dtm
            rw [hof] at hmo1
            generalize offs cs j = o at *
            have rc := (RB4.out.below hbw).cut hc2 (18 + 9 * k3 + o) m (by omega)
            rw [dtm] at rc
            have rc2 := (RD4.out.below hbw).cut hc3 (18 + 9 * k3 + o) m (by omega)
            have hcut := fun W => run_cut A2 N c2 (18 + 9 * k3 + o) m (18 + 9 * (k3 : Int) + (o : Int)) (18 + 9 * (k3 : Int) + (o : Int) + (m : Int)) (by omega) (by omega) (by omega) W
            have hcut2 := fun W => run_cut (some ⟨q, 0, none⟩) N c3 (18 + 9 * k3 + o) m (18 + 9 * (k3 : Int) + (o : Int)) (18 + 9 * (k3 : Int) + (o : Int) + (m : Int)) (by omega) (by omega) (by omega) W
            have hbe := bstr_beq hdj.2 (dig_seg DD.out (18 + 9 * k3 + o) m)
            have HOO := Lib.hid hof
            have HR := Lib.hid hb
            have b1 : (j : Int) < k3 := by omega
            have b2 : o + m ≤ 1200 := by omega
            have q1 := fun t => run_bstr (wr.drewN t) (cutA A2 c2 (18 + 9 * k3 + o)) m (c2 - (18 + 9 * k3 + o)) dt (rc.below (Reading.below ⟨t, rfl⟩))
            have q2 := fun t => run_bstr (wr.drewN t) (cutA (some ⟨q, 0, none⟩) c3 (18 + 9 * k3 + o)) m (c3 - (18 + 9 * k3 + o)) (seg d (18 + 9 * k3 + o) m) (rc2.below (Reading.below ⟨t, rfl⟩))
            obtain ⟨sg, hsg⟩ : ∃ sg, seg d (18 + 9 * k3 + o) m = sg := ⟨_, rfl⟩
            rw [hsg] at q2 hbe p1 p3 hrd
            generalize cutA A2 c2 (18 + 9 * k3 + o) = A7 at *
            generalize c2 - (18 + 9 * k3 + o) = c7 at *
            generalize cutA (some ⟨q, 0, none⟩) c3 (18 + 9 * k3 + o) = A9 at *
            generalize c3 - (18 + 9 * k3 + o) = c9 at *
            by_cases hw : sg = dt
            · rw [if_pos hw] at p1 hrd
              rw [decide_eq_true hw] at p3
              rw [decide_eq_true hw.symm] at hbe
              rw [hm'] at p1 hrd
              have q3 := fun t => run_bstr (wr.drewN t) Ad m cd dt (hrd.below (Reading.below ⟨t, rfl⟩))
              have q4 := fun t => run_bstr (wr.drewN t) Ai m ci dt (hr.below (Reading.below ⟨t, rfl⟩))
              generalize bstr dt = sb at *
              generalize bstr sg = sd at *
              clear hbw hA hm9 hr hAd hrd hof hmo1 hNo hm' rc rc2 hdj dtm hsg hw hb
              go_wp2_with fail
              go_quiet (fail)
              go_wp2_with fail
              have g1 : ((true : Bool) != true) = false := rfl
              go_quiet (fail)
              go_wp2_with fail
              refine ⟨⟨j + 1, by omega, by go_num, ?_, HR.out.trans ⟨_, rfl⟩⟩, by simp [intOf]; omega⟩
              rw [HOO.out]
              congr 1
              omega
            · rw [if_neg hw] at p1 hrd
              rw [decide_eq_false hw] at p3
              rw [decide_eq_false (fun e => hw e.symm)] at hbe
              have p1' : wr.cell? ⟨q3, j * 4 + 1, none⟩ = some (.slice Ad 0 cd) := p1
              generalize bstr dt = sb at *
              generalize bstr sg = sd at *
              clear hbw hA hm9 hr hAd hrd hof hmo1 hNo hm' rc rc2 hdj dtm hsg hw hb p1
              go_wp2_with fail
              go_quiet (fail)
              go_wp2_with fail
              have g1 : ((false : Bool) != false) = false := rfl
              go_quiet (fail)
              go_wp2_with fail
              refine ⟨⟨j + 1, by omega, by go_num, ?_, HR.out.trans ⟨_, rfl⟩⟩, by simp [intOf]; omega⟩
              rw [HOO.out]
              congr 1
              omega
          · obtain rfl : j = k3 := by omega
            have b1 : ¬ (j : Int) < j := by omega
            have hbw := hb.below (B := w4.heap.size)
            have bu := up2 HB4.out hb.below
            have bud := bu.trans (Reading.below (w' := wr.drew) ⟨1, rfl⟩)
            have KR' := Lib.hid (KR.out wr.drew bud)
            have BW := up2 B4.out hb.below
            have BWd := upd BW
            have RDW := Lib.hid (fun W (b : Below wr.drew.heap.size wr.drew W) => run_bstr W (some ⟨q, 0, none⟩) N c3 d ((RD4.out.below hbw).below ((Reading.below (B := wr.heap.size) (w' := wr.drew) ⟨1, rfl⟩).trans b)))
            have RBW := Lib.hid (fun W (b : Below wr.drew.heap.size wr.drew W) => run_bstr W A2 N c2 bx ((RB4.out.below hbw).below ((Reading.below (B := wr.heap.size) (w' := wr.drew) ⟨1, rfl⟩).trans b)))
            have x1 := RDW.out wr.drew (Below.refl _ _)
            have x2 := RBW.out wr.drew (Below.refl _ _)
            have hbe := bstr_beq DD.out DBX.out
            have TOLD := Lib.hid (fun (r : Bool) (hr : r = true ↔ IsBox d) => show (r == decide (d = bx)) = true by
              by_cases e : d = bx
              · rw [hr.2 (CB.out.2 e), decide_eq_true e]; rfl
              · have h1 : r = false := by cases r with | false => rfl | true => exact absurd (CB.out.1 (hr.1 rfl)) e
                rw [h1, decide_eq_false e]; rfl)
            generalize decide (d = bx) = tt at *
            generalize bstr d = sd at *
            generalize bstr bx = sb at *
            generalize 18 + 9 * (j : Int) + (offs cs j : Int) = fz at *
            clear hb hbw bu bud BW
            go_wp2_with fail
            go_region_with (first
              | (go_at_call 15; refine KR'.out.mono ?_; rintro e w6 ⟨r, hr, rfl, b6⟩; have g1 := TOLD.out r hr; have x3 := RDW.out w6 b6; have x4 := RBW.out w6 b6; have B6 := up2 BWd b6; clear hr b6)
              | fail)
            all_goals
              have Z := Lib.hid B6
              go_wp2
              go_ret
              exact ⟨rfl, Z.out⟩
      · exact (CO.out.no hno).elim

set_option maxRecDepth 100000 in
theorem lifted (os : Os) (started : os.Started) (H : Type) (enc : TypeId × Value → H) :
    ReturnsInHanded {} Try.checked os 6 .any (Rows.boxBurstSpec.pre6 enc Try.prog Try.f6 Rows.boxBurstRow.domain false) (Rows.boxBurstSpec.post enc Try.prog Try.f6 false true false false) := by
  refine returnsInHanded_of_change (C := Try.checked) own_knob started (by kernel_rfl) Try.func6
    (ChangeSpec.witness6 (enc := enc) (C := Try.checked) false ⟨#[], #[.slice none 0 0, .int .u16 0, .int .u32 0], []⟩ 8 (by kernel_rfl) (by kernel_rfl) (by kernel_rfl) (by kernel_rfl)) ?_
  intro W base args ds gs before hval0 hW hcnd _
  have hval : ∀ (j : Nat) t v, Try.f6.params[j]? = some t → args[j]? = some v → Value.okWide Try.prog W .any base t v := hval0
  have hW' := hW
  obtain ⟨p, q, hA0, hV, rfl, hfz, hnd⟩ := hW
  have hA : DataW.TrodAll enc Try.prog W 0 (fun _ => true) true Try.f6.params.toList args.toList ds p := hA0
  rw [Try.params6] at hA hval
  obtain ⟨v0, vs0, d0, ds0, p0, q0, hargs, rfl, rfl, h0, r0⟩ := trodAll_cons hA
  obtain ⟨v1, vs1, d1, ds1, p1, q1, rfl, rfl, rfl, h1, r1⟩ := trodAll_cons r0
  obtain ⟨v2, vs2, d2, ds2, p2, q2, rfl, rfl, rfl, h2, r2⟩ := trodAll_cons r1
  obtain ⟨rfl, rfl, rfl⟩ := trodAll_nil r2
  obtain rfl : args = #[v0, v1, v2] := by cases args; simp_all
  obtain ⟨rfl, rfl⟩ := trodVars_none hV
  obtain ⟨a0, len0, cap0, rfl⟩ := okWide_slice Try.underlying22 (hval 0 22 v0 rfl rfl)
  have lt0 : ∀ x ∈ p0, x.block < W.heap.size := by obtain ⟨m, hm⟩ := h0; exact DataW.trod_lt m _ _ _ hm
  obtain ⟨xs0, hx0, hr0⟩ := arg_chunks h0
  obtain ⟨a1, rfl, rfl, rfl, w1⟩ := open_int Try.underlying47 (hval 1 47 v1 rfl rfl) h1
  have bd1 := bounds_u16 w1
  obtain ⟨a2, rfl, rfl, rfl, w2⟩ := open_int Try.underlying44 (hval 2 44 v2 rfl rfl) h2
  have bd2 := bounds_u32 w2
  clear hA0 hval0
  refine (walk a0 len0 cap0 xs0 a1 a2 W hx0 hr0 (by omega) (by omega) (by omega) (by omega)).mono fun e W' ⟨he, bel⟩ => ?_
  subst he
  exact ⟨_, rfl, _, _, _, [], _, [], hW', trodAll_mk1 (shut_bool Try.underlying4 _), (trodAll_cons_mk (Below.trod laid_out (by kernel_rfl) (of_decide_eq_true (by kernel_rfl)) h0 bel lt0) (trodAll_cons_mk (shut_int Try.underlying47 w1) (trodAll_cons_mk (shut_int Try.underlying44 w2) trodAll_mk0))), rfl, bel.frame _, fun h => by cases h⟩

theorem over : Rows.boxBurstRow.holds Try.pinned (OpenSpec.ofChange Rows.boxBurstSpec) :=
  OpenClaim.holds_of_wide 6 Try.f6 rfl rfl rfl rfl rfl rfl rfl ⟨rfl, rfl, rfl, rfl, rfl⟩ rfl rfl rfl rfl rfl (by kernel_rfl) Try.func6 (by kernel_rfl)
    (of_decide_eq_true (by kernel_rfl)) (by unfold Func.isWrapper; first | (rw [if_pos (by decide +kernel)]; kernel_rfl) | (rw [if_neg (by decide +kernel)]; exact ⟨rfl, rfl⟩))
    (fun os started H enc _ => lifted os started H enc)

theorem proved : Rows.BoxBurstSaid := over
end Go.Proofs.Ytngambkbpdjddaa.boxBurst
