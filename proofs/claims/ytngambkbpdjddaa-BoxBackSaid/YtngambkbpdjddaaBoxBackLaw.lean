/- BoxBack: few chunks (12 of up to 100 bytes each), packed and opened, come back as they were, each whole, at its place; the sums are layer 6's. No condition. -/
import Derived.Test.YtngambkbpdjddaaBoxLaw
namespace Go.Proofs.Ytngambkbpdjddaa.boxBack
open Go.ChangeShapes Go.WideShapes Go.ChangeAt Go.RowKit

theorem box_sum (cs : List (Nat × List Nat)) (i : Nat) (h : i < cs.length) : seg (boxB cs) (10 + 9 * i + 5) 4 = low4 (crcSum (cs.getD i (0, [])).2) := by
  have e : seg (boxB cs) (10 + 9 * i + 5) 4 = seg (tableB cs) (9 * i + 5) 4 := by
    rw [← box_table, seg_sub _ _ _ _ _ (by omega), Nat.add_assoc]
  rw [e, ← seg_sub (tableB cs) (9 * i) 9 5 4 (by omega), table_row cs i h, row_sum]
def BackAt (w : World) (n : Nat) (cs : List (Nat × List Nat)) (a i : Value) (wr : World) : Prop :=
  ∃ j : Nat, j ≤ n ∧ i = .int .i64 (j : Int) ∧ a = .int .i64 (18 + 9 * (n : Int) + offs cs j) ∧ Below w.heap.size w wr

set_option maxHeartbeats 6400000 in
set_option maxRecDepth 100000 in
theorem walk (A : Option Addr) (n c : Nat) (cs : List (Nat × List Nat)) (w : World) (hd : DigC cs) (h : Chunks0 w A n cs) :
    Calls Try.prog 5 #[.slice A n c] w fun e w' => e = .returned (.bool true) ∧ Below w.heap.size w w' := by
  have H := Lib.hid (And.intro hd h)
  clear hd h
  go_enter Try.func5, Try.ntmps5
  go_wp2_with fail
  refine (awake7_true w).mono ?_
  rintro e w1 ⟨rfl, b1⟩
  have B1 := Lib.hid b1
  have KG := Lib.hid (great7_any w1 A n c cs (H.out.2.below b1))
  clear b1
  go_wp2_with fail
  refine KG.out.mono ?_
  rintro e w2 ⟨r, hr, rfl, rfl⟩
  rcases hr with rfl | ⟨rfl, hs⟩
  · go_wp2
    go_ret
    exact ⟨rfl, B1.out⟩
  have S1 := Lib.hid (⟨(H.out.2.below B1.out).small hs, H.out.1, hs⟩ : Small7 w1 A n cs)
  have K1 := Lib.hid (S1.out.pack c)
  clear hs
  go_wp2_with fail
  refine K1.out.mono ?_
  rintro e w2 ⟨v2, rfl, o2, b2⟩
  obtain ⟨A2, c2, rfl, hA2, r2⟩ := Reads.of_own o2
  have hc2 := own_cap o2
  have hsz := S1.out.size
  have hln := S1.out.ch.len
  have hn12 := S1.out.n
  have lt := S1.out.lt
  have dbx := dig_box S1.out.dig
  have hN : (boxB cs).length ≤ 1452 := hsz.2.2
  have hNo : (boxB cs).length = 36 + 18 * n + offs cs n := hsz.1
  have B2 := Lib.hid (up2 B1.out b2)
  have S2 := Lib.hid (S1.out.below b2)
  have K2 := Lib.hid (bopen_any w2 A2 (boxB cs).length c2 (boxB cs) r2 dbx hc2 (by omega))
  have OPN := Lib.hid (fun k P (h : Opens (boxB cs) k P) => box_opens lt.1 lt.2 h)
  have NH := Lib.hid (box_head cs lt.1)
  have HOF := Lib.hid (fun j hj => offs_mono cs (show j ≤ cs.length from hj) (Nat.le_refl _))
  have DTM := Lib.hid (fun i hi => box_datum cs i hi)
  have SUM := Lib.hid (fun i hi => box_sum cs i hi)
  rw [hln] at OPN HOF DTM SUM
  have R2 := Lib.hid (And.intro r2 dbx)
  generalize hbx : boxB cs = bx at *
  obtain ⟨N, hNN⟩ : ∃ N, bx.length = N := ⟨_, rfl⟩
  rw [hNN] at hN hNo hc2 K2 R2 ⊢
  have hof9 := hsz.2.1
  have HNO := Lib.hid hNo
  clear o2 b2 r2 hsz hln lt dbx hbx hNN hNo
  go_wp2_with fail
  refine K2.out.mono ?_
  rintro e w3 (⟨k3, P3, q3, hO, rfl, hP, hq, b3⟩ | ⟨hno, rfl, b3⟩)
  · obtain ⟨rfl, hPi⟩ := OPN.out k3 P3 hO
    have HPI := Lib.hid hPi
    have B3 := Lib.hid (up2 B2.out b3)
    have S3 := Lib.hid (S2.out.below b3)
    have P3' := Lib.hid hP
    have R3 := Lib.hid (And.intro (R2.out.1.below b3) R2.out.2)
    have t0 : ((k3 : Int) != (k3 : Int)) = false := by simp
    clear hO hP b3 hq hPi R2
    go_wp2_with fail
    go_loopw [7, 8] (BackAt w3 k3 cs) (fun _ i _ => k3 - (intOf i).toNat)
    case atStart => exact ⟨0, Nat.zero_le _, rfl, by show _ = Value.int .i64 (18 + 9 * (k3 : Int) + 0); rw [Int.add_zero], Below.refl _ _⟩
    case round =>
      obtain ⟨j, hj, rfl, rfl, hb⟩ := hrel
      by_cases hlt : j < k3
      · obtain ⟨b, off, rfl⟩ := S3.out.ch.ad (by omega)
        obtain ⟨Ai, ci, c0, c1, hA, hm9, hr⟩ := (S3.out.ch.below hb).at j hlt
        obtain ⟨Ad, cd, p0, p1, p2, p3, hAd, hrd⟩ := (P3'.out.below hb).cells j hlt
        have hdj := S3.out.dig.at (k := j) (by rw [S3.out.ch.len]; exact hlt)
        rw [HPI.out j hlt] at p0 p1 p2 p3 hrd
        have hNo := HNO.out
        have hof : offs cs (j + 1) = offs cs j + (cs.getD j (0, [])).2.length := rfl
        have hmo1 := HOF.out (j + 1) (by omega)
        have dtm := DTM.out j hlt
        have hsm := SUM.out j hlt
        have hcr := crcSum_lt (cs.getD j (0, [])).2
        simp only [wholeV] at p0 p1 p2 p3 hrd
        generalize cs.getD j (0, []) = x at *
        obtain ⟨kd, dt⟩ := x
        simp only at c0 c1 hm9 hr p0 p1 hrd hdj hof dtm hsm hcr
        obtain ⟨m, hm'⟩ : ∃ m, dt.length = m := ⟨_, rfl⟩
        rw [hm'] at c1 hm9 hr p1 hrd hof dtm
        rw [hof] at hmo1
        generalize offs cs j = o at *
        have rc := (R3.out.1.below hb).cut hc2 (18 + 9 * k3 + o) m (by omega)
        rw [dtm] at rc
        have rs := (R3.out.1.below hb).cut hc2 (10 + 9 * j + 5) 4 (by omega)
        rw [hsm] at rs
        have RS := Lib.hid rs
        have q1 := fun t => run_bstr (wr.drewN t) Ai m ci dt (hr.below (Reading.below ⟨t, rfl⟩))
        have q2 := fun t => run_bstr (wr.drewN t) Ad m cd dt (hrd.below (Reading.below ⟨t, rfl⟩))
        have q3 := fun t => run_bstr (wr.drewN t) (cutA A2 c2 (18 + 9 * k3 + o)) m (c2 - (18 + 9 * k3 + o)) dt (rc.below (Reading.below ⟨t, rfl⟩))
        have hcut := fun W => run_cut A2 N c2 (18 + 9 * k3 + o) m (18 + 9 * (k3 : Int) + (o : Int)) (18 + 9 * (k3 : Int) + (o : Int) + (m : Int)) (by omega) (by omega) (by omega) W
        have hcut2 := fun W => run_cut A2 N c2 (10 + 9 * j + 5) 4 (10 + 9 * (j : Int) + 5) (10 + 9 * (j : Int) + 9) (by omega) (by omega) (by omega) W
        generalize cutA A2 c2 (18 + 9 * k3 + o) = A7 at *
        generalize c2 - (18 + 9 * k3 + o) = c7 at *
        generalize cutA A2 c2 (10 + 9 * j + 5) = A9 at *
        generalize c2 - (10 + 9 * j + 5) = c9 at *
        have KS := Lib.hid (fun w' (b : Below wr.heap.size wr w') => csum_any w' Ai m ci dt (hr.below b) hdj.2 (by omega))
        have KL := Lib.hid (fun w' => r7low_any w' (crcSum dt) (by omega))
        have RL := Lib.hid (fun w' A c (h : Reads w' A 4 (bts (low4 (crcSum dt)))) => run_bstr w' A 4 c (low4 (crcSum dt)) h)
        have RSW := Lib.hid (fun W (b : Below wr.heap.size wr W) => run_bstr W A9 4 c9 (low4 (crcSum dt)) (RS.out.below b))
        generalize bstr (low4 (crcSum dt)) = sl at *
        generalize low4 (crcSum dt) = ll at *
        generalize crcSum dt = s at *
        generalize bstr dt = sb at *
        have HB := Lib.hid hb
        have HC := Lib.hid (fun W (b' : Below wr.heap.size wr W) => (b'.cell (World.block_lt_of_cell? _ _ c1)).trans c1)
        have HOO := Lib.hid hof
        have b1 : (j : Int) < k3 := by omega
        have b2 : o + m ≤ 1200 := by omega
        have b3 : ¬ (N : Int) < 18 + 9 * (k3 : Int) + (o : Int) + (m : Int) := by omega
        have b3' : decide ((N : Int) < 18 + 9 * (k3 : Int) + (o : Int) + (m : Int)) = false := by simp; omega
        have e9 : IntKind.u64.wrap (s : Int) = (s : Int) := IntWalk.u64_in _ (by omega)
        have e10 : (((18 + 9 * (k3 : Int) + (o : Int)) : Int) != (18 + 9 * (k3 : Int) + (o : Int))) = false := by simp
        clear hA hm9 hr hAd hrd hof hmo1 dtm hsm hcr hdj hm' rc rs hb hNo
        go_wp2_with fail
        go_quiet (fail)
        go_wp2_with fail
        have bq : Below wr.heap.size wr (wr.drewN nq) := Reading.below ⟨nq, rfl⟩
        have KS' := Lib.hid (KS.out _ bq)
        have cc := HC.out _ bq
        generalize wr.drewN nq = w4 at *
        refine KS'.out.mono ?_
        rintro e w5 ⟨rfl, b5⟩
        have b5' := bq.trans (b5.mono bq.size)
        clear b5 bq cc KS' q1 q2 q3 hcut
        have b5d := b5'.trans (Reading.below (B := wr.heap.size) (w' := w5.drew) ⟨1, rfl⟩)
        have r1 := RSW.out w5.drew b5d
        have u1 : IntKind.i64.wrap (9 * (j : Int)) = 9 * (j : Int) := IntWalk.i64_in _ (by omega)
        have u2 : IntKind.i64.wrap (10 + 9 * (j : Int)) = 10 + 9 * (j : Int) := IntWalk.i64_in _ (by omega)
        have u3 : IntKind.i64.wrap (10 + 9 * (j : Int) + 5) = 10 + 9 * (j : Int) + 5 := IntWalk.i64_in _ (by omega)
        have u4 : IntKind.i64.wrap (10 + 9 * (j : Int) + 9) = 10 + 9 * (j : Int) + 9 := IntWalk.i64_in _ (by omega)
        have u5 : (0 : Int) ≤ 10 + 9 * (j : Int) + 5 := by omega
        have u6 : (10 + 9 * (j : Int) + 5 : Int) ≤ 10 + 9 * (j : Int) + 9 := by omega
        go_wp2_with fail
        go_region_with (first
          | (go_at_call 20; refine (KL.out _).mono ?_; rintro e w6 ⟨v6, rfl, o6, b6⟩; obtain ⟨A6, c6, rfl, _, r6⟩ := Reads.of_own o6; have r2 := RL.out w6 A6 c6 r6; have b6' := b5d.trans (b6.mono b5d.size); have r3 := RSW.out w6 b6'; clear o6 b6 r6)
          | fail)
        all_goals
          have Z := Lib.hid b6'
          clear b6' b5d b5' r1 r2 r3
          go_wp2_with fail
          refine ⟨⟨j + 1, by omega, by go_num, ?_, HB.out.trans (Z.out.mono HB.out.size)⟩, by simp [intOf]; omega⟩
          rw [HOO.out]
          congr 1
          omega
      · obtain rfl : j = k3 := by omega
        have b1 : ¬ (j : Int) < j := by omega
        have HB := Lib.hid (up2 B3.out hb)
        have hNo := HNO.out
        have e1 : (((N : Nat) : Int) == 18 + 9 * (j : Int) + (offs cs j : Int) + 18 + 9 * (j : Int)) = true := by simp; omega
        generalize offs cs j = o at *
        have b2 : o ≤ 1200 := hof9
        clear hb hNo
        go_wp2
        go_ret
        exact ⟨rfl, HB.out⟩
  · exact (NH.out hno).elim

set_option maxRecDepth 100000 in
theorem lifted (os : Os) (started : os.Started) (H : Type) (enc : TypeId × Value → H) :
    ReturnsInHanded {} Try.checked os 5 .any (Rows.boxBackSpec.pre6 enc Try.prog Try.f5 Rows.boxBackRow.domain false) (Rows.boxBackSpec.post enc Try.prog Try.f5 false true false false) := by
  refine returnsInHanded_of_change (C := Try.checked) own_knob started (by kernel_rfl) Try.func5
    (ChangeSpec.witness6 (enc := enc) (C := Try.checked) false ⟨#[], #[.slice none 0 0], []⟩ 8 (by kernel_rfl) (by kernel_rfl) (by kernel_rfl) (by kernel_rfl)) ?_
  intro W base args ds gs before hval0 hW hcnd _
  have hval : ∀ (j : Nat) t v, Try.f5.params[j]? = some t → args[j]? = some v → Value.okWide Try.prog W .any base t v := hval0
  have hW' := hW
  obtain ⟨p, q, hA0, hV, rfl, hfz, hnd⟩ := hW
  have hA : DataW.TrodAll enc Try.prog W 0 (fun _ => true) true Try.f5.params.toList args.toList ds p := hA0
  rw [Try.params5] at hA hval
  obtain ⟨v0, vs0, d0, ds0, p0, q0, hargs, rfl, rfl, h0, r0⟩ := trodAll_cons hA
  obtain ⟨rfl, rfl, rfl⟩ := trodAll_nil r0
  obtain rfl : args = #[v0] := by cases args; simp_all
  obtain ⟨rfl, rfl⟩ := trodVars_none hV
  obtain ⟨a0, len0, cap0, rfl⟩ := okWide_slice Try.underlying22 (hval 0 22 v0 rfl rfl)
  have lt0 : ∀ x ∈ p0, x.block < W.heap.size := by obtain ⟨m, hm⟩ := h0; exact DataW.trod_lt m _ _ _ hm
  obtain ⟨xs0, hx0, hr0⟩ := arg_chunks h0
  clear hA0 hval0
  refine (walk a0 len0 cap0 xs0 W hx0 hr0).mono fun e W' ⟨he, bel⟩ => ?_
  subst he
  exact ⟨_, rfl, _, _, _, [], _, [], hW', trodAll_mk1 (shut_bool Try.underlying4 _), (trodAll_cons_mk (Below.trod laid_out (by kernel_rfl) (of_decide_eq_true (by kernel_rfl)) h0 bel lt0) trodAll_mk0), rfl, bel.frame _, fun h => by cases h⟩

theorem over : Rows.boxBackRow.holds Try.pinned (OpenSpec.ofChange Rows.boxBackSpec) :=
  OpenClaim.holds_of_wide 5 Try.f5 rfl rfl rfl rfl rfl rfl rfl ⟨rfl, rfl, rfl, rfl, rfl⟩ rfl rfl rfl rfl rfl (by kernel_rfl) Try.func5 (by kernel_rfl)
    (of_decide_eq_true (by kernel_rfl)) (by unfold Func.isWrapper; first | (rw [if_pos (by decide +kernel)]; kernel_rfl) | (rw [if_neg (by decide +kernel)]; exact ⟨rfl, rfl⟩))
    (fun os started H enc _ => lifted os started H enc)

theorem proved : Rows.BoxBackSaid := over
end Go.Proofs.Ytngambkbpdjddaa.boxBack
