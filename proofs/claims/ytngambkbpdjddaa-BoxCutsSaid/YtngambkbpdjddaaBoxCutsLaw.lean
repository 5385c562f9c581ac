/- BoxCuts: of few chunks (12 of up to 100 bytes each), packed and cut off behind the first header: the chunks that are there wholly are told whole, the others not, and it is no container. No condition. -/
import Derived.Test.YtngambkbpdjddaaBoxLaw
namespace Go.Proofs.Ytngambkbpdjddaa.boxCuts
open Go.ChangeShapes Go.WideShapes Go.ChangeAt Go.RowKit

theorem seg_of_seg (l : List Nat) (k p m : Nat) (h : p + m ≤ k) : seg (seg l 0 k) p m = seg l p m := by rw [seg_sub _ _ _ _ _ h, Nat.zero_add]
/-- What a container that is cut off is opened as. -/
theorem cut_opens {cs : List (Nat × List Nat)} (hl : cs.length < 65536) {k : Nat} (hk : 14 + 9 * cs.length ≤ k) (hk2 : k ≤ (boxB cs).length) : Opens (seg (boxB cs) 0 k) cs.length (partV (seg (boxB cs) 0 k) (tableB cs) (18 + 9 * (cs.length : Int))) := by
  have hf := box_first cs hl
  have hlen : (seg (boxB cs) 0 k).length = k := length_seg _ _ _ (by omega)
  refine .inl ⟨⟨by rw [hlen]; exact hk, hl, ?_, ?_⟩, ?_⟩
  · rw [seg_of_seg _ _ _ _ (by omega)]; exact hf.2.2.1
  · rw [seg_of_seg _ _ _ _ (by omega)]; exact hf.2.2.2
  · rw [seg_of_seg _ _ _ _ (by omega), Nat.add_comm (9 * cs.length) 4, box_table]
theorem cut_part {cs : List (Nat × List Nat)} (hs : ∀ x ∈ cs, x.2.length < 4294967296) {k : Nat} (hk2 : k ≤ (boxB cs).length) (i : Nat) (h : i < cs.length) :
    (partV (seg (boxB cs) 0 k) (tableB cs) (18 + 9 * (cs.length : Int)) i).whole = decide (18 + 9 * (cs.length : Int) + offs cs (i + 1) ≤ k) ∧
    (18 + 9 * (cs.length : Int) + offs cs (i + 1) ≤ k → (partV (seg (boxB cs) 0 k) (tableB cs) (18 + 9 * (cs.length : Int)) i).data = (cs.getD i (0, [])).2) := by
  have hlen : (seg (boxB cs) 0 k).length = k := length_seg _ _ _ (by omega)
  have hof : offs cs (i + 1) = offs cs i + (cs.getD i (0, [])).2.length := rfl
  have hwh : Whole (seg (boxB cs) 0 k) (18 + 9 * (cs.length : Int) + offs cs i) (cs.getD i (0, [])).2.length (crcSum (cs.getD i (0, [])).2) ↔ 18 + 9 * (cs.length : Int) + offs cs (i + 1) ≤ k := by
    constructor
    · intro hw
      have := hw.2.1
      rw [hlen] at this
      omega
    · intro hle
      refine ⟨by omega, by rw [hlen]; omega, ?_⟩
      rw [show (18 + 9 * (cs.length : Int) + offs cs i).toNat = 18 + 9 * cs.length + offs cs i by omega, seg_of_seg _ _ _ _ (by omega), box_datum cs i h]
  rw [partV_table _ cs hs _ i h]
  refine ⟨decide_eq_decide.2 hwh, fun hle => ?_⟩
  show (if _ then _ else _) = _
  rw [if_pos (hwh.2 hle), show (18 + 9 * (cs.length : Int) + offs cs i).toNat = 18 + 9 * cs.length + offs cs i by omega, seg_of_seg _ _ _ _ (by omega), box_datum cs i h]
theorem cut_noBox {cs : List (Nat × List Nat)} (hn : (boxB cs).length ≤ 2000) {k : Nat} (hk : k < (boxB cs).length) : ¬ IsBox (seg (boxB cs) 0 k) := by
  rintro ⟨ds, e, _⟩
  have sz : ∀ {ds : List (Nat × List Nat)}, (boxB ds).length ≤ 2000 → ds.length < 65536 ∧ ∀ x ∈ ds, x.2.length < 4294967296 := fun {ds} h => by
    have h1 := length_box ds
    refine ⟨by omega, fun x hx => ?_⟩
    obtain ⟨i, hi, rfl⟩ := getD_of_mem hx
    have := box_room ds i hi
    omega
  have hlen : (seg (boxB cs) 0 k).length = k := length_seg _ _ _ (by omega)
  have hlen2 : (boxB ds).length = k := by rw [← e]; exact hlen
  have s1 := sz hn
  have s2 := sz (ds := ds) (by omega)
  have e2 : boxB ds ++ (boxB cs).drop k = boxB cs ++ [] := by
    rw [← e, List.append_nil]
    show ((boxB cs).drop 0).take k ++ _ = _
    rw [List.drop_zero, List.take_append_drop]
  have k1 := box_inj s2.1 s1.1 s2.2 s1.2 _ _ e2
  have k2 := offs_congr (fun i hi => (k1.2 i hi).2) ds.length (Nat.le_refl _)
  have l1 := second_at cs
  have l2 := second_at ds
  rw [k1.1] at l2 k2
  omega

def CutsAt (w : World) (n : Nat) (cs : List (Nat × List Nat)) (a i : Value) (wr : World) : Prop :=
  ∃ j : Nat, j ≤ n ∧ i = .int .i64 (j : Int) ∧ a = .int .i64 (18 + 9 * (n : Int) + offs cs j) ∧ Reading w wr

set_option maxHeartbeats 6400000 in
set_option maxRecDepth 100000 in
theorem walk (A : Option Addr) (n c : Nat) (cs : List (Nat × List Nat)) (a : Int) (w : World) (hd : DigC cs) (h : Chunks0 w A n cs) (ha0 : 0 ≤ a) (ha1 : a ≤ 65535) :
    Calls Try.prog 7 #[.slice A n c, .int .u16 a] w fun e w' => e = .returned (.bool true) ∧ Below w.heap.size w w' := by
  have H := Lib.hid (And.intro hd h)
  clear hd h
  go_enter Try.func7, Try.ntmps7
  go_wp2_with fail
  refine (awake7_true w).mono ?_
  rintro e w1 ⟨rfl, b1⟩
  have B1 := Lib.hid b1
  have KG := Lib.hid (great7_any w1 A n c cs (H.out.2.below b1))
  clear b1
  go_wp2_with fail
  refine KG.out.mono ?_
  rintro e w2 ⟨r, hr, rfl, rfl⟩
  rcases hr with rfl | ⟨rfl, hs⟩
  · go_wp2
    go_ret
    exact ⟨rfl, B1.out⟩
  have S1 := Lib.hid (⟨(H.out.2.below B1.out).small hs, H.out.1, hs⟩ : Small7 w1 A n cs)
  have K1 := Lib.hid (S1.out.lpack c)
  clear hs
  go_wp2_with fail
  refine K1.out.mono ?_
  rintro e w2 ⟨v2, rfl, o2, b2⟩
  obtain ⟨A2, c2, rfl, hA2, r2⟩ := Reads.of_own o2
  have hc2 := own_cap o2
  have hsz := S1.out.size
  have hln := S1.out.ch.len
  have hn12 := S1.out.n
  have hN36 : 36 ≤ (boxB cs).length := by omega
  have hN : (boxB cs).length ≤ 1452 := hsz.2.2
  obtain ⟨k, hk⟩ : ∃ k, a.toNat % (boxB cs).length = k := ⟨_, rfl⟩
  have hkN : k < (boxB cs).length := by rw [← hk]; exact Nat.mod_lt _ (by omega)
  have hm : a.tmod ((boxB cs).length : Int) = (k : Int) := by
    rw [Int.tmod_eq_emod_of_nonneg ha0, ← hk, Int.natCast_emod, show ((a.toNat : Nat) : Int) = a by omega]
  have hz : ¬ (((boxB cs).length : Int) = 0) := by omega
  have hw0 : IntKind.i64.wrap a = a := IntWalk.i64_in _ (by omega)
  have B2 := Lib.hid (up2 B1.out b2)
  have S2 := Lib.hid (S1.out.below b2)
  have R2 := Lib.hid r2
  by_cases h14 : k < 14 + 9 * n
  · have t1 : (k : Int) < 14 + 9 * (n : Int) := by omega
    generalize (boxB cs).length = N at *
    clear o2 b2 r2 hsz hk
    go_wp2
    go_ret
    exact ⟨rfl, B2.out⟩
  have t1 : ¬ (k : Int) < 14 + 9 * (n : Int) := by omega
  have lt := S1.out.lt
  have hs1 := fun W => run_head A2 (boxB cs).length c2 k (k : Int) rfl (by omega) W
  have K2 := Lib.hid (bopen_any w2 A2 k c2 (seg (boxB cs) 0 k) (r2.head k (by omega)) (dig_seg (dig_box S1.out.dig) _ _) (by omega) (by omega))
  have KR := Lib.hid (fun w' (b : Below w2.heap.size w2 w') => bright_any w' A2 k c2 (seg (boxB cs) 0 k) ((r2.head k (by omega)).below b) (dig_seg (dig_box S1.out.dig) _ _) (by omega) (by omega))
  have CO := Lib.hid (cut_opens lt.1 (k := k) (by rw [hln]; omega) (by omega))
  have CP := Lib.hid (fun i hi => cut_part lt.2 (k := k) (by omega) i hi)
  have NB := Lib.hid (cut_noBox (by omega) hkN)
  have HOF := Lib.hid (fun j hj => offs_mono cs (show j ≤ cs.length from hj) (Nat.le_refl _))
  rw [hln] at CO CP HOF
  generalize (boxB cs).length = N at *
  generalize seg (boxB cs) 0 k = pre at *
  generalize partV pre (tableB cs) (18 + 9 * (n : Int)) = P at *
  have hof9 := hsz.2.1
  clear o2 b2 r2 hsz hk lt hln
  go_wp2_with fail
  refine K2.out.mono ?_
  rintro e w3 (⟨k3, P3, q3, hO, rfl, hP, hq, b3⟩ | ⟨hno, rfl, b3⟩)
  · obtain ⟨rfl, rfl⟩ := hO.one CO.out
    have B3 := Lib.hid (up2 B2.out b3)
    have S3 := Lib.hid (S2.out.below b3)
    have P3' := Lib.hid hP
    have HB3 := Lib.hid b3
    clear hO hP b3 hq
    go_wp2_with fail
    go_loopw [9, 10] (CutsAt w3 k3 cs) (fun _ i _ => k3 - (intOf i).toNat)
    case atStart => exact ⟨0, Nat.zero_le _, rfl, by show _ = Value.int .i64 (18 + 9 * (k3 : Int) + 0); rw [Int.add_zero], Reading.refl _⟩
    case round =>
      obtain ⟨j, hj, rfl, rfl, hb⟩ := hrel
      by_cases hlt : j < k3
      · have hbw := hb.below (B := w3.heap.size)
        obtain ⟨b, off, rfl⟩ := S3.out.ch.ad (by omega)
        obtain ⟨Ai, ci, c0, c1, hA, hm9, hr⟩ := S3.out.ch.at j hlt
        obtain ⟨Ad, cd, p0, p1, p2, p3, hAd, hrd⟩ := P3'.out.cells j hlt
        have cp := CP.out j hlt
        replace c1 := (hbw.cell (World.block_lt_of_cell? _ _ c1)).trans c1
        replace p1 := (hbw.cell (World.block_lt_of_cell? _ _ p1)).trans p1
        replace p3 := (hbw.cell (World.block_lt_of_cell? _ _ p3)).trans p3
        have hof : offs cs (j + 1) = offs cs j + (cs.getD j (0, [])).2.length := rfl
        have hmo := HOF.out j (by omega)
        have hmo1 := HOF.out (j + 1) (by omega)
        rw [cp.1] at p3
        have cp2 := cp.2
        obtain ⟨m, hm'⟩ : ∃ m, (cs.getD j (0, [])).2.length = m := ⟨_, rfl⟩
        obtain ⟨md, hmd⟩ : ∃ md, (P3 j).data.length = md := ⟨_, rfl⟩
        have q1 := fun t => run_bstr (wr.drewN t) Ai m ci (cs.getD j (0, [])).2 (by rw [← hm']; exact (hr.below hbw).below (Reading.below ⟨t, rfl⟩))
        have q2 := fun t => run_bstr (wr.drewN t) Ad md cd (P3 j).data (by rw [← hmd]; exact (hrd.below hbw).below (Reading.below ⟨t, rfl⟩))
        rw [hm'] at c1 hof
        rw [hmd] at p1
        have HOO := Lib.hid hof
        have HR := Lib.hid hb
        have b1 : (j : Int) < k3 := by omega
        rw [hof] at cp2 p3 hmo1
        generalize offs cs j = o at *
        have b2 : o + m ≤ 1200 := by omega
        by_cases hle : 18 + 9 * (k3 : Int) + ((o + m : Nat) : Int) ≤ k
        · have hdd := cp2 hle
          rw [hdd] at q2
          rw [decide_eq_true hle] at p3
          have e1 : decide (18 + 9 * (k3 : Int) + (o : Int) + (m : Int) ≤ (k : Int)) = true := by rw [decide_eq_true_iff]; omega
          have e2 : 18 + 9 * (k3 : Int) + (o : Int) + (m : Int) ≤ (k : Int) := by omega
          generalize bstr (cs.getD j (0, [])).2 = sb at *
          clear hbw c0 hA hm9 hr p0 p2 hAd hrd cp cp2 hof hmo hmo1 hm' hmd hb hle hdd
          go_wp2_with fail
          go_quiet (fail)
          go_wp2_with fail
          refine ⟨⟨j + 1, by omega, by go_num, ?_, HR.out.trans ⟨_, rfl⟩⟩, by simp [intOf]; omega⟩
          rw [HOO.out]
          congr 1
          omega
        · rw [decide_eq_false hle] at p3
          have e1 : decide (18 + 9 * (k3 : Int) + (o : Int) + (m : Int) ≤ (k : Int)) = false := by rw [decide_eq_false_iff_not]; omega
          have e2 : ¬ 18 + 9 * (k3 : Int) + (o : Int) + (m : Int) ≤ (k : Int) := by omega
          clear hbw c0 hA hm9 hr p0 p2 hAd hrd cp cp2 hof hmo hmo1 hm' hmd hb hle q1 q2
          go_wp2_with fail
          go_quiet (fail)
          go_wp2_with fail
          refine ⟨⟨j + 1, by omega, by go_num, ?_, HR.out.trans ⟨_, rfl⟩⟩, by simp [intOf]; omega⟩
          rw [HOO.out]
          congr 1
          omega
      · obtain rfl : j = k3 := by omega
        have b1 : ¬ (j : Int) < j := by omega
        have B4 := Lib.hid (up2 B3.out hb.below)
        have KR' := Lib.hid (KR.out wr (up2 HB3.out hb.below))
        clear hb
        generalize 18 + 9 * (j : Int) + (offs cs j : Int) = f at *
        go_wp2_with fail
        refine KR'.out.mono ?_
        rintro e w6 ⟨r, hr, rfl, b6⟩
        obtain rfl : r = false := by cases r with | false => rfl | true => exact absurd (hr.1 rfl) NB.out
        have B6 := Lib.hid (up2 B4.out b6)
        clear hr b6
        go_wp2
        go_ret
        exact ⟨rfl, B6.out⟩
  · exact (CO.out.no hno).elim

set_option maxRecDepth 100000 in
theorem lifted (os : Os) (started : os.Started) (H : Type) (enc : TypeId × Value → H) :
    ReturnsInHanded {} Try.checked os 7 .any (Rows.boxCutsSpec.pre6 enc Try.prog Try.f7 Rows.boxCutsRow.domain false) (Rows.boxCutsSpec.post enc Try.prog Try.f7 false true false false) := by
  refine returnsInHanded_of_change (C := Try.checked) own_knob started (by kernel_rfl) Try.func7
    (ChangeSpec.witness6 (enc := enc) (C := Try.checked) false ⟨#[], #[.slice none 0 0, .int .u16 0], []⟩ 8 (by kernel_rfl) (by kernel_rfl) (by kernel_rfl) (by kernel_rfl)) ?_
  intro W base args ds gs before hval0 hW hcnd _
  have hval : ∀ (j : Nat) t v, Try.f7.params[j]? = some t → args[j]? = some v → Value.okWide Try.prog W .any base t v := hval0
  have hW' := hW
  obtain ⟨p, q, hA0, hV, rfl, hfz, hnd⟩ := hW
  have hA : DataW.TrodAll enc Try.prog W 0 (fun _ => true) true Try.f7.params.toList args.toList ds p := hA0
  rw [Try.params7] at hA hval
  obtain ⟨v0, vs0, d0, ds0, p0, q0, hargs, rfl, rfl, h0, r0⟩ := trodAll_cons hA
  obtain ⟨v1, vs1, d1, ds1, p1, q1, rfl, rfl, rfl, h1, r1⟩ := trodAll_cons r0
  obtain ⟨rfl, rfl, rfl⟩ := trodAll_nil r1
  obtain rfl : args = #[v0, v1] := by cases args; simp_all
  obtain ⟨rfl, rfl⟩ := trodVars_none hV
  obtain ⟨a0, len0, cap0, rfl⟩ := okWide_slice Try.underlying22 (hval 0 22 v0 rfl rfl)
  have lt0 : ∀ x ∈ p0, x.block < W.heap.size := by obtain ⟨m, hm⟩ := h0; exact DataW.trod_lt m _ _ _ hm
  obtain ⟨xs0, hx0, hr0⟩ := arg_chunks h0
  obtain ⟨a1, rfl, rfl, rfl, w1⟩ := open_int Try.underlying47 (hval 1 47 v1 rfl rfl) h1
  have bd1 := bounds_u16 w1
  clear hA0 hval0
  refine (walk a0 len0 cap0 xs0 a1 W hx0 hr0 (by omega) (by omega)).mono fun e W' ⟨he, bel⟩ => ?_
  subst he
  exact ⟨_, rfl, _, _, _, [], _, [], hW', trodAll_mk1 (shut_bool Try.underlying4 _), (trodAll_cons_mk (Below.trod laid_out (by kernel_rfl) (of_decide_eq_true (by kernel_rfl)) h0 bel lt0) (trodAll_cons_mk (shut_int Try.underlying47 w1) trodAll_mk0)), rfl, bel.frame _, fun h => by cases h⟩

theorem over : Rows.boxCutsRow.holds Try.pinned (OpenSpec.ofChange Rows.boxCutsSpec) :=
  OpenClaim.holds_of_wide 7 Try.f7 rfl rfl rfl rfl rfl rfl rfl ⟨rfl, rfl, rfl, rfl, rfl⟩ rfl rfl rfl rfl rfl (by kernel_rfl) Try.func7 (by kernel_rfl)
    (of_decide_eq_true (by kernel_rfl)) (by unfold Func.isWrapper; first | (rw [if_pos (by decide +kernel)]; kernel_rfl) | (rw [if_neg (by decide +kernel)]; exact ⟨rfl, rfl⟩))
    (fun os started H enc _ => lifted os started H enc)

theorem proved : Rows.BoxCutsSaid := over
end Go.Proofs.Ytngambkbpdjddaa.boxCuts
