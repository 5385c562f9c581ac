/- Encode of layer 4: a symbol that the table has comes to the interval. -/
import Derived.Test.YtjbfgajognnmiaaDoorGCoder
import Derived.Deep.LoopGhost
import Derived.Deep.RegionLaw
namespace Go.Proofs.YtjbfgajognnmiaaDoor
open Go.RowKit

/-- A round's head: the interval y is to be widened (at most t times more). -/
def EncAt (w : World) (B g : Nat) (v0 : Value) (z : Iv) (gk : Nat) (wr : World) : Prop :=
  ∃ v y, norm gk y = z ∧ y.L + y.R ≤ 256 ^ (4 + y.k) ∧ y.R ≤ 4294967296 ∧ 0 < y.R ∧ 16777216 ≤ y.R * 256 ^ gk ∧ y.k + gk ≤ 1000003 ∧ EIs wr B g v y ∧ Chg (ESet g v0) w wr ∧ Mvd w v0 v

theorem SIs.setA {w : World} {g : Nat} {t : TypeId} {a : Value} {lo sz : Int} {rest : List Value} (h : SIs w g t a lo sz rest) (x : Value) : SIs (w.setCell ⟨g, 0, none⟩ x) g t x lo sz rest := by
  have := heap_set h 0 x; simpa [SIs] using this
theorem SIs.grown {w w' : World} {g : Nat} {t : TypeId} {a u : Value} {lo sz : Int} {rest : List Value} {v : Value} {tt : TypeId} (h : SIs w g t a lo sz rest) (hf : v.ownBlock ≠ some g) (hgr : (w.alloc (.cells #[u] tt)).grownBy w' v.ownBlock) : SIs w' g t a lo sz rest :=
  ((hgr.block g (by have := h.lt; simp; omega) (fun e => hf e.symm)).trans (Below.heap_alloc _ _ _ h.lt)).trans h
/-- One round: the byte that leaves L's last four is laid ahead. -/
theorem went_push {w w6 w7 : World} {B g : Nat} {v : Value} {z : Iv} (h : EIs w B g v z) (hr : z.R < 16777216) {r : Int} (hr' : r = ((z.L % 4294967296 : Nat) : Int) / 16777216)
    (h6 : SIs w6 g 66 v (((z.L % 4294967296 : Nat) : Int) * 256 % 4294967296) (((z.R % 4294967296 : Nat) : Int) * 256) []) (c6 : Chg (· = g) w w6) {q cap : Nat}
    (hown : w7.ownsRow B 5 1 (.slice (some ⟨q, 0, none⟩) (z.k + 1) cap) (z.k + 1) (bts (ahd z) ++ [.int .u8 r])) (hgr : (w6.alloc (.cells #[.int .u8 r] 5)).grownBy w7 v.ownBlock) (hq : v.ownBlock = some q ∨ q = w6.heap.size + 1) :
    Went w B g v (up z) (w7.setCell ⟨g, 0, none⟩ (.slice (some ⟨q, 0, none⟩) (z.k + 1) cap)) := by
  have hg6 := h6.lt
  have hfar := h.far
  have h7 := h6.grown hfar hgr
  have hqg : q ≠ g := by
    rcases hq with h' | h'
    · intro e; subst e; exact hfar h'
    · omega
  have hlt := h.lt
  refine ⟨.slice (some ⟨q, 0, none⟩) (z.k + 1) cap, ⟨?_, ?_, h.low⟩, ?_, ?_⟩
  · have h8 := h7.setA (.slice (some ⟨q, 0, none⟩) (z.k + 1) cap)
    have e1 : ((z.L % 4294967296 : Nat) : Int) * 256 % 4294967296 = (((up z).L % 4294967296 : Nat) : Int) := by
      show _ = ((z.L * 256 % 4294967296 : Nat) : Int)
      omega
    have e2 : ((z.R % 4294967296 : Nat) : Int) * 256 = (((up z).R % 4294967296 : Nat) : Int) := by
      show _ = ((z.R * 256 % 4294967296 : Nat) : Int)
      omega
    rw [e1, e2] at h8
    exact h8
  · have e : bts (ahd (up z)) = bts (ahd z) ++ [.int .u8 r] := by
      rw [ahd_up, bts_append, hr']
      simp [bts]
    rw [e]
    exact own_keep hown (Chg.of_set (S := (· = g)) w7 ⟨g, 0, none⟩ _ rfl) (fun p hp e => hqg (by injection hp with hp; exact hp.trans e))
  · have k1 : Chg (ESet g v) w w6 := c6.mono (fun b _ hb => .inl hb)
    have k2 : Chg (ESet g v) w6 (w6.alloc (.cells #[.int .u8 r] 5)) := .of_below ⟨rfl, rfl, rfl, by simp, fun b hb => Below.heap_alloc _ _ _ hb⟩
    have k3 : Chg (ESet g v) (w6.alloc (.cells #[.int .u8 r] 5)) w7 := .of_grown hgr (fun b hb => .inr hb)
    exact ((k1.trans k2).trans k3).set _ _ (.inl rfl)
  · intro p hp
    injection hp with hp
    subst hp
    rcases hq with h | h
    · exact .inl h
    · refine .inr ?_
      have := c6.size
      show w.heap.size ≤ q
      omega
theorem Went.enc {w wr w1 : World} {B g : Nat} {v v1 : Value} {z : Iv} (hc : Chg (ESet g v) w wr) (hm : Mvd w v v1) (hw : Went wr B g v1 z w1) : ∃ v2, EIs w1 B g v2 z ∧ Chg (ESet g v) w w1 ∧ Mvd w v v2 := by
  obtain ⟨v2, e2, c2, m2⟩ := hw
  refine ⟨v2, e2, hc.trans' c2 ?_, hm.trans hc.size m2⟩
  rintro b hb (rfl | hb2)
  · exact .inl rfl
  · rcases hm b hb2 with h | h
    · exact .inr h
    · omega
theorem Went.read {w w0 w1 : World} {B g : Nat} {v : Value} {x : Iv} (h : Reading w w0) (k : Went w0 B g v x w1) : Went w B g v x w1 := by
  obtain ⟨v2, e2, c2, m2⟩ := k
  refine ⟨v2, e2, ((Chg.refl _ w).read h).trans c2, fun q hq => ?_⟩
  have := m2 q hq
  rwa [h.heap] at this

set_option maxHeartbeats 4000000 in
set_option maxRecDepth 100000 in
theorem encode_ok (w : World) (B g : Nat) (v : Value) (x : Iv) (h : EIs w B g v x) (hx : x.Good) (hk : x.k ≤ 1000000) (gt q cap : Nat) (c : List Int) (ht : TIs w gt q cap c) (ok : Ok c) (s : Nat) (hs : s < c.length) :
    Calls Tryd.prog 28 #[.pointer (some ⟨g, 0, none⟩), .pointer (some ⟨gt, 0, none⟩), .int .i64 (s : Int)] w fun e w' => e = .returned (.int .i64 0) ∧ Went w B g v (come x c s) w' := by
  obtain ⟨i0, hi, hz0, hz1, hz2⟩ := info_parts Tryd.infoU8
  have KS := Lib.hid (fun w' (b : Reading w w') => symbols_any w' gt q cap c (ht.read b))
  have KN := Lib.hid (fun w' (b : Reading w w') => narrow_iv w' g 66 v x [] (h.sp.read b) (by have := hx.lo; omega) hx.hi gt q cap c (ht.read b) ok s hs)
  have H := Lib.hid h
  have HX := Lib.hid hx
  have OK := Lib.hid ok
  have n1 := ok.pos
  have n2 := ok.few
  have HS' := Lib.hid hs
  clear h hx ht ok
  generalize hn : c.length = n at *
  have HN := Lib.hid hn
  clear hn
  have t1 : ((n : Int) == 0) = false := by simp; omega
  have t2 : ¬ (s : Int) < 0 := by omega
  have t3 : ¬ (n : Int) ≤ (s : Int) := by omega
  go_enter Tryd.func28, Tryd.ntmps28
  go_wp2_with fail
  refine (KS.out w (Reading.refl w)).mono ?_
  rintro e w1 ⟨rfl, b1⟩
  have B1 := Lib.hid b1
  clear b1
  go_wp2_with fail
  refine (KS.out w1 B1.out).mono ?_
  rintro e w2 ⟨rfl, b2⟩
  have B2 := Lib.hid (B1.out.trans b2)
  clear b2
  go_wp2_with fail
  refine (KN.out w2 B2.out).mono ?_
  rintro e w3 ⟨rfl, h3, b3⟩
  obtain ⟨y, hy⟩ : ∃ y, cut x c s = y := ⟨_, rfl⟩
  obtain ⟨st, hst⟩ : ∃ st, stp x c s = st := ⟨_, rfl⟩
  have yL := cut_L x c s
  have yk := cut_k x c s
  have yR := part_R HX.out OK.out s (by rw [HN.out]; exact HS'.out)
  have yT := part_top (x := x) OK.out s
  have HZ := Lib.hid (come_cut x c s)
  rw [show part x (tot c) (lowN c s) (cntN c s) (decide (s + 1 = c.length)) = y from hy] at yR yT
  rw [hy] at yL yk HZ h3
  rw [hst] at yL ⊢
  have xT := HX.out.top
  have xH := HX.out.hi
  have e256 : 256 ^ (4 + x.k) = 4294967296 * 256 ^ x.k := by rw [Nat.pow_add]
  rw [e256] at xT
  have hb0 := pow_pos' x.k
  have hst2 : st < 4294967296 := by omega
  have hlo : y.L % 4294967296 < st ↔ 4294967296 ≤ x.L % 4294967296 + st := by omega
  have C3 := Lib.hid (show Chg (ESet g v) w w3 from ((Chg.refl _ w).read B2.out).trans' b3 (fun b _ hb => .inl hb))
  have O3 := Lib.hid (own_keep (own_keep (S := fun _ => False) H.out.row (.of_read B2.out) (fun _ _ => id)) b3 (fun q' hq e => H.out.far (by rw [hq, e])))
  obtain ⟨A, cp, hv, hA, _⟩ := Reads.of_own O3.out
  have Z0 := Lib.hid (⟨hv, hA⟩ : v = .slice A x.k cp ∧ (A = none → cp = 0))
  have c1 := h3.lo
  have c0 : w3.cell? ⟨g, 0, none⟩ = some (.slice A x.k cp) := by rw [cell_in h3]; rw [hv]; rfl
  have H3 := Lib.hid h3
  have ex : x.L / 4294967296 < 256 ^ x.k := Nat.div_lt_of_lt_mul (by omega)
  have ey : y.L / 4294967296 < 256 ^ x.k := Nat.div_lt_of_lt_mul (by omega)
  have F1 := Lib.hid (⟨yL, yk, yR, yT, xT, xH⟩ : y.L = x.L + st ∧ y.k = x.k ∧ (256 ≤ y.R ∧ y.R ≤ x.R) ∧ y.L + y.R ≤ x.L + x.R ∧ x.L + x.R ≤ 4294967296 * 256 ^ x.k ∧ x.R ≤ 4294967296)
  have EX := Lib.hid ex
  have EY := Lib.hid ey
  clear b3 h3 hv hA hst hy e256 yR yT ex ey hb0
  by_cases hc : 4294967296 ≤ x.L % 4294967296 + st
  · have d1 : ((y.L % 4294967296 : Nat) : Int) < (st : Int) := by have := hlo.2 hc; omega
    have hq1 : y.L / 4294967296 = x.L / 4294967296 + 1 := by omega
    have hk0 : 0 < x.k := by
      rcases Nat.eq_zero_or_pos x.k with h0 | h0
      · have := EY.out
        rw [h0] at this
        omega
      · exact h0
    obtain ⟨q', cap', rest, hv', hrow, hcap1, hcap2, hcap3, hBq⟩ := own_block O3.out hk0
    have hAq := Z0.out.1.symm.trans hv'
    injection hAq with hA1 _ hA3
    subst hA1 hA3
    have HV := Lib.hid hv'
    have KC := Lib.hid (carry_any w3 q' x.k cp (ahd x) rest hrow (length_ahd x) (dig_ahd x) (by rw [show val (ahd x) = x.L / 4294967296 from val_digs _ _ EX.out]; have := EY.out; omega) (by omega))
    rw [show val (ahd x) = x.L / 4294967296 from val_digs _ _ EX.out, ← hq1] at KC
    have hgq : q' ≠ g := fun e => H.out.far (by rw [hv', e]; rfl)
    have HG := Lib.hid hgq
    have HCAP := Lib.hid (⟨hcap1, hcap2, hcap3, hBq⟩ : x.k ≤ cp ∧ cp ≤ maxLen ∧ (bts (ahd x) ++ rest).length = cp ∧ B ≤ q')
    clear hlo hc hq1 yL yk xT xH hrow hcap1 hcap2 hcap3 hBq hv' hgq
    go_wp2_with fail
    refine KC.out.mono ?_
    rintro e w4 ⟨rfl, h4, b4⟩
    have L4 := Lib.hid (show EncAt w B g v (come x c s) 3 w4 by
      have f1 := F1.out
      refine ⟨v, y, HZ.out.symm, ?_, by omega, by omega, by omega, by omega, ⟨?_, ?_, H.out.low⟩, C3.out.trans' b4 ?_, Mvd.refl _ _⟩
      · rw [f1.2.1, Nat.pow_add]; omega
      · exact H3.out.keep b4 (fun e => HG.out e.symm)
      · have hah : ahd y = digs x.k (y.L / 4294967296) := by rw [ahd, f1.2.1]
        rw [← hah] at h4
        rw [HV.out, f1.2.1]
        refine own_of_block h4 (by rw [length_ahd, f1.2.1]) HCAP.out.1 HCAP.out.2.1 ?_ HCAP.out.2.2.2
        have := HCAP.out.2.2.1
        rw [List.length_append, length_bts, length_ahd] at this ⊢
        rw [f1.2.1]; exact this
      · intro b _ hb
        subst hb
        exact .inr (by rw [HV.out]; rfl))
    clear h4 b4
    go_wp2_with fail
    go_loopg [] 3 (EncAt w B g v (come x c s))
    case atStart => exact L4.out
    case round =>
      obtain ⟨v1, z, hz, zT, zH, zP, zL, zk, ze, zc, zm⟩ := hrel
      have KSm := Lib.hid (small_any wr g 66 v1 _ _ [] ze.sp (by omega) (by omega))
      rw [wid_cast z.R zP zH] at KSm
      have Z := Lib.hid (⟨hz, zT, zL, zk, ze, zc, zm⟩ : norm gk z = come x c s ∧ z.L + z.R ≤ 256 ^ (4 + z.k) ∧ 16777216 ≤ z.R * 256 ^ gk ∧ z.k + gk ≤ 1000003 ∧ EIs wr B g v1 z ∧ Chg (ESet g v) w wr ∧ Mvd w v v1)
      clear hz zT zL zk ze zc zm
      go_wp2_with fail
      refine KSm.out.mono ?_
      rintro e w5 ⟨rfl, b5⟩
      have B5 := Lib.hid b5
      clear b5
      by_cases hr : z.R < 16777216
      · have d2 : decide ((z.R : Int) < 16777216) = true := by simp; omega
        rw [d2]
        obtain ⟨t, ht⟩ : ∃ t, gk = t + 1 := ⟨gk - 1, by
          rcases Nat.eq_zero_or_pos gk with h0 | h0
          · have := Z.out.2.2.1
            rw [h0] at this
            omega
          · omega⟩
        subst ht
        have hzk : z.k ≤ 1000003 := by have := Z.out.2.2.2.1; omega
        have E5 := Lib.hid (Z.out.2.2.2.2.1.read B5.out)
        obtain ⟨A1, cp1, hv1, hA1, _⟩ := Reads.of_own E5.out.row
        subst hv1
        have k0 : w5.cell? ⟨g, 0, none⟩ = some (.slice A1 z.k cp1) := by rw [cell_in E5.out.sp]; rfl
        have Z5 := Lib.hid (fun X (b : Reading w5 X) => E5.out.read b)
        obtain ⟨lo, hlo⟩ : ∃ lo : Int, lo = ((z.L % 4294967296 : Nat) : Int) := ⟨_, rfl⟩
        obtain ⟨sz, hsz⟩ : ∃ sz : Int, sz = ((z.R % 4294967296 : Nat) : Int) := ⟨_, rfl⟩
        have KG := Lib.hid (fun X (b : Reading w5 X) => grow_any X g 66 (.slice A1 z.k cp1) lo sz [] (by rw [hlo, hsz]; exact E5.out.sp.read b) (by omega) (by omega) (by omega) (by omega))
        have HLO := Lib.hid hlo
        have HSZ := Lib.hid hsz
        clear hlo hsz
        have HR := Lib.hid hr
        have HA := Lib.hid hA1
        clear hr hA1 d2 zH zP
        go_wp2_with fail
        go_region_law (first
          | (go_simp; go_at_call 43; refine (KG.out _ ⟨_, rfl⟩).mono ?_; rintro e w6 ⟨rfl, h6, b6⟩; have f0 := frozen_in h6 0; have k6 : w6.cell? ⟨g, 0, none⟩ = some (.slice A1 z.k cp1) := (by rw [cell_in h6]; rfl); have O6 := Lib.hid ((own_keep (Z5.out _ ⟨_, rfl⟩).row b6 (fun p hp e => E5.out.far (by rw [hp, e]))).alloc (.cells #[.int .u8 (lo / 16777216)] 5)); have G6 := Lib.hid (show B ≤ w6.heap.size from Nat.le_trans (Nat.le_trans E5.out.low (Nat.le_of_lt E5.out.lt)) b6.size); have j6 : (w6.alloc (.cells #[.int .u8 (lo / 16777216)] 5)).cell? ⟨g, 0, none⟩ = some (.slice A1 z.k cp1) := (World.cell?_of_block (Below.heap_alloc _ _ _ h6.lt)).trans k6; have H6 := Lib.hid h6; have C6 := Lib.hid b6; clear h6 b6)
          | (refine step_append_lies _ (by rfl) (.tmp 49) (.tmp 54) 25 (by rfl) B 5 i0 (.int .u8 0) 1 1 Tryd.underlying25 hi hz0 hz1 hz2 (by rfl) (by decide) (.slice A1 z.k cp1) z.k (bts (ahd z)) (by rfl) O6.out ⟨w6.heap.size, 0, none⟩ 1 1 [.int .u8 (lo / 16777216)] (by rfl) (by rfl) (cell_one_new _ _ _) (by intro u hu; simp at hu; subst hu; rfl) (by decide) (by unfold maxLen; omega) (by omega) (by have := G6.out; simp; omega) (w6.heap.size + 1) (by simp) ?_; intro q7 cap7 w7 hown hgr hq7 hlt; have S7 := H6.out.grown E5.out.far hgr; have k7 := frozen_in S7 0; have k8 : w7.cell? ⟨g, 0, none⟩ = some (.slice A1 z.k cp1) := (by rw [cell_in S7]; rfl); have W7 := Lib.hid (went_push (Z5.out _ ⟨_, rfl⟩) HR.out (by rw [HLO.out]) (by rw [← HLO.out, ← HSZ.out]; exact H6.out) C6.out hown hgr hq7); clear hown hgr hq7 S7))
        all_goals
          go_wp2_with fail
          go_roundg t
          case measure => omega
          case rel =>
            obtain ⟨hz, zT, zL, zk, ze, zc, zm⟩ := Z.out
            have hr := HR.out
            obtain ⟨v2, e2, c2, m2⟩ := Went.enc zc zm (Went.read B5.out (Went.read ⟨_, rfl⟩ W7.out))
            refine ⟨v2, up z, by rw [← norm_small t z hr]; exact hz, ?_, ?_, ?_, ?_, ?_, e2, c2, m2⟩
            · show z.L * 256 + z.R * 256 ≤ 256 ^ (4 + (z.k + 1))
              rw [← Nat.add_assoc, Nat.pow_succ, ← Nat.add_mul]
              exact Nat.mul_le_mul_right _ zT
            · show z.R * 256 ≤ 4294967296
              omega
            · show 0 < z.R * 256
              have := Nat.pos_of_mul_pos_right (Nat.lt_of_lt_of_le (by decide : 0 < 16777216) zL)
              omega
            · show 16777216 ≤ z.R * 256 * 256 ^ t
              rw [Nat.mul_assoc, Nat.mul_comm 256, ← Nat.pow_succ]
              exact zL
            · show z.k + 1 + t ≤ 1000003
              omega
      · have d2 : decide ((z.R : Int) < 16777216) = false := by simp; omega
        rw [d2]
        have HR := Lib.hid hr
        clear hr d2
        go_wp2
        go_ret
        obtain ⟨hz, zT, zL, zk, ze, zc, zm⟩ := Z.out
        refine ⟨rfl, v1, ?_, zc.read B5.out, zm⟩
        rw [← hz, norm_big gk z (by have := HR.out; omega)]
        exact ze.read B5.out
  · have d1 : ¬ ((y.L % 4294967296 : Nat) : Int) < (st : Int) := by have := mt hlo.1 hc; omega
    have hq1 : y.L / 4294967296 = x.L / 4294967296 := by omega
    have L4 := Lib.hid (show EncAt w B g v (come x c s) 3 w3 by
      have f1 := F1.out
      refine ⟨v, y, HZ.out.symm, ?_, by omega, by omega, by omega, by omega, ⟨H3.out, ?_, H.out.low⟩, C3.out, Mvd.refl _ _⟩
      · rw [f1.2.1, Nat.pow_add]; omega
      · rw [ahd, f1.2.1, hq1]
        exact O3.out)
    clear hlo hc hq1 yL yk xT xH
    go_wp2_with fail
    go_loopg [] 3 (EncAt w B g v (come x c s))
    case atStart => exact L4.out
    case round =>
      obtain ⟨v1, z, hz, zT, zH, zP, zL, zk, ze, zc, zm⟩ := hrel
      have KSm := Lib.hid (small_any wr g 66 v1 _ _ [] ze.sp (by omega) (by omega))
      rw [wid_cast z.R zP zH] at KSm
      have Z := Lib.hid (⟨hz, zT, zL, zk, ze, zc, zm⟩ : norm gk z = come x c s ∧ z.L + z.R ≤ 256 ^ (4 + z.k) ∧ 16777216 ≤ z.R * 256 ^ gk ∧ z.k + gk ≤ 1000003 ∧ EIs wr B g v1 z ∧ Chg (ESet g v) w wr ∧ Mvd w v v1)
      clear hz zT zL zk ze zc zm
      go_wp2_with fail
      refine KSm.out.mono ?_
      rintro e w5 ⟨rfl, b5⟩
      have B5 := Lib.hid b5
      clear b5
      by_cases hr : z.R < 16777216
      · have d2 : decide ((z.R : Int) < 16777216) = true := by simp; omega
        rw [d2]
        obtain ⟨t, ht⟩ : ∃ t, gk = t + 1 := ⟨gk - 1, by
          rcases Nat.eq_zero_or_pos gk with h0 | h0
          · have := Z.out.2.2.1
            rw [h0] at this
            omega
          · omega⟩
        subst ht
        have hzk : z.k ≤ 1000003 := by have := Z.out.2.2.2.1; omega
        have E5 := Lib.hid (Z.out.2.2.2.2.1.read B5.out)
        obtain ⟨A1, cp1, hv1, hA1, _⟩ := Reads.of_own E5.out.row
        subst hv1
        have k0 : w5.cell? ⟨g, 0, none⟩ = some (.slice A1 z.k cp1) := by rw [cell_in E5.out.sp]; rfl
        have Z5 := Lib.hid (fun X (b : Reading w5 X) => E5.out.read b)
        obtain ⟨lo, hlo⟩ : ∃ lo : Int, lo = ((z.L % 4294967296 : Nat) : Int) := ⟨_, rfl⟩
        obtain ⟨sz, hsz⟩ : ∃ sz : Int, sz = ((z.R % 4294967296 : Nat) : Int) := ⟨_, rfl⟩
        have KG := Lib.hid (fun X (b : Reading w5 X) => grow_any X g 66 (.slice A1 z.k cp1) lo sz [] (by rw [hlo, hsz]; exact E5.out.sp.read b) (by omega) (by omega) (by omega) (by omega))
        have HLO := Lib.hid hlo
        have HSZ := Lib.hid hsz
        clear hlo hsz
        have HR := Lib.hid hr
        have HA := Lib.hid hA1
        clear hr hA1 d2 zH zP
        go_wp2_with fail
        go_region_law (first
          | (go_simp; go_at_call 43; refine (KG.out _ ⟨_, rfl⟩).mono ?_; rintro e w6 ⟨rfl, h6, b6⟩; have f0 := frozen_in h6 0; have k6 : w6.cell? ⟨g, 0, none⟩ = some (.slice A1 z.k cp1) := (by rw [cell_in h6]; rfl); have O6 := Lib.hid ((own_keep (Z5.out _ ⟨_, rfl⟩).row b6 (fun p hp e => E5.out.far (by rw [hp, e]))).alloc (.cells #[.int .u8 (lo / 16777216)] 5)); have G6 := Lib.hid (show B ≤ w6.heap.size from Nat.le_trans (Nat.le_trans E5.out.low (Nat.le_of_lt E5.out.lt)) b6.size); have j6 : (w6.alloc (.cells #[.int .u8 (lo / 16777216)] 5)).cell? ⟨g, 0, none⟩ = some (.slice A1 z.k cp1) := (World.cell?_of_block (Below.heap_alloc _ _ _ h6.lt)).trans k6; have H6 := Lib.hid h6; have C6 := Lib.hid b6; clear h6 b6)
          | (refine step_append_lies _ (by rfl) (.tmp 49) (.tmp 54) 25 (by rfl) B 5 i0 (.int .u8 0) 1 1 Tryd.underlying25 hi hz0 hz1 hz2 (by rfl) (by decide) (.slice A1 z.k cp1) z.k (bts (ahd z)) (by rfl) O6.out ⟨w6.heap.size, 0, none⟩ 1 1 [.int .u8 (lo / 16777216)] (by rfl) (by rfl) (cell_one_new _ _ _) (by intro u hu; simp at hu; subst hu; rfl) (by decide) (by unfold maxLen; omega) (by omega) (by have := G6.out; simp; omega) (w6.heap.size + 1) (by simp) ?_; intro q7 cap7 w7 hown hgr hq7 hlt; have S7 := H6.out.grown E5.out.far hgr; have k7 := frozen_in S7 0; have k8 : w7.cell? ⟨g, 0, none⟩ = some (.slice A1 z.k cp1) := (by rw [cell_in S7]; rfl); have W7 := Lib.hid (went_push (Z5.out _ ⟨_, rfl⟩) HR.out (by rw [HLO.out]) (by rw [← HLO.out, ← HSZ.out]; exact H6.out) C6.out hown hgr hq7); clear hown hgr hq7 S7))
        all_goals
          go_wp2_with fail
          go_roundg t
          case measure => omega
          case rel =>
            obtain ⟨hz, zT, zL, zk, ze, zc, zm⟩ := Z.out
            have hr := HR.out
            obtain ⟨v2, e2, c2, m2⟩ := Went.enc zc zm (Went.read B5.out (Went.read ⟨_, rfl⟩ W7.out))
            refine ⟨v2, up z, by rw [← norm_small t z hr]; exact hz, ?_, ?_, ?_, ?_, ?_, e2, c2, m2⟩
            · show z.L * 256 + z.R * 256 ≤ 256 ^ (4 + (z.k + 1))
              rw [← Nat.add_assoc, Nat.pow_succ, ← Nat.add_mul]
              exact Nat.mul_le_mul_right _ zT
            · show z.R * 256 ≤ 4294967296
              omega
            · show 0 < z.R * 256
              have := Nat.pos_of_mul_pos_right (Nat.lt_of_lt_of_le (by decide : 0 < 16777216) zL)
              omega
            · show 16777216 ≤ z.R * 256 * 256 ^ t
              rw [Nat.mul_assoc, Nat.mul_comm 256, ← Nat.pow_succ]
              exact zL
            · show z.k + 1 + t ≤ 1000003
              omega
      · have d2 : decide ((z.R : Int) < 16777216) = false := by simp; omega
        rw [d2]
        have HR := Lib.hid hr
        clear hr d2
        go_wp2
        go_ret
        obtain ⟨hz, zT, zL, zk, ze, zc, zm⟩ := Z.out
        refine ⟨rfl, v1, ?_, zc.read B5.out, zm⟩
        rw [← hz, norm_big gk z (by have := HR.out; omega)]
        exact ze.read B5.out
end Go.Proofs.YtjbfgajognnmiaaDoor
