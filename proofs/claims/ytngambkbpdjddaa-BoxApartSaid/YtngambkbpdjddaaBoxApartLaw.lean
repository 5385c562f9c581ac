/- BoxApart: what is packed of few chunks (12 of up to 100 bytes each), and what is opened, may be written over: neither shares memory with the other one, nor with the chunks. No condition. -/
import Derived.Test.YtngambkbpdjddaaBoxLaw
namespace Go.Proofs.Ytngambkbpdjddaa.boxApart
open Go.ChangeShapes Go.WideShapes Go.ChangeAt Go.RowKit

/-- Data of parts that may be written over. -/
def Spare (w : World) (B q k : Nat) (L : Nat → Nat) : Prop :=
  ∃ C : Array Value, w.heap[q]? = some (.cells C 42 (0, 0)) ∧ ∀ i, i < k → ∃ v, C[i * 4 + 1]? = some v ∧ ((v = .slice none 0 0 ∧ L i = 0) ∨ ∃ g cap cur, v = .slice (some ⟨g, 0, none⟩) (L i) cap ∧ B ≤ g ∧ w.heap[g]? = some (.cells cur 5 (0, 0)) ∧ L i ≤ cur.size)
theorem PartsIs.spare {w : World} {B q k : Nat} {P : Nat → PartV} (h : PartsIs w B q k k P) : Spare w B q k (fun i => (P i).data.length) := by
  obtain ⟨C, h1, h2, h3⟩ := h
  refine ⟨C, h1, fun i hi => ?_⟩
  obtain ⟨v, _, c1, _, _, ho⟩ := h3 i hi
  refine ⟨v, c1, ?_⟩
  rcases ho.2 with h0 | ⟨g, cap, cur, e, hg, hh, hc, _, hs, _⟩
  · exact .inl h0
  · exact .inr ⟨g, cap, cur, e, hg, hh, by show (P i).data.length ≤ cur.size; omega⟩
theorem Spare.cell {w : World} {B q k : Nat} {L : Nat → Nat} (h : Spare w B q k L) (i : Nat) (hi : i < k) : ∃ v, w.cell? ⟨q, i * 4 + 1, none⟩ = some v ∧ ((v = .slice none 0 0 ∧ L i = 0) ∨ ∃ g cap cur, v = .slice (some ⟨g, 0, none⟩) (L i) cap ∧ B ≤ g ∧ w.heap[g]? = some (.cells cur 5 (0, 0)) ∧ L i ≤ cur.size) := by
  obtain ⟨C, h1, h2⟩ := h
  obtain ⟨v, c1, h3⟩ := h2 i hi
  exact ⟨v, by rw [cell_in h1]; exact c1, h3⟩
theorem Spare.set {w : World} {B q k : Nat} {L : Nat → Nat} (h : Spare w B q k L) {g t : Nat} {cur : Array Value} (hg : w.heap[g]? = some (.cells cur 5 (0, 0))) (u : Value) : Spare (w.setCell ⟨g, t, none⟩ u) B q k L := by
  obtain ⟨C, h1, h2⟩ := h
  have hqg : q ≠ g := by
    intro e
    rw [e, hg] at h1
    injection h1 with h1
    injection h1 with _ h1
    exact absurd h1 (by decide)
  refine ⟨C, heap_far h1 hqg u, fun i hi => ?_⟩
  obtain ⟨v, c1, h3⟩ := h2 i hi
  refine ⟨v, c1, ?_⟩
  rcases h3 with h0 | ⟨g', cap, cur', e, hg', hh, hl⟩
  · exact .inl h0
  · by_cases eg : g' = g
    · subst eg
      rw [hg] at hh
      injection hh with hh
      injection hh with hh
      subst hh
      exact .inr ⟨g', cap, _, e, hg', heap_set hg t u, by simpa using hl⟩
    · exact .inr ⟨g', cap, cur', e, hg', heap_far hh eg u, hl⟩

def OutAt (w : World) (B q k : Nat) (L : Nat → Nat) (i : Value) (wr : World) : Prop := ∃ j : Nat, j ≤ k ∧ i = .int .i64 (j : Int) ∧ Spare wr B q k L ∧ Below w.heap.size w wr
def InAt (w : World) (B q k m : Nat) (L : Nat → Nat) (i : Value) (wr : World) : Prop := ∃ j : Nat, j ≤ m ∧ i = .int .i64 (j : Int) ∧ Spare wr B q k L ∧ Below w.heap.size w wr
def OverAt (w : World) (q N : Nat) (i : Value) (wr : World) : Prop := ∃ (j : Nat) (l : List Nat) (rest : List Value), j ≤ N ∧ l.length = N ∧ i = .int .i64 (j : Int) ∧ BRow wr q l rest ∧ Chg (· = q) w wr
def SameAt (w : World) (n : Nat) (i : Value) (wr : World) : Prop := ∃ j : Nat, j ≤ n ∧ i = .int .i64 (j : Int) ∧ Reading w wr

set_option maxHeartbeats 12800000 in
set_option maxRecDepth 100000 in
theorem walk (A : Option Addr) (n c : Nat) (cs : List (Nat × List Nat)) (y : Int) (w : World) (hd : DigC cs) (h : Chunks0 w A n cs) (hy0 : 0 ≤ y) (hy1 : y ≤ 255) :
    Calls Try.prog 10 #[.slice A n c, .int .u8 y] w fun e w' => e = .returned (.bool true) ∧ Below w.heap.size w w' := by
  have H := Lib.hid (And.intro hd h)
  obtain ⟨yn, hyn⟩ : ∃ yn : Nat, y = (yn : Int) := ⟨y.toNat, by omega⟩
  have HY := Lib.hid hyn
  clear hd h hyn
  go_enter Try.func10, Try.ntmps10
  go_wp2_with fail
  refine (awake7_true w).mono ?_
  rintro e w1 ⟨rfl, b1⟩
  have B1 := Lib.hid b1
  have KG := Lib.hid (great7_any w1 A n c cs (H.out.2.below b1))
  clear b1
  go_wp2_with fail
  refine KG.out.mono ?_
  rintro e w2 ⟨r, hr, rfl, rfl⟩
  rcases hr with rfl | ⟨rfl, hs⟩
  · go_wp2
    go_ret
    exact ⟨rfl, B1.out⟩
  have S1 := Lib.hid (⟨(H.out.2.below B1.out).small hs, H.out.1, hs⟩ : Small7 w1 A n cs)
  have K1 := Lib.hid (S1.out.pack c)
  clear hs
  go_wp2_with fail
  refine K1.out.mono ?_
  rintro e w2 ⟨v2, rfl, o2, b2⟩
  have hsz := S1.out.size
  have hln := S1.out.ch.len
  have hn12 := S1.out.n
  have lt := S1.out.lt
  have hN36 : 36 ≤ (boxB cs).length := by omega
  have hN : (boxB cs).length ≤ 1452 := hsz.2.2
  obtain ⟨q2, c2, rest2, rfl, hb2, hc2, _, _, hq2⟩ := own_block o2 (by omega)
  have dbx := dig_box S1.out.dig
  have OPN := Lib.hid (fun k P (h : Opens (boxB cs) k P) => box_opens lt.1 lt.2 h)
  have NH := Lib.hid (box_head cs lt.1)
  have B2 := Lib.hid (up2 B1.out b2)
  have S2 := Lib.hid (S1.out.below b2)
  have HB2 := Lib.hid b2
  have KL := Lib.hid (fun W (b : Below w1.heap.size w1 W) => (S1.out.below b).lpack c)
  have RS := Lib.hid (fun W A' c' (r : Reads W A' (boxB cs).length (bts (boxB cs))) => run_bstr W A' (boxB cs).length c' (boxB cs) r)
  rw [hln] at OPN
  generalize hbx : boxB cs = bx at *
  obtain ⟨N, hNN⟩ : ∃ N, bx.length = N := ⟨_, rfl⟩
  have HNN := Lib.hid hNN
  rw [hNN] at hN36 hN hc2 KL RS ⊢
  have r2 := hb2.reads hNN
  have K2 := Lib.hid (fun W (r : Reads W (some ⟨q2, 0, none⟩) N (bts bx)) => bopen_any W (some ⟨q2, 0, none⟩) N c2 bx r dbx hc2 (by omega))
  have Q2 := Lib.hid (And.intro hb2 (And.intro hq2 r2))
  have x1 := RS.out w2 (some ⟨q2, 0, none⟩) c2 r2
  generalize bstr bx = sb at *
  have K2' := Lib.hid (K2.out w2 r2)
  clear o2 b2 hb2 hq2 hsz hln lt dbx hbx hNN r2
  go_wp2_with fail
  refine K2'.out.mono ?_
  rintro e w3 (⟨k3, P3, q3, hO, rfl, hP, hq, b3⟩ | ⟨hno, rfl, b3⟩)
  · obtain ⟨rfl, hPi⟩ := OPN.out k3 P3 hO
    obtain ⟨L, hL⟩ : ∃ L : Nat → Nat, (fun i => (P3 i).data.length) = L := ⟨_, rfl⟩
    have hsp0 := PartsIs.spare hP
    rw [hL] at hsp0
    have SP := Lib.hid hsp0
    have HLB := Lib.hid (fun i (hi : i < k3) => show L i ≤ 100 by
      rw [← hL]
      show (P3 i).data.length ≤ 100
      rw [hPi i hi]
      exact S1.out.sm.2 _ (getD_mem (by rw [S1.out.ch.len]; exact hi)))
    clear hL hsp0
    have HB3 := Lib.hid b3
    clear hO hP b3 hq hPi x1
    go_wp2_with fail
    go_loopw [10] (OutAt w2 w2.heap.size q3 k3 L) (fun i _ => k3 - (intOf i).toNat)
    case atStart => exact ⟨0, Nat.zero_le _, rfl, SP.out, HB3.out⟩
    case round =>
      obtain ⟨j, hj, rfl, hsp, hbw⟩ := hrel
      by_cases hlt : j < k3
      · have b1 : (j : Int) < k3 := by omega
        have hlb := HLB.out j hlt
        have HS := Lib.hid (And.intro hsp hbw)
        clear hsp hbw
        go_wp2_with fail
        go_loopw [11] (InAt w2 w2.heap.size q3 k3 (L j) L) (fun i _ => L j - (intOf i).toNat)
        case atStart => exact ⟨0, Nat.zero_le _, rfl, HS.out.1, HS.out.2⟩
        case round =>
          obtain ⟨t, ht, rfl, hsp, hbw⟩ := hrel
          obtain ⟨v, cv, hv⟩ := hsp.cell j hlt
          by_cases hlt2 : t < L j
          · rcases hv with ⟨_, h0⟩ | ⟨g, cap, cur, rfl, hg, hh, hl⟩
            · omega
            have ct : wr.cell? ⟨g, t, none⟩ = some cur[t] := by rw [cell_in hh]; exact Array.getElem?_eq_getElem (by omega)
            have ft := frozen_in hh t
            have Z := Lib.hid (And.intro (hsp.set hh (t := t) (.int .u8 y)) (hbw.setCell (p := ⟨g, t, none⟩) hg (.int .u8 y)))
            have b2 : (t : Int) < ((L j : Nat) : Int) := by omega
            generalize cur[t] = u0 at ct
            generalize L j = m at *
            clear hsp hbw hh hl
            go_wp2_with fail
            exact ⟨⟨t + 1, by omega, by go_num, Z.out.1, Z.out.2⟩, by simp [intOf]; omega⟩
          · obtain rfl : t = L j := by omega
            have Z := Lib.hid (And.intro hsp hbw)
            have hvf : ∃ Ax cx, v = .slice Ax (L j) cx := by
              rcases hv with ⟨rfl, h0⟩ | ⟨g, cap, cur, rfl, _⟩
              · exact ⟨none, 0, by rw [h0]⟩
              · exact ⟨_, _, rfl⟩
            obtain ⟨Ax, cx, rfl⟩ := hvf
            generalize L j = m at *
            have b2 : ¬ (m : Int) < m := by omega
            clear hsp hbw hv
            go_wp2_with fail
            exact ⟨⟨j + 1, by omega, by go_num, Z.out.1, Z.out.2⟩, by simp [intOf]; omega⟩
      · obtain rfl : j = k3 := by omega
        have b1 : ¬ (j : Int) < j := by omega
        have B4 := Lib.hid hbw
        have r4 := Q2.out.2.2.below hbw
        have x2 := RS.out wr (some ⟨q2, 0, none⟩) c2 r4
        have K4 := Lib.hid (K2.out wr r4)
        clear hsp hbw r4
        go_wp2_with fail
        refine K4.out.mono ?_
        rintro e w5 (⟨k5, P5, q5, hO, rfl, hP, hq, b5⟩ | ⟨hno, rfl, b5⟩)
        · obtain ⟨rfl, hPi⟩ := OPN.out k5 P5 hO
          have B5 := Lib.hid (up2 B4.out b5)
          have HP5 := Lib.hid (And.intro hP hPi)
          have hlt2 : q2 < w2.heap.size := heap_lt Q2.out.1
          have QB := Lib.hid (show BRow w5 q2 bx rest2 from (B5.out.block q2 hlt2).trans Q2.out.1)
          have HWR := Lib.hid B4.out.size
          have HQ5 := Lib.hid hq
          clear hO hP hPi b5 hq x2
          go_wp2_with fail
          go_loopw [12] (OverAt w5 q2 N) (fun i _ => N - (intOf i).toNat)
          case atStart => exact ⟨0, bx, rest2, Nat.zero_le _, HNN.out, rfl, QB.out, Chg.refl _ _⟩
          case round =>
            obtain ⟨t, l, rest, ht, hll, rfl, hrow, hch⟩ := hrel
            by_cases hlt3 : t < N
            · have ct := hrow.cell t (by omega)
              have ft := frozen_in hrow t
              have Z := Lib.hid (And.intro (show BRow (wr.setCell ⟨q2, t, none⟩ (.int .u8 y)) q2 (l.set t yn) rest by rw [HY.out]; exact hrow.set t yn (by omega)) (hch.set ⟨q2, t, none⟩ (.int .u8 y) rfl))
              have b2 : (t : Int) < N := by omega
              generalize l.getD t 0 = u0 at ct
              have HLL := Lib.hid hll
              clear hrow hch hll
              go_wp2_with fail
              exact ⟨⟨t + 1, _, _, by omega, by rw [List.length_set]; exact HLL.out, by go_num, Z.out.1, Z.out.2⟩, by simp [intOf]; omega⟩
            · obtain rfl : t = N := by omega
              have b2 : ¬ (t : Int) < t := by omega
              have hP6 := HP5.out.1.chg hch (by have h1 := HQ5.out; have h2 := HWR.out; omega) (fun b hb _ e => by have h2 := HWR.out; omega)
              have P6 := Lib.hid (And.intro hP6 HP5.out.2)
              have B6 := Lib.hid (show Below w1.heap.size w1 wr from (HB2.out.trans (B5.out.mono HB2.out.size)).trans (hch.below (Nat.le_trans HB2.out.size B5.out.size) (fun b hb => by subst hb; exact Q2.out.2.1)))
              have S6 := Lib.hid (S1.out.below B6.out)
              clear hrow hch hP6 hll
              go_wp2_with fail
              go_loopw [13] (SameAt wr k5) (fun i _ => k5 - (intOf i).toNat)
              case atStart => exact ⟨0, Nat.zero_le _, rfl, Reading.refl _⟩
              case round =>
                obtain ⟨z, hz, rfl, hrd⟩ := hrel
                by_cases hlt4 : z < k5
                · have b3 : (z : Int) < k5 := by omega
                  have s7 := S6.out.below hrd.below
                  have p7 := P6.out.1.below hrd.below
                  obtain ⟨b, off, rfl⟩ := s7.ch.ad (by omega)
                  obtain ⟨Ai, ci, c0, c1, hA, hm9, hr⟩ := s7.ch.at z hlt4
                  obtain ⟨Ad, cd, p0, p1, p2, p3, hAd, hrp⟩ := p7.cells z hlt4
                  rw [P6.out.2 z hlt4] at p1 hrp
                  simp only [wholeV] at p1 hrp
                  generalize cs.getD z (0, []) = x at *
                  obtain ⟨kd, dt⟩ := x
                  simp only at c0 c1 hr p1 hrp
                  obtain ⟨m, hm'⟩ : ∃ m, dt.length = m := ⟨_, rfl⟩
                  rw [hm'] at c1 hr p1 hrp
                  have q1 := fun t => run_bstr (wr.drewN t) Ai m ci dt (hr.below (Reading.below ⟨t, rfl⟩))
                  have q6 := fun t => run_bstr (wr.drewN t) Ad m cd dt (hrp.below (Reading.below ⟨t, rfl⟩))
                  generalize bstr dt = sd at *
                  have HR := Lib.hid hrd
                  clear s7 p7 c0 hA hm9 hr p0 p2 p3 hAd hrp hm' hrd
                  go_wp2_with fail
                  go_quiet (fail)
                  go_wp2_with fail
                  exact ⟨⟨z + 1, by omega, by go_num, HR.out.trans ⟨_, rfl⟩⟩, by simp [intOf]; omega⟩
                · obtain rfl : z = k5 := by omega
                  have b3 : ¬ (z : Int) < z := by omega
                  have bz := B6.out.trans (hrd.below (B := w1.heap.size))
                  have BZ := Lib.hid (up2 B1.out bz)
                  have KZ := Lib.hid (KL.out wr bz)
                  clear hrd bz
                  go_wp2_with fail
                  refine KZ.out.mono ?_
                  rintro e w9 ⟨v9, rfl, o9, b9⟩
                  obtain ⟨A9, c9, rfl, _, r9⟩ := Reads.of_own o9
                  have x9 := RS.out w9 A9 c9 r9
                  have B9 := Lib.hid (up2 BZ.out b9)
                  clear o9 b9 r9
                  go_wp2
                  go_ret
                  exact ⟨rfl, B9.out⟩
        · exact (NH.out hno).elim
  · exact (NH.out hno).elim

set_option maxRecDepth 100000 in
theorem lifted (os : Os) (started : os.Started) (H : Type) (enc : TypeId × Value → H) :
    ReturnsInHanded {} Try.checked os 10 .any (Rows.boxApartSpec.pre6 enc Try.prog Try.f10 Rows.boxApartRow.domain false) (Rows.boxApartSpec.post enc Try.prog Try.f10 false true false false) := by
  refine returnsInHanded_of_change (C := Try.checked) own_knob started (by kernel_rfl) Try.func10
    (ChangeSpec.witness6 (enc := enc) (C := Try.checked) false ⟨#[], #[.slice none 0 0, .int .u8 0], []⟩ 8 (by kernel_rfl) (by kernel_rfl) (by kernel_rfl) (by kernel_rfl)) ?_
  intro W base args ds gs before hval0 hW hcnd _
  have hval : ∀ (j : Nat) t v, Try.f10.params[j]? = some t → args[j]? = some v → Value.okWide Try.prog W .any base t v := hval0
  have hW' := hW
  obtain ⟨p, q, hA0, hV, rfl, hfz, hnd⟩ := hW
  have hA : DataW.TrodAll enc Try.prog W 0 (fun _ => true) true Try.f10.params.toList args.toList ds p := hA0
  rw [Try.params10] at hA hval
  obtain ⟨v0, vs0, d0, ds0, p0, q0, hargs, rfl, rfl, h0, r0⟩ := trodAll_cons hA
  obtain ⟨v1, vs1, d1, ds1, p1, q1, rfl, rfl, rfl, h1, r1⟩ := trodAll_cons r0
  obtain ⟨rfl, rfl, rfl⟩ := trodAll_nil r1
  obtain rfl : args = #[v0, v1] := by cases args; simp_all
  obtain ⟨rfl, rfl⟩ := trodVars_none hV
  obtain ⟨a0, len0, cap0, rfl⟩ := okWide_slice Try.underlying22 (hval 0 22 v0 rfl rfl)
  have lt0 : ∀ x ∈ p0, x.block < W.heap.size := by obtain ⟨m, hm⟩ := h0; exact DataW.trod_lt m _ _ _ hm
  obtain ⟨xs0, hx0, hr0⟩ := arg_chunks h0
  obtain ⟨a1, rfl, rfl, rfl, w1⟩ := open_int Try.underlying5 (hval 1 5 v1 rfl rfl) h1
  have bd1 := bounds_u8 w1
  clear hA0 hval0
  refine (walk a0 len0 cap0 xs0 a1 W hx0 hr0 (by omega) (by omega)).mono fun e W' ⟨he, bel⟩ => ?_
  subst he
  exact ⟨_, rfl, _, _, _, [], _, [], hW', trodAll_mk1 (shut_bool Try.underlying4 _), (trodAll_cons_mk (Below.trod laid_out (by kernel_rfl) (of_decide_eq_true (by kernel_rfl)) h0 bel lt0) (trodAll_cons_mk (shut_int Try.underlying5 w1) trodAll_mk0)), rfl, bel.frame _, fun h => by cases h⟩

theorem over : Rows.boxApartRow.holds Try.pinned (OpenSpec.ofChange Rows.boxApartSpec) :=
  OpenClaim.holds_of_wide 10 Try.f10 rfl rfl rfl rfl rfl rfl rfl ⟨rfl, rfl, rfl, rfl, rfl⟩ rfl rfl rfl rfl rfl (by kernel_rfl) Try.func10 (by kernel_rfl)
    (of_decide_eq_true (by kernel_rfl)) (by unfold Func.isWrapper; first | (rw [if_pos (by decide +kernel)]; kernel_rfl) | (rw [if_neg (by decide +kernel)]; exact ⟨rfl, rfl⟩))
    (fun os started H enc _ => lifted os started H enc)

theorem proved : Rows.BoxApartSaid := over
end Go.Proofs.Ytngambkbpdjddaa.boxApart
