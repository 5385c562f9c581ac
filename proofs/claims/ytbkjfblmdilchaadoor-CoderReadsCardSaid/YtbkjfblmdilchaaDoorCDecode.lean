/- Decode of layer 4: the symbol in whose part the number of the bytes lies. -/
import Derived.Test.YtbkjfblmdilchaaDoorCDec
import Derived.Deep.LoopGhost
import Derived.Deep.RegionLaw
import Derived.Lib.MinMax
namespace Go.Proofs.YtbkjfblmdilchaaDoor
open Go.RowKit

/-- The number that Find is asked for. -/
def ask (x : Iv) (c : List Int) (ab : Nat) : Nat := min (ab / (x.R / tot c)) (tot c - 1)
theorem ask_lt {c : List Int} (ok : Ok c) (x : Iv) (ab : Nat) : ask x c ab < tot c := by
  have := tot_bd ok
  unfold ask; omega
/-- Its symbol's part has the number of the bytes. -/
theorem ask_inside {x : Iv} (hx : x.Good) {c : List Int} (ok : Ok c) {b : List Nat} (hb : Dig b) (hi : Inside x b) (s : Nat) (hs : s < c.length) (h1 : lowN c s ≤ ask x c (scale b (4 + x.k) - x.L)) (h2 : ask x c (scale b (4 + x.k) - x.L) < lowN c (s + 1)) :
    Inside (come x c s) b ∧ stp x c s ≤ scale b (4 + x.k) - x.L := by
  have hn := tot_bd ok
  have hp : 256 ≤ x.R / tot c := by
    rw [Nat.le_div_iff_mul_le hn.1]
    have := hx.lo
    omega
  obtain ⟨i1, i2⟩ := hi
  have hst : stp x c s ≤ scale b (4 + x.k) - x.L := by
    unfold stp
    have h3 : lowN c s ≤ (scale b (4 + x.k) - x.L) / (x.R / tot c) := Nat.le_trans h1 (Nat.min_le_left _ _)
    exact (Nat.le_div_iff_mul_le (by omega)).1 h3
  refine ⟨?_, hst⟩
  rw [inside_come hb]
  have hh := part_hi (x := x) ok s
  refine ⟨?_, ?_⟩
  · show x.L + lowN c s * (x.R / tot c) ≤ scale b (4 + x.k)
    unfold stp at hst
    omega
  · rw [hh]
    show scale b (4 + x.k) < _
    by_cases hl : s + 1 = c.length
    · rw [if_pos hl]; exact i2
    · rw [if_neg hl]
      have h3 : lowN c (s + 1) < tot c := by
        have e1 := lowN_succ ok (s + 1)
        have e2 := cntN_pos ok (s + 1) (by omega)
        have e3 := lowN_le ok (s + 1 + 1)
        omega
      have h4 : (scale b (4 + x.k) - x.L) / (x.R / tot c) < lowN c (s + 1) := by
        unfold ask at h2
        omega
      have h5 := (Nat.div_lt_iff_lt_mul (by omega)).1 h4
      omega
theorem ask_sym {x : Iv} {c : List Int} (ok : Ok c) (ab : Nat) : ∃ s, s < c.length ∧ low c s ≤ ((ask x c ab : Nat) : Int) ∧ ((ask x c ab : Nat) : Int) < low c (s + 1) ∧ lowN c s ≤ ask x c ab ∧ ask x c ab < lowN c (s + 1) := by
  have h0 := ask_lt ok x ab
  have h1 := tot_cast ok
  obtain ⟨s, hs, h2, h3⟩ := sym_exists c ((ask x c ab : Nat) : Int) (by omega) c.length (by rw [low_all c c.length (Nat.le_refl _)]; omega)
  have h4 := low_cast ok s
  have h5 := low_cast ok (s + 1)
  exact ⟨s, hs, h2, h3, by omega, by omega⟩

/-- What a call of Decode leaves. -/
def Decoded (w : World) (B g : Nat) (pk : Value) (x : Iv) (c : List Int) (b : List Nat) (e : Ending) (w' : World) : Prop :=
  ∃ s, s < c.length ∧ e = .returned (.tuple #[.int .i64 (s : Int), .int .i64 0]) ∧ DIs w' B g pk (come x c s) b ∧ Chg (· = g) w w'

/-- A round's head. -/
def DecAt (w : World) (B g : Nat) (pk : Value) (z : Iv) (b : List Nat) (gk : Nat) (wr : World) : Prop :=
  ∃ y, norm gk y = z ∧ y.R ≤ 4294967296 ∧ 0 < y.R ∧ 16777216 ≤ y.R * 256 ^ gk ∧ y.k + gk ≤ 1000003 ∧ DIs wr B g pk y b ∧ Chg (· = g) w wr

theorem inside_up {x : Iv} {b : List Nat} (hb : Dig b) (h : Inside x b) : Inside (up x) b := (inside_step hb x.k x.L x.R).2 h

set_option maxHeartbeats 4000000 in
set_option maxRecDepth 100000 in
theorem decode_ok (w : World) (B g : Nat) (pk : Value) (x : Iv) (b : List Nat) (h : DIs w B g pk x b) (hx : x.Good) (hk : x.k ≤ 1000000) (gt q cap : Nat) (c : List Int) (ht : TIs w gt q cap c) (ok : Ok c) :
    Calls Tryd.prog 22 #[.pointer (some ⟨g, 0, none⟩), .pointer (some ⟨gt, 0, none⟩)] w (Decoded w B g pk x c b) := by
  have hgt : gt ≠ g := fun e => by
    have h1 := ht.blk
    have h2 : SIs w g 76 pk _ _ _ := h.cell
    rw [e, h2] at h1
    injection h1 with h1
    injection h1 with _ h1
    exact absurd h1 (by decide)
  have hqg : q ≠ g := fun e => by
    obtain ⟨r, h1⟩ := ht.row
    have h2 : SIs w g 76 pk _ _ _ := h.cell
    rw [e, h2] at h1
    injection h1 with h1
    injection h1 with _ h1
    exact absurd h1 (by decide)
  obtain ⟨s, hs, s1, s2, s3, s4⟩ := ask_sym (x := x) ok (scale b (4 + x.k) - x.L)
  obtain ⟨si, ss⟩ := ask_inside hx ok h.dig h.inside s hs s3 s4
  have hn := tot_bd ok
  have KS := Lib.hid (symbols_any w gt q cap c ht)
  have KP := Lib.hid (fun w' (b' : Reading w w') => part_any w' g 76 pk _ _ _ (SIs.read h.cell b') (by omega) (by omega) gt q cap c (ht.read b') ok)
  have e1 : (x.R : Int) / c.sum = ((x.R / tot c : Nat) : Int) := by rw [Int.natCast_ediv, tot_cast ok]
  rw [wid_cast x.R (by have := hx.lo; omega) hx.hi, e1] at KP
  have KT := Lib.hid (fun w' (b' : Reading w w') => total_any w' gt q cap c (ht.read b') ok.pos ok.few)
  rw [← tot_cast ok] at KT
  have KF := Lib.hid (fun w' (b' : Reading w w') => find_ok w' gt q cap c _ s (ht.read b') ok hs s1 s2)
  have KN := Lib.hid (fun w' (b' : Below w.heap.size w w') => narrow_iv w' g 76 pk x _ (SIs.below h.cell b') (by have := hx.lo; omega) hx.hi gt q cap c (ht.below b') ok s hs)
  have hp : 0 < x.R / tot c := by
    have := (Nat.le_div_iff_mul_le (x := 1) (y := x.R) hn.1).2 (by have := hx.lo; omega)
    omega
  have hab : scale b (4 + x.k) - x.L < 4294967296 := by have := h.inside.1; have := h.inside.2; have := hx.hi; omega
  have hpR : x.R / tot c ≤ 4294967296 := by have := Nat.div_le_self x.R (tot c); have := hx.hi; omega
  have c4 := h.cell.ab
  have H := Lib.hid h
  have HX := Lib.hid hx
  have OK := Lib.hid ok
  have HS := Lib.hid (⟨hs, si, ss⟩ : s < c.length ∧ Inside (come x c s) b ∧ stp x c s ≤ scale b (4 + x.k) - x.L)
  have n1 := ok.pos
  have n2 := ok.few
  have hask : ask x c (scale b (4 + x.k) - x.L) = min ((scale b (4 + x.k) - x.L) / (x.R / tot c)) (tot c - 1) := rfl
  clear h hx ht ok hs si ss s1 s2 s3 s4 e1
  generalize hA : ask x c (scale b (4 + x.k) - x.L) = a at *
  generalize hAB : scale b (4 + x.k) - x.L = ab at *
  generalize hP : x.R / tot c = p at *
  generalize hT : tot c = tt at *
  generalize hN : c.length = n at *
  have E := Lib.hid (⟨hA, hAB, hP, hT, hN⟩ : ask x c ab = a ∧ scale b (4 + x.k) - x.L = ab ∧ x.R / tt = p ∧ tot c = tt ∧ c.length = n)
  clear hA hAB hP hT hN
  have t1 : ((n : Int) == 0) = false := by simp; omega
  obtain ⟨pI, hpI⟩ : ∃ pI : Int, pI = (p : Int) := ⟨_, rfl⟩
  obtain ⟨tI, htI⟩ : ∃ tI : Int, tI = (tt : Int) := ⟨_, rfl⟩
  obtain ⟨aI, haI⟩ : ∃ aI : Int, aI = (a : Int) := ⟨_, rfl⟩
  obtain ⟨bI, hbI⟩ : ∃ bI : Int, bI = (ab : Int) := ⟨_, rfl⟩
  rw [← hpI] at KP
  rw [← htI] at KT
  rw [← haI] at KF
  rw [← hbI] at c4
  have q1 : 0 < pI := by omega
  have q2 : pI ≠ 0 := by omega
  have q3 : (pI == 0) = false := by simp [q2]
  have q4 : 0 ≤ bI ∧ bI < 4294967296 := by omega
  have q5 : 0 < tI ∧ tI ≤ 65536 := by omega
  have q6 : 0 ≤ bI / pI := Int.ediv_nonneg (by omega) (by omega)
  have q7 : bI / pI ≤ bI := Int.ediv_le_self _ (by omega)
  have m4 : bI.tdiv pI = bI / pI := Int.tdiv_eq_ediv_of_nonneg (by omega)
  have m5 : IntKind.u64.wrap (bI / pI) = bI / pI := IntWalk.u64_in _ (by omega)
  have m1 : IntKind.u64.wrap (tI - 1) = tI - 1 := IntWalk.u64_in _ (by omega)
  have m2 : IntKind.i64.wrap (tI - 1) = tI - 1 := IntWalk.i64_in _ (by omega)
  have m6 : min (bI / pI) (tI - 1) = aI := by
    rw [haI, hask, hbI, hpI, htI, ← Int.natCast_ediv]
    omega
  have m7 : 0 ≤ aI ∧ aI ≤ 65536 := by omega
  have m8 : IntKind.i64.wrap aI = aI := IntWalk.i64_in _ (by omega)
  have EI := Lib.hid (⟨hpI, htI, haI, hbI⟩ : pI = (p : Int) ∧ tI = (tt : Int) ∧ aI = (a : Int) ∧ bI = (ab : Int))
  have HAB := Lib.hid hab
  clear hpI htI haI hbI hask hab hp hpR hn
  go_enter Tryd.func22, Tryd.ntmps22
  go_wp2_with fail
  refine KS.out.mono ?_
  rintro e w1 ⟨rfl, b1⟩
  have d4 : w1.cell? ⟨g, 4, none⟩ = some (.int .u64 bI) := by obtain ⟨m0, rfl⟩ := b1; exact c4
  have KP2 := Lib.hid (fun m => KP.out (w1.drewN m) (b1.trans ⟨m, rfl⟩))
  have KT2 := Lib.hid (fun m => KT.out (w1.drewN m) (b1.trans ⟨m, rfl⟩))
  have B1 := Lib.hid b1
  clear b1 KP KT
  go_wp2_with fail
  go_quiet (first | (go_at_call 40; exact Calls.quiet_of (KP2.out _)) | (go_at_call 41; exact Calls.quiet_of (KT2.out _)))
  have B2 := Lib.hid (B1.out.trans ⟨nq, rfl⟩ : Reading w (w1.drewN nq))
  generalize w1.drewN nq = w2 at *
  clear KP2 KT2 d4
  go_wp2_with fail
  refine (KF.out w2 B2.out).mono ?_
  rintro e w3 ⟨rfl, b3⟩
  have B3 := Lib.hid (show Below w.heap.size w w3 from B2.out.below.trans (b3.mono (by rw [B2.out.heap]; exact Nat.le_refl _)))
  clear b3
  have D3 := Lib.hid (H.out.below B3.out)
  have d4 : w3.cell? ⟨g, 4, none⟩ = some (.int .u64 bI) := by
    have := D3.out.cell.ab
    rw [E.out.2.1, ← EI.out.2.2.2] at this
    exact this
  obtain ⟨stI, hstI⟩ : ∃ stI : Int, stI = ((stp x c s : Nat) : Int) := ⟨_, rfl⟩
  have KN2 := Lib.hid (fun X (r : Reading w3 X) => KN.out X (B3.out.trans (r.below)))
  rw [← hstI] at KN2
  have q8 : 0 ≤ stI ∧ stI ≤ bI := by
    have h1 := HS.out.2.2
    have h2 := EI.out.2.2.2
    have h3 := E.out.2.1
    omega
  have m11 : IntKind.u64.wrap stI = stI := IntWalk.u64_in _ (by omega)
  have m9 : IntKind.u64.wrap (bI - stI) = bI - stI := IntWalk.u64_in _ (by omega)
  have HST := Lib.hid hstI
  clear hstI KN KF
  go_wp2_with fail
  go_region_law (first
    | (go_simp; go_at_call 28; refine (KN2.out _ ⟨_, rfl⟩).mono ?_; rintro e w4 ⟨rfl, h4, b4⟩; have k4 : w4.cell? ⟨g, 4, none⟩ = some (.int .u64 bI) := (by rw [cell_in h4, EI.out.2.2.2, ← E.out.2.1]; rfl); have f4 := frozen_in h4 4; have H4 := Lib.hid h4; have C4 := Lib.hid b4; clear h4 b4))
  all_goals
    have L5 := Lib.hid (show DecAt w B g pk (come x c s) b 3 (w4.setCell ⟨g, 4, none⟩ (.int .u64 (bI - stI))) by
      have hsl : s < c.length := by rw [E.out.2.2.2.2]; exact HS.out.1
      have yR := part_R HX.out OK.out s hsl
      have hin := HS.out.2.1
      rw [inside_come H.out.dig] at hin
      have xH := HX.out.hi
      have e5 : scale b (4 + (cut x c s).k) - (cut x c s).L = ab - stp x c s := by
        rw [cut_L, cut_k]
        have := E.out.2.1
        omega
      have hcell : DCell w4 g pk (((cut x c s).L % 4294967296 : Nat) : Int) (((cut x c s).R % 4294967296 : Nat) : Int) (cut x c s).k ab := by
        exact H4.out
      have h6 := DCell.setAb hcell (ab - stp x c s) (bI - stI) (by have h1 := HST.out; have h2 := EI.out.2.2.2; have h3 := HS.out.2.2; have h4 := E.out.2.1; omega)
      have hC : Chg (· = g) w (w4.setCell ⟨g, 4, none⟩ (.int .u64 (bI - stI))) := ((((Chg.refl _ w).trans (.of_below B3.out)).read ⟨1, rfl⟩).trans C4.out).set _ _ (by exact rfl)
      refine ⟨cut x c s, rfl, by show (cut x c s).R ≤ _; exact Nat.le_trans yR.2 xH, by show 0 < (cut x c s).R; exact Nat.lt_of_lt_of_le (by decide) yR.1, ?_, by rw [cut_k]; omega, ⟨by rw [e5]; exact h6, ?_, H.out.low, H.out.dig, hin⟩, hC⟩
      · have h7 : 256 ≤ (cut x c s).R := yR.1
        show 16777216 ≤ (cut x c s).R * 256 ^ 3
        omega
      · exact own_keep H.out.row hC (fun p' hp' e' => H.out.far (by rw [hp', e'])))
    generalize w4.setCell ⟨g, 4, none⟩ (.int .u64 (bI - stI)) = w5 at *
    clear k4 f4
    go_wp2_with fail
    go_loopg [] 3 (DecAt w B g pk (come x c s) b)
    case atStart => exact L5.out
    case round =>
      obtain ⟨z, hz, zH, zP, zL, zk, ze, zc⟩ := hrel
      have KSm := Lib.hid (small_any wr g 76 pk _ _ _ ze.cell (by omega) (by omega))
      rw [wid_cast z.R zP zH] at KSm
      have Z := Lib.hid (⟨hz, zL, zk, ze, zc⟩ : norm gk z = come x c s ∧ 16777216 ≤ z.R * 256 ^ gk ∧ z.k + gk ≤ 1000003 ∧ DIs wr B g pk z b ∧ Chg (· = g) w wr)
      clear hz zL zk ze zc
      go_wp2_with fail
      refine KSm.out.mono ?_
      rintro e w6 ⟨rfl, b6⟩
      have B6 := Lib.hid b6
      clear b6
      by_cases hr : z.R < 16777216
      · have d2 : decide ((z.R : Int) < 16777216) = true := by simp; omega
        rw [d2]
        obtain ⟨t, ht⟩ : ∃ t, gk = t + 1 := ⟨gk - 1, by
          rcases Nat.eq_zero_or_pos gk with h0 | h0
          · have := Z.out.2.1
            rw [h0] at this
            omega
          · omega⟩
        subst ht
        have hzk : z.k ≤ 1000003 := by have := Z.out.2.2.1; omega
        have E6 := Lib.hid (Z.out.2.2.2.1.read B6.out)
        have KG := Lib.hid (grow_any w6 g 76 pk _ _ _ E6.out.cell (by omega) (by omega) (by omega) (by omega))
        have HR := Lib.hid hr
        clear hr d2 zH zP
        go_wp2_with fail
        refine KG.out.mono ?_
        rintro e w7 ⟨rfl, h7, b7⟩
        have g7 : DCell w7 g pk ((z.L * 256 % 4294967296 : Nat) : Int) ((z.R * 256 % 4294967296 : Nat) : Int) z.k (scale b (4 + z.k) - z.L) := by
          have e1 : ((z.L % 4294967296 : Nat) : Int) * 256 % 4294967296 = ((z.L * 256 % 4294967296 : Nat) : Int) := by omega
          have e2 : ((z.R % 4294967296 : Nat) : Int) * 256 = ((z.R * 256 % 4294967296 : Nat) : Int) := by have := HR.out; omega
          rw [e1, e2] at h7
          exact h7
        have k3 := g7.k
        have D7 := Lib.hid g7
        have C7 := Lib.hid b7
        have O7 := Lib.hid (own_keep E6.out.row b7 (fun p' hp' e' => E6.out.far (by rw [hp', e'])))
        have hab7 : scale b (4 + z.k) - z.L < 4294967296 := by have h1 := E6.out.inside.1; have h2 := E6.out.inside.2; have := HR.out; omega
        have KK := Lib.hid (take_any w7 B g pk _ _ z.k _ b (4 + z.k) D7.out O7.out E6.out.dig hab7)
        have e9 : ((4 + z.k : Nat) : Int) = 4 + (z.k : Int) := by omega
        rw [e9] at KK
        have m10 : IntKind.i64.wrap (4 + (z.k : Int)) = 4 + (z.k : Int) := IntWalk.i64_in _ (by omega)
        clear h7 b7 g7 hab7 e9
        go_wp2_with fail
        refine KK.out.mono ?_
        rintro e w8 ⟨rfl, h8, b8⟩
        have k8 := h8.k
        have f8 := frozen_in h8 3
        have D8 := Lib.hid h8
        have C8 := Lib.hid b8
        clear h8 b8
        go_wp2_with fail
        go_roundg t
        case measure => omega
        case rel =>
          obtain ⟨hz, zL, zk, ze, zc⟩ := Z.out
          have hr := HR.out
          have hC : Chg (· = g) w (w8.setCell ⟨g, 3, none⟩ (.int .i64 ((z.k : Int) + 1))) := (((zc.read B6.out).trans C7.out).trans C8.out).set _ _ (by exact rfl)
          have e5 : scale b (4 + (up z).k) - (up z).L = (scale b (4 + z.k) - z.L) * 256 + b.getD (4 + z.k) 0 := by
            show scale b (4 + (z.k + 1)) - z.L * 256 = _
            rw [← Nat.add_assoc, scale_succ]
            have := E6.out.inside.1
            omega
          refine ⟨up z, by rw [← norm_small t z hr]; exact hz, ?_, ?_, ?_, ?_, ⟨?_, ?_, ze.low, ze.dig, inside_up ze.dig ze.inside⟩, hC⟩
          · show z.R * 256 ≤ 4294967296
            omega
          · show 0 < z.R * 256
            have := Nat.pos_of_mul_pos_right (Nat.lt_of_lt_of_le (by decide : 0 < 16777216) zL)
            omega
          · show 16777216 ≤ z.R * 256 * 256 ^ t
            rw [Nat.mul_assoc, Nat.mul_comm 256, ← Nat.pow_succ]
            exact zL
          · show z.k + 1 + t ≤ 1000003
            omega
          · rw [e5]
            exact DCell.setK D8.out (z.k + 1) _ (by omega)
          · exact own_keep (own_keep O7.out C8.out (fun p' hp' e' => ze.far (by rw [hp', e']))) (Chg.of_set (S := (· = g)) w8 ⟨g, 3, none⟩ _ rfl) (fun p' hp' e' => ze.far (by rw [hp', e']))
      · have d2 : decide ((z.R : Int) < 16777216) = false := by simp; omega
        rw [d2]
        have HR := Lib.hid hr
        clear hr d2
        go_wp2
        go_ret2
        obtain ⟨hz, zL, zk, ze, zc⟩ := Z.out
        refine ⟨s, by rw [E.out.2.2.2.2]; exact HS.out.1, rfl, ?_, zc.read B6.out⟩
        rw [← hz, norm_big gk z (by have := HR.out; omega)]
        exact ze.read B6.out
end Go.Proofs.YtbkjfblmdilchaaDoor
