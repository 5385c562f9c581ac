/- Layer 8: Rename. -/
import Derived.Test.YtfdoemebongdbaaSouMir
import Derived.Test.YtfdoemebongdbaaSouRep
import Derived.Test.YtfdoemebongdbaaSouTri
namespace Go.Proofs.Ytfdoemebongdbaa
open Go.RowKit

def ErrS (w : World) (k : Int) (e : Ending) (w' : World) : Prop := e = .returned (.tuple #[.agg #[.int .i64 0, .slice none 0 0], .int .i64 k]) ∧ Below w.heap.size w w'
def OkS (w : World) (N : Int) (l : List Tr) (e : Ending) (w' : World) : Prop := ∃ v, e = .returned (.tuple #[v, .int .i64 0]) ∧ NewS w w' N l v

/-- A zero soup is stored into the result's cells. -/
theorem errS_row {w1 : World} {r : Nat} (h : Bx w1 r 0 none 0 0) : ((w1.setCell ⟨r, 0, none⟩ (.int .i64 0)).setCell ⟨r, 1, none⟩ (.slice none 0 0)).heap[r]? = some (.cells #[.int .i64 0, .slice none 0 0] 24 (0, 0)) := set2 h

set_option maxHeartbeats 4000000 in
set_option maxRecDepth 100000 in
theorem sreytfdoemebongdbaaarg (w : World) (N : Int) (A B : Option Addr) (n c m d : Nat) (l : List Tr) (h : T3 w A n l) (hn : n ≤ 1000000) (hf : ¬ Fit N l) :
    Calls Try.prog 19 #[.agg #[.int .i64 N, .slice A n c], .slice B m d] w (ErrS w 1) := by
  have HL := Lib.hid h
  have HF := Lib.hid hf
  have K := Lib.hid (fun (w' : World) (h : T3 w' A n l) => sfits_any w' N A n c l h (by omega))
  clear h hf
  go_enter Try.func19, Try.ntmps19
  go_wp2_with fail
  obtain ⟨y, hy⟩ : ∃ y, y = (w.alloc (.cells #[.int .i64 N, .slice A n c] 24)).alloc (.cells #[.int .i64 0, .slice none 0 0] 24) := ⟨_, rfl⟩
  have T := Lib.hid (two_boxes w N A n c y hy)
  simp only [← hy]
  clear hy
  obtain ⟨g, hg⟩ : ∃ g, w.heap.size = g := ⟨_, rfl⟩
  have HG := Lib.hid hg
  simp only [hg]
  rw [hg] at T
  clear hg
  refine (K.out _ (HL.out.below (by rw [HG.out]; exact T.out.1))).mono ?_
  rintro e w1 ⟨rfl, b1⟩
  have hd := decide_eq_false HF.out
  simp only [hd]
  have R := T.out.2.2.below b1
  have z0 := R.c0
  have z1 := R.c1
  have f0 := frozen_in R 0
  have f1 := frozen_in R 1
  have HR := Lib.hid R
  have B1 := Lib.hid (T.out.1.trans (b1.mono (by have := T.out.1.size; have := HG.out; omega)))
  clear b1 R hd
  go_wp2_with fail
  refine bodyPost_ret (results_row2 rfl _ _ (g + 1) 24 _ (0, 0) _ rfl (errS_row HR.out) Try.underlying24 rfl (by kernel_rfl)) rfl ⟨rfl, ?_⟩
  rw [HG.out]
  exact below_set2 B1.out (by omega) _ _

set_option maxHeartbeats 4000000 in
set_option maxRecDepth 100000 in
theorem sreytfdoemebongdbaaform (w : World) (N : Int) (A B : Option Addr) (n c m d : Nat) (l : List Tr) (to : List Int) (h : T3 w A n l) (ht : Reads w B m (ints to)) (hn : n ≤ 1000000) (hm : m ≤ 1000000) (hf : Fit N l) (hp : ¬ IsPerm N to) :
    Calls Try.prog 19 #[.agg #[.int .i64 N, .slice A n c], .slice B m d] w (ErrS w 3) := by
  have HL := Lib.hid h
  have HT := Lib.hid ht
  have HF := Lib.hid hf
  have hN0 := hf.1
  have hN1 := hf.2.1
  obtain ⟨M, rfl⟩ : ∃ M : Nat, N = (M : Int) := ⟨N.toNat, by omega⟩
  have HP := Lib.hid hp
  have K := Lib.hid (fun (w' : World) (h : T3 w' A n l) => sfits_any w' (M : Int) A n c l h (by omega))
  have KA := Lib.hid (fun (w' : World) (h : Reads w' B m (ints to)) => sallBelow_any w' B m d to (M : Int) h (by omega))
  have KR := Lib.hid (fun (w' : World) (h : Reads w' B m (ints to)) (ha : allIn M to) => srepeats_any w' B m d M to h ha (by omega) (by omega))
  clear h hf ht hp hN0 hN1
  go_enter Try.func19, Try.ntmps19
  go_wp2_with fail
  obtain ⟨y, hy⟩ : ∃ y, y = (w.alloc (.cells #[.int .i64 (M : Int), .slice A n c] 24)).alloc (.cells #[.int .i64 0, .slice none 0 0] 24) := ⟨_, rfl⟩
  have T := Lib.hid (two_boxes w (M : Int) A n c y hy)
  simp only [← hy]
  clear hy
  obtain ⟨g, hg⟩ : ∃ g, w.heap.size = g := ⟨_, rfl⟩
  have HG := Lib.hid hg
  simp only [hg]
  rw [hg] at T
  clear hg
  refine (K.out _ (HL.out.below (by rw [HG.out]; exact T.out.1))).mono ?_
  rintro e w1 ⟨rfl, b1⟩
  have hd := decide_eq_true HF.out
  simp only [hd]
  have B1 := Lib.hid (T.out.1.trans (b1.mono (by have := T.out.1.size; have := HG.out; omega)))
  have e0 := (T.out.2.1.below b1).c0
  have HR := Lib.hid (T.out.2.2.below b1)
  have RT := Lib.hid (HT.out.below (by rw [HG.out]; exact B1.out))
  clear b1 hd
  by_cases hlen : m = M
  case neg =>
    have t1 : ((m : Int) != (M : Int)) = true := by simp; omega
    have z0 := HR.out.c0
    have z1 := HR.out.c1
    have f0 := frozen_in HR.out 0
    have f1 := frozen_in HR.out 1
    go_wp2_with fail
    refine bodyPost_ret (results_row2 rfl _ _ (g + 1) 24 _ (0, 0) _ rfl (errS_row HR.out) Try.underlying24 rfl (by kernel_rfl)) rfl ⟨rfl, ?_⟩
    rw [HG.out]
    exact below_set2 B1.out (by omega) _ _
  have t1 : ((m : Int) != (M : Int)) = false := by simp; omega
  have HM := Lib.hid hlen
  clear hlen
  go_wp2_with fail
  refine (KA.out _ RT.out).mono ?_
  rintro e w2 ⟨rfl, rfl⟩
  by_cases hal : allIn M to
  case neg =>
    have hd := decide_eq_false hal
    simp only [hd]
    have z0 := HR.out.c0
    have z1 := HR.out.c1
    have f0 := frozen_in HR.out 0
    have f1 := frozen_in HR.out 1
    clear hd hal
    go_wp2_with fail
    refine bodyPost_ret (results_row2 rfl _ _ (g + 1) 24 _ (0, 0) _ rfl (errS_row HR.out) Try.underlying24 rfl (by kernel_rfl)) rfl ⟨rfl, ?_⟩
    rw [HG.out]
    exact below_set2 B1.out (by omega) _ _
  have hd := decide_eq_true hal
  simp only [hd]
  have HA := Lib.hid hal
  clear hal hd
  go_wp2_with fail
  refine (KR.out _ RT.out HA.out).mono ?_
  rintro e w3 ⟨rfl, b3⟩
  have hnd : ¬ to.Nodup := fun hc => HP.out ⟨by rw [HT.out.len, HM.out], HA.out, hc⟩
  have hd := decide_eq_true hnd
  simp only [hd]
  have R := HR.out.below b3
  have z0 := R.c0
  have z1 := R.c1
  have f0 := frozen_in R 0
  have f1 := frozen_in R 1
  have HR3 := Lib.hid R
  have B3 := Lib.hid (B1.out.trans (b3.mono (by have := B1.out.size; have := HG.out; omega)))
  clear hd hnd R b3
  go_wp2_with fail
  refine bodyPost_ret (results_row2 rfl _ _ (g + 1) 24 _ (0, 0) _ rfl (errS_row HR3.out) Try.underlying24 rfl (by kernel_rfl)) rfl ⟨rfl, ?_⟩
  rw [HG.out]
  exact below_set2 B3.out (by omega) _ _

set_option maxHeartbeats 4000000 in
set_option maxRecDepth 100000 in
theorem sreytfdoemebongdbaaok (w : World) (N : Int) (A B : Option Addr) (n c m d : Nat) (l : List Tr) (to : List Int) (h : T3 w A n l) (ht : Reads w B m (ints to)) (hn : n ≤ 1000000) (hm : m ≤ 1000000) (hf : Fit N l) (hp : IsPerm N to) :
    Calls Try.prog 19 #[.agg #[.int .i64 N, .slice A n c], .slice B m d] w (OkS w N (l.map (renT to))) := by
  have HL := Lib.hid h
  have HT := Lib.hid ht
  have HF := Lib.hid hf
  have hmk := fun W => make3 n n (Nat.le_refl _) hn W
  have hN0 := hf.1
  have hN1 := hf.2.1
  obtain ⟨M, rfl⟩ : ∃ M : Nat, N = (M : Int) := ⟨N.toNat, by omega⟩
  have HP := Lib.hid hp
  have K := Lib.hid (fun (w' : World) (h : T3 w' A n l) => sfits_any w' (M : Int) A n c l h (by omega))
  have KA := Lib.hid (fun (w' : World) (h : Reads w' B m (ints to)) => sallBelow_any w' B m d to (M : Int) h (by omega))
  have KR := Lib.hid (fun (w' : World) (h : Reads w' B m (ints to)) (ha : allIn M to) => srepeats_any w' B m d M to h ha (by omega) (by omega))
  clear h hf ht hp hN0 hN1
  go_enter Try.func19, Try.ntmps19
  go_wp2_with fail
  obtain ⟨y, hy⟩ : ∃ y, y = (w.alloc (.cells #[.int .i64 (M : Int), .slice A n c] 24)).alloc (.cells #[.int .i64 0, .slice none 0 0] 24) := ⟨_, rfl⟩
  have T := Lib.hid (two_boxes w (M : Int) A n c y hy)
  simp only [← hy]
  clear hy
  obtain ⟨g, hg⟩ : ∃ g, w.heap.size = g := ⟨_, rfl⟩
  have HG := Lib.hid hg
  simp only [hg]
  rw [hg] at T
  clear hg
  refine (K.out _ (HL.out.below (by rw [HG.out]; exact T.out.1))).mono ?_
  rintro e w1 ⟨rfl, b1⟩
  have hd := decide_eq_true HF.out
  simp only [hd]
  have B1 := Lib.hid (T.out.1.trans (b1.mono (by have := T.out.1.size; have := HG.out; omega)))
  have e0 := (T.out.2.1.below b1).c0
  have HR := Lib.hid (T.out.2.2.below b1)
  have RT := Lib.hid (HT.out.below (by rw [HG.out]; exact B1.out))
  have BX := Lib.hid (T.out.2.1.below b1)
  clear b1 hd
  have hlen : m = M := by have := HP.out.1; rw [HT.out.len] at this; omega
  have t1 : ((m : Int) != (M : Int)) = false := by simp; omega
  have HM := Lib.hid hlen
  clear hlen
  go_wp2_with fail
  refine (KA.out _ RT.out).mono ?_
  rintro e w2 ⟨rfl, rfl⟩
  have hd := decide_eq_true HP.out.2.1
  simp only [hd]
  clear hd
  go_wp2_with fail
  refine (KR.out _ RT.out HP.out.2.1).mono ?_
  rintro e w3 ⟨rfl, b3⟩
  have hd : decide (¬ to.Nodup) = false := decide_eq_false fun hc => hc HP.out.2.2
  simp only [hd]
  have HR3 := Lib.hid (HR.out.below b3)
  have BX3 := Lib.hid (BX.out.below b3)
  have B3 := Lib.hid (B1.out.trans (b3.mono (by have := B1.out.size; have := HG.out; omega)))
  have e0 := BX3.out.c0
  have e1 := BX3.out.c1
  have S0 := Lib.hid (Fil.begin (w := w) (by rw [HG.out]; exact B3.out) BX3.out HR3.out n)
  have BXX := Lib.hid (BX3.out.below ((Below.refl _ w3).alloc (Nat.le_refl _) (zer3 n)))
  clear hd b3
  have e2 := BXX.out.c1
  go_wp2_with fail
  obtain ⟨w4, hw4⟩ : ∃ w4, w3.alloc (zer3 n) = w4 := ⟨_, rfl⟩
  obtain ⟨q, hq⟩ : ∃ q, w3.heap.size = q := ⟨_, rfl⟩
  rw [hw4, hq] at S0
  simp only [hw4, hq]
  clear e0 e1 e2 hw4 hq
  go_loopw [39] (FilAt w g (g + 1) q (M : Int) A n c (fun i => renT to (l.getD i z3)) n) (fun i _ => n - (intOf i).toNat)
  case atStart => exact ⟨0, Nat.zero_le _, rfl, by rw [half3_zero]; exact S0.out⟩
  case round =>
    obtain ⟨k, hk, rfl, hf⟩ := hrel
    have HFF := Lib.hid hf
    clear hf
    by_cases hlt : k < n
    · have b1 : (k : Int) < n := by omega
      obtain ⟨b, off, rfl, hat⟩ := (HL.out.below HFF.out.below).2 (by omega)
      obtain ⟨c0, c1, c2⟩ := hat k hlt
      clear hat
      obtain ⟨x, hx⟩ : ∃ x, l.getD k z3 = x := ⟨_, rfl⟩
      have HX := Lib.hid hx
      have hok := HF.out.2.2.2 _ (getD3_mem (show k < l.length by rw [HL.out.1]; exact hlt))
      rw [hx] at c0 c1 c2 hok
      clear hx
      obtain ⟨x0, x1, x2⟩ := x
      have bq := (Below.refl _ wr).alloc (Nat.le_refl _) (.cells #[.int .i64 x0, .int .i64 x1, .int .i64 x2] 51)
      have F2 := HFF.out.up bq
      have KT := Lib.hid (srenamed_any (wr.alloc (.cells #[.int .i64 x0, .int .i64 x1, .int .i64 x2] 51)) B m d to (x0, x1, x2) (HT.out.below F2.below) (by rw [HM.out]; exact hok.1) (by rw [HM.out]; exact hok.2.1) (by rw [HM.out]; exact hok.2.2.1))
      have FF := Lib.hid F2
      clear F2 bq hok
      go_wp2_with fail
      refine KT.out.mono ?_
      rintro e w5 ⟨rfl, b5⟩
      obtain ⟨r, hr⟩ : ∃ r, renT to (x0, x1, x2) = r := ⟨_, rfl⟩
      have HRR := Lib.hid hr
      simp only [hr]
      obtain ⟨r0, r1, r2⟩ := r
      have F3 := FF.out.up b5
      obtain ⟨v0, v1, v2, ⟨p0, f0⟩, ⟨p1, f1⟩, p2, f2⟩ := F3.row.cells (k := k) (by rw [half3_len]; exact hlt)
      have F4 := Lib.hid (F3.set (k := k) (by rw [half3_len]; exact hlt) r0 r1 r2)
      clear F3 b5 hr
      go_wp2_with fail
      refine ⟨⟨k + 1, by omega, by go_num, ?_⟩, by simp [intOf]; omega⟩
      rw [← half3_set _ n k hlt, HX.out, HRR.out]
      exact F4.out
    · obtain rfl : k = n := by omega
      have b1 : ¬ (k : Int) < k := by omega
      have e0 := HFF.out.bx.c0
      have e1 := HFF.out.res.c0
      have e2 := HFF.out.res.c1
      have z0 := frozen_in HFF.out.res 0
      have z1 := frozen_in HFF.out.res 1
      go_wp2_with fail
      obtain ⟨hrow, hnew⟩ := newS_ret (N := (M : Int)) (m := k) HFF.out.below HFF.out.res HFF.out.row HFF.out.wq HFF.out.rq (by rw [HG.out]; omega) (half3_len _ _ _) hn
      refine bodyPost_ret (results_row2 rfl _ _ (g + 1) 24 _ (0, 0) _ rfl hrow Try.underlying24 rfl (by kernel_rfl)) rfl ⟨_, rfl, ?_⟩
      rw [half3_full] at hnew
      rw [range_map l (renT to) HL.out.1] at hnew
      exact hnew
end Go.Proofs.Ytfdoemebongdbaa
