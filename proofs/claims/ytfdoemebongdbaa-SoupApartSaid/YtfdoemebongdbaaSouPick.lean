/- Layer 8: Pick. -/
import Derived.Test.YtfdoemebongdbaaSouRen
namespace Go.Proofs.Ytfdoemebongdbaa
open Go.RowKit

/-- The triangle of a corner, turned to it. -/
def pickT (l : List Tr) (c : Int) : Tr := rotT (l.getD (c.toNat / 3) z3) (c.toNat % 3)
theorem range_mapi (l : List Int) (f : Int → Tr) {n : Nat} (hn : l.length = n) : (List.range n).map (fun i => f (l.getD i 0)) = l.map f := by
  subst hn
  apply List.ext_getElem?
  intro i
  by_cases h : i < l.length <;> simp [h]

set_option maxHeartbeats 4000000 in
set_option maxRecDepth 100000 in
theorem spick_arg (w : World) (N : Int) (A B : Option Addr) (n c m d : Nat) (l : List Tr) (h : T3 w A n l) (hn : n ≤ 1000000) (hf : ¬ Fit N l) :
    Calls Try.prog 22 #[.agg #[.int .i64 N, .slice A n c], .slice B m d] w (ErrS w 1) := by
  have HL := Lib.hid h
  have HF := Lib.hid hf
  have K := Lib.hid (fun (w' : World) (h : T3 w' A n l) => sfits_any w' N A n c l h (by omega))
  clear h hf
  go_enter Try.func22, Try.ntmps22
  go_wp2_with fail
  obtain ⟨y, hy⟩ : ∃ y, y = (w.alloc (.cells #[.int .i64 N, .slice A n c] 24)).alloc (.cells #[.int .i64 0, .slice none 0 0] 24) := ⟨_, rfl⟩
  have T := Lib.hid (two_boxes w N A n c y hy)
  simp only [← hy]
  clear hy
  obtain ⟨g, hg⟩ : ∃ g, w.heap.size = g := ⟨_, rfl⟩
  have HG := Lib.hid hg
  simp only [hg]
  rw [hg] at T
  clear hg
  refine (K.out _ (HL.out.below (by rw [HG.out]; exact T.out.1))).mono ?_
  rintro e w1 ⟨rfl, b1⟩
  have hd := decide_eq_false HF.out
  simp only [hd]
  have R := T.out.2.2.below b1
  have z0 := R.c0
  have z1 := R.c1
  have f0 := frozen_in R 0
  have f1 := frozen_in R 1
  have HR := Lib.hid R
  have B1 := Lib.hid (T.out.1.trans (b1.mono (by have := T.out.1.size; have := HG.out; omega)))
  clear b1 R hd
  go_wp2_with fail
  refine bodyPost_ret (results_row2 rfl _ _ (g + 1) 24 _ (0, 0) _ rfl (errS_row HR.out) Try.underlying24 rfl (by kernel_rfl)) rfl ⟨rfl, ?_⟩
  rw [HG.out]
  exact below_set2 B1.out (by omega) _ _

set_option maxHeartbeats 4000000 in
set_option maxRecDepth 100000 in
theorem spick_range (w : World) (N : Int) (A B : Option Addr) (n c m d : Nat) (l : List Tr) (cs : List Int) (h : T3 w A n l) (ht : Reads w B m (ints cs)) (hn : n ≤ 1000000) (hm : m ≤ 1000000) (hf : Fit N l) (hp : ¬ allIn (3 * (n : Int)) cs) :
    Calls Try.prog 22 #[.agg #[.int .i64 N, .slice A n c], .slice B m d] w (ErrS w 2) := by
  have HL := Lib.hid h
  have HT := Lib.hid ht
  have HF := Lib.hid hf
  have HP := Lib.hid hp
  have K := Lib.hid (fun (w' : World) (h : T3 w' A n l) => sfits_any w' N A n c l h (by omega))
  have KA := Lib.hid (fun (w' : World) (h : Reads w' B m (ints cs)) => sallBelow_any w' B m d cs (3 * (n : Int)) h (by omega))
  have wr3 : IntKind.i64.wrap (3 * (n : Int)) = 3 * (n : Int) := IntWalk.i64_in _ (by omega)
  clear h hf ht hp
  go_enter Try.func22, Try.ntmps22
  go_wp2_with fail
  obtain ⟨y, hy⟩ : ∃ y, y = (w.alloc (.cells #[.int .i64 N, .slice A n c] 24)).alloc (.cells #[.int .i64 0, .slice none 0 0] 24) := ⟨_, rfl⟩
  have T := Lib.hid (two_boxes w N A n c y hy)
  simp only [← hy]
  clear hy
  obtain ⟨g, hg⟩ : ∃ g, w.heap.size = g := ⟨_, rfl⟩
  have HG := Lib.hid hg
  simp only [hg]
  rw [hg] at T
  clear hg
  refine (K.out _ (HL.out.below (by rw [HG.out]; exact T.out.1))).mono ?_
  rintro e w1 ⟨rfl, b1⟩
  have hd := decide_eq_true HF.out
  simp only [hd]
  have B1 := Lib.hid (T.out.1.trans (b1.mono (by have := T.out.1.size; have := HG.out; omega)))
  have BX := Lib.hid (T.out.2.1.below b1)
  have e0 := BX.out.c0
  have e1 := BX.out.c1
  have HR := Lib.hid (T.out.2.2.below b1)
  have RT := Lib.hid (HT.out.below (by rw [HG.out]; exact B1.out))
  clear b1 hd
  go_wp2_with fail
  refine (KA.out _ RT.out).mono ?_
  rintro e w2 ⟨rfl, rfl⟩
  have hd := decide_eq_false HP.out
  simp only [hd]
  have z0 := HR.out.c0
  have z1 := HR.out.c1
  have f0 := frozen_in HR.out 0
  have f1 := frozen_in HR.out 1
  clear hd
  go_wp2_with fail
  refine bodyPost_ret (results_row2 rfl _ _ (g + 1) 24 _ (0, 0) _ rfl (errS_row HR.out) Try.underlying24 rfl (by kernel_rfl)) rfl ⟨rfl, ?_⟩
  rw [HG.out]
  exact below_set2 B1.out (by omega) _ _

set_option maxHeartbeats 4000000 in
set_option maxRecDepth 100000 in
theorem spick_ok (w : World) (N : Int) (A B : Option Addr) (n c m d : Nat) (l : List Tr) (cs : List Int) (h : T3 w A n l) (ht : Reads w B m (ints cs)) (hn : n ≤ 1000000) (hm : m ≤ 8192) (hf : Fit N l) (hp : allIn (3 * (n : Int)) cs) :
    Calls Try.prog 22 #[.agg #[.int .i64 N, .slice A n c], .slice B m d] w (OkS w N (cs.map (pickT l))) := by
  have HL := Lib.hid h
  have HT := Lib.hid ht
  have HF := Lib.hid hf
  have HP := Lib.hid hp
  have K := Lib.hid (fun (w' : World) (h : T3 w' A n l) => sfits_any w' N A n c l h (by omega))
  have KA := Lib.hid (fun (w' : World) (h : Reads w' B m (ints cs)) => sallBelow_any w' B m d cs (3 * (n : Int)) h (by omega))
  have wr3 : IntKind.i64.wrap (3 * (n : Int)) = 3 * (n : Int) := IntWalk.i64_in _ (by omega)
  have hmk := fun W => make3 m m (Nat.le_refl _) (by omega) W
  have t8 : ¬ (8192 : Int) < (m : Int) := by omega
  clear h hf ht hp
  go_enter Try.func22, Try.ntmps22
  go_wp2_with fail
  obtain ⟨y, hy⟩ : ∃ y, y = (w.alloc (.cells #[.int .i64 N, .slice A n c] 24)).alloc (.cells #[.int .i64 0, .slice none 0 0] 24) := ⟨_, rfl⟩
  have T := Lib.hid (two_boxes w N A n c y hy)
  simp only [← hy]
  clear hy
  obtain ⟨g, hg⟩ : ∃ g, w.heap.size = g := ⟨_, rfl⟩
  have HG := Lib.hid hg
  simp only [hg]
  rw [hg] at T
  clear hg
  refine (K.out _ (HL.out.below (by rw [HG.out]; exact T.out.1))).mono ?_
  rintro e w1 ⟨rfl, b1⟩
  have hd := decide_eq_true HF.out
  simp only [hd]
  have B1 := Lib.hid (T.out.1.trans (b1.mono (by have := T.out.1.size; have := HG.out; omega)))
  have BX := Lib.hid (T.out.2.1.below b1)
  have e0 := BX.out.c0
  have e1 := BX.out.c1
  have HR := Lib.hid (T.out.2.2.below b1)
  have RT := Lib.hid (HT.out.below (by rw [HG.out]; exact B1.out))
  clear b1 hd
  go_wp2_with fail
  refine (KA.out _ RT.out).mono ?_
  rintro e w2 ⟨rfl, rfl⟩
  have hd := decide_eq_true HP.out
  simp only [hd]
  have S0 := Lib.hid (Fil.begin (w := w) (by rw [HG.out]; exact B1.out) BX.out HR.out m)
  clear hd
  go_wp2_with fail
  obtain ⟨w4, hw4⟩ : ∃ w4, w2.alloc (zer3 m) = w4 := ⟨_, rfl⟩
  obtain ⟨q, hq⟩ : ∃ q, w2.heap.size = q := ⟨_, rfl⟩
  rw [hw4, hq] at S0
  simp only [hw4, hq]
  clear e0 e1 hw4 hq
  go_loopw [30] (FilAt w g (g + 1) q N A n c (fun i => pickT l (cs.getD i 0)) m) (fun i _ => m - (intOf i).toNat)
  case atStart => exact ⟨0, Nat.zero_le _, rfl, by rw [half3_zero]; exact S0.out⟩
  case round =>
    obtain ⟨k, hk, rfl, hf⟩ := hrel
    have HFF := Lib.hid hf
    clear hf
    by_cases hlt : k < m
    · have b1 : (k : Int) < m := by omega
      obtain ⟨ad, rfl, c0⟩ := (HT.out.below HFF.out.below).int k hlt
      obtain ⟨C, hC⟩ : ∃ C, cs.getD k 0 = C := ⟨_, rfl⟩
      have HC := Lib.hid hC
      have hin := HP.out _ (getDi_mem (show k < cs.length by rw [HT.out.len]; exact hlt))
      rw [hC] at c0 hin
      obtain ⟨a, ha⟩ : ∃ a : Nat, C.toNat / 3 = a := ⟨_, rfl⟩
      obtain ⟨r, hr⟩ : ∃ r : Nat, C.toNat % 3 = r := ⟨_, rfl⟩
      have h0 := hin.1
      have h1 := hin.2
      have hq3 : C.tdiv 3 = (a : Int) := by rw [Int.tdiv_eq_ediv_of_nonneg h0]; omega
      have hr3 : C.tmod 3 = (r : Int) := by rw [Int.tmod_eq_emod_of_nonneg h0]; omega
      have han : a < n := by omega
      have hr2 : r < 3 := by omega
      have b2 : (a : Int) < n := by omega
      have HAR := Lib.hid (And.intro ha hr)
      clear hC hin h0 h1 ha hr
      obtain ⟨b, off, rfl, hat⟩ := (HL.out.below HFF.out.below).2 (by omega)
      obtain ⟨d0, d1, d2⟩ := hat a han
      clear hat
      obtain ⟨x, hx⟩ : ∃ x, l.getD a z3 = x := ⟨_, rfl⟩
      have HX := Lib.hid hx
      rw [hx] at d0 d1 d2
      clear hx
      obtain ⟨x0, x1, x2⟩ := x
      have KT := Lib.hid (srotated_any wr (x0, x1, x2) r hr2)
      have e1 := HFF.out.bx.c1
      go_wp2_with fail
      refine KT.out.mono ?_
      rintro e w5 ⟨rfl, b5⟩
      obtain ⟨rr, hrr⟩ : ∃ rr, rotT (x0, x1, x2) r = rr := ⟨_, rfl⟩
      have HRR := Lib.hid hrr
      simp only [hrr]
      obtain ⟨r0, r1, r2⟩ := rr
      have F3 := HFF.out.up b5
      obtain ⟨v0, v1, v2, ⟨p0, f0⟩, ⟨p1, f1⟩, p2, f2⟩ := F3.row.cells (k := k) (by rw [half3_len]; exact hlt)
      have F4 := Lib.hid (F3.set (k := k) (by rw [half3_len]; exact hlt) r0 r1 r2)
      clear F3 b5 hrr
      go_wp2_with fail
      refine ⟨⟨k + 1, by omega, by go_num, ?_⟩, by simp [intOf]; omega⟩
      rw [← half3_set _ m k hlt, HC.out, pickT, HAR.out.1, HAR.out.2, HX.out, HRR.out]
      exact F4.out
    · obtain rfl : k = m := by omega
      have b1 : ¬ (k : Int) < k := by omega
      have e0 := HFF.out.bx.c0
      have e1 := HFF.out.res.c0
      have e2 := HFF.out.res.c1
      have z0 := frozen_in HFF.out.res 0
      have z1 := frozen_in HFF.out.res 1
      go_wp2_with fail
      obtain ⟨hrow, hnew⟩ := newS_ret (N := N) (m := k) HFF.out.below HFF.out.res HFF.out.row HFF.out.wq HFF.out.rq (by rw [HG.out]; omega) (half3_len _ _ _) (by omega)
      refine bodyPost_ret (results_row2 rfl _ _ (g + 1) 24 _ (0, 0) _ rfl hrow Try.underlying24 rfl (by kernel_rfl)) rfl ⟨_, rfl, ?_⟩
      rw [half3_full] at hnew
      rw [range_mapi cs (pickT l) HT.out.len] at hnew
      exact hnew
end Go.Proofs.Ytfdoemebongdbaa
