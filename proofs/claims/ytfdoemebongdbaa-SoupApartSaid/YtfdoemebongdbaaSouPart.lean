/- Layer 8: Part. -/
import Derived.Test.YtfdoemebongdbaaSouPick
import Derived.Test.YtfdoemebongdbaaSouPartP
import Derived.Deep.RegionHeld3
namespace Go.Proofs.Ytfdoemebongdbaa
open Go.RowKit

def ErrP (w : World) (k : Int) (e : Ending) (w' : World) : Prop := e = .returned (.tuple #[.agg #[.int .i64 0, .slice none 0 0], .slice none 0 0, .int .i64 k]) ∧ Below w.heap.size w w'
def OkP (w : World) (vs : List Int) (l : List Tr) (e : Ending) (w' : World) : Prop := ∃ v A c, e = .returned (.tuple #[v, .slice A vs.length c, .int .i64 0]) ∧ NewS w w' (vs.length : Int) l v ∧ w'.ownsRow w.heap.size 3 1 (.slice A vs.length c) vs.length (ints vs)
def P1At (w4 : World) (q1 N : Nat) (vs : List Int) (L : Nat) (i : Value) (wr : World) : Prop := ∃ k : Nat, k ≤ L ∧ i = .int .i64 (k : Int) ∧ Below w4.heap.size w4 wr ∧ RowI wr q1 (toL N vs k)

theorem ownK_set {W : World} {B n s r : Nat} {t t' : TypeId} {v : Value} {xs : List Value} {cs : Array Value} {fr : Nat × Nat} (h : W.ownsRow B t s v n xs) (hr : W.heap[r]? = some (.cells cs t' fr)) (ht : t ≠ t') (i : Nat) (u : Value) : (W.setCell ⟨r, i, none⟩ u).ownsRow B t s v n xs := by
  refine ⟨h.1, ?_⟩
  rcases h.2 with h2 | ⟨q, cap, cur, h1, hq, hh, hx⟩
  · exact .inl h2
  · refine .inr ⟨q, cap, cur, h1, hq, heap_far hh ?_ u, hx⟩
    intro e
    have e : q = r := e
    subst e
    rw [hh] at hr
    injection hr with hr
    injection hr with _ hr _
    exact ht hr
theorem far3 {w : World} {q : Nat} {p : Addr} (hp : p.block ≠ q) (i j k : Nat) (a b c : Value) : (((w.setCell ⟨q, i, none⟩ a).setCell ⟨q, j, none⟩ b).setCell ⟨q, k, none⟩ c).cell? p = w.cell? p := by
  have key : ∀ (w : World) (i : Nat) (a : Value), (w.setCell ⟨q, i, none⟩ a).cell? p = w.cell? p := fun w i a => by
    have := Below.heap_setCell w ⟨q, i, none⟩ a p.block hp
    simp only [World.cell?, this]
  rw [key, key, key]
def P2At (w6 : World) (q3 : Nat) (K : Int) (m : Nat) (f : Nat → Tr) (i : Value) (wr : World) : Prop := ∃ k : Nat, k ≤ m ∧ i = .int .i64 (k : Int) ∧ Below w6.heap.size w6 wr ∧ Bx wr (q3 + 1) K (some ⟨q3, 0, none⟩) m m ∧ Row3 wr q3 (half3 f m k)

set_option maxHeartbeats 4000000 in
set_option maxRecDepth 100000 in
theorem spart_arg (w : World) (N : Int) (A B : Option Addr) (n c m d : Nat) (l : List Tr) (h : T3 w A n l) (hn : n ≤ 1000000) (hf : ¬ Fit N l) :
    Calls Try.prog 24 #[.agg #[.int .i64 N, .slice A n c], .slice B m d] w (ErrP w 1) := by
  have HL := Lib.hid h
  have HF := Lib.hid hf
  have K := Lib.hid (fun (w' : World) (h : T3 w' A n l) => sfits_any w' N A n c l h (by omega))
  clear h hf
  go_enter Try.func24, Try.ntmps24
  go_wp2_with fail
  obtain ⟨y, hy⟩ : ∃ y, y = (w.alloc (.cells #[.int .i64 N, .slice A n c] 24)).alloc (.cells #[.int .i64 0, .slice none 0 0] 24) := ⟨_, rfl⟩
  have T := Lib.hid (two_boxes w N A n c y hy)
  simp only [← hy]
  clear hy
  obtain ⟨g, hg⟩ : ∃ g, w.heap.size = g := ⟨_, rfl⟩
  have HG := Lib.hid hg
  simp only [hg]
  rw [hg] at T
  clear hg
  refine (K.out _ (HL.out.below (by rw [HG.out]; exact T.out.1))).mono ?_
  rintro e w1 ⟨rfl, b1⟩
  have hd := decide_eq_false HF.out
  simp only [hd]
  have R := T.out.2.2.below b1
  have z0 := R.c0
  have z1 := R.c1
  have f0 := frozen_in R 0
  have f1 := frozen_in R 1
  have HR := Lib.hid R
  have B1 := Lib.hid (T.out.1.trans (b1.mono (by have := T.out.1.size; have := HG.out; omega)))
  clear b1 R hd
  go_wp2_with fail
  refine bodyPost_ret (results_row3 rfl _ _ (g + 1) 24 _ (0, 0) _ rfl (errS_row HR.out) Try.underlying24 rfl (by kernel_rfl)) rfl ⟨rfl, ?_⟩
  rw [HG.out]
  exact below_set2 B1.out (by omega) _ _

set_option maxHeartbeats 4000000 in
set_option maxRecDepth 100000 in
theorem spart_range (w : World) (N : Int) (A B : Option Addr) (n c m d : Nat) (l : List Tr) (cs : List Int) (h : T3 w A n l) (ht : Reads w B m (ints cs)) (hn : n ≤ 1000000) (hm : m ≤ 1000000) (hf : Fit N l) (hp : ¬ allIn (n : Int) cs) :
    Calls Try.prog 24 #[.agg #[.int .i64 N, .slice A n c], .slice B m d] w (ErrP w 2) := by
  have HL := Lib.hid h
  have HT := Lib.hid ht
  have HF := Lib.hid hf
  have HP := Lib.hid hp
  have K := Lib.hid (fun (w' : World) (h : T3 w' A n l) => sfits_any w' N A n c l h (by omega))
  have KA := Lib.hid (fun (w' : World) (h : Reads w' B m (ints cs)) => sallBelow_any w' B m d cs (n : Int) h (by omega))
  clear h hf ht hp
  go_enter Try.func24, Try.ntmps24
  go_wp2_with fail
  obtain ⟨y, hy⟩ : ∃ y, y = (w.alloc (.cells #[.int .i64 N, .slice A n c] 24)).alloc (.cells #[.int .i64 0, .slice none 0 0] 24) := ⟨_, rfl⟩
  have T := Lib.hid (two_boxes w N A n c y hy)
  simp only [← hy]
  clear hy
  obtain ⟨g, hg⟩ : ∃ g, w.heap.size = g := ⟨_, rfl⟩
  have HG := Lib.hid hg
  simp only [hg]
  rw [hg] at T
  clear hg
  refine (K.out _ (HL.out.below (by rw [HG.out]; exact T.out.1))).mono ?_
  rintro e w1 ⟨rfl, b1⟩
  have hd := decide_eq_true HF.out
  simp only [hd]
  have B1 := Lib.hid (T.out.1.trans (b1.mono (by have := T.out.1.size; have := HG.out; omega)))
  have BX := Lib.hid (T.out.2.1.below b1)
  have e0 := BX.out.c0
  have e1 := BX.out.c1
  have HR := Lib.hid (T.out.2.2.below b1)
  have RT := Lib.hid (HT.out.below (by rw [HG.out]; exact B1.out))
  clear b1 hd
  go_wp2_with fail
  refine (KA.out _ RT.out).mono ?_
  rintro e w2 ⟨rfl, rfl⟩
  have hd := decide_eq_false HP.out
  simp only [hd]
  have z0 := HR.out.c0
  have z1 := HR.out.c1
  have f0 := frozen_in HR.out 0
  have f1 := frozen_in HR.out 1
  clear hd
  go_wp2_with fail
  refine bodyPost_ret (results_row3 rfl _ _ (g + 1) 24 _ (0, 0) _ rfl (errS_row HR.out) Try.underlying24 rfl (by kernel_rfl)) rfl ⟨rfl, ?_⟩
  rw [HG.out]
  exact below_set2 B1.out (by omega) _ _

set_option maxHeartbeats 4000000 in
set_option maxRecDepth 100000 in
theorem spart_twice (w : World) (N : Int) (A B : Option Addr) (n c m d : Nat) (l : List Tr) (cs : List Int) (h : T3 w A n l) (ht : Reads w B m (ints cs)) (hn : n ≤ 1000000) (hm : m ≤ 1000000) (hf : Fit N l) (hp : allIn (n : Int) cs) (hq : ¬ cs.Nodup) :
    Calls Try.prog 24 #[.agg #[.int .i64 N, .slice A n c], .slice B m d] w (ErrP w 9) := by
  have HL := Lib.hid h
  have HT := Lib.hid ht
  have HF := Lib.hid hf
  have HP := Lib.hid hp
  have K := Lib.hid (fun (w' : World) (h : T3 w' A n l) => sfits_any w' N A n c l h (by omega))
  have KA := Lib.hid (fun (w' : World) (h : Reads w' B m (ints cs)) => sallBelow_any w' B m d cs (n : Int) h (by omega))
  have HQ := Lib.hid hq
  have KR := Lib.hid (fun (w' : World) (h : Reads w' B m (ints cs)) => srepeats_any w' B m d n cs h HP.out (by omega) (by omega))
  clear h hf ht hp hq
  go_enter Try.func24, Try.ntmps24
  go_wp2_with fail
  obtain ⟨y, hy⟩ : ∃ y, y = (w.alloc (.cells #[.int .i64 N, .slice A n c] 24)).alloc (.cells #[.int .i64 0, .slice none 0 0] 24) := ⟨_, rfl⟩
  have T := Lib.hid (two_boxes w N A n c y hy)
  simp only [← hy]
  clear hy
  obtain ⟨g, hg⟩ : ∃ g, w.heap.size = g := ⟨_, rfl⟩
  have HG := Lib.hid hg
  simp only [hg]
  rw [hg] at T
  clear hg
  refine (K.out _ (HL.out.below (by rw [HG.out]; exact T.out.1))).mono ?_
  rintro e w1 ⟨rfl, b1⟩
  have hd := decide_eq_true HF.out
  simp only [hd]
  have B1 := Lib.hid (T.out.1.trans (b1.mono (by have := T.out.1.size; have := HG.out; omega)))
  have BX := Lib.hid (T.out.2.1.below b1)
  have e0 := BX.out.c0
  have e1 := BX.out.c1
  have HR := Lib.hid (T.out.2.2.below b1)
  have RT := Lib.hid (HT.out.below (by rw [HG.out]; exact B1.out))
  clear b1 hd
  go_wp2_with fail
  refine (KA.out _ RT.out).mono ?_
  rintro e w2 ⟨rfl, rfl⟩
  have hd := decide_eq_true HP.out
  simp only [hd]
  clear hd
  go_wp2_with fail
  refine (KR.out _ RT.out).mono ?_
  rintro e w3 ⟨rfl, b3⟩
  have hd : decide (¬ cs.Nodup) = true := decide_eq_true HQ.out
  simp only [hd]
  have R := HR.out.below b3
  have z0 := R.c0
  have z1 := R.c1
  have f0 := frozen_in R 0
  have f1 := frozen_in R 1
  have HR3 := Lib.hid R
  have B3 := Lib.hid (B1.out.trans (b3.mono (by have := B1.out.size; have := HG.out; omega)))
  clear hd R b3
  go_wp2_with fail
  refine bodyPost_ret (results_row3 rfl _ _ (g + 1) 24 _ (0, 0) _ rfl (errS_row HR3.out) Try.underlying24 rfl (by kernel_rfl)) rfl ⟨rfl, ?_⟩
  rw [HG.out]
  exact below_set2 B3.out (by omega) _ _

set_option maxHeartbeats 4000000 in
set_option maxRecDepth 100000 in
theorem spart_ok (w : World) (N : Nat) (A B : Option Addr) (n c m d : Nat) (l : List Tr) (cs : List Int) (h : T3 w A n l) (ht : Reads w B m (ints cs)) (hn : n ≤ 1000000) (hm : m ≤ 1000000) (hf : Fit N l) (hp : allIn (n : Int) cs) (hq : cs.Nodup) :
    Calls Try.prog 24 #[.agg #[.int .i64 (N : Int), .slice A n c], .slice B m d] w (OkP w (vertsUp l cs N) (partL l (vertsUp l cs N) cs)) := by
  have HL := Lib.hid h
  have HT := Lib.hid ht
  have HF := Lib.hid hf
  have HP := Lib.hid hp
  have K := Lib.hid (fun (w' : World) (h : T3 w' A n l) => sfits_any w' (N : Int) A n c l h (by omega))
  have KA := Lib.hid (fun (w' : World) (h : Reads w' B m (ints cs)) => sallBelow_any w' B m d cs (n : Int) h (by omega))
  have HQ := Lib.hid hq
  have hN1 : N ≤ 4096 := by have := hf.2.1; omega
  have hmkI := fun W => makeI N (by omega) W
  have hmk3 := fun W => make3 m m (Nat.le_refl _) (by omega) W
  have KV := Lib.hid (fun (w' : World) (h : T3 w' A n l) (ht : Reads w' B m (ints cs)) => sverts_any w' N A B n c m d l cs h ht (by omega) HF.out HP.out)
  have KR := Lib.hid (fun (w' : World) (h : Reads w' B m (ints cs)) => srepeats_any w' B m d n cs h HP.out (by omega) (by omega))
  clear h hf ht hp hq
  go_enter Try.func24, Try.ntmps24
  go_wp2_with fail
  obtain ⟨y, hy⟩ : ∃ y, y = (w.alloc (.cells #[.int .i64 (N : Int), .slice A n c] 24)).alloc (.cells #[.int .i64 0, .slice none 0 0] 24) := ⟨_, rfl⟩
  have T := Lib.hid (two_boxes w N A n c y hy)
  simp only [← hy]
  clear hy
  obtain ⟨g, hg⟩ : ∃ g, w.heap.size = g := ⟨_, rfl⟩
  have HG := Lib.hid hg
  simp only [hg]
  rw [hg] at T
  clear hg
  refine (K.out _ (HL.out.below (by rw [HG.out]; exact T.out.1))).mono ?_
  rintro e w1 ⟨rfl, b1⟩
  have hd := decide_eq_true HF.out
  simp only [hd]
  have B1 := Lib.hid (T.out.1.trans (b1.mono (by have := T.out.1.size; have := HG.out; omega)))
  have BX := Lib.hid (T.out.2.1.below b1)
  have e0 := BX.out.c0
  have e1 := BX.out.c1
  have HR := Lib.hid (T.out.2.2.below b1)
  have RT := Lib.hid (HT.out.below (by rw [HG.out]; exact B1.out))
  clear b1 hd
  go_wp2_with fail
  refine (KA.out _ RT.out).mono ?_
  rintro e w2 ⟨rfl, rfl⟩
  have hd := decide_eq_true HP.out
  simp only [hd]
  clear hd
  go_wp2_with fail
  refine (KR.out _ RT.out).mono ?_
  rintro e w3 ⟨rfl, b3⟩
  have hd : decide (¬ cs.Nodup) = false := decide_eq_false fun hc => hc HQ.out
  simp only [hd]
  have HR3 := Lib.hid (HR.out.below b3)
  have BX3 := Lib.hid (BX.out.below b3)
  have B3 := Lib.hid (B1.out.trans (b3.mono (by have := B1.out.size; have := HG.out; omega)))
  clear hd b3 e0 e1
  have e0 := BX3.out.c0
  have e1 := BX3.out.c1
  go_wp2_with fail
  refine (KV.out _ (HL.out.below (by rw [HG.out]; exact B3.out)) (HT.out.below (by rw [HG.out]; exact B3.out))).mono ?_
  rintro e w4 ⟨vold, rfl, own4, b4⟩
  obtain ⟨vs, hvs⟩ : ∃ vs, vertsUp l cs N = vs := ⟨_, rfl⟩
  rw [hvs] at own4
  have HVS := Lib.hid hvs
  obtain ⟨Ao, co, rfl⟩ := ownK_form own4
  obtain ⟨L, hLL⟩ : ∃ L, vs.length = L := ⟨_, rfl⟩
  have hLN : L ≤ N := by rw [← hLL, ← hvs]; exact vertsUp_le _ _ _
  have hnd : vs.Nodup := by rw [← hvs]; exact vertsUp_nodup _ _ _
  have HLL := Lib.hid (And.intro hLL hnd)
  have HR4 := Lib.hid (HR3.out.below b4)
  have BX4 := Lib.hid (BX3.out.below b4)
  have B4 := Lib.hid (B3.out.trans (b4.mono (by have := B3.out.size; have := HG.out; omega)))
  have OLD := Lib.hid (ownK_base own4 (B' := w.heap.size) B3.out.size)
  simp only [hLL]
  rw [hLL] at OLD
  clear hvs own4 b4 e0 e1 hLL hnd
  have e0 := BX4.out.c0
  have S0 := Lib.hid (RowI.made w4 N)
  go_wp2_with fail
  have D0 := Lib.hid ((Below.refl _ w4).alloc (Nat.le_refl _) (zerI N))
  obtain ⟨w5, hw5⟩ : ∃ w5, w4.alloc (zerI N) = w5 := ⟨_, rfl⟩
  obtain ⟨q1, hq1⟩ : ∃ q1, w4.heap.size = q1 := ⟨_, rfl⟩
  have HQ1 := Lib.hid hq1
  rw [hw5] at S0 D0
  rw [hq1] at S0
  simp only [hw5, hq1]
  clear hw5 hq1 e0
  go_loopw [39] (P1At w4 q1 N vs L) (fun i _ => L - (intOf i).toNat)
  case atStart => exact ⟨0, Nat.zero_le _, rfl, D0.out, by rw [toL_zero]; exact S0.out⟩
  case round =>
    obtain ⟨k, hk, rfl, hb5, hrow⟩ := hrel
    have H5 := Lib.hid (And.intro hb5 hrow)
    clear hb5 hrow
    have OW := Lib.hid (ownK_up OLD.out H5.out.1)
    by_cases hlt : k < L
    · have b1 : (k : Int) < L := by omega
      have hkv : k < vs.length := by rw [HLL.out.1]; exact hlt
      obtain ⟨A', c', hv', _, hrd⟩ := Reads.of_own OW.out
      injection hv' with hA' _ hc'
      subst hA' hc'
      obtain ⟨ad, rfl, c0⟩ := hrd.int k hlt
      have hin : vs.getD k 0 ∈ vs := getDi_mem hkv
      rw [← HVS.out] at hin
      have hin := (vertsUp_mem l cs N _).1 hin
      rw [HVS.out] at hin
      obtain ⟨x, hx⟩ : ∃ x : Nat, vs.getD k 0 = (x : Int) := ⟨(vs.getD k 0).toNat, by omega⟩
      have E := Lib.hid (toL_set N vs k x HLL.out.2 hkv hx)
      rw [hx] at c0 hin
      have b2 : (x : Int) < N := hin.2.1
      have r0 := H5.out.2.cell x (by rw [toL_len]; omega)
      have f0 := H5.out.2.frozen x
      have F := Lib.hid (H5.out.2.set x (k : Int))
      clear hin hx hkv hrd
      go_wp2_with fail
      exact ⟨⟨k + 1, by omega, by go_num, H5.out.1.setCell (p := ⟨q1, x, none⟩) (by rw [HQ1.out]; exact Nat.le_refl _) _, by rw [← E.out]; exact F.out⟩, by simp [intOf]; omega⟩
    · obtain rfl : k = L := by omega
      have b1 : ¬ (k : Int) < k := by omega
      have R7 := Lib.hid (Row3.zer wr m)
      have BP := Lib.hid (Bx.made (wr.alloc (zer3 m)) (k : Int) (some ⟨wr.heap.size, 0, none⟩) m m)
      rw [World.size_alloc] at BP
      go_wp2_with fail
      have BB := Lib.hid (up1 (up1 (Below.refl _ wr) (zer3 m)) (.cells #[.int .i64 (k : Int), .slice (some ⟨wr.heap.size, 0, none⟩) m m] 24))
      have RR := Lib.hid (R7.out.below ((Below.refl _ _).alloc (Nat.le_refl _) (.cells #[.int .i64 (k : Int), .slice (some ⟨wr.heap.size, 0, none⟩) m m] 24)))
      have B5 := Lib.hid (B4.out.trans (H5.out.1.mono (by have := B4.out.size; have := HG.out; omega)))
      have HR6 := Lib.hid (HR4.out.below H5.out.1)
      have BX6 := Lib.hid (BX4.out.below H5.out.1)
      obtain ⟨q3, hq3⟩ : ∃ q3, wr.heap.size = q3 := ⟨_, rfl⟩
      have HQ3 := Lib.hid hq3
      obtain ⟨w7, hw7⟩ : ∃ w7, (wr.alloc (zer3 m)).alloc (.cells #[.int .i64 (k : Int), .slice (some ⟨wr.heap.size, 0, none⟩) m m] 24) = w7 := ⟨_, rfl⟩
      rw [hw7] at BB RR BP
      rw [hq3] at RR BP hw7
      simp only [hq3, hw7]
      clear hq3 hw7 R7
      go_loopw [57] (P2At wr q3 (k : Int) m (fun i => renT (toL N vs k) (l.getD (cs.getD i 0).toNat z3))) (fun i _ => m - (intOf i).toNat)
      case atStart => exact ⟨0, Nat.zero_le _, rfl, BB.out, BP.out, by rw [half3_zero]; exact RR.out⟩
      case round =>
        obtain ⟨j, hj, rfl, hb8, hbp, hrow⟩ := hrel
        have H8 := Lib.hid (And.intro hb8 (And.intro hbp hrow))
        clear hb8 hbp hrow
        have B8 := Lib.hid (B5.out.trans (H8.out.1.mono (by have := B5.out.size; have := HG.out; omega)))
        by_cases hlt2 : j < m
        · have b2 : (j : Int) < m := by omega
          have hjl : j < cs.length := by rw [HT.out.len]; exact hlt2
          obtain ⟨ad, rfl, c0⟩ := (HT.out.below (by rw [HG.out]; exact B8.out)).int j hlt2
          have hx := HP.out _ (getDi_mem hjl)
          obtain ⟨a, haa⟩ : ∃ a : Nat, cs.getD j 0 = (a : Int) := ⟨(cs.getD j 0).toNat, by have := hx.1; omega⟩
          have HAA := Lib.hid haa
          rw [haa] at c0 hx
          have b3 : (a : Int) < n := hx.2
          have han : a < n := by omega
          clear hx haa hjl
          obtain ⟨b, off, rfl, hat⟩ := (HL.out.below (by rw [HG.out]; exact B8.out)).2 (by omega)
          obtain ⟨d0, d1, d2⟩ := hat a han
          clear hat
          have hok := HF.out.2.2.2 _ (getD3_mem (show a < l.length by rw [HL.out.1]; exact han))
          obtain ⟨x, hx⟩ : ∃ x, l.getD a z3 = x := ⟨_, rfl⟩
          have HX := Lib.hid hx
          rw [hx] at d0 d1 d2 hok
          clear hx
          obtain ⟨x0, x1, x2⟩ := x
          have KT := Lib.hid (srenamed_any wr.drew (some ⟨q1, 0, none⟩) N N (toL N vs k) (x0, x1, x2) (((H5.out.2.below H8.out.1).reads (toL_len N vs k)).read ⟨1, rfl⟩) hok.1 hok.2.1 hok.2.2.1)
          have e1 := (BX6.out.below H8.out.1).c1
          have p1 := H8.out.2.1.c1
          have hold := fun (W : World) (b8 : Below wr.heap.size wr W) => And.intro ((b8.cell (p := ⟨q3 + 1, 1, none⟩) (World.block_lt_of_cell? wr _ p1)).trans p1) (And.intro ((b8.cell (p := ⟨g, 1, none⟩) (World.block_lt_of_cell? wr _ e1)).trans e1) (And.intro ((b8.cell (p := ⟨b, off + a * 3, none⟩) (World.block_lt_of_cell? wr _ d0)).trans d0) (And.intro ((b8.cell (p := ⟨b, off + a * 3 + 1, none⟩) (World.block_lt_of_cell? wr _ d1)).trans d1) ((b8.cell (p := ⟨b, off + a * 3 + 2, none⟩) (World.block_lt_of_cell? wr _ d2)).trans d2))))
          have HH := Lib.hid hold
          have hd := hold wr.drew (Reading.below ⟨1, rfl⟩)
          have N1 : g ≠ q3 := by have := heap_lt BX6.out; have := HQ3.out; omega
          have N2 : b ≠ q3 := by
            obtain ⟨b', off', hA', hat'⟩ := HL.out.2 (by omega)
            injection hA' with hA'
            injection hA' with hA' _
            have := World.block_lt_of_cell? w _ (hat' a han).1
            simp only at this
            have h5 := B5.out.size
            have := HQ3.out
            omega
          clear hok hold
          go_wp2_with fail
          obtain ⟨rr, hrr⟩ : ∃ rr, renT (toL N vs k) (x0, x1, x2) = rr := ⟨_, rfl⟩
          have HRR := Lib.hid hrr
          rw [hrr] at KT
          clear hrr
          obtain ⟨r0, r1, r2⟩ := rr
          go_region_held3 (fun w' => w'.cell? ⟨q3 + 1, 1, none⟩ = some (.slice (some ⟨q3, 0, none⟩) m m) ∧ w'.cell? ⟨g, 1, none⟩ = some (.slice (some ⟨b, off, none⟩) n c) ∧ w'.cell? ⟨b, off + a * 3, none⟩ = some (.int .i64 x0) ∧ w'.cell? ⟨b, off + a * 3 + 1, none⟩ = some (.int .i64 x1) ∧ w'.cell? ⟨b, off + a * 3 + 2, none⟩ = some (.int .i64 x2))
            (first | exact hd | exact hd9 | exact ⟨(far3 (by simp) _ _ _ _ _ _).trans hd9.1, (far3 N1 _ _ _ _ _ _).trans hd9.2.1, (far3 N2 _ _ _ _ _ _).trans hd9.2.2.1, (far3 N2 _ _ _ _ _ _).trans hd9.2.2.2.1, (far3 N2 _ _ _ _ _ _).trans hd9.2.2.2.2⟩ | fail)
            (first
              | (go_at_call 35; refine KT.out.mono ?_; rintro e w9 ⟨rfl, b9⟩; have c9 := (Reading.below (w' := wr.drew) ⟨1, rfl⟩).trans b9; have hd9 := HH.out w9 c9; obtain ⟨v0, v1, v2, ⟨s0, f0⟩, ⟨s1, f1⟩, s2, f2⟩ := (H8.out.2.2.below c9).cells (k := j) (by rw [half3_len]; exact hlt2); have C9 := Lib.hid c9; clear b9 c9)
              | fail)
          all_goals
            go_wp2_with fail
            refine ⟨⟨j + 1, by omega, by go_num, ?_, ?_, ?_⟩, by simp [intOf]; omega⟩
            · have b0 := H8.out.1.trans (C9.out.mono H8.out.1.size)
              have hq := Nat.le_of_eq HQ3.out
              exact ((b0.setCell (p := ⟨q3, j * 3, none⟩) hq _).setCell (p := ⟨q3, j * 3 + 1, none⟩) hq _).setCell (p := ⟨q3, j * 3 + 2, none⟩) hq _
            · exact heap_far (heap_far (heap_far (H8.out.2.1.below C9.out) (by simp) _) (by simp) _) (by simp) _
            · have := (H8.out.2.2.below C9.out).set (k := j) (by rw [half3_len]; exact hlt2) r0 r1 r2
              rw [← half3_set _ m j hlt2, HAA.out, show ((a : Nat) : Int).toNat = a from rfl, HX.out, HRR.out]
              exact this
        · obtain rfl : j = m := by omega
          have b2 : ¬ (j : Int) < j := by omega
          have RS := HR6.out.below H8.out.1
          have e0 := H8.out.2.1.c0
          have e1 := H8.out.2.1.c1
          have e2 := RS.c0
          have e3 := RS.c1
          have f0 := frozen_in RS 0
          have f1 := frozen_in RS 1
          have RSS := Lib.hid RS
          clear RS
          go_wp2_with fail
          have hq3 : w.heap.size ≤ q3 := by have := B5.out.size; have := HQ3.out; omega
          have hg3 : g + 1 ≠ q3 := by have := heap_lt HR6.out; have := HQ3.out; omega
          obtain ⟨hrow, hnew⟩ := newS_ret (w := w) (N := (k : Int)) (m := j) (by rw [HG.out]; exact B8.out) RSS.out H8.out.2.2 hq3 hg3 (by have := HG.out; omega) (half3_len _ _ _) hm
          refine bodyPost_ret (results_row3 rfl _ _ (g + 1) 24 _ (0, 0) _ rfl hrow Try.underlying24 rfl (by kernel_rfl)) rfl ?_
          have hpl : half3 (fun i => renT (toL N vs k) (l.getD (cs.getD i 0).toNat z3)) j j = partL l vs cs := by
            rw [half3_full, range_mapi cs (fun t => renT (toL N vs k) (l.getD t.toNat z3)) HT.out.len]
            unfold partL
            refine List.map_congr_left fun t ht => ?_
            have := HP.out t ht
            rw [← HLL.out.1, ← HVS.out]
            exact ren_idx HF.out ht ⟨this.1, by rw [HL.out.1]; exact this.2⟩
          rw [hpl] at hnew
          have hold := ownK_set (ownK_set (ownK_up OW.out H8.out.1) RSS.out (by decide) 0 (.int .i64 (k : Int))) (heap_set RSS.out 0 (.int .i64 (k : Int))) (by decide) 1 (.slice (some ⟨q3, 0, none⟩) j j)
          rw [HVS.out]
          refine ⟨.agg #[.int .i64 (k : Int), .slice (some ⟨q3, 0, none⟩) j j], Ao, co, ?_, ?_, ?_⟩
          · rw [HLL.out.1]; rfl
          · rw [HLL.out.1]; exact hnew
          · rw [HLL.out.1]; exact hold
end Go.Proofs.Ytfdoemebongdbaa
