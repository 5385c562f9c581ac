/- Layer 9: the law's own examples: told as the document tells them. -/
import Derived.Test.YtelbmjbjpgcdaaaCrEx
namespace Go.Proofs.Ytelbmjbjpgcdaaa
open Go.RowKit

structure Ex9 (w W : World) (g1 g3 q1 q2 q3 : Nat) : Prop where
  b : Below w.heap.size w W
  x1 : Bx W g1 4 (some ⟨q1, 0, none⟩) 4 4
  t1 : T3 W (some ⟨q1, 0, none⟩) 4 tet9
  x2 : Bx W (g1 + 1) 4 (some ⟨q2, 0, none⟩) 4 4
  t2 : T3 W (some ⟨q2, 0, none⟩) 4 tetB
  x3 : Bx W g3 4 (some ⟨q3, 0, none⟩) 3 4
  t3 : T3 W (some ⟨q3, 0, none⟩) 3 tetC
theorem Ex9.up {w W W' : World} {g1 g3 q1 q2 q3 : Nat} (h : Ex9 w W g1 g3 q1 q2 q3) (b : Below W.heap.size W W') : Ex9 w W' g1 g3 q1 q2 q3 :=
  ⟨h.b.trans (b.mono h.b.size), h.x1.below b, h.t1.below b, h.x2.below b, h.t2.below b, h.x3.below b, h.t3.below b⟩
theorem Row3.t3c {w : World} {q : Nat} (h : Row3 w q tet9) : T3 w (some ⟨q, 0, none⟩) 3 tetC := by
  obtain ⟨b', o', e, hc⟩ := h.t3.2 (by decide)
  injection e with e
  injection e with e1 e2
  subst e1 e2
  refine ⟨rfl, fun _ => ⟨_, 0, rfl, fun i hi => ?_⟩⟩
  have := hc i (Nat.lt_of_lt_of_le hi (by decide))
  rcases (show i = 0 ∨ i = 1 ∨ i = 2 by omega) with rfl | rfl | rfl <;> exact this
set_option maxHeartbeats 8000000 in
set_option maxRecDepth 100000 in
theorem awake9_true (w : World) : Calls Try.prog 11 #[] w (BoolTold9 w true) := by
  have KS := Lib.hid solid9_any
  obtain ⟨pA, hpA⟩ := isPin_exists tet9
  obtain ⟨pB, hpB⟩ := isPin_exists tetB
  obtain ⟨pC, hpC⟩ := isPin_exists tetC
  obtain ⟨pD, hpD⟩ := isPin_exists tetD
  have KI1 := Lib.hid (fun (W : World) g1 g3 q1 q2 q3 (h : Ex9 w W g1 g3 q1 q2 q3) => cis_any W 4 (some ⟨q1, 0, none⟩) 4 4 tet9 pA h.t1 hpA (by omega))
  have KC1 := Lib.hid (fun (W : World) g1 g3 q1 q2 q3 (h : Ex9 w W g1 g3 q1 q2 q3) => ccheck_any W 4 (some ⟨q1, 0, none⟩) 4 4 tet9 pA h.t1 hpA (by omega))
  have KI2 := Lib.hid (fun (W : World) g1 g3 q1 q2 q3 (h : Ex9 w W g1 g3 q1 q2 q3) => cis_any W 4 (some ⟨q2, 0, none⟩) 4 4 tetB pB h.t2 hpB (by omega))
  have KC2 := Lib.hid (fun (W : World) g1 g3 q1 q2 q3 (h : Ex9 w W g1 g3 q1 q2 q3) => ccheck_any W 4 (some ⟨q2, 0, none⟩) 4 4 tetB pB h.t2 hpB (by omega))
  have KI3 := Lib.hid (fun (W : World) g1 g3 q1 q2 q3 (h : Ex9 w W g1 g3 q1 q2 q3) => cis_any W 4 (some ⟨q3, 0, none⟩) 3 4 tetC pC h.t3 hpC (by omega))
  have KC4 := Lib.hid (fun (W : World) q (h : T3 W (some ⟨q, 0, none⟩) 2 tetD) => ccheck_any W 5 (some ⟨q, 0, none⟩) 2 2 tetD pD h hpD (by omega))
  rw [wits_tet hpA] at KI1 KC1
  rw [wits_tetB pB] at KI2 KC2
  rw [wits_tetC hpC] at KI3
  rw [wits_tetD hpD] at KC4
  clear hpA hpB hpC hpD
  go_enter Try.func11, Try.ntmps11
  go_wp2_with fail
  refine (KS.out _).mono ?_
  rintro e w1 ⟨q1, rfl, t1, b1, l1⟩
  have T1 := Lib.hid (And.intro t1 (And.intro b1 l1))
  clear t1 b1 l1
  go_wp2_with fail
  refine (KS.out _).mono ?_
  rintro e w2 ⟨q2, rfl, t2, b2, l2⟩
  obtain ⟨g1, hg1⟩ : ∃ g1, w2.heap.size = g1 := ⟨_, rfl⟩
  obtain ⟨w3, hw3⟩ : ∃ w3, w2.alloc (.cells #[.int .i64 4, .slice (some ⟨q1, 0, none⟩) 4 4] 24) = w3 := ⟨_, rfl⟩
  obtain ⟨w4, hw4⟩ : ∃ w4, w3.alloc (.cells #[.int .i64 4, .slice (some ⟨q2, 0, none⟩) 4 4] 24) = w4 := ⟨_, rfl⟩
  have b3 : Below w2.heap.size w2 w3 := by rw [← hw3]; exact (Below.refl _ w2).alloc (Nat.le_refl _) _
  have b4 : Below w3.heap.size w3 w4 := by rw [← hw4]; exact (Below.refl _ w3).alloc (Nat.le_refl _) _
  have hs3 : w3.heap.size = g1 + 1 := by rw [← hw3, World.size_alloc, hg1]
  have x1 : Bx w3 g1 4 (some ⟨q1, 0, none⟩) 4 4 := by rw [← hw3, ← hg1]; exact Bx.made w2 4 _ 4 4
  have x2 : Bx w4 (g1 + 1) 4 (some ⟨q2, 0, none⟩) 4 4 := by rw [← hw4, ← hs3]; exact Bx.made w3 4 _ 4 4
  have b24 := b3.trans (b4.mono b3.size)
  have r1 := (T1.out.1.below b2).below b24
  have r2 := t2.below b24
  have B4 : Below w.heap.size w w4 := T1.out.2.1.trans ((b2.trans (b24.mono b2.size)).mono T1.out.2.1.size)
  have hq1 : q1 < w1.heap.size := heap_lt T1.out.1
  have hq2 : q2 < w2.heap.size := heap_lt t2
  have x1' := x1.below b4
  obtain ⟨v0, v1, v2, ⟨c0, f0⟩, ⟨c1, f1⟩, c2, f2⟩ := r2.cells (k := 3) (by decide)
  have r3 := r2.set (k := 3) (by decide) 2 0 3
  simp only [Nat.reduceMul, Nat.reduceAdd] at c0 c1 c2 f0 f1 f2
  have z2 := x2.c1
  have z1 := x2.c0
  have hw12 : w.heap.size ≤ q2 := by have := T1.out.2.1.size; omega
  obtain ⟨w5, hw5⟩ : ∃ w5, ((w4.setCell ⟨q2, 3 * 3, none⟩ (.int .i64 2)).setCell ⟨q2, 3 * 3 + 1, none⟩ (.int .i64 0)).setCell ⟨q2, 3 * 3 + 2, none⟩ (.int .i64 3) = w5 := ⟨_, rfl⟩
  rw [hw5, show tet9.set 3 (2, 0, 3) = tetB from rfl] at r3
  have far5 : ∀ (k : Nat) (o : Obj), k ≠ q2 → w4.heap[k]? = some o → w5.heap[k]? = some o := fun k o hk ho => by
    rw [← hw5]
    exact heap_far (heap_far (heap_far ho (show k ≠ (⟨q2, 3 * 3, none⟩ : Addr).block from hk) _) (show k ≠ (⟨q2, 3 * 3 + 1, none⟩ : Addr).block from hk) _) (show k ≠ (⟨q2, 3 * 3 + 2, none⟩ : Addr).block from hk) _
  have b5 : Below w.heap.size w w5 := by rw [← hw5]; exact ((B4.setCell (p := ⟨q2, 3 * 3, none⟩) hw12 _).setCell (p := ⟨q2, 3 * 3 + 1, none⟩) hw12 _).setCell (p := ⟨q2, 3 * 3 + 2, none⟩) hw12 _
  have H5 := Lib.hid (And.intro b5 (And.intro r3 (And.intro (far5 q1 _ (by omega) r1) (And.intro (far5 g1 _ (by omega) x1') (far5 (g1 + 1) _ (by omega) x2)))))
  simp only [Nat.reduceMul, Nat.reduceAdd] at hw5
  clear t2 b2 l2 b3 b4 x1 x2 b24 r1 r2 B4 x1' r3 far5 b5 hq1 hq2 hw12 T1
  go_wp2_with fail
  refine (KS.out _).mono ?_
  rintro e w6 ⟨q3, rfl, t6, b6, l6⟩
  obtain ⟨g3, hg3⟩ : ∃ g3, w6.heap.size = g3 := ⟨_, rfl⟩
  obtain ⟨w7, hw7⟩ : ∃ w7, w6.alloc (.cells #[.int .i64 4, .slice (some ⟨q3, 0, none⟩) 4 4] 24) = w7 := ⟨_, rfl⟩
  have b7 : Below w6.heap.size w6 w7 := by rw [← hw7]; exact (Below.refl _ w6).alloc (Nat.le_refl _) _
  have x7 : Bx w7 g3 4 (some ⟨q3, 0, none⟩) 4 4 := by rw [← hw7, ← hg3]; exact Bx.made w6 4 _ 4 4
  have b57 := b6.trans (b7.mono b6.size)
  have hq3 : q3 < w6.heap.size := heap_lt t6
  have y1 := x7.c1
  have y2 := frozen_in x7 1
  obtain ⟨w8, hw8⟩ : ∃ w8, w7.setCell ⟨g3, 1, none⟩ (.slice (some ⟨q3, 0, none⟩) 3 4) = w8 := ⟨_, rfl⟩
  have x8 : Bx w8 g3 4 (some ⟨q3, 0, none⟩) 3 4 := by rw [← hw8]; exact heap_set x7 1 (.slice (some ⟨q3, 0, none⟩) 3 4)
  have far8 : ∀ (k : Nat) (o : Obj), k ≠ g3 → w7.heap[k]? = some o → w8.heap[k]? = some o := fun k o hk ho => by rw [← hw8]; exact heap_far ho hk _
  have hb5 := b6.size
  have hb56 := heap_lt H5.out.2.1
  have hb57 := heap_lt H5.out.2.2.2.1
  have hb58 := heap_lt H5.out.2.2.2.2
  have hb59 := heap_lt H5.out.2.2.1
  have hbw := H5.out.1.size
  have X := Lib.hid (show Ex9 w w8 g1 g3 q1 q2 q3 from ⟨by rw [← hw8]; exact (H5.out.1.trans (b57.mono hbw)).setCell (p := ⟨g3, 1, none⟩) (show w.heap.size ≤ g3 by omega) _,
    far8 _ _ (by omega) ((b57.block _ hb57).trans H5.out.2.2.2.1), Row3.t3 (show Row3 w8 q1 tet9 from far8 _ _ (by omega) ((b57.block _ hb59).trans H5.out.2.2.1)),
    far8 _ _ (by omega) ((b57.block _ hb58).trans H5.out.2.2.2.2), Row3.t3 (show Row3 w8 q2 tetB from far8 _ _ (by omega) ((b57.block _ hb56).trans H5.out.2.1)),
    x8, Row3.t3c (show Row3 w8 q3 tet9 from far8 _ _ (by omega) ((b7.block _ hq3).trans t6))⟩)
  clear t6 b6 l6 b7 x7 b57 hq3 x8 far8 hb5 hb56 hb57 hb58 hb59 hbw H5 hw3 hw4 hw5 hs3 c0 c1 c2 f0 f1 f2 z1 z2 hg1
  have u0 := X.out.x1.c0
  have u1 := X.out.x1.c1
  go_wp2_with fail
  refine (KI1.out _ _ _ _ _ _ X.out).mono ?_
  rintro e w9 ⟨rfl, b9⟩
  have X9 := Lib.hid (X.out.up b9)
  have u0 := X9.out.x1.c0
  have u1 := X9.out.x1.c1
  clear b9 X
  go_wp2_with fail
  refine (KC1.out _ _ _ _ _ _ X9.out).mono ?_
  rintro e w10 ⟨rfl, b10⟩
  have X10 := Lib.hid (X9.out.up b10)
  have u2 := X10.out.x2.c0
  have u3 := X10.out.x2.c1
  have gd := fun W op u v xs ys => run_eqGuard_agg (P := Try.prog) W op 35 u v xs ys Try.eqGuardType35
  have ql := eqlW
  have hfd := field9
  clear b10 X9 u0 u1
  simp only [List.headD_nil, wv]
  go_wp2_with fail
  refine (KC2.out _ _ _ _ _ _ X10.out).mono ?_
  rintro e w11 ⟨rfl, b11⟩
  have X11 := Lib.hid (X10.out.up b11)
  have u2 := X11.out.x2.c0
  have u3 := X11.out.x2.c1
  clear b11 X10
  simp only [List.headD_cons, wv]
  go_wp2_with fail
  refine (KI2.out _ _ _ _ _ _ X11.out).mono ?_
  rintro e w12 ⟨rfl, b12⟩
  have X12 := Lib.hid (X11.out.up b12)
  have u4 := X12.out.x3.c0
  have u5 := X12.out.x3.c1
  clear b12 X11 u2 u3
  go_wp2_with fail
  refine (KI3.out _ _ _ _ _ _ X12.out).mono ?_
  rintro e w13 ⟨rfl, b13⟩
  have X13 := Lib.hid (X12.out.up b13)
  have bD := (Below.refl _ w13).alloc (Nat.le_refl _) (.cells (ints (flat3 tetD)).toArray 41)
  have tD : Row3 (w13.alloc (.cells (ints (flat3 tetD)).toArray 41)) w13.heap.size tetD := heap_alloc_new w13 _
  have TD := Lib.hid tD.t3
  have XD := Lib.hid (X13.out.up bD)
  clear b13 X12 u4 u5 bD tD
  go_wp2_with fail
  refine (KC4.out _ _ TD.out).mono ?_
  rintro e w14 ⟨rfl, b14⟩
  have B := Lib.hid (XD.out.up b14).b
  clear b14
  simp only [List.headD_cons, wv]
  go_wp2
  go_ret
  exact ⟨rfl, B.out⟩
end Go.Proofs.Ytelbmjbjpgcdaaa
