/- Layer 8: a triangle by other numbers, or turned. -/
import Derived.Test.YtfdoemebongdbaaSouMem
import Derived.StillTailTactics
import Derived.Handy
namespace Go.Proofs.Ytfdoemebongdbaa
open Go.RowKit

def aggT (t : Tr) : Value := .agg #[.int .i64 t.1, .int .i64 t.2.1, .int .i64 t.2.2]
def TriTold (w : World) (t : Tr) (e : Ending) (w' : World) : Prop := e = .returned (.agg #[.int .i64 t.1, .int .i64 t.2.1, .int .i64 t.2.2]) ∧ Below w.heap.size w w'

set_option maxHeartbeats 1600000 in
set_option maxRecDepth 100000 in
theorem srenamed_any (w : World) (A : Option Addr) (m c : Nat) (to : List Int) (t : Tr) (h : Reads w A m (ints to)) (h0 : inN m t.1) (h1 : inN m t.2.1) (h2 : inN m t.2.2) :
    Calls Try.prog 35 #[.agg #[.int .i64 t.1, .int .i64 t.2.1, .int .i64 t.2.2], .slice A m c] w (TriTold w (renT to t)) := by
  obtain ⟨x0, x1, x2⟩ := t
  obtain ⟨k0, rfl⟩ : ∃ k : Nat, x0 = k := ⟨x0.toNat, by have := h0.1; simp only at this; omega⟩
  obtain ⟨k1, rfl⟩ : ∃ k : Nat, x1 = k := ⟨x1.toNat, by have := h1.1; simp only at this; omega⟩
  obtain ⟨k2, rfl⟩ : ∃ k : Nat, x2 = k := ⟨x2.toNat, by have := h2.1; simp only at this; omega⟩
  have b0 : (k0 : Int) < m := h0.2
  have b1 : (k1 : Int) < m := h1.2
  have b2 : (k2 : Int) < m := h2.2
  obtain ⟨ad, rfl, c0⟩ := h.int k0 (by omega)
  have W2 : Below w.heap.size w ((w.alloc (.cells #[.int .i64 (k0 : Int), .int .i64 (k1 : Int), .int .i64 (k2 : Int)] 51)).alloc (.cells #[.int .i64 0, .int .i64 0, .int .i64 0] 51)) := up1 (up1 (Below.refl _ w) _) _
  have R2 := h.below W2
  obtain ⟨ad0, ea0, c0⟩ := R2.int k0 (by omega)
  obtain ⟨ad1, ea1, c1⟩ := R2.int k1 (by omega)
  obtain ⟨ad2, ea2, c2⟩ := R2.int k2 (by omega)
  injection ea0 with ea0
  injection ea1 with ea1
  injection ea2 with ea2
  subst ea0 ea1 ea2
  show Calls _ _ _ _ (TriTold w (to.getD k0 0, to.getD k1 0, to.getD k2 0))
  generalize to.getD k0 0 = y0 at *
  generalize to.getD k1 0 = y1 at *
  generalize to.getD k2 0 = y2 at *
  clear h h0 h1 h2 R2
  go_enter Try.func35, Try.ntmps35
  go_wp2_with fail
  obtain ⟨w1, hw1⟩ : ∃ w1, w.alloc (.cells #[.int .i64 (k0 : Int), .int .i64 (k1 : Int), .int .i64 (k2 : Int)] 51) = w1 := ⟨_, rfl⟩
  have q0 : w1.heap[w.heap.size]? = some (.cells #[.int .i64 (k0 : Int), .int .i64 (k1 : Int), .int .i64 (k2 : Int)] 51 (0, 0)) := by rw [← hw1]; exact heap_alloc_new w _
  have s1 : w1.heap.size = w.heap.size + 1 := by rw [← hw1]; simp
  obtain ⟨w2, hw2⟩ : ∃ w2, w1.alloc (.cells #[.int .i64 0, .int .i64 0, .int .i64 0] 51) = w2 := ⟨_, rfl⟩
  have q1 : w2.heap[w.heap.size + 1]? = some (.cells #[.int .i64 0, .int .i64 0, .int .i64 0] 51 (0, 0)) := by rw [← hw2, ← s1]; exact heap_alloc_new w1 _
  have q0 : w2.heap[w.heap.size]? = some (.cells #[.int .i64 (k0 : Int), .int .i64 (k1 : Int), .int .i64 (k2 : Int)] 51 (0, 0)) := by rw [← hw2]; exact (((Below.refl _ w1).alloc (Nat.le_refl _) _).block _ (by omega)).trans q0
  rw [hw1, hw2] at c0 c1 c2 W2
  simp only [hw1, hw2]
  obtain ⟨g, hg⟩ : ∃ g, w.heap.size = g := ⟨_, rfl⟩
  have HW := Lib.hid W2
  simp only [hg]
  rw [hg] at q0 q1 HW
  have d0 := cell_in q0 0
  have d1 := cell_in q0 1
  have d2 := cell_in q0 2
  have z0 := cell_in q1 0
  have z1 := cell_in q1 1
  have z2 := cell_in q1 2
  have f0 := frozen_in q1 0
  have f1 := frozen_in q1 1
  have f2 := frozen_in q1 2
  simp only [List.getElem?_toArray, List.getElem?_cons_zero, List.getElem?_cons_succ] at d0 d1 d2 z0 z1 z2
  have HG := Lib.hid hg
  have Q1 := Lib.hid q1
  clear q0 q1 hw1 hw2 s1 W2 hg
  go_still_tail 16, (by kernel_rfl)
  change wpList _ _ _ _ _ w2.drew
  go_wp2
  refine bodyPost_ret (results_cell_row rfl _ _ (g + 1) 51 #[.int .i64 y0, .int .i64 y1, .int .i64 y2] (0, 0) _ rfl (set3 (w := w2) Q1.out) Try.underlying51 rfl (by kernel_rfl)) rfl ?_
  exact ⟨rfl, by rw [HG.out]; exact (below_set3 HW.out (by omega) _ _ _).trans (Reading.below ⟨1, rfl⟩)⟩

set_option maxHeartbeats 1600000 in
set_option maxRecDepth 100000 in
theorem srotated_0 (w : World) (x0 x1 x2 : Int) :
    Calls Try.prog 36 #[.agg #[.int .i64 x0, .int .i64 x1, .int .i64 x2], .int .i64 0] w (TriTold w (x0, x1, x2)) := by
  have W2 : Below w.heap.size w ((w.alloc (.cells #[.int .i64 x0, .int .i64 x1, .int .i64 x2] 51)).alloc (.cells #[.int .i64 0, .int .i64 0, .int .i64 0] 51)) := up1 (up1 (Below.refl _ w) _) _
  go_enter Try.func36, Try.ntmps36
  go_wp2_with fail
  obtain ⟨w1, hw1⟩ : ∃ w1, w.alloc (.cells #[.int .i64 x0, .int .i64 x1, .int .i64 x2] 51) = w1 := ⟨_, rfl⟩
  have q0 : w1.heap[w.heap.size]? = some (.cells #[.int .i64 x0, .int .i64 x1, .int .i64 x2] 51 (0, 0)) := by rw [← hw1]; exact heap_alloc_new w _
  have s1 : w1.heap.size = w.heap.size + 1 := by rw [← hw1]; simp
  obtain ⟨w2, hw2⟩ : ∃ w2, w1.alloc (.cells #[.int .i64 0, .int .i64 0, .int .i64 0] 51) = w2 := ⟨_, rfl⟩
  have q1 : w2.heap[w.heap.size + 1]? = some (.cells #[.int .i64 0, .int .i64 0, .int .i64 0] 51 (0, 0)) := by rw [← hw2, ← s1]; exact heap_alloc_new w1 _
  have q0 : w2.heap[w.heap.size]? = some (.cells #[.int .i64 x0, .int .i64 x1, .int .i64 x2] 51 (0, 0)) := by rw [← hw2]; exact (((Below.refl _ w1).alloc (Nat.le_refl _) _).block _ (by omega)).trans q0
  rw [hw1, hw2] at W2
  simp only [hw1, hw2]
  obtain ⟨g, hg⟩ : ∃ g, w.heap.size = g := ⟨_, rfl⟩
  have HW := Lib.hid W2
  simp only [hg]
  rw [hg] at q0 q1 HW
  have d0 := cell_in q0 0
  have d1 := cell_in q0 1
  have d2 := cell_in q0 2
  have z0 := cell_in q1 0
  have z1 := cell_in q1 1
  have z2 := cell_in q1 2
  have f0 := frozen_in q1 0
  have f1 := frozen_in q1 1
  have f2 := frozen_in q1 2
  simp only [List.getElem?_toArray, List.getElem?_cons_zero, List.getElem?_cons_succ] at d0 d1 d2 z0 z1 z2
  have HG := Lib.hid hg
  have Q1 := Lib.hid q1
  clear q0 q1 hw1 hw2 s1 W2 hg
  have e1 : IntKind.i64.wrap 1 = 1 := by decide
  have e2 : IntKind.i64.wrap 2 = 2 := by decide
  have e3 : IntKind.i64.wrap 3 = 3 := by decide
  have e4 : IntKind.i64.wrap 4 = 4 := by decide
  have m0 : (0 : Int).tmod 3 = 0 := by decide
  have m1 : (1 : Int).tmod 3 = 1 := by decide
  have m2 : (2 : Int).tmod 3 = 2 := by decide
  have m3 : (3 : Int).tmod 3 = 0 := by decide
  have m4 : (4 : Int).tmod 3 = 1 := by decide
  go_still_tail 14, (by kernel_rfl)
  change wpList _ _ _ _ _ w2.drew
  go_wp2
  refine bodyPost_ret (results_cell_row rfl _ _ (g + 1) 51 #[.int .i64 x0, .int .i64 x1, .int .i64 x2] (0, 0) _ rfl (set3 (w := w2) Q1.out) Try.underlying51 rfl (by kernel_rfl)) rfl ?_
  exact ⟨rfl, by rw [HG.out]; exact (below_set3 HW.out (by omega) _ _ _).trans (Reading.below ⟨1, rfl⟩)⟩

set_option maxHeartbeats 1600000 in
set_option maxRecDepth 100000 in
theorem srotated_1 (w : World) (x0 x1 x2 : Int) :
    Calls Try.prog 36 #[.agg #[.int .i64 x0, .int .i64 x1, .int .i64 x2], .int .i64 1] w (TriTold w (x1, x2, x0)) := by
  have W2 : Below w.heap.size w ((w.alloc (.cells #[.int .i64 x0, .int .i64 x1, .int .i64 x2] 51)).alloc (.cells #[.int .i64 0, .int .i64 0, .int .i64 0] 51)) := up1 (up1 (Below.refl _ w) _) _
  go_enter Try.func36, Try.ntmps36
  go_wp2_with fail
  obtain ⟨w1, hw1⟩ : ∃ w1, w.alloc (.cells #[.int .i64 x0, .int .i64 x1, .int .i64 x2] 51) = w1 := ⟨_, rfl⟩
  have q0 : w1.heap[w.heap.size]? = some (.cells #[.int .i64 x0, .int .i64 x1, .int .i64 x2] 51 (0, 0)) := by rw [← hw1]; exact heap_alloc_new w _
  have s1 : w1.heap.size = w.heap.size + 1 := by rw [← hw1]; simp
  obtain ⟨w2, hw2⟩ : ∃ w2, w1.alloc (.cells #[.int .i64 0, .int .i64 0, .int .i64 0] 51) = w2 := ⟨_, rfl⟩
  have q1 : w2.heap[w.heap.size + 1]? = some (.cells #[.int .i64 0, .int .i64 0, .int .i64 0] 51 (0, 0)) := by rw [← hw2, ← s1]; exact heap_alloc_new w1 _
  have q0 : w2.heap[w.heap.size]? = some (.cells #[.int .i64 x0, .int .i64 x1, .int .i64 x2] 51 (0, 0)) := by rw [← hw2]; exact (((Below.refl _ w1).alloc (Nat.le_refl _) _).block _ (by omega)).trans q0
  rw [hw1, hw2] at W2
  simp only [hw1, hw2]
  obtain ⟨g, hg⟩ : ∃ g, w.heap.size = g := ⟨_, rfl⟩
  have HW := Lib.hid W2
  simp only [hg]
  rw [hg] at q0 q1 HW
  have d0 := cell_in q0 0
  have d1 := cell_in q0 1
  have d2 := cell_in q0 2
  have z0 := cell_in q1 0
  have z1 := cell_in q1 1
  have z2 := cell_in q1 2
  have f0 := frozen_in q1 0
  have f1 := frozen_in q1 1
  have f2 := frozen_in q1 2
  simp only [List.getElem?_toArray, List.getElem?_cons_zero, List.getElem?_cons_succ] at d0 d1 d2 z0 z1 z2
  have HG := Lib.hid hg
  have Q1 := Lib.hid q1
  clear q0 q1 hw1 hw2 s1 W2 hg
  have e1 : IntKind.i64.wrap 1 = 1 := by decide
  have e2 : IntKind.i64.wrap 2 = 2 := by decide
  have e3 : IntKind.i64.wrap 3 = 3 := by decide
  have e4 : IntKind.i64.wrap 4 = 4 := by decide
  have m0 : (0 : Int).tmod 3 = 0 := by decide
  have m1 : (1 : Int).tmod 3 = 1 := by decide
  have m2 : (2 : Int).tmod 3 = 2 := by decide
  have m3 : (3 : Int).tmod 3 = 0 := by decide
  have m4 : (4 : Int).tmod 3 = 1 := by decide
  go_still_tail 14, (by kernel_rfl)
  change wpList _ _ _ _ _ w2.drew
  go_wp2
  refine bodyPost_ret (results_cell_row rfl _ _ (g + 1) 51 #[.int .i64 x1, .int .i64 x2, .int .i64 x0] (0, 0) _ rfl (set3 (w := w2) Q1.out) Try.underlying51 rfl (by kernel_rfl)) rfl ?_
  exact ⟨rfl, by rw [HG.out]; exact (below_set3 HW.out (by omega) _ _ _).trans (Reading.below ⟨1, rfl⟩)⟩

set_option maxHeartbeats 1600000 in
set_option maxRecDepth 100000 in
theorem srotated_2 (w : World) (x0 x1 x2 : Int) :
    Calls Try.prog 36 #[.agg #[.int .i64 x0, .int .i64 x1, .int .i64 x2], .int .i64 2] w (TriTold w (x2, x0, x1)) := by
  have W2 : Below w.heap.size w ((w.alloc (.cells #[.int .i64 x0, .int .i64 x1, .int .i64 x2] 51)).alloc (.cells #[.int .i64 0, .int .i64 0, .int .i64 0] 51)) := up1 (up1 (Below.refl _ w) _) _
  go_enter Try.func36, Try.ntmps36
  go_wp2_with fail
  obtain ⟨w1, hw1⟩ : ∃ w1, w.alloc (.cells #[.int .i64 x0, .int .i64 x1, .int .i64 x2] 51) = w1 := ⟨_, rfl⟩
  have q0 : w1.heap[w.heap.size]? = some (.cells #[.int .i64 x0, .int .i64 x1, .int .i64 x2] 51 (0, 0)) := by rw [← hw1]; exact heap_alloc_new w _
  have s1 : w1.heap.size = w.heap.size + 1 := by rw [← hw1]; simp
  obtain ⟨w2, hw2⟩ : ∃ w2, w1.alloc (.cells #[.int .i64 0, .int .i64 0, .int .i64 0] 51) = w2 := ⟨_, rfl⟩
  have q1 : w2.heap[w.heap.size + 1]? = some (.cells #[.int .i64 0, .int .i64 0, .int .i64 0] 51 (0, 0)) := by rw [← hw2, ← s1]; exact heap_alloc_new w1 _
  have q0 : w2.heap[w.heap.size]? = some (.cells #[.int .i64 x0, .int .i64 x1, .int .i64 x2] 51 (0, 0)) := by rw [← hw2]; exact (((Below.refl _ w1).alloc (Nat.le_refl _) _).block _ (by omega)).trans q0
  rw [hw1, hw2] at W2
  simp only [hw1, hw2]
  obtain ⟨g, hg⟩ : ∃ g, w.heap.size = g := ⟨_, rfl⟩
  have HW := Lib.hid W2
  simp only [hg]
  rw [hg] at q0 q1 HW
  have d0 := cell_in q0 0
  have d1 := cell_in q0 1
  have d2 := cell_in q0 2
  have z0 := cell_in q1 0
  have z1 := cell_in q1 1
  have z2 := cell_in q1 2
  have f0 := frozen_in q1 0
  have f1 := frozen_in q1 1
  have f2 := frozen_in q1 2
  simp only [List.getElem?_toArray, List.getElem?_cons_zero, List.getElem?_cons_succ] at d0 d1 d2 z0 z1 z2
  have HG := Lib.hid hg
  have Q1 := Lib.hid q1
  clear q0 q1 hw1 hw2 s1 W2 hg
  have e1 : IntKind.i64.wrap 1 = 1 := by decide
  have e2 : IntKind.i64.wrap 2 = 2 := by decide
  have e3 : IntKind.i64.wrap 3 = 3 := by decide
  have e4 : IntKind.i64.wrap 4 = 4 := by decide
  have m0 : (0 : Int).tmod 3 = 0 := by decide
  have m1 : (1 : Int).tmod 3 = 1 := by decide
  have m2 : (2 : Int).tmod 3 = 2 := by decide
  have m3 : (3 : Int).tmod 3 = 0 := by decide
  have m4 : (4 : Int).tmod 3 = 1 := by decide
  go_still_tail 14, (by kernel_rfl)
  change wpList _ _ _ _ _ w2.drew
  go_wp2
  refine bodyPost_ret (results_cell_row rfl _ _ (g + 1) 51 #[.int .i64 x2, .int .i64 x0, .int .i64 x1] (0, 0) _ rfl (set3 (w := w2) Q1.out) Try.underlying51 rfl (by kernel_rfl)) rfl ?_
  exact ⟨rfl, by rw [HG.out]; exact (below_set3 HW.out (by omega) _ _ _).trans (Reading.below ⟨1, rfl⟩)⟩

theorem srotated_any (w : World) (t : Tr) (k : Nat) (hk : k < 3) :
    Calls Try.prog 36 #[.agg #[.int .i64 t.1, .int .i64 t.2.1, .int .i64 t.2.2], .int .i64 (k : Int)] w (TriTold w (rotT t k)) := by
  rcases (show k = 0 ∨ k = 1 ∨ k = 2 by omega) with rfl | rfl | rfl
  · exact srotated_0 w _ _ _
  · exact srotated_1 w _ _ _
  · exact srotated_2 w _ _ _

set_option maxHeartbeats 1600000 in
set_option maxRecDepth 100000 in
theorem rturned_0 (w : World) (x0 x1 x2 : Int) :
    Calls Try.prog 37 #[.agg #[.int .i64 x0, .int .i64 x1, .int .i64 x2], .int .i64 0] w (TriTold w (x0, x1, x2)) := by
  have W2 : Below w.heap.size w ((w.alloc (.cells #[.int .i64 x0, .int .i64 x1, .int .i64 x2] 51)).alloc (.cells #[.int .i64 0, .int .i64 0, .int .i64 0] 51)) := up1 (up1 (Below.refl _ w) _) _
  go_enter Try.func37, Try.ntmps37
  go_wp2_with fail
  obtain ⟨w1, hw1⟩ : ∃ w1, w.alloc (.cells #[.int .i64 x0, .int .i64 x1, .int .i64 x2] 51) = w1 := ⟨_, rfl⟩
  have q0 : w1.heap[w.heap.size]? = some (.cells #[.int .i64 x0, .int .i64 x1, .int .i64 x2] 51 (0, 0)) := by rw [← hw1]; exact heap_alloc_new w _
  have s1 : w1.heap.size = w.heap.size + 1 := by rw [← hw1]; simp
  obtain ⟨w2, hw2⟩ : ∃ w2, w1.alloc (.cells #[.int .i64 0, .int .i64 0, .int .i64 0] 51) = w2 := ⟨_, rfl⟩
  have q1 : w2.heap[w.heap.size + 1]? = some (.cells #[.int .i64 0, .int .i64 0, .int .i64 0] 51 (0, 0)) := by rw [← hw2, ← s1]; exact heap_alloc_new w1 _
  have q0 : w2.heap[w.heap.size]? = some (.cells #[.int .i64 x0, .int .i64 x1, .int .i64 x2] 51 (0, 0)) := by rw [← hw2]; exact (((Below.refl _ w1).alloc (Nat.le_refl _) _).block _ (by omega)).trans q0
  rw [hw1, hw2] at W2
  simp only [hw1, hw2]
  obtain ⟨g, hg⟩ : ∃ g, w.heap.size = g := ⟨_, rfl⟩
  have HW := Lib.hid W2
  simp only [hg]
  rw [hg] at q0 q1 HW
  have d0 := cell_in q0 0
  have d1 := cell_in q0 1
  have d2 := cell_in q0 2
  have z0 := cell_in q1 0
  have z1 := cell_in q1 1
  have z2 := cell_in q1 2
  have f0 := frozen_in q1 0
  have f1 := frozen_in q1 1
  have f2 := frozen_in q1 2
  simp only [List.getElem?_toArray, List.getElem?_cons_zero, List.getElem?_cons_succ] at d0 d1 d2 z0 z1 z2
  have HG := Lib.hid hg
  have Q1 := Lib.hid q1
  clear q0 q1 hw1 hw2 s1 W2 hg
  have e1 : IntKind.i64.wrap 1 = 1 := by decide
  have e2 : IntKind.i64.wrap 2 = 2 := by decide
  have e3 : IntKind.i64.wrap 3 = 3 := by decide
  have e4 : IntKind.i64.wrap 4 = 4 := by decide
  have m0 : (0 : Int).tmod 3 = 0 := by decide
  have m1 : (1 : Int).tmod 3 = 1 := by decide
  have m2 : (2 : Int).tmod 3 = 2 := by decide
  have m3 : (3 : Int).tmod 3 = 0 := by decide
  have m4 : (4 : Int).tmod 3 = 1 := by decide
  go_still_tail 15, (by kernel_rfl)
  change wpList _ _ _ _ _ w2.drew
  go_wp2
  refine bodyPost_ret (results_cell_row rfl _ _ (g + 1) 51 #[.int .i64 x0, .int .i64 x1, .int .i64 x2] (0, 0) _ rfl (set3 (w := w2) Q1.out) Try.underlying51 rfl (by kernel_rfl)) rfl ?_
  exact ⟨rfl, by rw [HG.out]; exact (below_set3 HW.out (by omega) _ _ _).trans (Reading.below ⟨1, rfl⟩)⟩

set_option maxHeartbeats 1600000 in
set_option maxRecDepth 100000 in
theorem rturned_1 (w : World) (x0 x1 x2 : Int) :
    Calls Try.prog 37 #[.agg #[.int .i64 x0, .int .i64 x1, .int .i64 x2], .int .i64 1] w (TriTold w (x1, x2, x0)) := by
  have W2 : Below w.heap.size w ((w.alloc (.cells #[.int .i64 x0, .int .i64 x1, .int .i64 x2] 51)).alloc (.cells #[.int .i64 0, .int .i64 0, .int .i64 0] 51)) := up1 (up1 (Below.refl _ w) _) _
  go_enter Try.func37, Try.ntmps37
  go_wp2_with fail
  obtain ⟨w1, hw1⟩ : ∃ w1, w.alloc (.cells #[.int .i64 x0, .int .i64 x1, .int .i64 x2] 51) = w1 := ⟨_, rfl⟩
  have q0 : w1.heap[w.heap.size]? = some (.cells #[.int .i64 x0, .int .i64 x1, .int .i64 x2] 51 (0, 0)) := by rw [← hw1]; exact heap_alloc_new w _
  have s1 : w1.heap.size = w.heap.size + 1 := by rw [← hw1]; simp
  obtain ⟨w2, hw2⟩ : ∃ w2, w1.alloc (.cells #[.int .i64 0, .int .i64 0, .int .i64 0] 51) = w2 := ⟨_, rfl⟩
  have q1 : w2.heap[w.heap.size + 1]? = some (.cells #[.int .i64 0, .int .i64 0, .int .i64 0] 51 (0, 0)) := by rw [← hw2, ← s1]; exact heap_alloc_new w1 _
  have q0 : w2.heap[w.heap.size]? = some (.cells #[.int .i64 x0, .int .i64 x1, .int .i64 x2] 51 (0, 0)) := by rw [← hw2]; exact (((Below.refl _ w1).alloc (Nat.le_refl _) _).block _ (by omega)).trans q0
  rw [hw1, hw2] at W2
  simp only [hw1, hw2]
  obtain ⟨g, hg⟩ : ∃ g, w.heap.size = g := ⟨_, rfl⟩
  have HW := Lib.hid W2
  simp only [hg]
  rw [hg] at q0 q1 HW
  have d0 := cell_in q0 0
  have d1 := cell_in q0 1
  have d2 := cell_in q0 2
  have z0 := cell_in q1 0
  have z1 := cell_in q1 1
  have z2 := cell_in q1 2
  have f0 := frozen_in q1 0
  have f1 := frozen_in q1 1
  have f2 := frozen_in q1 2
  simp only [List.getElem?_toArray, List.getElem?_cons_zero, List.getElem?_cons_succ] at d0 d1 d2 z0 z1 z2
  have HG := Lib.hid hg
  have Q1 := Lib.hid q1
  clear q0 q1 hw1 hw2 s1 W2 hg
  have e1 : IntKind.i64.wrap 1 = 1 := by decide
  have e2 : IntKind.i64.wrap 2 = 2 := by decide
  have e3 : IntKind.i64.wrap 3 = 3 := by decide
  have e4 : IntKind.i64.wrap 4 = 4 := by decide
  have m0 : (0 : Int).tmod 3 = 0 := by decide
  have m1 : (1 : Int).tmod 3 = 1 := by decide
  have m2 : (2 : Int).tmod 3 = 2 := by decide
  have m3 : (3 : Int).tmod 3 = 0 := by decide
  have m4 : (4 : Int).tmod 3 = 1 := by decide
  go_still_tail 15, (by kernel_rfl)
  change wpList _ _ _ _ _ w2.drew
  go_wp2
  refine bodyPost_ret (results_cell_row rfl _ _ (g + 1) 51 #[.int .i64 x1, .int .i64 x2, .int .i64 x0] (0, 0) _ rfl (set3 (w := w2) Q1.out) Try.underlying51 rfl (by kernel_rfl)) rfl ?_
  exact ⟨rfl, by rw [HG.out]; exact (below_set3 HW.out (by omega) _ _ _).trans (Reading.below ⟨1, rfl⟩)⟩

set_option maxHeartbeats 1600000 in
set_option maxRecDepth 100000 in
theorem rturned_2 (w : World) (x0 x1 x2 : Int) :
    Calls Try.prog 37 #[.agg #[.int .i64 x0, .int .i64 x1, .int .i64 x2], .int .i64 2] w (TriTold w (x2, x0, x1)) := by
  have W2 : Below w.heap.size w ((w.alloc (.cells #[.int .i64 x0, .int .i64 x1, .int .i64 x2] 51)).alloc (.cells #[.int .i64 0, .int .i64 0, .int .i64 0] 51)) := up1 (up1 (Below.refl _ w) _) _
  go_enter Try.func37, Try.ntmps37
  go_wp2_with fail
  obtain ⟨w1, hw1⟩ : ∃ w1, w.alloc (.cells #[.int .i64 x0, .int .i64 x1, .int .i64 x2] 51) = w1 := ⟨_, rfl⟩
  have q0 : w1.heap[w.heap.size]? = some (.cells #[.int .i64 x0, .int .i64 x1, .int .i64 x2] 51 (0, 0)) := by rw [← hw1]; exact heap_alloc_new w _
  have s1 : w1.heap.size = w.heap.size + 1 := by rw [← hw1]; simp
  obtain ⟨w2, hw2⟩ : ∃ w2, w1.alloc (.cells #[.int .i64 0, .int .i64 0, .int .i64 0] 51) = w2 := ⟨_, rfl⟩
  have q1 : w2.heap[w.heap.size + 1]? = some (.cells #[.int .i64 0, .int .i64 0, .int .i64 0] 51 (0, 0)) := by rw [← hw2, ← s1]; exact heap_alloc_new w1 _
  have q0 : w2.heap[w.heap.size]? = some (.cells #[.int .i64 x0, .int .i64 x1, .int .i64 x2] 51 (0, 0)) := by rw [← hw2]; exact (((Below.refl _ w1).alloc (Nat.le_refl _) _).block _ (by omega)).trans q0
  rw [hw1, hw2] at W2
  simp only [hw1, hw2]
  obtain ⟨g, hg⟩ : ∃ g, w.heap.size = g := ⟨_, rfl⟩
  have HW := Lib.hid W2
  simp only [hg]
  rw [hg] at q0 q1 HW
  have d0 := cell_in q0 0
  have d1 := cell_in q0 1
  have d2 := cell_in q0 2
  have z0 := cell_in q1 0
  have z1 := cell_in q1 1
  have z2 := cell_in q1 2
  have f0 := frozen_in q1 0
  have f1 := frozen_in q1 1
  have f2 := frozen_in q1 2
  simp only [List.getElem?_toArray, List.getElem?_cons_zero, List.getElem?_cons_succ] at d0 d1 d2 z0 z1 z2
  have HG := Lib.hid hg
  have Q1 := Lib.hid q1
  clear q0 q1 hw1 hw2 s1 W2 hg
  have e1 : IntKind.i64.wrap 1 = 1 := by decide
  have e2 : IntKind.i64.wrap 2 = 2 := by decide
  have e3 : IntKind.i64.wrap 3 = 3 := by decide
  have e4 : IntKind.i64.wrap 4 = 4 := by decide
  have m0 : (0 : Int).tmod 3 = 0 := by decide
  have m1 : (1 : Int).tmod 3 = 1 := by decide
  have m2 : (2 : Int).tmod 3 = 2 := by decide
  have m3 : (3 : Int).tmod 3 = 0 := by decide
  have m4 : (4 : Int).tmod 3 = 1 := by decide
  go_still_tail 15, (by kernel_rfl)
  change wpList _ _ _ _ _ w2.drew
  go_wp2
  refine bodyPost_ret (results_cell_row rfl _ _ (g + 1) 51 #[.int .i64 x2, .int .i64 x0, .int .i64 x1] (0, 0) _ rfl (set3 (w := w2) Q1.out) Try.underlying51 rfl (by kernel_rfl)) rfl ?_
  exact ⟨rfl, by rw [HG.out]; exact (below_set3 HW.out (by omega) _ _ _).trans (Reading.below ⟨1, rfl⟩)⟩

theorem rturned_any (w : World) (t : Tr) (k : Nat) (hk : k < 3) :
    Calls Try.prog 37 #[.agg #[.int .i64 t.1, .int .i64 t.2.1, .int .i64 t.2.2], .int .i64 (k : Int)] w (TriTold w (rotT t k)) := by
  rcases (show k = 0 ∨ k = 1 ∨ k = 2 by omega) with rfl | rfl | rfl
  · exact rturned_0 w _ _ _
  · exact rturned_1 w _ _ _
  · exact rturned_2 w _ _ _
end Go.Proofs.Ytfdoemebongdbaa
