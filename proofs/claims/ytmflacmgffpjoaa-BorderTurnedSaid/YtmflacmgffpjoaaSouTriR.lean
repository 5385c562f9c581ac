/- The document's answer for layer 8: a triangle turned (out of SouTri). -/
import Derived.Test.YtmflacmgffpjoaaTriW
import Derived.StillTailTactics
import Derived.Handy
namespace Go.Proofs.Ytmflacmgffpjoaa
open Go.RowKit

set_option maxHeartbeats 1600000 in
set_option maxRecDepth 100000 in
theorem rturned_0 (w : World) (x0 x1 x2 : Int) :
    Calls Try.prog 29 #[.agg #[.int .i64 x0, .int .i64 x1, .int .i64 x2], .int .i64 0] w (TriTold w (x0, x1, x2)) := by
  have W2 : Below w.heap.size w ((w.alloc (.cells #[.int .i64 x0, .int .i64 x1, .int .i64 x2] 53)).alloc (.cells #[.int .i64 0, .int .i64 0, .int .i64 0] 53)) := up1 (up1 (Below.refl _ w) _) _
  go_enter Try.func29, Try.ntmps29
  go_wp2_with fail
  obtain ⟨w1, hw1⟩ : ∃ w1, w.alloc (.cells #[.int .i64 x0, .int .i64 x1, .int .i64 x2] 53) = w1 := ⟨_, rfl⟩
  have q0 : w1.heap[w.heap.size]? = some (.cells #[.int .i64 x0, .int .i64 x1, .int .i64 x2] 53 (0, 0)) := by rw [← hw1]; exact heap_alloc_new w _
  have s1 : w1.heap.size = w.heap.size + 1 := by rw [← hw1]; simp
  obtain ⟨w2, hw2⟩ : ∃ w2, w1.alloc (.cells #[.int .i64 0, .int .i64 0, .int .i64 0] 53) = w2 := ⟨_, rfl⟩
  have q1 : w2.heap[w.heap.size + 1]? = some (.cells #[.int .i64 0, .int .i64 0, .int .i64 0] 53 (0, 0)) := by rw [← hw2, ← s1]; exact heap_alloc_new w1 _
  have q0 : w2.heap[w.heap.size]? = some (.cells #[.int .i64 x0, .int .i64 x1, .int .i64 x2] 53 (0, 0)) := by rw [← hw2]; exact (((Below.refl _ w1).alloc (Nat.le_refl _) _).block _ (by omega)).trans q0
  rw [hw1, hw2] at W2
  simp only [hw1, hw2]
  obtain ⟨g, hg⟩ : ∃ g, w.heap.size = g := ⟨_, rfl⟩
  have HW := Lib.hid W2
  simp only [hg]
  rw [hg] at q0 q1 HW
  have d0 := cell_in q0 0
  have d1 := cell_in q0 1
  have d2 := cell_in q0 2
  have z0 := cell_in q1 0
  have z1 := cell_in q1 1
  have z2 := cell_in q1 2
  have f0 := frozen_in q1 0
  have f1 := frozen_in q1 1
  have f2 := frozen_in q1 2
  simp only [List.getElem?_toArray, List.getElem?_cons_zero, List.getElem?_cons_succ] at d0 d1 d2 z0 z1 z2
  have HG := Lib.hid hg
  have Q1 := Lib.hid q1
  clear q0 q1 hw1 hw2 s1 W2 hg
  have e1 : IntKind.i64.wrap 1 = 1 := by decide
  have e2 : IntKind.i64.wrap 2 = 2 := by decide
  have e3 : IntKind.i64.wrap 3 = 3 := by decide
  have e4 : IntKind.i64.wrap 4 = 4 := by decide
  have m0 : (0 : Int).tmod 3 = 0 := by decide
  have m1 : (1 : Int).tmod 3 = 1 := by decide
  have m2 : (2 : Int).tmod 3 = 2 := by decide
  have m3 : (3 : Int).tmod 3 = 0 := by decide
  have m4 : (4 : Int).tmod 3 = 1 := by decide
  go_still_tail 15, (by kernel_rfl)
  change wpList _ _ _ _ _ w2.drew
  go_wp2
  refine bodyPost_ret (results_cell_row rfl _ _ (g + 1) 53 #[.int .i64 x0, .int .i64 x1, .int .i64 x2] (0, 0) _ rfl (set3 (w := w2) Q1.out) Try.underlying53 rfl (by kernel_rfl)) rfl ?_
  exact ⟨rfl, by rw [HG.out]; exact (below_set3 HW.out (by omega) _ _ _).trans (Reading.below ⟨1, rfl⟩)⟩

set_option maxHeartbeats 1600000 in
set_option maxRecDepth 100000 in
theorem rturned_1 (w : World) (x0 x1 x2 : Int) :
    Calls Try.prog 29 #[.agg #[.int .i64 x0, .int .i64 x1, .int .i64 x2], .int .i64 1] w (TriTold w (x1, x2, x0)) := by
  have W2 : Below w.heap.size w ((w.alloc (.cells #[.int .i64 x0, .int .i64 x1, .int .i64 x2] 53)).alloc (.cells #[.int .i64 0, .int .i64 0, .int .i64 0] 53)) := up1 (up1 (Below.refl _ w) _) _
  go_enter Try.func29, Try.ntmps29
  go_wp2_with fail
  obtain ⟨w1, hw1⟩ : ∃ w1, w.alloc (.cells #[.int .i64 x0, .int .i64 x1, .int .i64 x2] 53) = w1 := ⟨_, rfl⟩
  have q0 : w1.heap[w.heap.size]? = some (.cells #[.int .i64 x0, .int .i64 x1, .int .i64 x2] 53 (0, 0)) := by rw [← hw1]; exact heap_alloc_new w _
  have s1 : w1.heap.size = w.heap.size + 1 := by rw [← hw1]; simp
  obtain ⟨w2, hw2⟩ : ∃ w2, w1.alloc (.cells #[.int .i64 0, .int .i64 0, .int .i64 0] 53) = w2 := ⟨_, rfl⟩
  have q1 : w2.heap[w.heap.size + 1]? = some (.cells #[.int .i64 0, .int .i64 0, .int .i64 0] 53 (0, 0)) := by rw [← hw2, ← s1]; exact heap_alloc_new w1 _
  have q0 : w2.heap[w.heap.size]? = some (.cells #[.int .i64 x0, .int .i64 x1, .int .i64 x2] 53 (0, 0)) := by rw [← hw2]; exact (((Below.refl _ w1).alloc (Nat.le_refl _) _).block _ (by omega)).trans q0
  rw [hw1, hw2] at W2
  simp only [hw1, hw2]
  obtain ⟨g, hg⟩ : ∃ g, w.heap.size = g := ⟨_, rfl⟩
  have HW := Lib.hid W2
  simp only [hg]
  rw [hg] at q0 q1 HW
  have d0 := cell_in q0 0
  have d1 := cell_in q0 1
  have d2 := cell_in q0 2
  have z0 := cell_in q1 0
  have z1 := cell_in q1 1
  have z2 := cell_in q1 2
  have f0 := frozen_in q1 0
  have f1 := frozen_in q1 1
  have f2 := frozen_in q1 2
  simp only [List.getElem?_toArray, List.getElem?_cons_zero, List.getElem?_cons_succ] at d0 d1 d2 z0 z1 z2
  have HG := Lib.hid hg
  have Q1 := Lib.hid q1
  clear q0 q1 hw1 hw2 s1 W2 hg
  have e1 : IntKind.i64.wrap 1 = 1 := by decide
  have e2 : IntKind.i64.wrap 2 = 2 := by decide
  have e3 : IntKind.i64.wrap 3 = 3 := by decide
  have e4 : IntKind.i64.wrap 4 = 4 := by decide
  have m0 : (0 : Int).tmod 3 = 0 := by decide
  have m1 : (1 : Int).tmod 3 = 1 := by decide
  have m2 : (2 : Int).tmod 3 = 2 := by decide
  have m3 : (3 : Int).tmod 3 = 0 := by decide
  have m4 : (4 : Int).tmod 3 = 1 := by decide
  go_still_tail 15, (by kernel_rfl)
  change wpList _ _ _ _ _ w2.drew
  go_wp2
  refine bodyPost_ret (results_cell_row rfl _ _ (g + 1) 53 #[.int .i64 x1, .int .i64 x2, .int .i64 x0] (0, 0) _ rfl (set3 (w := w2) Q1.out) Try.underlying53 rfl (by kernel_rfl)) rfl ?_
  exact ⟨rfl, by rw [HG.out]; exact (below_set3 HW.out (by omega) _ _ _).trans (Reading.below ⟨1, rfl⟩)⟩

set_option maxHeartbeats 1600000 in
set_option maxRecDepth 100000 in
theorem rturned_2 (w : World) (x0 x1 x2 : Int) :
    Calls Try.prog 29 #[.agg #[.int .i64 x0, .int .i64 x1, .int .i64 x2], .int .i64 2] w (TriTold w (x2, x0, x1)) := by
  have W2 : Below w.heap.size w ((w.alloc (.cells #[.int .i64 x0, .int .i64 x1, .int .i64 x2] 53)).alloc (.cells #[.int .i64 0, .int .i64 0, .int .i64 0] 53)) := up1 (up1 (Below.refl _ w) _) _
  go_enter Try.func29, Try.ntmps29
  go_wp2_with fail
  obtain ⟨w1, hw1⟩ : ∃ w1, w.alloc (.cells #[.int .i64 x0, .int .i64 x1, .int .i64 x2] 53) = w1 := ⟨_, rfl⟩
  have q0 : w1.heap[w.heap.size]? = some (.cells #[.int .i64 x0, .int .i64 x1, .int .i64 x2] 53 (0, 0)) := by rw [← hw1]; exact heap_alloc_new w _
  have s1 : w1.heap.size = w.heap.size + 1 := by rw [← hw1]; simp
  obtain ⟨w2, hw2⟩ : ∃ w2, w1.alloc (.cells #[.int .i64 0, .int .i64 0, .int .i64 0] 53) = w2 := ⟨_, rfl⟩
  have q1 : w2.heap[w.heap.size + 1]? = some (.cells #[.int .i64 0, .int .i64 0, .int .i64 0] 53 (0, 0)) := by rw [← hw2, ← s1]; exact heap_alloc_new w1 _
  have q0 : w2.heap[w.heap.size]? = some (.cells #[.int .i64 x0, .int .i64 x1, .int .i64 x2] 53 (0, 0)) := by rw [← hw2]; exact (((Below.refl _ w1).alloc (Nat.le_refl _) _).block _ (by omega)).trans q0
  rw [hw1, hw2] at W2
  simp only [hw1, hw2]
  obtain ⟨g, hg⟩ : ∃ g, w.heap.size = g := ⟨_, rfl⟩
  have HW := Lib.hid W2
  simp only [hg]
  rw [hg] at q0 q1 HW
  have d0 := cell_in q0 0
  have d1 := cell_in q0 1
  have d2 := cell_in q0 2
  have z0 := cell_in q1 0
  have z1 := cell_in q1 1
  have z2 := cell_in q1 2
  have f0 := frozen_in q1 0
  have f1 := frozen_in q1 1
  have f2 := frozen_in q1 2
  simp only [List.getElem?_toArray, List.getElem?_cons_zero, List.getElem?_cons_succ] at d0 d1 d2 z0 z1 z2
  have HG := Lib.hid hg
  have Q1 := Lib.hid q1
  clear q0 q1 hw1 hw2 s1 W2 hg
  have e1 : IntKind.i64.wrap 1 = 1 := by decide
  have e2 : IntKind.i64.wrap 2 = 2 := by decide
  have e3 : IntKind.i64.wrap 3 = 3 := by decide
  have e4 : IntKind.i64.wrap 4 = 4 := by decide
  have m0 : (0 : Int).tmod 3 = 0 := by decide
  have m1 : (1 : Int).tmod 3 = 1 := by decide
  have m2 : (2 : Int).tmod 3 = 2 := by decide
  have m3 : (3 : Int).tmod 3 = 0 := by decide
  have m4 : (4 : Int).tmod 3 = 1 := by decide
  go_still_tail 15, (by kernel_rfl)
  change wpList _ _ _ _ _ w2.drew
  go_wp2
  refine bodyPost_ret (results_cell_row rfl _ _ (g + 1) 53 #[.int .i64 x2, .int .i64 x0, .int .i64 x1] (0, 0) _ rfl (set3 (w := w2) Q1.out) Try.underlying53 rfl (by kernel_rfl)) rfl ?_
  exact ⟨rfl, by rw [HG.out]; exact (below_set3 HW.out (by omega) _ _ _).trans (Reading.below ⟨1, rfl⟩)⟩

theorem rturned_any (w : World) (t : Tr) (k : Nat) (hk : k < 3) :
    Calls Try.prog 29 #[.agg #[.int .i64 t.1, .int .i64 t.2.1, .int .i64 t.2.2], .int .i64 (k : Int)] w (TriTold w (rotT t k)) := by
  rcases (show k = 0 ∨ k = 1 ∨ k = 2 by omega) with rfl | rfl | rfl
  · exact rturned_0 w _ _ _
  · exact rturned_1 w _ _ _
  · exact rturned_2 w _ _ _

end Go.Proofs.Ytmflacmgffpjoaa
