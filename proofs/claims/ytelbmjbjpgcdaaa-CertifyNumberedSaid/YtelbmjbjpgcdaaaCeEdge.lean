/- Layer 9: a directed edge of a triangle; the map of directed edges. -/
import Derived.Test.YtelbmjbjpgcdaaaCeSeen
import Derived.Handy
import Derived.StillTailTactics
import Derived.Deep.RegionHeld3
namespace Go.Proofs.Ytelbmjbjpgcdaaa
open Go.RowKit

/-- The directed edge that begins at the vertex k. -/
def edE (x : Tr) (k : Nat) : Ed := if k = 0 then (x.1, x.2.1) else if k = 1 then (x.2.1, x.2.2) else (x.2.2, x.1)
def EdgeTold (w : World) (d : Ed) (e : Ending) (w' : World) : Prop := e = .returned (.agg #[.int .i64 d.1, .int .i64 d.2]) ∧ Below w.heap.size w w'

set_option maxHeartbeats 2000000 in
set_option maxRecDepth 100000 in
theorem cedge_0 (w : World) (x0 x1 x2 : Int) : Calls Try.prog 43 #[.agg #[.int .i64 x0, .int .i64 x1, .int .i64 x2], .int .i64 0] w (EdgeTold w (x0, x1)) := by
  obtain ⟨w1, hw1⟩ : ∃ w1, w.alloc (.cells #[.int .i64 x0, .int .i64 x1, .int .i64 x2] 41) = w1 := ⟨_, rfl⟩
  have b1 : Below w.heap.size w w1 := by rw [← hw1]; exact (Below.refl _ w).alloc (Nat.le_refl _) _
  obtain ⟨q, hq⟩ : ∃ q, w.heap.size = q := ⟨_, rfl⟩
  have q0 : w1.heap[q]? = some (.cells #[.int .i64 x0, .int .i64 x1, .int .i64 x2] 41 (0, 0)) := by rw [← hw1, ← hq]; exact heap_alloc_new w _
  obtain ⟨w2, hw2⟩ : ∃ w2, w1.alloc (.cells #[.int .i64 0, .int .i64 0] 66) = w2 := ⟨_, rfl⟩
  obtain ⟨r, hr⟩ : ∃ r, w1.heap.size = r := ⟨_, rfl⟩
  have b2 : Below w1.heap.size w1 w2 := by rw [← hw2]; exact (Below.refl _ w1).alloc (Nat.le_refl _) _
  have r0 : w2.heap[r]? = some (.cells #[.int .i64 0, .int .i64 0] 66 (0, 0)) := by rw [← hw2, ← hr]; exact heap_alloc_new w1 _
  have q2 := (b2.block q (heap_lt q0)).trans q0
  have hrq : q < r := by rw [← hr]; exact heap_lt q0
  have c0 : w2.cell? ⟨q, 0, none⟩ = some (.int .i64 x0) := by rw [cell_in q2]; rfl
  have c1 : w2.cell? ⟨q, 1, none⟩ = some (.int .i64 x1) := by rw [cell_in q2]; rfl
  have c2 : w2.cell? ⟨q, 2, none⟩ = some (.int .i64 x2) := by rw [cell_in q2]; rfl
  have d0 : w2.cell? ⟨r, 0, none⟩ = some (.int .i64 0) := by rw [cell_in r0]; rfl
  have d1 : w2.cell? ⟨r, 1, none⟩ = some (.int .i64 0) := by rw [cell_in r0]; rfl
  have f0 := frozen_in r0 0
  have f1 := frozen_in r0 1
  have B := Lib.hid (b1.trans (b2.mono b1.size))
  have R0 := Lib.hid r0
  have HQ := Lib.hid (show w.heap.size ≤ r by rw [hq]; omega)
  clear b1 b2 q0 q2 r0
  have e1 : IntKind.i64.wrap 1 = 1 := by decide
  have e2 : IntKind.i64.wrap 2 = 2 := by decide
  have e3 : IntKind.i64.wrap 3 = 3 := by decide
  have m1 : (1 : Int).tmod 3 = 1 := by decide
  have m2 : (2 : Int).tmod 3 = 2 := by decide
  have m3 : (3 : Int).tmod 3 = 0 := by decide
  go_enter Try.func43, Try.ntmps43
  go_wp2_with fail
  go_still_tail 9, (by kernel_rfl)
  change wpList _ _ _ _ _ w2.drew
  go_wp2
  refine bodyPost_ret (results_cell_row rfl _ _ r 66 #[.int .i64 x0, .int .i64 x1] (0, 0) _ rfl (set2 (w := w2) R0.out) Try.underlying66 rfl (by kernel_rfl)) rfl ?_
  exact ⟨rfl, (below_set2 B.out HQ.out _ _).trans (Reading.below ⟨1, rfl⟩)⟩

set_option maxHeartbeats 2000000 in
set_option maxRecDepth 100000 in
theorem cedge_1 (w : World) (x0 x1 x2 : Int) : Calls Try.prog 43 #[.agg #[.int .i64 x0, .int .i64 x1, .int .i64 x2], .int .i64 1] w (EdgeTold w (x1, x2)) := by
  obtain ⟨w1, hw1⟩ : ∃ w1, w.alloc (.cells #[.int .i64 x0, .int .i64 x1, .int .i64 x2] 41) = w1 := ⟨_, rfl⟩
  have b1 : Below w.heap.size w w1 := by rw [← hw1]; exact (Below.refl _ w).alloc (Nat.le_refl _) _
  obtain ⟨q, hq⟩ : ∃ q, w.heap.size = q := ⟨_, rfl⟩
  have q0 : w1.heap[q]? = some (.cells #[.int .i64 x0, .int .i64 x1, .int .i64 x2] 41 (0, 0)) := by rw [← hw1, ← hq]; exact heap_alloc_new w _
  obtain ⟨w2, hw2⟩ : ∃ w2, w1.alloc (.cells #[.int .i64 0, .int .i64 0] 66) = w2 := ⟨_, rfl⟩
  obtain ⟨r, hr⟩ : ∃ r, w1.heap.size = r := ⟨_, rfl⟩
  have b2 : Below w1.heap.size w1 w2 := by rw [← hw2]; exact (Below.refl _ w1).alloc (Nat.le_refl _) _
  have r0 : w2.heap[r]? = some (.cells #[.int .i64 0, .int .i64 0] 66 (0, 0)) := by rw [← hw2, ← hr]; exact heap_alloc_new w1 _
  have q2 := (b2.block q (heap_lt q0)).trans q0
  have hrq : q < r := by rw [← hr]; exact heap_lt q0
  have c0 : w2.cell? ⟨q, 0, none⟩ = some (.int .i64 x0) := by rw [cell_in q2]; rfl
  have c1 : w2.cell? ⟨q, 1, none⟩ = some (.int .i64 x1) := by rw [cell_in q2]; rfl
  have c2 : w2.cell? ⟨q, 2, none⟩ = some (.int .i64 x2) := by rw [cell_in q2]; rfl
  have d0 : w2.cell? ⟨r, 0, none⟩ = some (.int .i64 0) := by rw [cell_in r0]; rfl
  have d1 : w2.cell? ⟨r, 1, none⟩ = some (.int .i64 0) := by rw [cell_in r0]; rfl
  have f0 := frozen_in r0 0
  have f1 := frozen_in r0 1
  have B := Lib.hid (b1.trans (b2.mono b1.size))
  have R0 := Lib.hid r0
  have HQ := Lib.hid (show w.heap.size ≤ r by rw [hq]; omega)
  clear b1 b2 q0 q2 r0
  have e1 : IntKind.i64.wrap 1 = 1 := by decide
  have e2 : IntKind.i64.wrap 2 = 2 := by decide
  have e3 : IntKind.i64.wrap 3 = 3 := by decide
  have m1 : (1 : Int).tmod 3 = 1 := by decide
  have m2 : (2 : Int).tmod 3 = 2 := by decide
  have m3 : (3 : Int).tmod 3 = 0 := by decide
  go_enter Try.func43, Try.ntmps43
  go_wp2_with fail
  go_still_tail 9, (by kernel_rfl)
  change wpList _ _ _ _ _ w2.drew
  go_wp2
  refine bodyPost_ret (results_cell_row rfl _ _ r 66 #[.int .i64 x1, .int .i64 x2] (0, 0) _ rfl (set2 (w := w2) R0.out) Try.underlying66 rfl (by kernel_rfl)) rfl ?_
  exact ⟨rfl, (below_set2 B.out HQ.out _ _).trans (Reading.below ⟨1, rfl⟩)⟩

set_option maxHeartbeats 2000000 in
set_option maxRecDepth 100000 in
theorem cedge_2 (w : World) (x0 x1 x2 : Int) : Calls Try.prog 43 #[.agg #[.int .i64 x0, .int .i64 x1, .int .i64 x2], .int .i64 2] w (EdgeTold w (x2, x0)) := by
  obtain ⟨w1, hw1⟩ : ∃ w1, w.alloc (.cells #[.int .i64 x0, .int .i64 x1, .int .i64 x2] 41) = w1 := ⟨_, rfl⟩
  have b1 : Below w.heap.size w w1 := by rw [← hw1]; exact (Below.refl _ w).alloc (Nat.le_refl _) _
  obtain ⟨q, hq⟩ : ∃ q, w.heap.size = q := ⟨_, rfl⟩
  have q0 : w1.heap[q]? = some (.cells #[.int .i64 x0, .int .i64 x1, .int .i64 x2] 41 (0, 0)) := by rw [← hw1, ← hq]; exact heap_alloc_new w _
  obtain ⟨w2, hw2⟩ : ∃ w2, w1.alloc (.cells #[.int .i64 0, .int .i64 0] 66) = w2 := ⟨_, rfl⟩
  obtain ⟨r, hr⟩ : ∃ r, w1.heap.size = r := ⟨_, rfl⟩
  have b2 : Below w1.heap.size w1 w2 := by rw [← hw2]; exact (Below.refl _ w1).alloc (Nat.le_refl _) _
  have r0 : w2.heap[r]? = some (.cells #[.int .i64 0, .int .i64 0] 66 (0, 0)) := by rw [← hw2, ← hr]; exact heap_alloc_new w1 _
  have q2 := (b2.block q (heap_lt q0)).trans q0
  have hrq : q < r := by rw [← hr]; exact heap_lt q0
  have c0 : w2.cell? ⟨q, 0, none⟩ = some (.int .i64 x0) := by rw [cell_in q2]; rfl
  have c1 : w2.cell? ⟨q, 1, none⟩ = some (.int .i64 x1) := by rw [cell_in q2]; rfl
  have c2 : w2.cell? ⟨q, 2, none⟩ = some (.int .i64 x2) := by rw [cell_in q2]; rfl
  have d0 : w2.cell? ⟨r, 0, none⟩ = some (.int .i64 0) := by rw [cell_in r0]; rfl
  have d1 : w2.cell? ⟨r, 1, none⟩ = some (.int .i64 0) := by rw [cell_in r0]; rfl
  have f0 := frozen_in r0 0
  have f1 := frozen_in r0 1
  have B := Lib.hid (b1.trans (b2.mono b1.size))
  have R0 := Lib.hid r0
  have HQ := Lib.hid (show w.heap.size ≤ r by rw [hq]; omega)
  clear b1 b2 q0 q2 r0
  have e1 : IntKind.i64.wrap 1 = 1 := by decide
  have e2 : IntKind.i64.wrap 2 = 2 := by decide
  have e3 : IntKind.i64.wrap 3 = 3 := by decide
  have m1 : (1 : Int).tmod 3 = 1 := by decide
  have m2 : (2 : Int).tmod 3 = 2 := by decide
  have m3 : (3 : Int).tmod 3 = 0 := by decide
  go_enter Try.func43, Try.ntmps43
  go_wp2_with fail
  go_still_tail 9, (by kernel_rfl)
  change wpList _ _ _ _ _ w2.drew
  go_wp2
  refine bodyPost_ret (results_cell_row rfl _ _ r 66 #[.int .i64 x2, .int .i64 x0] (0, 0) _ rfl (set2 (w := w2) R0.out) Try.underlying66 rfl (by kernel_rfl)) rfl ?_
  exact ⟨rfl, (below_set2 B.out HQ.out _ _).trans (Reading.below ⟨1, rfl⟩)⟩

theorem cedge_any (w : World) (x0 x1 x2 : Int) (k : Nat) (hk : k < 3) : Calls Try.prog 43 #[.agg #[.int .i64 x0, .int .i64 x1, .int .i64 x2], .int .i64 (k : Int)] w (EdgeTold w (edE (x0, x1, x2) k)) := by
  match k, hk with
  | 0, _ => exact cedge_0 w x0 x1 x2
  | 1, _ => exact cedge_1 w x0 x1 x2
  | 2, _ => exact cedge_2 w x0 x1 x2
end Go.Proofs.Ytelbmjbjpgcdaaa
