/- Layer 9: the document's: have two triangles a directed edge in common. -/
import Derived.Test.YtelbmjbjpgcdaaaCrEdge
namespace Go.Proofs.Ytelbmjbjpgcdaaa
open Go.RowKit

set_option maxHeartbeats 4000000 in
set_option maxRecDepth 100000 in
theorem r9twice_any (w : World) (t0 t1 t2 u0 u1 u2 : Int) : Calls Try.prog 35 #[.agg #[.int .i64 t0, .int .i64 t1, .int .i64 t2], .agg #[.int .i64 u0, .int .i64 u1, .int .i64 u2]] w (DecTold w (twice (t0, t1, t2) (u0, u1, u2))) := by
  obtain ⟨w1, hw1⟩ : ∃ w1, w.alloc (.cells #[.int .i64 t0, .int .i64 t1, .int .i64 t2] 41) = w1 := ⟨_, rfl⟩
  have b1 : Below w.heap.size w w1 := by rw [← hw1]; exact (Below.refl _ w).alloc (Nat.le_refl _) _
  obtain ⟨p, hp⟩ : ∃ p, w.heap.size = p := ⟨_, rfl⟩
  have p1 : w1.heap[p]? = some (.cells #[.int .i64 t0, .int .i64 t1, .int .i64 t2] 41 (0, 0)) := by rw [← hw1, ← hp]; exact heap_alloc_new w _
  obtain ⟨w2, hw2⟩ : ∃ w2, w1.alloc (.cells #[.int .i64 u0, .int .i64 u1, .int .i64 u2] 41) = w2 := ⟨_, rfl⟩
  have b2 : Below w1.heap.size w1 w2 := by rw [← hw2]; exact (Below.refl _ w1).alloc (Nat.le_refl _) _
  obtain ⟨q, hq⟩ : ∃ q, w1.heap.size = q := ⟨_, rfl⟩
  have q2 : w2.heap[q]? = some (.cells #[.int .i64 u0, .int .i64 u1, .int .i64 u2] 41 (0, 0)) := by rw [← hw2, ← hq]; exact heap_alloc_new w1 _
  have p2 := (b2.block p (heap_lt p1)).trans p1
  have B := Lib.hid (b1.trans (b2.mono b1.size))
  have HC := Lib.hid (fun W (hb : Below w2.heap.size w2 W) => show (W.cell? ⟨p, 0, none⟩ = some (.int .i64 t0) ∧ W.cell? ⟨p, 1, none⟩ = some (.int .i64 t1) ∧ W.cell? ⟨p, 2, none⟩ = some (.int .i64 t2)) ∧ W.cell? ⟨q, 0, none⟩ = some (.int .i64 u0) ∧ W.cell? ⟨q, 1, none⟩ = some (.int .i64 u1) ∧ W.cell? ⟨q, 2, none⟩ = some (.int .i64 u2) from by
    have p3 := (hb.block p (heap_lt p2)).trans p2
    have q3 := (hb.block q (heap_lt q2)).trans q2
    exact ⟨⟨by rw [cell_in p3]; rfl, by rw [cell_in p3]; rfl, by rw [cell_in p3]; rfl⟩, by rw [cell_in q3]; rfl, by rw [cell_in q3]; rfl, by rw [cell_in q3]; rfl⟩)
  obtain ⟨⟨c0, c1, c2⟩, d0, d1, d2⟩ := HC.out w2 (Below.refl _ _)
  have K0 := Lib.hid (r9edge_any w2 u0 u1 u2 t0 t1)
  have K1 := Lib.hid (fun W => r9edge_any W u0 u1 u2 t1 t2)
  have K2 := Lib.hid (fun W => r9edge_any W u0 u1 u2 t2 t0)
  obtain ⟨e0, h0⟩ : ∃ e0, decide (hasE (u0, u1, u2) t0 t1) = e0 := ⟨_, rfl⟩
  obtain ⟨e1, h1⟩ : ∃ e1, decide (hasE (u0, u1, u2) t1 t2) = e1 := ⟨_, rfl⟩
  obtain ⟨e2, h2⟩ : ∃ e2, decide (hasE (u0, u1, u2) t2 t0) = e2 := ⟨_, rfl⟩
  have HD := Lib.hid (show (e0 || e1 || e2) = decide (twice (t0, t1, t2) (u0, u1, u2)) from bool_dec (by
    rw [← h0, ← h1, ← h2]
    simp only [Bool.or_eq_true, decide_eq_true_eq]
    unfold twice
    exact or_assoc))
  unfold DecTold at K0 K1 K2
  rw [h0] at K0
  simp only [h1] at K1
  simp only [h2] at K2
  clear h0 h1 h2 b1 b2 p1 p2 q2
  go_enter Try.func35, Try.ntmps35
  go_wp2_with fail
  refine K0.out.mono ?_
  rintro e w3 ⟨rfl, b3⟩
  have B3 := Lib.hid b3
  clear b3
  obtain ⟨⟨c0, c1, c2⟩, d0, d1, d2⟩ := HC.out w3 B3.out
  cases e0
  case true =>
    go_wp2
    go_ret
    exact ⟨by rw [← HD.out]; rfl, B.out.trans (B3.out.mono B.out.size)⟩
  go_wp2_with fail
  refine (K1.out w3).mono ?_
  rintro e w4 ⟨rfl, b4⟩
  have B4 := Lib.hid (B3.out.trans (b4.mono B3.out.size))
  clear b4
  obtain ⟨⟨c0, c1, c2⟩, d0, d1, d2⟩ := HC.out w4 B4.out
  cases e1
  case true =>
    go_wp2
    go_ret
    exact ⟨by rw [← HD.out]; rfl, B.out.trans (B4.out.mono B.out.size)⟩
  go_wp2_with fail
  refine (K2.out w4).mono ?_
  rintro e w5 ⟨rfl, b5⟩
  have B5 := Lib.hid (B4.out.trans (b5.mono B4.out.size))
  clear b5
  go_wp2
  go_ret
  exact ⟨by rw [← HD.out]; rfl, B.out.trans (B5.out.mono B.out.size)⟩
end Go.Proofs.Ytelbmjbjpgcdaaa
