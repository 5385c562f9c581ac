/- Layer 12: the document's example. -/
import Derived.Test.YtmflacmgffpjoaaBdDev
import Derived.Test.YtmflacmgffpjoaaBdTab
import Derived.Test.YtmflacmgffpjoaaBdLis
import Derived.Test.YtmflacmgffpjoaaGM
namespace Go.Proofs.Ytmflacmgffpjoaa
open Go.RowKit

def exB : List Tr := [(0, 1, 2)]
theorem surf_exB : Surf 3 exB := surf_by (N := 3) (by decide) (by decide) (by decide) (by decide) (by decide) (by decide) (by decide)
theorem bE_exB : bE exB = [(1, 2), (2, 0), (0, 1)] := by decide
theorem after_exB : afterV exB 0 = 2 := by decide
theorem loop_exB : IsLoop 3 exB 0 [0, 2, 1] := by
  refine ⟨⟨by decide, rfl, by decide, fun x hx => ?_, fun i hi => ?_⟩, by decide⟩
  · have hb : bV 3 exB = [0, 1, 2] := by decide
    rw [hb]
    simp only [List.mem_cons, List.not_mem_nil, or_false] at hx ⊢
    omega
  · have hi : i + 1 < 3 := hi
    rcases (show i = 0 ∨ i = 1 by omega) with rfl | rfl <;> decide
theorem loops_exB : IsLoops 3 exB [[0, 2, 1]] := by
  refine ⟨[0], List.pairwise_singleton _ _, fun v => ?_, rfl, fun i hi => ?_⟩
  · rw [List.mem_singleton]
    constructor
    · rintro rfl
      exact ⟨⟨_, loop_exB, fun x _ => Nat.zero_le x⟩, by decide⟩
    · rintro ⟨⟨L, hL, hl⟩, hv⟩
      have hv : v < 3 := hv
      have hm : v ∈ [0, 2, 1] := by
        simp only [List.mem_cons, List.not_mem_nil, or_false]
        omega
      have := hl 0 ((loop_exB.same hL hm 0).1 (by simp))
      omega
  · have hi : i < 1 := hi
    obtain rfl : i = 0 := by omega
    exact loop_exB
theorem rows_one {w : World} {q q2 : Nat} {xs : List Int} {n c : Nat} (h : RowI w q xs) (hl : xs.length = n) (h2 : w.heap[q2]? = some (.cells #[.slice (some ⟨q, 0, none⟩) n c] 40 (0, 0))) : RowsI w (some ⟨q2, 0, none⟩) 1 [xs] := by
  subst hl
  refine ⟨rfl, fun _ => ⟨_, rfl, fun i hi => ?_⟩⟩
  obtain rfl : i = 0 := by omega
  exact ⟨_, c, by rw [add_zero_addr, cell_in h2]; rfl, h.reads rfl⟩
set_option maxHeartbeats 8000000 in
set_option maxRecDepth 100000 in
theorem awake12_true (w : World) : Calls Try.prog 10 #[] w (BoolTold10 w true) := by
  obtain ⟨w1, hw1⟩ : ∃ w1, w.alloc (.cells (ints (flat3 exB)).toArray 53) = w1 := ⟨_, rfl⟩
  obtain ⟨q, hq⟩ : ∃ q, w.heap.size = q := ⟨_, rfl⟩
  have b1 : Below w.heap.size w w1 := by rw [← hw1]; exact (Below.refl _ w).alloc (Nat.le_refl _) _
  have r1 : Row3 w1 q exB := by rw [← hw1, ← hq]; exact heap_alloc_new w _
  have KT := Lib.hid (table12_any w1 3 (some ⟨q, 0, none⟩) 1 1 exB r1.t3)
  have HS := Lib.hid surf_exB
  have hw1' : w.alloc (.cells #[.int .i64 0, .int .i64 1, .int .i64 2] 53) = w1 := hw1
  have B1 := Lib.hid b1
  clear hw1 b1 r1
  go_enter Try.func10, Try.ntmps10
  go_wp2_with fail
  refine KT.out.mono ?_
  rintro e w3 ⟨b3, ⟨rfl, h⟩ | ⟨_, g, rfl, tab⟩⟩
  · rcases h with h | h
    · omega
    · exact absurd HS.out h
  have T3' := Lib.hid tab
  have B3 := Lib.hid (up2 B1.out b3)
  have KE := Lib.hid (bdedges_any w3 _ g 3 exB tab)
  rw [bE_exB] at KE
  clear b3 tab
  go_wp2_with fail
  refine KE.out.mono ?_
  rintro e w4 ⟨A4, n4, c4, rfl, e4, b4⟩
  obtain rfl : n4 = 3 := by have := e4.1; exact this.symm
  obtain ⟨bk, off, rfl, hat⟩ := e4.2 (by omega)
  obtain ⟨a0, a1⟩ := hat 0 (by omega)
  have HA := Lib.hid (fun W (h : Below w4.heap.size w4 W) => (show W.cell? ⟨bk, off, none⟩ = some (.int .i64 1) ∧ W.cell? ⟨bk, off + 1, none⟩ = some (.int .i64 2) from
    ⟨by have := (h.cell (World.block_lt_of_cell? _ _ a0)).trans a0; simpa using this, by have := (h.cell (World.block_lt_of_cell? _ _ a1)).trans a1; simpa using this⟩))
  have B4 := Lib.hid b4
  have KL := Lib.hid (bdloops_any w4 _ g 3 exB (T3'.out.below b4) _ loops_exB)
  clear e4 hat a0 a1 b4
  go_wp2_with fail
  refine KL.out.mono ?_
  rintro e w5 ⟨A5, n5, c5, rfl, r5, b5⟩
  obtain ⟨g0, g1⟩ := HA.out w5 b5
  have B5 := Lib.hid (up2 B4.out b5)
  have R5 := Lib.hid r5.rows
  have KA := Lib.hid (bdafter_any w5 _ g 3 exB (T3'.out.below B5.out) 0 (by omega))
  rw [after_exB] at KA
  have gd := fun W op u v xs ys => run_eqGuard_agg (P := Try.prog) W op 59 u v xs ys Try.eqGuardType59
  have ql := fun W => eql2 W 1 2 1 2
  clear b5 r5
  go_wp2_with fail
  refine KA.out.mono ?_
  rintro e w6 ⟨rfl, b6⟩
  obtain ⟨w7, hw7⟩ : ∃ w7, w6.alloc (.cells #[.int .i64 0, .int .i64 2, .int .i64 1] 3) = w7 := ⟨_, rfl⟩
  obtain ⟨q7, hq7⟩ : ∃ q7, w6.heap.size = q7 := ⟨_, rfl⟩
  obtain ⟨w8, hw8⟩ : ∃ w8, w7.alloc (.cells #[.slice (some ⟨q7, 0, none⟩) 3 3] 40) = w8 := ⟨_, rfl⟩
  obtain ⟨q8, hq8⟩ : ∃ q8, w7.heap.size = q8 := ⟨_, rfl⟩
  have b7 : Below w6.heap.size w6 w7 := by rw [← hw7]; exact (Below.refl _ w6).alloc (Nat.le_refl _) _
  have b8 : Below w7.heap.size w7 w8 := by rw [← hw8]; exact (Below.refl _ w7).alloc (Nat.le_refl _) _
  have r7 : RowI w7 q7 [0, 2, 1] := by rw [← hw7, ← hq7]; exact heap_alloc_new w6 _
  have r8 : w8.heap[q8]? = some (.cells #[.slice (some ⟨q7, 0, none⟩) 3 3] 40 (0, 0)) := by rw [← hw8, ← hq8]; exact heap_alloc_new w7 _
  have b68 := up2 b6 (up2 b7 b8)
  have hn5 : n5 = 1 := by have := R5.out.1; exact this.symm
  have KS := Lib.hid (r12lists_any w8 A5 (some ⟨q8, 0, none⟩) n5 c5 1 1 _ [[0, 2, 1]] (R5.out.below b68) (rows_one (r7.below b8) rfl r8) (by omega) (fun i hi => by
    have : i = 0 := by omega
    subst this
    decide))
  rw [show decide ([[0, 2, 1]].map natsI = [[0, 2, 1]]) = true by decide] at KS
  have B8 := Lib.hid (up2 B3.out (up2 B5.out b68))
  clear b6 b7 b8 r7 r8 b68 hn5
  go_wp2_with fail
  refine KS.out.mono ?_
  rintro e w9 ⟨rfl, b9⟩
  have B9 := Lib.hid (up2 B8.out b9)
  clear b9
  go_wp2_with fail
  go_ret
  exact ⟨rfl, B9.out⟩
end Go.Proofs.Ytmflacmgffpjoaa
