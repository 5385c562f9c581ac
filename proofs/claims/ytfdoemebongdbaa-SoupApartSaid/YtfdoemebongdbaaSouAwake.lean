/- Layer 8: the law's own functions: the tetrahedron; what the document tells of it. -/
import Derived.Test.YtfdoemebongdbaaSouPart
import Derived.Test.YtfdoemebongdbaaSouEdge
import Derived.Test.YtfdoemebongdbaaSouSame
namespace Go.Proofs.Ytfdoemebongdbaa
open Go.RowKit

def tet : List Tr := [(0, 1, 2), (0, 3, 1), (1, 3, 2), (0, 2, 3)]
def TetTold (w : World) (e : Ending) (w' : World) : Prop := ∃ q, e = .returned (.agg #[.int .i64 4, .slice (some ⟨q, 0, none⟩) 4 4]) ∧ T3 w' (some ⟨q, 0, none⟩) 4 tet ∧ Below w.heap.size w w'

set_option maxHeartbeats 4000000 in
set_option maxRecDepth 100000 in
theorem tetra_any (w : World) : Calls Try.prog 32 #[] w (TetTold w) := by
  go_enter Try.func32, Try.ntmps32
  go_wp2_with fail
  have R1 := Bx.made w 4 (some ⟨w.heap.size + 1, 0, none⟩) 4 4
  have R2 := R1.below ((Below.refl _ _).alloc (Nat.le_refl _) (.cells (ints (flat3 tet)).toArray 51))
  have Q : Row3 ((w.alloc (.cells #[.int .i64 4, .slice (some ⟨w.heap.size + 1, 0, none⟩) 4 4] 24)).alloc (.cells (ints (flat3 tet)).toArray 51)) (w.heap.size + 1) tet := by
    have := heap_alloc_new (w.alloc (.cells #[.int .i64 4, .slice (some ⟨w.heap.size + 1, 0, none⟩) 4 4] 24)) (.cells (ints (flat3 tet)).toArray 51)
    rw [World.size_alloc] at this
    exact this
  refine bodyPost_ret (results_cell_row rfl _ _ w.heap.size 24 #[.int .i64 4, .slice (some ⟨w.heap.size + 1, 0, none⟩) 4 4] (0, 0) _ rfl R2 Try.underlying24 rfl (by kernel_rfl)) rfl ?_
  exact ⟨_, rfl, Q.t3, up1 (up1 (Below.refl _ w) _) _⟩

theorem fit_tet : Fit 4 tet := by decide
theorem verts_tet : vertsUp tet [2] 4 = [1, 2, 3] := by decide
theorem part_tet : partL tet [1, 2, 3] [2] = [(0, 2, 1)] := by decide
theorem pick_tet : [4].map (pickT tet) = [(3, 1, 0)] := by decide
theorem edges_tet {es : List Ed} (h : IsEdges tet es) : es.length = 6 := by
  have : es = [(0, 1), (0, 2), (0, 3), (1, 2), (1, 3), (2, 3)] := by
    refine asc_unique h.1 (by decide) fun e => ?_
    rw [h.2]
    have hs : allSides tet = [(0, 1), (1, 2), (0, 2), (0, 3), (1, 3), (0, 1), (1, 3), (2, 3), (1, 2), (0, 2), (2, 3), (0, 3)] := by decide
    rw [hs]
    simp only [List.mem_cons, List.not_mem_nil, or_false]
    constructor
    · rintro (h | h | h | h | h | h | h | h | h | h | h | h) <;> simp [h]
    · rintro (h | h | h | h | h | h) <;> simp [h]
  rw [this]; rfl

set_option maxHeartbeats 8000000 in
set_option maxRecDepth 100000 in
theorem awake8_true (w : World) : Calls Try.prog 11 #[] w fun e w' => e = .returned (.bool true) ∧ Below w.heap.size w w' := by
  have KT := Lib.hid tetra_any
  have KP := Lib.hid (fun (W : World) q p (h : T3 W (some ⟨q, 0, none⟩) 4 tet) (hr : Reads W (some ⟨p, 0, none⟩) 1 (ints [4])) => spick_ok W 4 (some ⟨q, 0, none⟩) (some ⟨p, 0, none⟩) 4 4 1 1 tet [4] h hr (by omega) (by omega) fit_tet (by decide))
  have KQ := Lib.hid (fun (W : World) q p (h : T3 W (some ⟨q, 0, none⟩) 4 tet) (hr : Reads W (some ⟨p, 0, none⟩) 1 (ints [2])) => spart_ok W 4 (some ⟨q, 0, none⟩) (some ⟨p, 0, none⟩) 4 4 1 1 tet [2] h hr (by omega) (by omega) fit_tet (by decide) (by decide))
  have KE := Lib.hid (fun (W : World) q (h : T3 W (some ⟨q, 0, none⟩) 4 tet) => sedges_any W 4 (some ⟨q, 0, none⟩) 4 4 tet h (by omega) fit_tet)
  rw [pick_tet] at KP
  rw [verts_tet, part_tet] at KQ
  go_enter Try.func11, Try.ntmps11
  go_wp2_with fail
  refine (KT.out _).mono ?_
  rintro e w1 ⟨q1, rfl, t1, b1⟩
  have T1 := Lib.hid (t1.below ((Below.refl _ w1).alloc (Nat.le_refl _) (.cells #[.int .i64 4] 3)))
  have R1 := Lib.hid (Reads.of_block (xs := ints [4]) (heap_alloc_new w1 (.cells #[.int .i64 4] 3)))
  have B1 := Lib.hid (up1 b1 (.cells #[.int .i64 4] 3))
  clear t1 b1
  go_wp2_with fail
  refine (KP.out _ q1 _ T1.out R1.out).mono ?_
  rintro e w2 ⟨v2, rfl, A2, c2, rfl, o2, b2⟩
  have t2 : T3 w2 A2 1 [(3, 1, 0)] := T3.of_own o2
  have bs := (Below.refl _ w2).alloc (Nat.le_refl _) (.cells #[.int .i64 4, .slice A2 1 c2] 24)
  have B2 := Lib.hid (up2 (up2 B1.out b2) bs)
  have X2 := Lib.hid (Bx.made w2 4 A2 1 c2)
  have T2 := Lib.hid (t2.below bs)
  clear o2 b2 t2 bs
  go_wp2_with fail
  obtain ⟨w3, hw3⟩ : ∃ w3, w2.alloc (.cells #[.int .i64 4, .slice A2 1 c2] 24) = w3 := ⟨_, rfl⟩
  obtain ⟨sb, hsb⟩ : ∃ sb, w2.heap.size = sb := ⟨_, rfl⟩
  rw [hw3] at B2 X2 T2
  rw [hsb] at X2
  simp only [hw3, hsb]
  clear hw3 hsb
  refine (KT.out _).mono ?_
  rintro e w4 ⟨q4, rfl, t4, b4⟩
  have b5 := (Below.refl _ w4).alloc (Nat.le_refl _) (.cells #[.int .i64 2] 3)
  have T5 := Lib.hid (t4.below b5)
  have R5 := Lib.hid (Reads.of_block (xs := ints [2]) (heap_alloc_new w4 (.cells #[.int .i64 2] 3)))
  have B5 := Lib.hid (up2 b4 b5)
  clear t4 b4 b5
  go_wp2_with fail
  refine (KQ.out _ q4 _ T5.out R5.out).mono ?_
  rintro e w6 ⟨v6, A7, c7, rfl, ⟨A6, c6, rfl, o6, b6⟩, o7⟩
  have t6 : T3 w6 A6 1 [(0, 2, 1)] := T3.of_own o6
  obtain ⟨A7', c7', hv7, hc7, r7⟩ := Reads.of_own o7
  injection hv7 with hA7 _ hc7'
  subst hA7 hc7'
  have b7 := (Below.refl _ w6).alloc (Nat.le_refl _) (.cells #[.int .i64 3, .slice A6 1 c6] 24)
  have C7 := up2 (up2 B5.out b6) b7
  have B7 := Lib.hid (up2 B2.out C7)
  have X7 := Lib.hid (Bx.made w6 3 A6 1 c6)
  have T7 := Lib.hid (t6.below b7)
  have R7 := Lib.hid (r7.below b7)
  have X3 := Lib.hid (X2.out.below C7)
  have T3' := Lib.hid (T2.out.below C7)
  clear o6 b6 t6 o7 r7 hc7 b7 C7
  obtain ⟨p2, f2, rfl, h2⟩ := T3'.out.2 (by omega)
  obtain ⟨p6, f6, rfl, h6⟩ := T7.out.2 (by omega)
  obtain ⟨a0, a1, a2⟩ := h2 0 (by omega)
  obtain ⟨g0, g1, g2⟩ := h6 0 (by omega)
  simp only [Nat.zero_mul, Nat.add_zero, List.getD_cons_zero] at a0 a1 a2 g0 g1 g2
  have x3 := X3.out.c1
  have x7 := X7.out.c1
  have q1 := eqIn3 (w6.alloc (.cells #[.int .i64 3, .slice (some ⟨p6, f6, none⟩) 1 c6] 24)) 3 1 0 3 1 0
  have q2 := eqIn3 (w6.alloc (.cells #[.int .i64 3, .slice (some ⟨p6, f6, none⟩) 1 c6] 24)) 0 2 1 0 2 1
  have gd := fun op u v xs ys => run_eqGuard_agg (P := Try.prog) (w6.alloc (.cells #[.int .i64 3, .slice (some ⟨p6, f6, none⟩) 1 c6] 24)) op 51 u v xs ys Try.eqGuardType51
  have b8 := (Below.refl _ (w6.alloc (.cells #[.int .i64 3, .slice (some ⟨p6, f6, none⟩) 1 c6] 24))).alloc (Nat.le_refl _) (.cells #[.int .i64 1, .int .i64 2, .int .i64 3] 3)
  have R8 : Reads ((w6.alloc (.cells #[.int .i64 3, .slice (some ⟨p6, f6, none⟩) 1 c6] 24)).alloc (.cells #[.int .i64 1, .int .i64 2, .int .i64 3] 3)) (some ⟨w6.heap.size + 1, 0, none⟩) 3 (ints [1, 2, 3]) := by
    have := Reads.of_block (xs := ints [1, 2, 3]) (heap_alloc_new (w6.alloc (.cells #[.int .i64 3, .slice (some ⟨p6, f6, none⟩) 1 c6] 24)) (.cells #[.int .i64 1, .int .i64 2, .int .i64 3] 3))
    rw [World.size_alloc] at this
    exact this
  have KI := Lib.hid (rints_any _ A7 (some ⟨w6.heap.size + 1, 0, none⟩) 3 c7 3 3 [1, 2, 3] [1, 2, 3] (R7.out.below b8) R8 (by omega))
  clear R8
  have B8 := Lib.hid (up2 B7.out b8)
  clear h2 h6 b8
  go_wp2_with fail
  refine KI.out.mono ?_
  rintro e w9 ⟨rfl, b9⟩
  have B9 := Lib.hid (B8.out.trans b9.below)
  clear b9
  go_wp2_with fail
  refine (KT.out _).mono ?_
  rintro e w10 ⟨q10, rfl, t10, b10⟩
  have T10 := Lib.hid t10
  have B10 := Lib.hid (up2 B9.out b10)
  clear t10 b10
  go_wp2_with fail
  refine (KE.out _ _ T10.out).mono ?_
  rintro e w11 ⟨es, A11, c11, rfl, hes, o11, b11, _⟩
  have hl := edges_tet hes
  simp only [hl]
  have B11 := Lib.hid (up2 B10.out b11)
  clear hes o11 b11 hl
  go_wp2_with fail
  go_ret
  exact ⟨rfl, B11.out⟩
end Go.Proofs.Ytfdoemebongdbaa
