/- The document's example of layer 1 comes out as the chapter says: awake answers true, and turns nothing that was there. -/
import Derived.Test.YtehjipbnjffngaaTell
namespace Go.Proofs.Ytehjipbnjffngaa
open Go.RowKit

def ex3 : List Bool := [true, false, true]
def ex : List Bool := [true, false, true, false, true]
theorem pack_ex : pack ex = [168] := by decide

theorem bytes_ex (w : World) (B g : Nat) (v : Value) (h : WIs w B g v ex) :
    Calls Try.prog 17 #[.pointer (some ⟨g, 0, none⟩)] w fun e w' => e = .returned (.slice (some ⟨w.heap.size, 0, none⟩) 1 1) ∧ w'.heap[w.heap.size]? = some (.cells #[.int .u8 168] 5 (0, 0)) ∧ Below w.heap.size w w' := by
  have := bytes_any w B g v ex h (by decide)
  rw [pack_ex] at this
  exact this
theorem nr_ex (w : World) (q : Nat) (h : w.heap[q]? = some (.cells #[.int .u8 168] 5 (0, 0))) :
    Calls Try.prog 19 #[.slice (some ⟨q, 0, none⟩) 1 1, .int .i64 5] w (Made w ex) := by
  have := nr_ok w (some ⟨q, 0, none⟩) 1 ex (by decide)
  rw [pack_ex] at this
  exact this ⟨rfl, fun _ => ⟨_, rfl, fun j u hj => by
    match j, hj with
    | 0, hj =>
      simp [u8s] at hj
      subst hj
      simp [Addr.add, cell_in h]⟩⟩
theorem get_ex (w : World) (r p : Nat) (h : RIs w r p ex 0) :
    Calls Try.prog 21 #[.pointer (some ⟨r, 0, none⟩), .int .i64 3] w fun e w' => e = .returned (.tuple #[.int .u64 5, .int .i64 0]) ∧ RIs w' r p ex 3 ∧ w.grownBy w' (some r) := get_ok w r p ex 0 3 h (by decide) (by decide)
theorem get_ex_end (w : World) (r p : Nat) (h : RIs w r p ex 3) :
    Calls Try.prog 21 #[.pointer (some ⟨r, 0, none⟩), .int .i64 3] w fun e w' => e = .returned (.tuple #[.int .u64 0, .int .i64 4]) ∧ Same w w w' := get_end w r p ex 3 3 h (by decide) (by decide)
theorem at_ex (w : World) (r p : Nat) (h : RIs w r p ex 3) : Calls Try.prog 23 #[.pointer (some ⟨r, 0, none⟩)] w fun e w' => e = .returned (.int .i64 3) ∧ w = w' := at_any w r p ex 3 h
theorem left_ex (w : World) (r p : Nat) (h : RIs w r p ex 3) : Calls Try.prog 24 #[.pointer (some ⟨r, 0, none⟩)] w fun e w' => e = .returned (.int .i64 2) ∧ Same w w w' := left_any w r p ex 3 h
theorem len_ex (w : World) (B g : Nat) (v : Value) (h : WIs w B g v ex) : Calls Try.prog 15 #[.pointer (some ⟨g, 0, none⟩)] w fun e w' => e = .returned (.int .i64 5) ∧ w = w' := len_any w B g v ex h

set_option maxHeartbeats 2000000 in
set_option maxRecDepth 100000 in
theorem awake_true (w : World) : Calls Try.prog 11 #[] w fun e w' => e = .returned (.bool true) ∧ Below w.heap.size w w' := by
  have w0 := WIs.new w w.heap.size
  have b0 : Below w.heap.size w (w.alloc (.cells #[.slice none 0 0, .int .i64 0] 26)) := (Below.refl _ _).alloc (Nat.le_refl _) _
  have W0 := Lib.hid w0
  have B0 := Lib.hid b0
  clear w0 b0
  go_enter Try.func11, Try.ntmps11
  go_wp2_with fail
  refine (put_ok _ w.heap.size w.heap.size _ [] 5 3 (by omega) (by omega) W0.out B0.out.size (by simp)).mono ?_
  rintro e w1 ⟨rfl, v1, h1, k1, m1⟩
  have b1 := B0.out.trans (k1.below (B := w.heap.size) (Nat.le_refl _) (by simp) (by simp [Value.ownBlock]))
  have W1 := Lib.hid h1
  have B1 := Lib.hid b1
  clear h1 k1 m1 b1
  go_wp2_with fail
  refine (put_ok w1 w.heap.size w.heap.size v1 _ 1 2 (by omega) (by omega) W1.out B1.out.size (by simp [bitsOf])).mono ?_
  rintro e w2 ⟨rfl, v2, h2, k2, m2⟩
  have b2 := B1.out.trans (k2.below (B := w.heap.size) (Nat.le_refl _) B1.out.size W1.out.own_ge)
  have h2' : WIs w2 w.heap.size w.heap.size v2 ex := h2
  have W2 := Lib.hid h2'
  have B2 := Lib.hid b2
  clear h2 h2' k2 m2 b2
  go_wp2_with fail
  refine (bytes_ex w2 w.heap.size w.heap.size v2 W2.out).mono ?_
  rintro e w3 ⟨rfl, r3, b3⟩
  have W3 := Lib.hid (W2.out.below b3)
  have B3 := Lib.hid (B2.out.trans (b3.mono B2.out.size))
  have R3 := Lib.hid r3
  clear b3 r3
  go_wp2_with fail
  refine (nr_ex w3 w2.heap.size R3.out).mono ?_
  rintro e w4 ⟨r, p, rfl, h4, b4, hr, hp⟩
  have W4 := Lib.hid (W3.out.below b4)
  have B4 := Lib.hid (B3.out.trans (b4.mono B3.out.size))
  have R4 := Lib.hid ((b4.block _ (heap_lt R3.out)).trans R3.out)
  have Q4 := Lib.hid h4
  have N1 := Lib.hid (show w.heap.size ≠ r by have := W3.out.lt; omega)
  have N2 := Lib.hid (show v2.ownBlock ≠ some r from fun e => by have := (W3.out.row.lt r e).2; omega)
  have N3 := Lib.hid (show w2.heap.size ≠ r by have := heap_lt R3.out; omega)
  have N4 := Lib.hid (show w.heap.size ≤ r by have := W3.out.lt; omega)
  clear b4 h4 hr hp
  go_wp2_with fail
  refine (get_ex w4 r p Q4.out).mono ?_
  rintro e w5 ⟨rfl, h5, b5⟩
  have W5 := Lib.hid (W4.out.grown b5 N1.out N2.out)
  have B5 := Lib.hid (B4.out.trans (grown_below b5 B4.out.size N4.out))
  have R5 := Lib.hid ((b5.block _ (heap_lt R4.out) (fun e => N3.out (by injection e))).trans R4.out)
  have Q5 := Lib.hid h5
  clear b5 h5
  go_wp2_with fail
  refine (get_ex_end w5 r p Q5.out).mono ?_
  rintro e w6 ⟨rfl, h6⟩
  have W6 := Lib.hid (W5.out.same h6)
  have B6 := Lib.hid (B5.out.trans h6.below)
  have c6 : w6.cell? ⟨w2.heap.size, 0, none⟩ = some (.int .u8 168) := by
    rw [same_cell h6, cell_in R5.out]; rfl
  have Q6 := Lib.hid (Q5.out.same h6)
  clear h6
  go_wp2_with fail
  refine (len_ex w6 w.heap.size w.heap.size v2 W6.out).mono ?_
  rintro e w7 ⟨rfl, rfl⟩
  go_wp2_with fail
  refine (at_ex w6 r p Q6.out).mono ?_
  rintro e w7 ⟨rfl, rfl⟩
  go_wp2_with fail
  refine (left_ex w6 r p Q6.out).mono ?_
  rintro e w7 ⟨rfl, h7⟩
  have B7 := Lib.hid (B6.out.trans h7.below)
  clear h7
  go_wp2
  go_ret
  exact ⟨rfl, B7.out⟩
end Go.Proofs.Ytehjipbnjffngaa
