/- A row of a table, read (layer 7): readRow. -/
import Derived.Test.YtngambkbpdjddaaBoxTake
import Derived.Handy
namespace Go.Proofs.Ytngambkbpdjddaa
open Go.RowKit

theorem i64_or_nat (a b : Nat) (ha : a < 9223372036854775808) (hb : b < 9223372036854775808) : bits .or .i64 (a : Int) (b : Int) = ((a ||| b : Nat) : Int) := by
  have hx : a ||| b < 2 ^ 63 := Nat.or_lt_two_pow (by omega) (by omega)
  have o : ∀ x : Nat, x < 9223372036854775808 → (BitVec.ofInt 64 (x : Int)).toNat = x := fun x hx => by
    rw [BitVec.ofInt_natCast, BitVec.toNat_ofNat]; exact Nat.mod_eq_of_lt (by omega)
  show IntKind.i64.wrap ((BitVec.ofInt 64 (a : Int) ||| BitVec.ofInt 64 (b : Int)).toNat : Int) = _
  rw [BitVec.toNat_or, o a ha, o b hb, IntKind.wrap_i64]
  omega
theorem add_or (a b k : Nat) (h : b < 2 ^ k) : a * 2 ^ k ||| b = a * 2 ^ k + b := by
  rw [Nat.mul_comm]
  exact (Nat.two_pow_add_eq_or_of_lt h a).symm
theorem four_val (d0 d1 d2 d3 : Nat) : val [d0, d1, d2, d3] = d0 * 16777216 + d1 * 65536 + d2 * 256 + d3 := by
  simp [val]; omega
theorem seg_four {l : List Nat} (p : Nat) (h : p + 4 ≤ l.length) : seg l p 4 = [l.getD p 0, l.getD (p + 1) 0, l.getD (p + 2) 0, l.getD (p + 3) 0] := by
  have := four_list (l := l.drop p) (by rw [List.length_drop]; omega)
  rw [show seg l p 4 = seg (l.drop p) 0 4 by simp [seg], this, getD_drop, getD_drop, getD_drop, getD_drop, Nat.add_zero]

theorem cell_far3 (w : World) {b q : Nat} (off : Nat) (h : b ≠ q) (u0 u1 u2 : Value) : (((w.setCell ⟨q, 0, none⟩ u0).setCell ⟨q, 1, none⟩ u1).setCell ⟨q, 2, none⟩ u2).cell? ⟨b, off, none⟩ = w.cell? ⟨b, off, none⟩ := by
  refine World.cell?_of_block ?_
  rw [Below.heap_setCell _ ⟨q, 2, none⟩ u2 b h, Below.heap_setCell _ ⟨q, 1, none⟩ u1 b h, Below.heap_setCell _ ⟨q, 0, none⟩ u0 b h]
theorem Try.infoRow : (Try.prog.info? 82).map (fun i => (i.zero, i.size, i.bytes)) = some (some (.agg #[.int .u8 0, .int .i64 0, .int .u32 0]), 3, 24) := by kernel_rfl

set_option maxHeartbeats 1600000 in
set_option maxRecDepth 100000 in
theorem readRow_by (w : World) (b off n c : Nat) (A5 : Option Addr) (c5 : Nat) (K D0 D1 D2 D3 X1 X2 X3 S : Int) (_ : 0 ≤ D0 ∧ D0 < 256) (_ : 0 ≤ D1 ∧ D1 < 256) (_ : 0 ≤ D2 ∧ D2 < 256) (_ : 0 ≤ D3 ∧ D3 < 256) (hk : w.cell? ⟨b, off, none⟩ = some (.int .u8 K)) (h0 : w.cell? ⟨b, off + 1, none⟩ = some (.int .u8 D0)) (h1 : w.cell? ⟨b, off + 2, none⟩ = some (.int .u8 D1)) (h2 : w.cell? ⟨b, off + 3, none⟩ = some (.int .u8 D2)) (h3 : w.cell? ⟨b, off + 4, none⟩ = some (.int .u8 D3))
    (e1 : bits .or .i64 (D0 * 16777216) (D1 * 65536) = X1) (e2 : bits .or .i64 X1 (D2 * 256) = X2) (e3 : bits .or .i64 X2 D3 = X3) (_ : 9 ≤ n)
    (hs : ∀ W, (Instr.slice 25 (.slice (some ⟨b, off, none⟩) n c) (some (.int .i64 5)) none none).run Try.prog W = .ok (.slice A5 (n - 5) c5) W)
    (KS : Hid (∀ w', Below w.heap.size w w' → Calls Try.prog 55 #[.slice A5 (n - 5) c5] w' fun e w'' => e = .returned (.int .u32 S) ∧ Reading w' w'')) :
    Calls Try.prog 47 #[.slice (some ⟨b, off, none⟩) n c] w fun e w' => e = .returned (.agg #[.int .u8 K, .int .i64 X3, .int .u32 S]) ∧ Below w.heap.size w w' := by
  have s0 : 0 < n := by omega
  have s1 : 1 < n := by omega
  have s2 : 2 < n := by omega
  have s3 : 3 < n := by omega
  have s4 : 4 < n := by omega
  have t0 : (0 : Int) < n := by omega
  have t1 : (1 : Int) < n := by omega
  have t2 : (2 : Int) < n := by omega
  have t3 : (3 : Int) < n := by omega
  have t4 : (4 : Int) < n := by omega
  have hb := World.block_lt_of_cell? _ _ hk
  have B0 := mk_below w (.cells #[.int .u8 0, .int .i64 0, .int .u32 0] 82)
  have X0 := heap_alloc_last w (.cells #[.int .u8 0, .int .i64 0, .int .u32 0] 82)
  have gk := (B0.cell (p := ⟨b, off, none⟩) hb).trans hk
  have g0 := (B0.cell (p := ⟨b, off + 1, none⟩) hb).trans h0
  have g1 := (B0.cell (p := ⟨b, off + 2, none⟩) hb).trans h1
  have g2 := (B0.cell (p := ⟨b, off + 3, none⟩) hb).trans h2
  have g3 := (B0.cell (p := ⟨b, off + 4, none⟩) hb).trans h3
  generalize hx : n - 5 = n5 at *
  clear hx hk h0 h1 h2 h3
  go_enter Try.func47, Try.ntmps47
  go_wp2_with fail
  go_quiet (fail)
  go_wp2_with fail
  have B1 := B0.trans (Reading.below (B := w.heap.size) (w' := (w.alloc (.cells #[.int .u8 0, .int .i64 0, .int .u32 0] 82)).drewN nq) ⟨nq, rfl⟩)
  have X1' : ((w.alloc (.cells #[.int .u8 0, .int .i64 0, .int .u32 0] 82)).drewN nq).heap[w.heap.size]? = some (.cells #[.int .u8 0, .int .i64 0, .int .u32 0] 82 (0, 0)) := X0
  have gk1 : ((w.alloc (.cells #[.int .u8 0, .int .i64 0, .int .u32 0] 82)).drewN nq).cell? ⟨b, off, none⟩ = some (.int .u8 K) := gk
  generalize (w.alloc (.cells #[.int .u8 0, .int .i64 0, .int .u32 0] 82)).drewN nq = w1 at *
  clear g0 g1 g2 g3 gk X0 B0 e1 e2 e3
  have dk : w1.drew.cell? ⟨b, off, none⟩ = some (.int .u8 K) := gk1
  have c1d := upd B1
  have hbq : b ≠ w.heap.size := by omega
  have HX := Lib.hid X1'
  clear X1'
  go_region_held3 (fun w' => w'.cell? ⟨b, off, none⟩ = some (.int .u8 K))
    (first | exact dk2 | exact dk | exact (cell_far3 w2 off hbq _ _ _).trans dk2 | fail)
    (first
      | (go_at_call 55; refine (KS.out _ c1d).mono ?_; rintro e w2 ⟨rfl, r2⟩; have b2 := Reading.below (B := w1.drew.heap.size) r2; have dk2 := (b2.cell (World.block_lt_of_cell? _ _ dk)).trans dk; have hx2 := (b2.block w.heap.size (heap_lt HX.out)).trans HX.out; have y0 : w2.cell? ⟨w.heap.size, 0, none⟩ = some (.int .u8 0) := (by rw [cell_in hx2]; rfl); have y1 : w2.cell? ⟨w.heap.size, 1, none⟩ = some (.int .i64 0) := (by rw [cell_in hx2]; rfl); have y2 : w2.cell? ⟨w.heap.size, 2, none⟩ = some (.int .u32 0) := (by rw [cell_in hx2]; rfl); have z0 := frozen_in hx2 0; have z1 := frozen_in hx2 1; have z2 := frozen_in hx2 2; have HX2 := Lib.hid hx2; have B2 := Lib.hid (up2 c1d b2); clear hx2 b2 r2)
      | fail)
  have h9 := heap_set (heap_set (heap_set HX2.out 0 (.int .u8 K)) 1 (.int .i64 X3)) 2 (.int .u32 S)
  have j0 : (((w2.setCell ⟨w.heap.size, 0, none⟩ (.int .u8 K)).setCell ⟨w.heap.size, 1, none⟩ (.int .i64 X3)).setCell ⟨w.heap.size, 2, none⟩ (.int .u32 S)).cell? ⟨w.heap.size, 0, none⟩ = some (.int .u8 K) := by rw [cell_in h9]; rfl
  have j1 : (((w2.setCell ⟨w.heap.size, 0, none⟩ (.int .u8 K)).setCell ⟨w.heap.size, 1, none⟩ (.int .i64 X3)).setCell ⟨w.heap.size, 2, none⟩ (.int .u32 S)).cell? ⟨w.heap.size, 1, none⟩ = some (.int .i64 X3) := by rw [cell_in h9]; rfl
  have j2 : (((w2.setCell ⟨w.heap.size, 0, none⟩ (.int .u8 K)).setCell ⟨w.heap.size, 1, none⟩ (.int .i64 X3)).setCell ⟨w.heap.size, 2, none⟩ (.int .u32 S)).cell? ⟨w.heap.size, 2, none⟩ = some (.int .u32 S) := by rw [cell_in h9]; rfl
  have B9 := ((B2.out.setCell (p := ⟨w.heap.size, 0, none⟩) (Nat.le_refl _) (.int .u8 K)).setCell (p := ⟨w.heap.size, 1, none⟩) (Nat.le_refl _) (.int .i64 X3)).setCell (p := ⟨w.heap.size, 2, none⟩) (Nat.le_refl _) (.int .u32 S)
  generalize ((w2.setCell ⟨w.heap.size, 0, none⟩ (.int .u8 K)).setCell ⟨w.heap.size, 1, none⟩ (.int .i64 X3)).setCell ⟨w.heap.size, 2, none⟩ (.int .u32 S) = W9 at *
  go_wp2_with fail
  refine bodyPost_ret (v := .agg #[.int .u8 K, .int .i64 X3, .int .u32 S]) (by simp [results, Try.results47, go_sem, j0, j1, j2]; try rfl) rfl ⟨rfl, B9⟩

/-- What a row tells: the kind, the length, the sum. -/
def rowV (t : List Nat) : Value := .agg #[.int .u8 ((t.getD 0 0 : Nat) : Int), .int .i64 ((val (seg t 1 4) : Nat) : Int), .int .u32 ((leNum (seg t 5 4) : Nat) : Int)]
theorem readRow_any (w : World) (A : Option Addr) (n c : Nat) (t : List Nat) (h : Reads w A n (bts t)) (hd : Dig t) (h9 : 9 ≤ n) (hc : n ≤ c) :
    Calls Try.prog 47 #[.slice A n c] w fun e w' => e = .returned (rowV t) ∧ Below w.heap.size w w' := by
  have hs := fun W => run_tail A n c 5 (n - 5) 5 rfl (by omega) W
  have KS := Lib.hid (fun w' (b : Below w.heap.size w w') => sumAt_any w' (cutA A c 5) (n - 5) (c - 5) (seg t 5 (n - 5)) ((h.cut hc 5 (n - 5) (by omega)).below b) (dig_seg hd _ _) (by omega))
  obtain ⟨b, off, rfl, hcell⟩ := h.cellB (by omega)
  have hl := h.lenB
  have d0 := dig_at hd 1
  have d1 := dig_at hd 2
  have d2 := dig_at hd 3
  have d3 := dig_at hd 4
  have k0 := hcell 1 (by omega)
  have k1 := hcell 2 (by omega)
  have k2 := hcell 3 (by omega)
  have k3 := hcell 4 (by omega)
  rw [seg_sub _ _ _ _ _ (by omega), Nat.add_zero] at KS
  unfold rowV
  rw [show val (seg t 1 4) = t.getD 1 0 * 16777216 + t.getD 2 0 * 65536 + t.getD 3 0 * 256 + t.getD 4 0 by rw [seg_four 1 (by omega), four_val]]
  generalize t.getD 1 0 = x0 at *
  generalize t.getD 2 0 = x1 at *
  generalize t.getD 3 0 = x2 at *
  generalize t.getD 4 0 = x3 at *
  refine readRow_by w b off n c _ _ _ x0 x1 x2 x3 ((x0 * 16777216 + x1 * 65536 : Nat) : Int) ((x0 * 16777216 + x1 * 65536 + x2 * 256 : Nat) : Int) _ _ (by omega) (by omega) (by omega) (by omega) (hcell 0 (by omega)) k0 k1 k2 k3 ?_ ?_ ?_ h9 hs KS
  · rw [show (x0 : Int) * 16777216 = ((x0 * 16777216 : Nat) : Int) by omega, show (x1 : Int) * 65536 = ((x1 * 65536 : Nat) : Int) by omega, i64_or_nat _ _ (by omega) (by omega)]
    exact congrArg _ (add_or x0 (x1 * 65536) 24 (by omega))
  · rw [show (x2 : Int) * 256 = ((x2 * 256 : Nat) : Int) by omega, i64_or_nat _ _ (by omega) (by omega)]
    have := add_or (x0 * 256 + x1) (x2 * 256) 16 (by omega)
    rw [show (x0 * 256 + x1) * 2 ^ 16 = x0 * 16777216 + x1 * 65536 by omega] at this
    exact congrArg _ this
  · rw [i64_or_nat _ _ (by omega) (by omega)]
    have := add_or (x0 * 65536 + x1 * 256 + x2) x3 8 (by omega)
    rw [show (x0 * 65536 + x1 * 256 + x2) * 2 ^ 8 = x0 * 16777216 + x1 * 65536 + x2 * 256 by omega] at this
    exact congrArg _ this
end Go.Proofs.Ytngambkbpdjddaa
