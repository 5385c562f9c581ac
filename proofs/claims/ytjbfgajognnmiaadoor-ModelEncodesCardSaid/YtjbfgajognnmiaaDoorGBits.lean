/- Texts laid one behind the other: Mem, Push, Plain, Pushed, Put, Copy, Reader, PlainB, Get, Tell, Gamma. -/
import Derived.Test.YtjbfgajognnmiaaDoorBase
import Derived.WalkKit
import Derived.Deep.AppendLies
import Derived.Deep.Draws
import Derived.BigRegion
import Derived.Maps.AppendAt
import Derived.Lib.Hide
import Derived.StillTailTactics
import Derived.RegionTactic
import Derived.ChangeAlike
import Derived.BigQuiet
import Derived.Deep.QuietTactic
import Derived.Laws.CopyOwn
import Derived.Deep.OwnRows
import Derived.Laws.MathBits

/- Words for memory and for bits: what a writer's and a reader's struct hold, and what a call may have turned. -/
namespace Go.Proofs.YtjbfgajognnmiaaDoor
open Go.RowKit

/-- The number that bits spell, the most significant one first. -/
def num (l : List Bool) : Nat := l.foldl (fun a b => 2 * a + b.toNat) 0
/-- The n lowest bits of v, the most significant one first. -/
def bitsOf (v n : Nat) : List Bool := (List.range n).map fun i => v.testBit (n - 1 - i)
/-- Byte k of a byte form. -/
def byteAt (bs : List Bool) (k : Nat) : Nat := num ((List.range 8).map fun j => bs.getD (8 * k + j) false)
/-- The byte form. -/
def pack (bs : List Bool) : List Nat := (List.range ((bs.length + 7) / 8)).map (byteAt bs)
def u8s (xs : List Nat) : List Value := xs.map fun (n : Nat) => Value.int .u8 (n : Int)

theorem length_pack (bs : List Bool) : (pack bs).length = (bs.length + 7) / 8 := by simp [pack]
theorem length_u8s (xs : List Nat) : (u8s xs).length = xs.length := by simp [u8s]

/-- Only block g, the block of v's row, and what is new, may have turned. -/
structure Kept (w w' : World) (g : Nat) (v : Value) : Prop where
  os : w'.os = w.os
  tape : w'.tape = w.tape
  output : w'.output = w.output
  size : w.heap.size ≤ w'.heap.size
  block : ∀ k, k < w.heap.size → k ≠ g → some k ≠ v.ownBlock → w'.heap[k]? = w.heap[k]?

/-- The row of v' is that of v, or a new one. -/
def Moved (w : World) (v v' : Value) : Prop := v'.ownBlock = v.ownBlock ∨ ∃ k, v'.ownBlock = some k ∧ w.heap.size ≤ k

/-- A writer's struct lies in block g and holds the bits bs; its bytes are the row of v, at B or above. -/
structure WIs (w : World) (B g : Nat) (v : Value) (bs : List Bool) : Prop where
  blk : w.heap[g]? = some (.cells #[v, .int .i64 (bs.length : Int)] 81 (0, 0))
  row : w.ownsRow B 5 1 v (pack bs).length (u8s (pack bs))

/-- A reader's struct lies in block r and holds the bits bs, of which k are read; its bytes lie in block p. -/
structure RIs (w : World) (r p : Nat) (bs : List Bool) (k : Nat) : Prop where
  blk : w.heap[r]? = some (.cells #[.slice (some ⟨p, 0, none⟩) (pack bs).length (pack bs).length, .int .i64 (bs.length : Int), .int .i64 (k : Int)] 112 (0, 0))
  row : w.heap[p]? = some (.cells (u8s (pack bs)).toArray 5 (0, 0))
  le : k ≤ bs.length
  size : bs.length ≤ 33554432


section
variable {w w' w'' : World} {B g : Nat} {v v' v'' : Value}
theorem Kept.refl (w : World) (g : Nat) (v : Value) : Kept w w g v := ⟨rfl, rfl, rfl, Nat.le_refl _, fun _ _ _ _ => rfl⟩
theorem Moved.refl (w : World) (v : Value) : Moved w v v := .inl rfl
theorem Kept.trans (h : Kept w w' g v) (m : Moved w v v') (k : Kept w' w'' g v') : Kept w w'' g v :=
  ⟨k.os.trans h.os, k.tape.trans h.tape, k.output.trans h.output, Nat.le_trans h.size k.size, fun i hi hg hv => by
    refine (k.block i (Nat.lt_of_lt_of_le hi h.size) hg ?_).trans (h.block i hi hg hv)
    rcases m with m | ⟨j, m, hj⟩
    · rw [m]; exact hv
    · rw [m]; intro e; injection e with e; omega⟩
theorem Moved.trans (h : Kept w w' g v) (m : Moved w v v') (k : Moved w' v' v'') : Moved w v v'' := by
  rcases k with k | ⟨j, k, hj⟩
  · rcases m with m | ⟨i, m, hi⟩
    · exact .inl (k.trans m)
    · exact .inr ⟨i, k.trans m, hi⟩
  · exact .inr ⟨j, k, Nat.le_trans h.size hj⟩
theorem Kept.below (h : Kept w w' g v) (hg : B ≤ g) (hB : B ≤ w.heap.size) (hv : ∀ k, v.ownBlock = some k → B ≤ k) : Below B w w' :=
  ⟨h.os, h.tape, h.output, h.size, fun k hk => h.block k (by omega) (by omega) (fun e => by have := hv k e.symm; omega)⟩
theorem Kept.of_below (h : Below w.heap.size w w') : Kept w w' g v := ⟨h.os, h.tape, h.output, h.size, fun k hk _ _ => h.block k hk⟩
end

theorem WIs.own_ge {w : World} {B g : Nat} {v : Value} {bs : List Bool} (h : WIs w B g v bs) : ∀ k, v.ownBlock = some k → B ≤ k := fun k e => (h.row.lt k e).1
theorem WIs.own_ne {w : World} {B g : Nat} {v : Value} {bs : List Bool} (h : WIs w B g v bs) : v.ownBlock ≠ some g := by
  rcases h.row.2 with ⟨rfl, _⟩ | ⟨p, cap, cur, rfl, _, hh, _⟩
  · simp [Value.ownBlock]
  · intro e
    have e' : p = g := by simpa [Value.ownBlock] using e
    subst e'
    have := h.blk
    rw [hh] at this
    injection this with this
    injection this with _ ht
    exact absurd ht (by decide)
theorem ownsRow_far {w : World} {base : Nat} {e : TypeId} {size : Nat} {v : Value} {n : Nat} {xs : List Value} (h : w.ownsRow base e size v n xs) {p : Addr} (hp : v.ownBlock ≠ some p.block) (u : Value) : (w.setCell p u).ownsRow base e size v n xs := by
  obtain ⟨h1, h2⟩ := h
  refine ⟨h1, ?_⟩
  rcases h2 with h2 | ⟨g, cap, cur, rfl, hg, hh, r⟩
  · exact .inl h2
  · exact .inr ⟨g, cap, cur, rfl, hg, by rw [Below.heap_setCell _ _ _ _ (by intro e; exact hp (by rw [← e]; rfl))]; exact hh, r⟩
end Go.Proofs.YtjbfgajognnmiaaDoor

/- push appends one bit to a writer's bits. -/
namespace Go.Proofs.YtjbfgajognnmiaaDoor
open Go.RowKit

theorem Tryd.info5 : (Tryd.prog.info? 5).map (fun i => (i.zero, i.size, i.bytes)) = some (some (.int .u8 0), 1, 1) := by kernel_rfl

/-- The byte x with the bit b laid at the place that s bits leave free. -/
def laid (x b s : Int) : Int := bits BinOp.or IntKind.u8 x (b * 2 ^ min (7 - s % 8).toNat 8 % 256)

/-- The heap of w' is that of W; the streams are as they were. -/
structure Same (W w w' : World) : Prop where
  heap : w'.heap = W.heap
  os : w'.os = w.os
  tape : w'.tape = w.tape
  output : w'.output = w.output

set_option maxHeartbeats 800000 in
set_option maxRecDepth 100000 in
theorem push_some (w : World) (g p m cap : Nat) (s x b : Int) (hs0 : 0 ≤ s) (hs : s < 33554432) (hu0 : (s % 8 == 0) = false) (hm : m < 33554432)
   (h0 : w.cell? ⟨g, 0, none⟩ = some (.slice (some ⟨p, 0, none⟩) (m + 1) cap)) (h1 : w.cell? ⟨g, 1, none⟩ = some (.int .i64 s))
   (f1 : w.frozen? ⟨g, 1, none⟩ = false) 
   (hx : w.cell? ⟨p, m, none⟩ = some (.int .u8 x)) (fx : w.frozen? ⟨p, m, none⟩ = false) (hgp : p ≠ g)
   : Calls Tryd.prog 82 #[.pointer (some ⟨g, 0, none⟩), .int .u8 b] w fun e w' => e = .returned (.tuple #[]) ∧ Same ((w.setCell ⟨p, m, none⟩ (.int .u8 (laid x b s))).setCell ⟨g, 1, none⟩ (.int .i64 (s + 1))) w w' := by
  go_enter Tryd.func82, Tryd.ntmps82
  go_wp2
  have e1 : IntKind.i64.wrap (m : Int) = (m : Int) := IntWalk.i64_in _ (by omega)
  have e3 : (m : Int) < (m : Int) + 1 := by omega
  have e5 : IntKind.i64.wrap (7 - s % 8) = 7 - s % 8 := IntWalk.i64_in _ (by omega)
  go_still_tail 18, (by kernel_rfl)
  change wpList _ _ _ _ _ w.drew
  go_wp2
  go_end0
  exact ⟨rfl, rfl, rfl, rfl, rfl⟩

/-- What a push leaves that opens a new byte. -/
def Opened (w w' : World) (B g : Nat) (v : Value) (n : Nat) (xs : List Value) (b s : Int) : Prop :=
  ∃ q cap w1, w1.ownsRow B 5 1 (.slice (some ⟨q, 0, none⟩) (n + 1) cap) (n + 1) (xs ++ [.int .u8 0]) ∧ w.grownBy w1 v.ownBlock ∧ (v.ownBlock = some q ∨ w.heap.size ≤ q) ∧ q ≠ g ∧
    Same (((w1.setCell ⟨g, 0, none⟩ (.slice (some ⟨q, 0, none⟩) (n + 1) cap)).setCell ⟨q, n, none⟩ (.int .u8 (laid 0 b s))).setCell ⟨g, 1, none⟩ (.int .i64 (s + 1))) w1 w'

set_option maxHeartbeats 800000 in
set_option maxRecDepth 100000 in
theorem push_none (w : World) (B g n c : Nat) (A : Option Addr) (xs : List Value) (s b : Int) (hs0 : 0 ≤ s) (hs : s < 33554432) (hu0 : (s % 8 == 0) = true) (hm : n < 33554432) (hB : B ≤ w.heap.size) (hg : g < w.heap.size)
   (h0 : w.cell? ⟨g, 0, none⟩ = some (.slice A n c)) (h1 : w.cell? ⟨g, 1, none⟩ = some (.int .i64 s))
   (f0 : w.frozen? ⟨g, 0, none⟩ = false) (f1 : w.frozen? ⟨g, 1, none⟩ = false) (hown : w.ownsRow B 5 1 (.slice A n c) n xs) (hne : (Value.slice A n c).ownBlock ≠ some g)
   : Calls Tryd.prog 82 #[.pointer (some ⟨g, 0, none⟩), .int .u8 b] w fun e w' => e = .returned (.tuple #[]) ∧ Opened w w' B g (.slice A n c) n xs b s := by
  obtain ⟨i0, hi, hz0, hz1, hz2⟩ := info_parts Tryd.info5
  have HO := Lib.hid (hown.alloc (.cells #[.int .u8 0] 5))
  have HX := Lib.hid hown.1
  have HN := Lib.hid hne
  clear hown hne
  go_enter Tryd.func82, Tryd.ntmps82
  go_wp2_with (at_builtin; refine wpList_append_lies _ rfl (.tmp 16) (.tmp 17) 25 rfl B 5 i0 (.int .u8 0) 1 1 Tryd.underlying25 hi hz0 hz1 hz2 rfl (by decide) (.slice A n c) n xs rfl HO.out ⟨w.heap.size, 0, none⟩ 1 1 [.int .u8 0] rfl rfl (cell_one_new _ _ _) ?c2 (by decide) ?b1 ?b2 ?b3 (w.heap.size + 1) ?b4 ?_)
  case c2 => intro u hu; simp at hu; subst hu; rfl
  case b1 => unfold maxLen; omega
  case b2 => omega
  case b3 => simp; omega
  case b4 => simp
  intro q cap w1 hown hgr hq hlt
  have hbel : w.grownBy w1 (Value.slice A n c).ownBlock := ⟨hgr.os, hgr.tape, hgr.output, by have := hgr.size; simp at this; omega, fun k hk hne => (hgr.block k (by simp; omega) hne).trans (Below.heap_alloc _ _ _ hk)⟩
  have hqq : (Value.slice A n c).ownBlock = some q ∨ w.heap.size ≤ q := by rcases hq with h | h; exact .inl h; exact .inr (by omega)
  have hqg : q ≠ g := by
    rcases hq with h | h
    · intro e; subst e; exact HN.out h
    · omega
  have k0 := (hbel.cell_far ⟨g, 0, none⟩ hg (fun e => HN.out e.symm)).trans h0
  have k1 := (hbel.cell_far ⟨g, 1, none⟩ hg (fun e => HN.out e.symm)).trans h1
  have e0 := (hbel.frozen_far ⟨g, 0, none⟩ hg (fun e => HN.out e.symm)).trans f0
  have e1 := (hbel.frozen_far ⟨g, 1, none⟩ hg (fun e => HN.out e.symm)).trans f1
  have hlx : xs.length = n := by have := HX.out; omega
  have kx : w1.cell? ⟨q, n, none⟩ = some (.int .u8 0) := by
    have := hown.cellAt n (by omega)
    rw [this, List.getElem?_append_right (by omega), hlx]; simp
  have fx : w1.frozen? ⟨q, n, none⟩ = false := hown.frozenAt n
  have HW := Lib.hid hown
  have HL := Lib.hid hlx
  have HG := Lib.hid hbel
  clear hown hlx hbel hgr
  go_wp2
  have j0 : (w1.setCell ⟨g, 0, none⟩ (.slice (some ⟨q, 0, none⟩) (n + 1) cap)).cell? ⟨g, 0, none⟩ = some (.slice (some ⟨q, 0, none⟩) (n + 1) cap) := by go_simp
  have j1 : (w1.setCell ⟨g, 0, none⟩ (.slice (some ⟨q, 0, none⟩) (n + 1) cap)).cell? ⟨g, 1, none⟩ = some (.int .i64 s) := by go_simp
  have jx : (w1.setCell ⟨g, 0, none⟩ (.slice (some ⟨q, 0, none⟩) (n + 1) cap)).cell? ⟨q, n, none⟩ = some (.int .u8 0) := by
    rw [World.cell?_setCell_other _ _ _ _ (by intro e; injection e with e; exact hqg e.symm)]; exact kx
  have i1 : (w1.setCell ⟨g, 0, none⟩ (.slice (some ⟨q, 0, none⟩) (n + 1) cap)).frozen? ⟨g, 1, none⟩ = false := by go_simp
  have ix : (w1.setCell ⟨g, 0, none⟩ (.slice (some ⟨q, 0, none⟩) (n + 1) cap)).frozen? ⟨q, n, none⟩ = false := by go_simp
  have HW2 := Lib.hid (rfl : w1.setCell ⟨g, 0, none⟩ (.slice (some ⟨q, 0, none⟩) (n + 1) cap) = w1.setCell ⟨g, 0, none⟩ (.slice (some ⟨q, 0, none⟩) (n + 1) cap))
  have HP : (w1.setCell ⟨g, 0, none⟩ (.slice (some ⟨q, 0, none⟩) (n + 1) cap)).os = w1.os ∧ (w1.setCell ⟨g, 0, none⟩ (.slice (some ⟨q, 0, none⟩) (n + 1) cap)).tape = w1.tape ∧ (w1.setCell ⟨g, 0, none⟩ (.slice (some ⟨q, 0, none⟩) (n + 1) cap)).output = w1.output := ⟨rfl, rfl, rfl⟩
  generalize hW2 : w1.setCell ⟨g, 0, none⟩ (.slice (some ⟨q, 0, none⟩) (n + 1) cap) = W2 at *
  have HW3 := Lib.hid hW2
  have HP3 := Lib.hid HP
  clear hW2 HW2 HP k0 k1 e0 e1 kx fx
  have e1 : IntKind.i64.wrap (n : Int) = (n : Int) := IntWalk.i64_in _ (by omega)
  have e3 : (n : Int) < (n : Int) + 1 := by omega
  have e5 : IntKind.i64.wrap (7 - s % 8) = 7 - s % 8 := IntWalk.i64_in _ (by omega)
  go_still_tail 18, (by kernel_rfl)
  change wpList _ _ _ _ _ W2.drew
  go_wp2
  go_end0
  refine ⟨rfl, q, cap, w1, HW.out, HG.out, hqq, hqg, ?_⟩
  rw [HW3.out]
  exact ⟨rfl, HP3.out.1, HP3.out.2.1, HP3.out.2.2⟩
end Go.Proofs.YtjbfgajognnmiaaDoor

/- Plain facts on bits and bytes: no program in sight. -/
namespace Go.Proofs.YtjbfgajognnmiaaDoor

theorem getD_snoc (bs : List Bool) (b : Bool) (i : Nat) : (bs ++ [b]).getD i false = if i < bs.length then bs.getD i false else if i = bs.length then b else false := by
  simp only [List.getD_eq_getElem?_getD, List.getElem?_append]
  split
  · rfl
  · split
    · subst_vars; simp
    · rw [List.getElem?_eq_none (by simp; omega)]; rfl
theorem getD_over (bs : List Bool) (i : Nat) (h : bs.length ≤ i) : bs.getD i false = false := by
  simp [List.getD_eq_getElem?_getD, List.getElem?_eq_none h]

theorem byteAt_eq (bs : List Bool) (k : Nat) : byteAt bs k = 128 * (bs.getD (8 * k) false).toNat + 64 * (bs.getD (8 * k + 1) false).toNat + 32 * (bs.getD (8 * k + 2) false).toNat + 16 * (bs.getD (8 * k + 3) false).toNat
    + 8 * (bs.getD (8 * k + 4) false).toNat + 4 * (bs.getD (8 * k + 5) false).toNat + 2 * (bs.getD (8 * k + 6) false).toNat + (bs.getD (8 * k + 7) false).toNat := by
  show num [bs.getD (8 * k) false, bs.getD (8 * k + 1) false, bs.getD (8 * k + 2) false, bs.getD (8 * k + 3) false, bs.getD (8 * k + 4) false, bs.getD (8 * k + 5) false, bs.getD (8 * k + 6) false, bs.getD (8 * k + 7) false] = _
  simp only [num, List.foldl_cons, List.foldl_nil]
  omega
theorem bit_le (b : Bool) : b.toNat ≤ 1 := by cases b <;> simp
theorem byteAt_lt (bs : List Bool) (k : Nat) : byteAt bs k < 256 := by
  rw [byteAt_eq]
  have h0 := bit_le (bs.getD (8 * k) false); have h1 := bit_le (bs.getD (8 * k + 1) false); have h2 := bit_le (bs.getD (8 * k + 2) false); have h3 := bit_le (bs.getD (8 * k + 3) false)
  have h4 := bit_le (bs.getD (8 * k + 4) false); have h5 := bit_le (bs.getD (8 * k + 5) false); have h6 := bit_le (bs.getD (8 * k + 6) false); have h7 := bit_le (bs.getD (8 * k + 7) false)
  omega
theorem getD_pack (bs : List Bool) (k : Nat) (h : k < (bs.length + 7) / 8) : (pack bs)[k]? = some (byteAt bs k) := by
  simp [pack, h]
theorem pack_lt (bs : List Bool) : ∀ x ∈ pack bs, x < 256 := by
  intro x hx
  simp only [pack, List.mem_map] at hx
  obtain ⟨k, _, rfl⟩ := hx
  exact byteAt_lt _ _

theorem byte_low (bs : List Bool) (b : Bool) (k : Nat) (h : 8 * k + 8 ≤ bs.length) : byteAt (bs ++ [b]) k = byteAt bs k := by
  simp only [byteAt_eq, getD_snoc]
  rw [if_pos (by omega), if_pos (by omega), if_pos (by omega), if_pos (by omega), if_pos (by omega), if_pos (by omega), if_pos (by omega), if_pos (by omega)]

theorem byte_last (bs : List Bool) (b : Bool) : byteAt (bs ++ [b]) (bs.length / 8) = byteAt bs (bs.length / 8) ||| b.toNat * 2 ^ (7 - bs.length % 8) := by
  have hb := bit_le b
  have hlen : bs.length = 8 * (bs.length / 8) + bs.length % 8 := by omega
  have hu : bs.length % 8 < 8 := by omega
  generalize hk : bs.length / 8 = k at *
  generalize hq : bs.length % 8 = u at *
  have key : byteAt bs k % 2 ^ (8 - u) = 0 ∧ byteAt (bs ++ [b]) k = byteAt bs k + b.toNat * 2 ^ (7 - u) := by
    simp only [byteAt_eq, getD_snoc]
    have z : ∀ i, bs.length ≤ i → bs.getD i false = false := getD_over bs
    rcases (by omega : u = 0 ∨ u = 1 ∨ u = 2 ∨ u = 3 ∨ u = 4 ∨ u = 5 ∨ u = 6 ∨ u = 7) with h | h | h | h | h | h | h | h
    · rw [z (8 * k) (by omega), z (8 * k + 1) (by omega), z (8 * k + 2) (by omega), z (8 * k + 3) (by omega), z (8 * k + 4) (by omega), z (8 * k + 5) (by omega), z (8 * k + 6) (by omega), z (8 * k + 7) (by omega)]
      rw [h, hlen, h]; simp; try omega
    · rw [z (8 * k + 1) (by omega), z (8 * k + 2) (by omega), z (8 * k + 3) (by omega), z (8 * k + 4) (by omega), z (8 * k + 5) (by omega), z (8 * k + 6) (by omega), z (8 * k + 7) (by omega)]
      rw [h, hlen, h]; simp; try omega
    · rw [z (8 * k + 2) (by omega), z (8 * k + 3) (by omega), z (8 * k + 4) (by omega), z (8 * k + 5) (by omega), z (8 * k + 6) (by omega), z (8 * k + 7) (by omega)]
      rw [h, hlen, h]; simp; try omega
    · rw [z (8 * k + 3) (by omega), z (8 * k + 4) (by omega), z (8 * k + 5) (by omega), z (8 * k + 6) (by omega), z (8 * k + 7) (by omega)]
      rw [h, hlen, h]; simp; try omega
    · rw [z (8 * k + 4) (by omega), z (8 * k + 5) (by omega), z (8 * k + 6) (by omega), z (8 * k + 7) (by omega)]
      rw [h, hlen, h]; simp; try omega
    · rw [z (8 * k + 5) (by omega), z (8 * k + 6) (by omega), z (8 * k + 7) (by omega)]
      rw [h, hlen, h]; simp; try omega
    · rw [z (8 * k + 6) (by omega), z (8 * k + 7) (by omega)]
      rw [h, hlen, h]; simp; try omega
    · rw [z (8 * k + 7) (by omega)]
      rw [h, hlen, h]; simp; try omega
  rw [key.2, nat_join (8 - u) _ _ key.1]
  have h8 : 8 - u = (7 - u) + 1 := by omega
  rw [h8, Nat.pow_succ]
  have hp : 0 < 2 ^ (7 - u) := Nat.two_pow_pos _
  cases b
  · simp; exact hp
  · simp; omega

theorem byteAt_over (bs : List Bool) (k : Nat) (h : bs.length ≤ 8 * k) : byteAt bs k = 0 := by
  simp only [byteAt_eq]
  rw [getD_over bs (8 * k) (by omega), getD_over bs (8 * k + 1) (by omega), getD_over bs (8 * k + 2) (by omega), getD_over bs (8 * k + 3) (by omega), getD_over bs (8 * k + 4) (by omega), getD_over bs (8 * k + 5) (by omega), getD_over bs (8 * k + 6) (by omega), getD_over bs (8 * k + 7) (by omega)]
  rfl
theorem getElem_pack (bs : List Bool) (k : Nat) : (pack bs)[k]? = if k < (bs.length + 7) / 8 then some (byteAt bs k) else none := by
  split
  · exact getD_pack bs k ‹_›
  · exact List.getElem?_eq_none (by rw [length_pack]; omega)
theorem pack_snoc_none (bs : List Bool) (b : Bool) (h : bs.length % 8 = 0) : pack (bs ++ [b]) = pack bs ++ [0 ||| b.toNat * 2 ^ (7 - bs.length % 8)] := by
  apply List.ext_getElem?
  intro k
  rw [getElem_pack, List.getElem?_append, length_pack, getElem_pack]
  simp only [List.length_append, List.length_singleton]
  by_cases h1 : k < (bs.length + 7) / 8
  · rw [if_pos (by omega), if_pos h1, if_pos h1, byte_low _ _ _ (by omega)]
  · rw [if_neg h1]
    by_cases h2 : k = (bs.length + 7) / 8
    · have h3 : k = bs.length / 8 := by omega
      rw [if_pos (by omega), h3, byte_last, byteAt_over _ _ (by omega), show bs.length / 8 - (bs.length + 7) / 8 = 0 by omega]; rfl
    · rw [if_neg (by omega), List.getElem?_eq_none (by simp; omega)]
theorem pack_snoc_some (bs : List Bool) (b : Bool) (h : bs.length % 8 ≠ 0) : pack (bs ++ [b]) = (pack bs).set (bs.length / 8) (byteAt bs (bs.length / 8) ||| b.toNat * 2 ^ (7 - bs.length % 8)) := by
  apply List.ext_getElem?
  intro k
  rw [getElem_pack, List.getElem?_set, length_pack, getElem_pack]
  simp only [List.length_append, List.length_singleton]
  by_cases h1 : bs.length / 8 = k
  · rw [if_pos h1, if_pos (by omega), if_pos (by omega), ← h1, byte_last]
  · rw [if_neg h1]
    by_cases h2 : k < (bs.length + 7) / 8
    · rw [if_pos (by omega), if_pos h2, byte_low _ _ _ (by omega)]
    · rw [if_neg (by omega), if_neg h2]
end Go.Proofs.YtjbfgajognnmiaaDoor

/- push, in words of bits. -/
namespace Go.Proofs.YtjbfgajognnmiaaDoor
open Go.RowKit

theorem own_congr {w w' : World} (h : w'.heap = w.heap) {base : Nat} {e : TypeId} {size : Nat} {v : Value} {n : Nat} {xs : List Value} (k : w.ownsRow base e size v n xs) : w'.ownsRow base e size v n xs := by
  unfold World.ownsRow at *; rw [h]; exact k
theorem laid_nat (x : Nat) (hx : x < 256) (b : Bool) (s : Nat) : laid x b.toNat s = ((x ||| b.toNat * 2 ^ (7 - s % 8) : Nat) : Int) := by
  unfold laid
  have h7 : min (7 - (s : Int) % 8).toNat 8 = 7 - s % 8 := by omega
  have hp : 2 ^ (7 - s % 8) ≤ 128 := by
    have : 2 ^ (7 - s % 8) ≤ 2 ^ 7 := Nat.pow_le_pow_right (by omega) (by omega)
    simpa using this
  have hy : b.toNat * 2 ^ (7 - s % 8) < 256 := by cases b <;> simp; omega
  have he : ((b.toNat : Int) * 2 ^ min (7 - (s : Int) % 8).toNat 8 % 256) = ((b.toNat * 2 ^ (7 - s % 8) : Nat) : Int) := by
    rw [h7]
    have : ((b.toNat : Int) * 2 ^ (7 - s % 8)) = ((b.toNat * 2 ^ (7 - s % 8) : Nat) : Int) := by push_cast; rfl
    rw [this]; omega
  rw [he, u8_or_nat _ _ hx hy]
theorem u8s_set (xs : List Nat) (k x : Nat) : (u8s xs).set k (.int .u8 (x : Int)) = u8s (xs.set k x) := by simp [u8s, List.map_set]
theorem u8s_snoc (xs : List Nat) (x : Nat) : u8s xs ++ [.int .u8 (x : Int)] = u8s (xs ++ [x]) := by simp [u8s]

/-- What a call leaves behind that writes into the writer in block g. -/
def Wrote (w w' : World) (B g : Nat) (v : Value) (bs : List Bool) : Prop := ∃ v', WIs w' B g v' bs ∧ Kept w w' g v ∧ Moved w v v'

theorem Wrote.trans {w w' w'' : World} {B g : Nat} {v : Value} {bs : List Bool} {v' : Value} (k : Kept w w' g v) (m : Moved w v v') (h : Wrote w' w'' B g v' bs) : Wrote w w'' B g v bs := by
  obtain ⟨v2, h2, k2, m2⟩ := h
  exact ⟨v2, h2, k.trans m k2, Moved.trans k m m2⟩

set_option maxHeartbeats 800000 in
set_option maxRecDepth 100000 in
theorem push_any (w : World) (B g : Nat) (v : Value) (bs : List Bool) (b : Bool) (h : WIs w B g v bs) (hB : B ≤ w.heap.size) (hl : bs.length < 33554432) :
    Calls Tryd.prog 82 #[.pointer (some ⟨g, 0, none⟩), .int .u8 (b.toNat : Int)] w fun e w' => e = .returned (.tuple #[]) ∧ Wrote w w' B g v (bs ++ [b]) := by
  have hg := heap_lt h.blk
  have c0 : w.cell? ⟨g, 0, none⟩ = some v := by rw [cell_in h.blk]; rfl
  have c1 : w.cell? ⟨g, 1, none⟩ = some (.int .i64 (bs.length : Int)) := by rw [cell_in h.blk]; rfl
  have f0 := frozen_in h.blk 0
  have f1 := frozen_in h.blk 1
  have hlp := length_pack bs
  have hne := h.own_ne
  by_cases hu : bs.length % 8 = 0
  · have hv : ∃ A c, v = .slice A (pack bs).length c := by
      rcases h.row.2 with ⟨h1, h2⟩ | ⟨q, cap, cur, h1, _⟩
      · exact ⟨none, 0, by rw [h1, h2]⟩
      · exact ⟨_, _, h1⟩
    obtain ⟨A, c, rfl⟩ := hv
    refine (push_none w B g (pack bs).length c A (u8s (pack bs)) bs.length b.toNat (by omega) (by omega) (by simp; omega) (by omega) hB hg c0 c1 f0 f1 h.row hne).mono ?_
    rintro e w' ⟨rfl, q, cap, w1, hown, hgr, hq, hqg, hs⟩
    refine ⟨rfl, .slice (some ⟨q, 0, none⟩) ((pack bs).length + 1) cap, ⟨?_, ?_⟩, ⟨?_, ?_, ?_, ?_, ?_⟩, ?_⟩
    · have hb1 : w1.heap[g]? = some (.cells #[.slice A (pack bs).length c, .int .i64 (bs.length : Int)] 81 (0, 0)) := (hgr.block g hg (fun e => hne e.symm)).trans h.blk
      rw [hs.heap]
      have := heap_set (heap_far (heap_set hb1 0 (.slice (some ⟨q, 0, none⟩) ((pack bs).length + 1) cap)) (p := ⟨q, (pack bs).length, none⟩) (fun e => hqg e.symm) (.int .u8 (laid 0 b.toNat bs.length))) 1 (.int .i64 ((bs.length : Int) + 1))
      rw [this]; simp
    · refine own_congr hs.heap ?_
      have h1 := ownsRow_far hown (p := ⟨g, 0, none⟩) (by simpa [Value.ownBlock] using hqg) (.slice (some ⟨q, 0, none⟩) ((pack bs).length + 1) cap)
      have h2 := (h1.stored (pack bs).length (.int .u8 (laid 0 b.toNat bs.length))).1
      have h3 := ownsRow_far h2 (p := ⟨g, 1, none⟩) (by simpa [Value.ownBlock] using hqg) (.int .i64 ((bs.length : Int) + 1))
      have e0 : laid 0 b.toNat bs.length = ((0 ||| b.toNat * 2 ^ (7 - bs.length % 8) : Nat) : Int) := laid_nat 0 (by omega) b bs.length
      have e1 : (u8s (pack bs) ++ [Value.int .u8 0]).set (pack bs).length (.int .u8 (laid 0 b.toNat bs.length)) = u8s (pack (bs ++ [b])) := by
        rw [pack_snoc_none bs b hu, e0, ← u8s_snoc, List.set_append_right _ _ (by simp [u8s])]; simp [u8s]
      rw [e1] at h3
      have e2 : (pack (bs ++ [b])).length = (pack bs).length + 1 := by rw [length_pack, length_pack]; simp; omega
      rw [e2]; exact h3
    · exact hs.os.trans hgr.os
    · exact hs.tape.trans hgr.tape
    · exact hs.output.trans hgr.output
    · rw [hs.heap]; simpa using hgr.size
    · intro k hk hkg hkv
      rw [hs.heap, Below.heap_setCell _ _ _ _ hkg, Below.heap_setCell _ _ _ _ (by
        rintro rfl
        rcases hq with hq | hq
        · exact hkv hq.symm
        · omega), Below.heap_setCell _ _ _ _ hkg]
      exact hgr.block k hk hkv
    · rcases hq with hq | hq
      · exact .inl (by simpa [Value.ownBlock] using hq.symm)
      · exact .inr ⟨q, rfl, hq⟩
  · have hm : (pack bs).length = bs.length / 8 + 1 := by omega
    obtain ⟨q, cap, rfl⟩ : ∃ q cap, v = .slice (some ⟨q, 0, none⟩) (bs.length / 8 + 1) cap := by
      rcases h.row.2 with ⟨h1, h2⟩ | ⟨q, cap, cur, h1, _⟩
      · omega
      · exact ⟨q, cap, by rw [← hm]; exact h1⟩
    have hqg : q ≠ g := by simpa [Value.ownBlock] using hne
    have hrow := h.row
    rw [hm] at hrow
    have cx : w.cell? ⟨q, bs.length / 8, none⟩ = some (.int .u8 (byteAt bs (bs.length / 8) : Nat)) := by
      rw [hrow.cellAt _ (by omega)]
      simp only [u8s, List.getElem?_map]
      rw [getD_pack _ _ (by omega)]; rfl
    refine (push_some w g q (bs.length / 8) cap bs.length (byteAt bs (bs.length / 8) : Nat) b.toNat (by omega) (by omega) (by simp; omega) (by omega) c0 c1 f1 cx (hrow.frozenAt _) hqg).mono ?_
    rintro e w' ⟨rfl, hs⟩
    refine ⟨rfl, .slice (some ⟨q, 0, none⟩) (bs.length / 8 + 1) cap, ⟨?_, ?_⟩, ⟨?_, ?_, ?_, ?_, ?_⟩, .inl rfl⟩
    · rw [hs.heap]
      have := heap_set (heap_far h.blk (p := ⟨q, bs.length / 8, none⟩) (fun e => hqg e.symm) (.int .u8 (laid (byteAt bs (bs.length / 8) : Nat) b.toNat bs.length))) 1 (.int .i64 ((bs.length : Int) + 1))
      rw [this]; simp
    · refine own_congr hs.heap ?_
      have h2 := (hrow.stored (bs.length / 8) (.int .u8 (laid (byteAt bs (bs.length / 8) : Nat) b.toNat bs.length))).1
      have h3 := ownsRow_far h2 (p := ⟨g, 1, none⟩) (by simpa [Value.ownBlock] using hqg) (.int .i64 ((bs.length : Int) + 1))
      rw [laid_nat _ (byteAt_lt _ _), u8s_set, ← pack_snoc_some bs b hu] at h3
      have e2 : (pack (bs ++ [b])).length = bs.length / 8 + 1 := by rw [length_pack]; simp; omega
      rw [e2]; rw [laid_nat _ (byteAt_lt _ _)]; exact h3
    · exact hs.os
    · exact hs.tape
    · exact hs.output
    · rw [hs.heap]; simp
    · intro k hk hkg hkv
      rw [hs.heap, Below.heap_setCell _ _ _ _ hkg, Below.heap_setCell _ _ _ _ (by
        rintro rfl
        exact hkv rfl)]
end Go.Proofs.YtjbfgajognnmiaaDoor

/- Writer.Put: a value and a width that fit are appended; else ErrRange, and nothing turns. -/
namespace Go.Proofs.YtjbfgajognnmiaaDoor
open Go.RowKit

theorem put_width (w : World) (g : Nat) (v n : Int) (h : n < 0 ∨ 64 < n) :
    Calls Tryd.prog 72 #[.pointer (some ⟨g, 0, none⟩), .int .u64 v, .int .i64 n] w fun e w' => e = .returned (.int .i64 2) ∧ w = w' := by
  rcases h with h | h
  · go_enter Tryd.func72, Tryd.ntmps72
    go_wp2
    go_ret
    exact ⟨rfl, rfl⟩
  · have h0 : ¬ n < 0 := by omega
    go_enter Tryd.func72, Tryd.ntmps72
    go_wp2
    go_ret
    exact ⟨rfl, rfl⟩

theorem div_cast (v n : Nat) : (v : Int) / 2 ^ n = ((v / 2 ^ n : Nat) : Int) := by push_cast; rfl
theorem div_ne (v n : Nat) (h : 2 ^ n ≤ v) : ((v : Int) / 2 ^ n != 0) = true := by
  rw [div_cast, bne_iff_ne]
  have := Nat.div_pos h (Nat.two_pow_pos n)
  omega
theorem div_eq (v n : Nat) (h : v < 2 ^ n) : ((v : Int) / 2 ^ n != 0) = false := by
  rw [div_cast, Nat.div_eq_of_lt h]; rfl

theorem put_wide (w : World) (g : Nat) (v n : Nat) (hn : n ≤ 64) (h : 2 ^ n ≤ v) :
    Calls Tryd.prog 72 #[.pointer (some ⟨g, 0, none⟩), .int .u64 v, .int .i64 n] w fun e w' => e = .returned (.int .i64 2) ∧ w = w' := by
  have h0 : ¬ (n : Int) < 0 := by omega
  have h1 : ¬ (64 : Int) < (n : Int) := by omega
  have h2 := div_ne v n h
  clear h
  go_enter Tryd.func72, Tryd.ntmps72
  go_wp2
  go_ret
  exact ⟨rfl, rfl⟩

theorem arg_eq (v k : Nat) (hv : v < 18446744073709551616) : bits BinOp.and IntKind.u64 ((v : Int) / 2 ^ k) 1 % 256 = ((v.testBit k).toNat : Int) := by
  have hq : v / 2 ^ k < 18446744073709551616 := Nat.lt_of_le_of_lt (Nat.div_le_self _ _) hv
  have h := u64_and_nat (v / 2 ^ k) 1 hq (by omega)
  rw [div_cast]
  rw [show (1 : Int) = ((1 : Nat) : Int) from rfl, h, nat_mask1, Nat.toNat_testBit]
  omega
theorem length_bitsOf (v n : Nat) : (bitsOf v n).length = n := by simp [bitsOf]
theorem take_bitsOf (v n k : Nat) (h : k < n) : (bitsOf v n).take (k + 1) = (bitsOf v n).take k ++ [v.testBit (n - 1 - k)] := by
  rw [List.take_succ_eq_append_getElem (by rw [length_bitsOf]; exact h)]
  simp [bitsOf]

def PutAt (w : World) (B g : Nat) (u : Value) (bs : List Bool) (v n : Nat) (i : Value) (wr : World) : Prop :=
  ∃ k : Nat, k ≤ n ∧ i = .int .i64 k ∧ Wrote w wr B g u (bs ++ (bitsOf v n).take k)

set_option maxHeartbeats 800000 in
set_option maxRecDepth 100000 in
theorem put_ok (w : World) (B g : Nat) (u : Value) (bs : List Bool) (v n : Nat) (hn : n ≤ 64) (hv : v < 2 ^ n) (h : WIs w B g u bs) (hB : B ≤ w.heap.size) (hl : bs.length + n ≤ 33554432) :
    Calls Tryd.prog 72 #[.pointer (some ⟨g, 0, none⟩), .int .u64 v, .int .i64 n] w fun e w' => e = .returned (.int .i64 0) ∧ Wrote w w' B g u (bs ++ bitsOf v n) := by
  have h0 : ¬ (n : Int) < 0 := by omega
  have h1 : ¬ (64 : Int) < (n : Int) := by omega
  have h2 := div_eq v n hv
  have c1 : w.cell? ⟨g, 1, none⟩ = some (.int .i64 (bs.length : Int)) := by rw [cell_in h.blk]; rfl
  have h3 : ¬ (33554432 : Int) - bs.length < n := by omega
  have HW := Lib.hid h
  clear h
  go_enter Tryd.func72, Tryd.ntmps72
  go_wp2
  go_loopw [31] (PutAt w B g u bs v n) (fun i _ => n - (intOf i).toNat)
  case atStart => exact ⟨0, Nat.zero_le _, rfl, u, by simpa using HW.out, Kept.refl _ _ _, Moved.refl _ _⟩
  case round =>
    obtain ⟨k, hk, rfl, u', hu', hkept, hmov⟩ := hrel
    have H1 := Lib.hid hu'
    have H2 := Lib.hid hkept
    have H3 := Lib.hid hmov
    clear hu' hkept hmov c1
    by_cases hlt : k < n
    · have b1 : (0 : Int) ≤ (n : Int) - 1 - k := by omega
      go_wp2_with fail
      rw [arg_eq v (n - 1 - k) (Nat.lt_of_lt_of_le hv (by
        have := Nat.pow_le_pow_right (n := 2) (by omega) hn
        omega))]
      refine (push_any wr B g u' _ (v.testBit (n - 1 - k)) H1.out (Nat.le_trans hB H2.out.size) (by
        have := length_bitsOf v n
        simp; omega)).mono ?_
      rintro e w1 ⟨rfl, hw1⟩
      have H4 := Lib.hid hw1
      clear hw1
      go_wp2
      go_roundw
      case rel =>
        refine ⟨k + 1, by omega, by go_num, ?_⟩
        rw [take_bitsOf v n k hlt, ← List.append_assoc]
        exact Wrote.trans H2.out H3.out H4.out
      case measure => simp [intOf]; omega
    · go_wp2
      go_ret
      refine ⟨rfl, u', ?_, H2.out, H3.out⟩
      have := H1.out
      rwa [List.take_of_length_le (by rw [length_bitsOf]; omega)] at this
end Go.Proofs.YtjbfgajognnmiaaDoor

/- copyOf: the same bytes in a new block. -/
namespace Go.Proofs.YtjbfgajognnmiaaDoor
open Go.RowKit

theorem Reads.of_bytes {w : World} {q : Nat} {xs : List Nat} (h : w.heap[q]? = some (.cells (u8s xs).toArray 5 (0, 0))) : Reads w (some ⟨q, 0, none⟩) xs.length (u8s xs) := by
  have := Reads.of_block h
  rwa [length_u8s] at this

theorem u8s_one (xs : List Nat) : ∀ u ∈ u8s xs, u.oneCell' = true := by
  intro u hu
  simp only [u8s, List.mem_map] at hu
  obtain ⟨x, _, rfl⟩ := hu
  rfl

theorem splice_all {α : Type} (L cs : List α) (h : cs.length = L.length) : splice L 0 cs = cs := by
  simp [splice, h]

set_option maxHeartbeats 800000 in
set_option maxRecDepth 100000 in
theorem copyOf_any (w : World) (A : Option Addr) (n c : Nat) (xs : List Nat) (h : Reads w A n (u8s xs)) (hn : n ≤ 140737488355328) :
    Calls Tryd.prog 73 #[.slice A n c] w fun e w' => e = .returned (.slice (some ⟨w.heap.size, 0, none⟩) n n) ∧ w'.heap[w.heap.size]? = some (.cells (u8s xs).toArray 5 (0, 0)) ∧ Below w.heap.size w w' := by
  have hmk := fun W => run_make_row' (P := Tryd.prog) 25 5 (.int .u8 0) 1 Tryd.underlying25 Tryd.info5 rfl .i64 .i64 n (by omega) (by omega) W
  have HR := Lib.hid h
  clear h
  go_enter Tryd.func73, Tryd.ntmps73
  have hb0 : Below w.heap.size w (w.alloc (.cells (madeCells #[.int .u8 0] n) 5)) := (Below.refl _ _).alloc (Nat.le_refl _) _
  have hg0 : (w.alloc (.cells (madeCells #[.int .u8 0] n) 5)).heap[w.heap.size]? = some (.cells (List.replicate n (Value.int .u8 0)).toArray 5 (0, 0)) := by
    rw [heap_alloc_new, ← toList_madeCells_one]
  have hp0 : 0 < (u8s xs).length → (some (⟨w.heap.size, 0, none⟩ : Addr)) = some ⟨w.heap.size, 0, none⟩ ∧ ∃ ad, A = some ad ∧ ∀ j v, (u8s xs)[j]? = some v → (w.alloc (.cells (madeCells #[.int .u8 0] n) 5)).cell? (ad.add j) = some v := by
    intro hpos
    obtain ⟨ad, hA, hc⟩ := HR.out.2 (by have := HR.out.1; omega)
    exact ⟨rfl, ad, hA, fun j v hv => (hb0.cell (World.block_lt_of_cell? w _ (hc j v hv))).trans (hc j v hv)⟩
  have HB := Lib.hid hb0
  have HG := Lib.hid hg0
  have HP := Lib.hid hp0
  clear hb0 hg0 hp0
  go_wp2_with (with_reducible refine wpList_copy_splice rfl (.tmp 7) (.tmp 8) 25 25 rfl 5 Tryd.underlying25 (by kernel_rfl) (some ⟨w.heap.size, 0, none⟩) A n n n c rfl rfl w.heap.size 0 (List.replicate n (Value.int .u8 0)) 5 HG.out (u8s xs) ?hn HP.out ?hfit (u8s_one xs) w.heap.size w HB.out (Nat.le_refl _) ?_)
  case hn => rw [HR.out.1]
  case hfit => exact Nat.le_of_eq HR.out.1
  intro w1 hg1 hb1
  go_wp2
  go_ret
  refine ⟨rfl, ?_, hb1⟩
  have := hg1.out
  rwa [splice_all _ _ (by rw [HR.out.1]; simp)] at this

theorem WIs.reads {w : World} {B g : Nat} {A : Option Addr} {n c : Nat} {bs : List Bool} (h : WIs w B g (.slice A n c) bs) : n = (pack bs).length ∧ Reads w A n (u8s (pack bs)) := by
  rcases h.row.2 with ⟨h1, h2⟩ | ⟨q, cap, cur, h1, _⟩
  · simp only [Value.slice.injEq] at h1
    obtain ⟨rfl, rfl, rfl⟩ := h1
    exact ⟨h2.symm, by rw [length_u8s, h2], fun h => absurd h (by omega)⟩
  · simp only [Value.slice.injEq] at h1
    obtain ⟨rfl, rfl, rfl⟩ := h1
    exact ⟨rfl, length_u8s _, fun _ => ⟨_, rfl, h.row.cells rfl⟩⟩
theorem WIs.form {w : World} {B g : Nat} {v : Value} {bs : List Bool} (h : WIs w B g v bs) : ∃ A c, v = .slice A (pack bs).length c := by
  rcases h.row.2 with ⟨h1, h2⟩ | ⟨q, cap, cur, h1, _⟩
  · exact ⟨none, 0, by rw [h1, h2]⟩
  · exact ⟨_, _, h1⟩

theorem bytes_any (w : World) (B g : Nat) (v : Value) (bs : List Bool) (h : WIs w B g v bs) (hl : bs.length ≤ 33554432) :
    Calls Tryd.prog 56 #[.pointer (some ⟨g, 0, none⟩)] w fun e w' => e = .returned (.slice (some ⟨w.heap.size, 0, none⟩) (pack bs).length (pack bs).length) ∧
      w'.heap[w.heap.size]? = some (.cells (u8s (pack bs)).toArray 5 (0, 0)) ∧ Below w.heap.size w w' := by
  obtain ⟨A, c, rfl⟩ := h.form
  have c0 : w.cell? ⟨g, 0, none⟩ = some (.slice A (pack bs).length c) := by rw [cell_in h.blk]; rfl
  have hr := h.reads.2
  have hlp := length_pack bs
  have hlq : (pack bs).length ≤ 140737488355328 := by omega
  generalize hn : (pack bs).length = n at *
  clear h hlp hn
  have HR := Lib.hid hr
  clear hr
  go_enter Tryd.func56, Tryd.ntmps56
  go_wp2_with fail
  refine (copyOf_any w A n c (pack bs) HR.out hlq).mono ?_
  rintro e w1 ⟨rfl, h1, h2⟩
  have H1 := Lib.hid h1
  clear h1
  go_wp2
  go_ret
  exact ⟨rfl, H1.out, h2⟩
end Go.Proofs.YtjbfgajognnmiaaDoor

/- NewReader: a reader of the bits that the bytes spell, or the error that the document names. -/
namespace Go.Proofs.YtjbfgajognnmiaaDoor
open Go.RowKit

theorem nr_range (w : World) (A : Option Addr) (n c : Nat) (m : Int) (h : m < 0 ∨ 33554432 < m) :
    Calls Tryd.prog 65 #[.slice A n c, .int .i64 m] w fun e w' => e = .returned (.tuple #[.pointer none, .int .i64 2]) ∧ w = w' := by
  rcases h with h | h
  · go_enter Tryd.func65, Tryd.ntmps65
    go_wp2
    go_ret2
    exact ⟨rfl, rfl⟩
  · have h0 : ¬ m < 0 := by omega
    go_enter Tryd.func65, Tryd.ntmps65
    go_wp2
    go_ret2
    exact ⟨rfl, rfl⟩

theorem nr_end (w : World) (A : Option Addr) (n c m : Nat) (hm : m ≤ 33554432) (h : n < (m + 7) / 8) :
    Calls Tryd.prog 65 #[.slice A n c, .int .i64 m] w fun e w' => e = .returned (.tuple #[.pointer none, .int .i64 4]) ∧ w = w' := by
  have h0 : ¬ (m : Int) < 0 := by omega
  have h1 : ¬ (33554432 : Int) < (m : Int) := by omega
  have h2 : (n : Int) < ((m : Int) + 7) / 8 := by omega
  clear h
  go_enter Tryd.func65, Tryd.ntmps65
  go_wp2
  go_ret2
  exact ⟨rfl, rfl⟩

theorem nr_more (w : World) (A : Option Addr) (n c m : Nat) (hm : m ≤ 33554432) (h : (m + 7) / 8 < n) :
    Calls Tryd.prog 65 #[.slice A n c, .int .i64 m] w fun e w' => e = .returned (.tuple #[.pointer none, .int .i64 5]) ∧ w = w' := by
  have h0 : ¬ (m : Int) < 0 := by omega
  have h1 : ¬ (33554432 : Int) < (m : Int) := by omega
  have h2 : ((m : Int) + 7) / 8 < (n : Int) := by omega
  have h3 : ¬ (n : Int) < ((m : Int) + 7) / 8 := by omega
  clear h
  go_enter Tryd.func65, Tryd.ntmps65
  go_wp2
  go_ret2
  exact ⟨rfl, rfl⟩

theorem shl_ne (x u : Nat) (h : x * 2 ^ u % 256 ≠ 0) : ((x : Int) * 2 ^ u % 256 != 0) = true := by
  rw [bne_iff_ne, show ((x : Int) * 2 ^ u) = ((x * 2 ^ u : Nat) : Int) by push_cast; rfl]; omega
theorem shl_eq (x u : Nat) (h : x * 2 ^ u % 256 = 0) : ((x : Int) * 2 ^ u % 256 != 0) = false := by
  rw [bne_eq_false_iff_eq, show ((x : Int) * 2 ^ u) = ((x * 2 ^ u : Nat) : Int) by push_cast; rfl]; omega

theorem nr_form (w : World) (ad : Addr) (n c m x : Nat) (hm : m ≤ 33554432) (hn : n + 1 = (m + 7) / 8) (hu : m % 8 ≠ 0) (hx : w.cell? (ad.add n) = some (.int .u8 (x : Int))) (hf : x * 2 ^ (m % 8) % 256 ≠ 0) :
    Calls Tryd.prog 65 #[.slice (some ad) (n + 1) c, .int .i64 m] w fun e w' => e = .returned (.tuple #[.pointer none, .int .i64 3]) ∧ w = w' := by
  have h0 : ¬ (m : Int) < 0 := by omega
  have h1 : ¬ (33554432 : Int) < (m : Int) := by omega
  have h2 : ((m : Int) + 7) / 8 = n + 1 := by omega
  have h4 : ((m : Int) % 8 != 0) = true := by rw [bne_iff_ne]; omega
  have h5 := shl_ne x (m % 8) hf
  clear hf
  go_enter Tryd.func65, Tryd.ntmps65
  go_wp2
  go_ret2
  exact ⟨rfl, rfl⟩

/-- A new reader of the bits bs has been made; nothing that was there has turned. -/
def Made (w : World) (bs : List Bool) (e : Ending) (w' : World) : Prop :=
  ∃ r p, e = .returned (.tuple #[.pointer (some ⟨r, 0, none⟩), .int .i64 0]) ∧ RIs w' r p bs 0 ∧ Below w.heap.size w w' ∧ w.heap.size ≤ r ∧ w.heap.size ≤ p

theorem made_of {w w1 : World} {bs : List Bool} {n : Nat} (hn : (pack bs).length = n) (hl : bs.length ≤ 33554432) (h1 : w1.heap[w.heap.size]? = some (.cells (u8s (pack bs)).toArray 5 (0, 0))) (h2 : Below w.heap.size w w1) :
    Made w bs (.returned (.tuple #[.pointer (some ⟨w1.heap.size, 0, none⟩), .int .i64 0])) (w1.alloc (.cells #[.slice (some ⟨w.heap.size, 0, none⟩) n n, .int .i64 (bs.length : Int), .int .i64 0] 112)) := by
  subst hn
  refine ⟨w1.heap.size, w.heap.size, rfl, ⟨heap_alloc_new _ _, ?_, Nat.zero_le _, hl⟩, h2.alloc h2.size _, h2.size, Nat.le_refl _⟩
  rw [Below.heap_alloc _ _ _ (heap_lt h1)]; exact h1

set_option maxHeartbeats 800000 in
set_option maxRecDepth 100000 in
theorem nr_whole (w : World) (A : Option Addr) (c : Nat) (bs : List Bool) (hl : bs.length ≤ 33554432) (hu : bs.length % 8 = 0) (h : Reads w A (pack bs).length (u8s (pack bs))) :
    Calls Tryd.prog 65 #[.slice A (pack bs).length c, .int .i64 (bs.length : Int)] w (Made w bs) := by
  have hlp := length_pack bs
  generalize hn : (pack bs).length = n at *
  have hlq : n ≤ 140737488355328 := by omega
  have h0 : ¬ (bs.length : Int) < 0 := by omega
  have h1 : ¬ (33554432 : Int) < (bs.length : Int) := by omega
  have h2 : ¬ (n : Int) < ((bs.length : Int) + 7) / 8 := by omega
  have h3 : ¬ ((bs.length : Int) + 7) / 8 < (n : Int) := by omega
  have h4 : ((bs.length : Int) % 8 != 0) = false := by rw [bne_eq_false_iff_eq]; omega
  have HR := Lib.hid h
  have HN := Lib.hid hn
  clear h hlp hn hu
  go_enter Tryd.func65, Tryd.ntmps65
  go_wp2_with fail
  refine (copyOf_any w A n c (pack bs) HR.out hlq).mono ?_
  rintro e w1 ⟨rfl, g1, g2⟩
  have H1 := Lib.hid g1
  clear g1
  go_wp2
  go_ret2
  exact made_of HN.out hl H1.out g2

set_option maxHeartbeats 800000 in
set_option maxRecDepth 100000 in
theorem nr_part (w : World) (ad : Addr) (n c x : Nat) (bs : List Bool) (hl : bs.length ≤ 33554432) (hu : bs.length % 8 ≠ 0) (hn : n + 1 = (pack bs).length) (h : Reads w (some ad) (n + 1) (u8s (pack bs)))
    (hx : w.cell? (ad.add n) = some (.int .u8 (x : Int))) (hf : x * 2 ^ (bs.length % 8) % 256 = 0) :
    Calls Tryd.prog 65 #[.slice (some ad) (n + 1) c, .int .i64 (bs.length : Int)] w (Made w bs) := by
  have hlp := length_pack bs
  have hlq : n + 1 ≤ 140737488355328 := by omega
  have h0 : ¬ (bs.length : Int) < 0 := by omega
  have h1 : ¬ (33554432 : Int) < (bs.length : Int) := by omega
  have h2 : ((bs.length : Int) + 7) / 8 = n + 1 := by omega
  have h4 : ((bs.length : Int) % 8 != 0) = true := by rw [bne_iff_ne]; omega
  have h5 := shl_eq x (bs.length % 8) hf
  have HR := Lib.hid h
  have HN := Lib.hid hn
  clear h hlp hn hu hf
  go_enter Tryd.func65, Tryd.ntmps65
  go_wp2_with fail
  refine (copyOf_any w (some ad) (n + 1) c (pack bs) HR.out hlq).mono ?_
  rintro e w1 ⟨rfl, g1, g2⟩
  have H1 := Lib.hid g1
  clear g1
  go_wp2
  go_ret2
  exact made_of HN.out.symm hl H1.out g2
end Go.Proofs.YtjbfgajognnmiaaDoor

/- Plain facts on bits and bytes, continued: a byte form spells its bits, and which bytes are one. -/
namespace Go.Proofs.YtjbfgajognnmiaaDoor

theorem byte_free (bs : List Bool) : byteAt bs (bs.length / 8) % 2 ^ (8 - bs.length % 8) = 0 := by
  have hlen : bs.length = 8 * (bs.length / 8) + bs.length % 8 := by omega
  have hu : bs.length % 8 < 8 := by omega
  generalize hk : bs.length / 8 = k at *
  generalize hq : bs.length % 8 = u at *
  simp only [byteAt_eq]
  have z : ∀ i, bs.length ≤ i → bs.getD i false = false := getD_over bs
  rcases (by omega : u = 0 ∨ u = 1 ∨ u = 2 ∨ u = 3 ∨ u = 4 ∨ u = 5 ∨ u = 6 ∨ u = 7) with h | h | h | h | h | h | h | h
  · rw [z (8 * k) (by omega), z (8 * k + 1) (by omega), z (8 * k + 2) (by omega), z (8 * k + 3) (by omega), z (8 * k + 4) (by omega), z (8 * k + 5) (by omega), z (8 * k + 6) (by omega), z (8 * k + 7) (by omega), h]; simp
  · rw [z (8 * k + 1) (by omega), z (8 * k + 2) (by omega), z (8 * k + 3) (by omega), z (8 * k + 4) (by omega), z (8 * k + 5) (by omega), z (8 * k + 6) (by omega), z (8 * k + 7) (by omega), h]; simp
  · rw [z (8 * k + 2) (by omega), z (8 * k + 3) (by omega), z (8 * k + 4) (by omega), z (8 * k + 5) (by omega), z (8 * k + 6) (by omega), z (8 * k + 7) (by omega), h]; simp; omega
  · rw [z (8 * k + 3) (by omega), z (8 * k + 4) (by omega), z (8 * k + 5) (by omega), z (8 * k + 6) (by omega), z (8 * k + 7) (by omega), h]; simp; omega
  · rw [z (8 * k + 4) (by omega), z (8 * k + 5) (by omega), z (8 * k + 6) (by omega), z (8 * k + 7) (by omega), h]; simp; omega
  · rw [z (8 * k + 5) (by omega), z (8 * k + 6) (by omega), z (8 * k + 7) (by omega), h]; simp; omega
  · rw [z (8 * k + 6) (by omega), z (8 * k + 7) (by omega), h]; simp; omega
  · rw [z (8 * k + 7) (by omega), h]; simp; omega

theorem shift_out (x u : Nat) (hu : u < 8) : x * 2 ^ u % 256 = 0 ↔ x % 2 ^ (8 - u) = 0 := by
  rcases (by omega : u = 0 ∨ u = 1 ∨ u = 2 ∨ u = 3 ∨ u = 4 ∨ u = 5 ∨ u = 6 ∨ u = 7) with h | h | h | h | h | h | h | h <;> subst h <;> simp <;> omega

/-- The bit that has i bits before it, out of its byte. -/
theorem bit_of_byte (bs : List Bool) (i : Nat) : byteAt bs (i / 8) / 2 ^ (7 - i % 8) % 2 = (bs.getD i false).toNat := by
  have hi : i = 8 * (i / 8) + i % 8 := by omega
  have hu : i % 8 < 8 := by omega
  generalize hk : i / 8 = k at *
  generalize hq : i % 8 = u at *
  subst hi
  rw [byteAt_eq]
  have h0 := bit_le (bs.getD (8 * k) false); have h1 := bit_le (bs.getD (8 * k + 1) false); have h2 := bit_le (bs.getD (8 * k + 2) false); have h3 := bit_le (bs.getD (8 * k + 3) false)
  have h4 := bit_le (bs.getD (8 * k + 4) false); have h5 := bit_le (bs.getD (8 * k + 5) false); have h6 := bit_le (bs.getD (8 * k + 6) false); have h7 := bit_le (bs.getD (8 * k + 7) false)
  rcases (by omega : u = 0 ∨ u = 1 ∨ u = 2 ∨ u = 3 ∨ u = 4 ∨ u = 5 ∨ u = 6 ∨ u = 7) with h | h | h | h | h | h | h | h <;> subst h <;> simp [-List.getD_eq_getElem?_getD] <;> omega

/-- The first m bits of bytes. -/
def unpack (xs : List Nat) (m : Nat) : List Bool := (List.range m).map fun i => (xs.getD (i / 8) 0).testBit (7 - i % 8)
theorem length_unpack (xs : List Nat) (m : Nat) : (unpack xs m).length = m := by simp [unpack]
theorem getD_unpack (xs : List Nat) (m i : Nat) : (unpack xs m).getD i false = if i < m then (xs.getD (i / 8) 0).testBit (7 - i % 8) else false := by
  simp only [unpack, List.getD_eq_getElem?_getD, List.getElem?_map]
  by_cases h : i < m
  · simp [h]
  · rw [if_neg h, List.getElem?_eq_none (by simp; omega)]; rfl

theorem byte_unpack (xs : List Nat) (m k : Nat) (hx : xs.getD k 0 < 256) (h : 8 * k + 8 ≤ m ∨ (8 * k < m ∧ k = m / 8 ∧ xs.getD k 0 % 2 ^ (8 - m % 8) = 0)) : byteAt (unpack xs m) k = xs.getD k 0 := by
  rw [byteAt_eq]
  simp only [getD_unpack]
  rw [show (8 * k) / 8 = k by omega, show (8 * k + 1) / 8 = k by omega, show (8 * k + 2) / 8 = k by omega, show (8 * k + 3) / 8 = k by omega, show (8 * k + 4) / 8 = k by omega, show (8 * k + 5) / 8 = k by omega, show (8 * k + 6) / 8 = k by omega, show (8 * k + 7) / 8 = k by omega,
    show (8 * k) % 8 = 0 by omega, show (8 * k + 1) % 8 = 1 by omega, show (8 * k + 2) % 8 = 2 by omega, show (8 * k + 3) % 8 = 3 by omega, show (8 * k + 4) % 8 = 4 by omega, show (8 * k + 5) % 8 = 5 by omega, show (8 * k + 6) % 8 = 6 by omega, show (8 * k + 7) % 8 = 7 by omega]
  generalize xs.getD k 0 = x at *
  rcases h with h | ⟨h0, h1, h2⟩
  · rw [if_pos (by omega), if_pos (by omega), if_pos (by omega), if_pos (by omega), if_pos (by omega), if_pos (by omega), if_pos (by omega), if_pos (by omega)]
    simp only [Nat.toNat_testBit]
    simp; omega
  · have hu : m % 8 < 8 := by omega
    generalize hq : m % 8 = u at *
    have hm : m = 8 * k + u := by omega
    subst hm
    rcases (by omega : u = 1 ∨ u = 2 ∨ u = 3 ∨ u = 4 ∨ u = 5 ∨ u = 6 ∨ u = 7) with h | h | h | h | h | h | h <;> subst h <;> simp [Nat.toNat_testBit] at h2 ⊢ <;> omega

theorem pack_unpack (xs : List Nat) (m : Nat) (hx : ∀ x ∈ xs, x < 256) (hl : xs.length = (m + 7) / 8) (h : m % 8 = 0 ∨ xs.getD (m / 8) 0 * 2 ^ (m % 8) % 256 = 0) : pack (unpack xs m) = xs := by
  apply List.ext_getElem?
  intro k
  rw [getElem_pack, length_unpack]
  by_cases hk : k < (m + 7) / 8
  · rw [if_pos hk]
    have hd : xs.getD k 0 < 256 := by
      rw [List.getD_eq_getElem?_getD, List.getElem?_eq_getElem (by omega)]
      exact hx _ (List.getElem_mem _)
    rw [byte_unpack xs m k hd (by
      by_cases h8 : 8 * k + 8 ≤ m
      · exact .inl h8
      · have e : k = m / 8 := by omega
        refine .inr ⟨by omega, e, ?_⟩
        rcases h with h | h
        · omega
        · rw [← e] at h; exact (shift_out _ _ (by omega)).1 h)]
    rw [List.getD_eq_getElem?_getD, List.getElem?_eq_getElem (by omega)]; rfl
  · rw [if_neg hk, List.getElem?_eq_none (by omega)]

theorem num_snoc (l : List Bool) (b : Bool) : num (l ++ [b]) = 2 * num l + b.toNat := by simp [num]
theorem num_from (l : List Bool) (a : Nat) : l.foldl (fun a b => 2 * a + b.toNat) a = a * 2 ^ l.length + num l := by
  induction l generalizing a with
  | nil => simp [num]
  | cons b l ih =>
    rw [num, List.foldl_cons, List.foldl_cons, ih, ih, List.length_cons, Nat.pow_succ]
    have : (2 * a + b.toNat) * 2 ^ l.length = a * (2 ^ l.length * 2) + (2 * 0 + b.toNat) * 2 ^ l.length := by
      rw [Nat.add_mul, Nat.mul_comm 2 a, Nat.mul_assoc, Nat.mul_comm 2 (2 ^ l.length)]; simp
    omega
theorem num_cons (b : Bool) (l : List Bool) : num (b :: l) = b.toNat * 2 ^ l.length + num l := by
  rw [num, List.foldl_cons, num_from]; simp
theorem num_append (l m : List Bool) : num (l ++ m) = num l * 2 ^ m.length + num m := by
  rw [num, List.foldl_append, num_from]; rfl
theorem num_lt (l : List Bool) : num l < 2 ^ l.length := by
  induction l with
  | nil => simp [num]
  | cons b l ih =>
    rw [num_cons, List.length_cons, Nat.pow_succ]
    have := bit_le b
    have h : b.toNat * 2 ^ l.length ≤ 1 * 2 ^ l.length := Nat.mul_le_mul_right _ this
    omega
/-- The bits of a value spell it. -/
theorem num_bitsOf (v n : Nat) : num (bitsOf v n) = v % 2 ^ n := by
  induction n with
  | zero => simp [bitsOf, num, Nat.mod_one]
  | succ n ih =>
    have e : bitsOf v (n + 1) = v.testBit n :: bitsOf v n := by
      unfold bitsOf
      rw [List.range_succ_eq_map, List.map_cons, List.map_map]
      congr 1
      apply List.map_congr_left
      intro i _
      simp only [Function.comp]
      congr 1
      omega
    rw [e, num_cons, ih, Nat.toNat_testBit]
    have hl : (bitsOf v n).length = n := by simp [bitsOf]
    rw [hl, Nat.mod_pow_succ]
    rw [Nat.mul_comm]; omega
end Go.Proofs.YtjbfgajognnmiaaDoor

/- Reader.Get, Bit, Left, At, in words of bits. -/
namespace Go.Proofs.YtjbfgajognnmiaaDoor
open Go.RowKit

theorem nr_ok (w : World) (A : Option Addr) (c : Nat) (bs : List Bool) (hl : bs.length ≤ 33554432) (h : Reads w A (pack bs).length (u8s (pack bs))) :
    Calls Tryd.prog 65 #[.slice A (pack bs).length c, .int .i64 (bs.length : Int)] w (Made w bs) := by
  by_cases hu : bs.length % 8 = 0
  · exact nr_whole w A c bs hl hu h
  · have hlp := length_pack bs
    obtain ⟨ad, rfl, hc⟩ := h.2 (by omega)
    have hn : bs.length / 8 + 1 = (pack bs).length := by omega
    have hx : w.cell? (ad.add (bs.length / 8)) = some (.int .u8 (byteAt bs (bs.length / 8) : Nat)) := hc _ _ (by
      simp only [u8s, List.getElem?_map]
      rw [getD_pack _ _ (by omega)]; rfl)
    rw [← hn] at h ⊢
    exact nr_part w ad (bs.length / 8) c (byteAt bs (bs.length / 8)) bs hl hu hn h hx ((shift_out _ _ (by omega)).2 (byte_free bs))

theorem bitAt_val (bs : List Bool) (i : Nat) : bits BinOp.and IntKind.u8 ((byteAt bs (i / 8) : Nat) / 2 ^ (7 - i % 8)) 1 = ((bs.getD i false).toNat : Int) := by
  have hq : byteAt bs (i / 8) / 2 ^ (7 - i % 8) < 256 := Nat.lt_of_le_of_lt (Nat.div_le_self _ _) (byteAt_lt _ _)
  rw [div_cast, show (1 : Int) = ((1 : Nat) : Int) from rfl, u8_and_nat _ 1 hq (by omega), nat_mask1, bit_of_byte]

theorem bitAt_any (w : World) (p i : Nat) (bs : List Bool) (hi : i < bs.length) (hl : bs.length ≤ 33554432) (h : w.heap[p]? = some (.cells (u8s (pack bs)).toArray 5 (0, 0))) :
    Calls Tryd.prog 85 #[.slice (some ⟨p, 0, none⟩) (pack bs).length (pack bs).length, .int .i64 (i : Int)] w fun e w' => e = .returned (.int .u8 ((bs.getD i false).toNat : Int)) ∧ w' = w := by
  have hlp := length_pack bs
  have hx : w.cell? ⟨p, i / 8, none⟩ = some (.int .u8 (byteAt bs (i / 8) : Nat)) := by
    rw [cell_in h]
    simp only [u8s, List.getElem?_toArray, List.getElem?_map]
    rw [getD_pack _ _ (by omega)]; rfl
  have hv := bitAt_val bs i
  generalize hn : (pack bs).length = n at *
  have b1 : (i : Int) / 8 < n := by omega
  have HV := Lib.hid hv
  clear hv hlp hn h
  go_enter Tryd.func85, Tryd.ntmps85
  go_wp2
  go_ret
  exact ⟨congrArg (fun z => Ending.returned (.int .u8 z)) HV.out, rfl⟩

theorem bitAt_add (w : World) (p k j : Nat) (bs : List Bool) (hi : k + j < bs.length) (hl : bs.length ≤ 33554432) (h : w.heap[p]? = some (.cells (u8s (pack bs)).toArray 5 (0, 0))) :
    Calls Tryd.prog 85 #[.slice (some ⟨p, 0, none⟩) (pack bs).length (pack bs).length, .int .i64 ((k : Int) + (j : Int))] w fun e w' => e = .returned (.int .u8 ((bs.getD (k + j) false).toNat : Int)) ∧ w' = w := by
  have := bitAt_any w p (k + j) bs hi hl h
  rwa [Int.natCast_add] at this

theorem get_width (w : World) (r : Nat) (n : Int) (h : n < 0 ∨ 64 < n) :
    Calls Tryd.prog 77 #[.pointer (some ⟨r, 0, none⟩), .int .i64 n] w fun e w' => e = .returned (.tuple #[.int .u64 0, .int .i64 2]) ∧ w = w' := by
  rcases h with h | h
  · go_enter Tryd.func77, Tryd.ntmps77
    go_wp2
    go_ret2
    exact ⟨rfl, rfl⟩
  · have h0 : ¬ n < 0 := by omega
    go_enter Tryd.func77, Tryd.ntmps77
    go_wp2
    go_ret2
    exact ⟨rfl, rfl⟩

theorem get_end (w : World) (r p : Nat) (bs : List Bool) (k n : Nat) (h : RIs w r p bs k) (hn : n ≤ 64) (he : bs.length - k < n) :
    Calls Tryd.prog 77 #[.pointer (some ⟨r, 0, none⟩), .int .i64 n] w fun e w' => e = .returned (.tuple #[.int .u64 0, .int .i64 4]) ∧ Same w w w' := by
  have h0 : ¬ (n : Int) < 0 := by omega
  have h1 : ¬ (64 : Int) < (n : Int) := by omega
  have c1 : w.cell? ⟨r, 1, none⟩ = some (.int .i64 (bs.length : Int)) := by rw [cell_in h.blk]; rfl
  have c2 : w.cell? ⟨r, 2, none⟩ = some (.int .i64 (k : Int)) := by rw [cell_in h.blk]; rfl
  have hs := h.size
  have hk := h.le
  have h2 : (bs.length : Int) - k < n := by omega
  have e1 : IntKind.i64.wrap ((bs.length : Int) - k) = (bs.length : Int) - k := IntWalk.i64_in _ (by omega)
  clear h
  go_enter Tryd.func77, Tryd.ntmps77
  go_wp2
  go_quiet (fail)
  go_wp2
  go_ret2
  exact ⟨rfl, rfl, rfl, rfl, rfl⟩

theorem same_cell {w w' : World} (h : Same w w w') (a : Addr) : w'.cell? a = w.cell? a := World.cell?_of_block (by rw [h.heap])
theorem same_frozen {w w' : World} (h : Same w w w') (a : Addr) : w'.frozen? a = w.frozen? a := World.frozen?_of_block (by rw [h.heap])

theorem or_step (x : Nat) (hx : x < 9223372036854775808) (b : Bool) : bits BinOp.or IntKind.u64 (IntKind.u64.wrap ((x : Int) * 2)) (IntKind.u64.wrap (b.toNat : Int)) = ((2 * x + b.toNat : Nat) : Int) := by
  have hb := bit_le b
  have e1 : IntKind.u64.wrap ((x : Int) * 2) = ((2 * x : Nat) : Int) := by simp [IntKind.wrap, IntKind.bits, IntKind.signed]; omega
  have e2 : IntKind.u64.wrap (b.toNat : Int) = ((b.toNat : Nat) : Int) := by simp [IntKind.wrap, IntKind.bits, IntKind.signed]; omega
  rw [e1, e2, u64_or_nat _ _ (by omega) (by omega), nat_join 1 _ _ (by omega) (by omega)]
theorem step_val (bs : List Bool) (k j : Nat) (h : k + j < bs.length) (hj : j < 64) :
    Value.int IntKind.u64 (bits BinOp.or IntKind.u64 (IntKind.u64.wrap ((num ((bs.drop k).take j) : Nat) * 2)) (IntKind.u64.wrap ((bs[k + j]?.getD false).toNat : Int))) = .int .u64 (num ((bs.drop k).take (j + 1)) : Nat) := by
  have hl : num ((bs.drop k).take j) < 9223372036854775808 := by
    have h1 := num_lt ((bs.drop k).take j)
    have h2 : 2 ^ ((bs.drop k).take j).length ≤ 2 ^ 63 := Nat.pow_le_pow_right (by omega) (by simp; omega)
    omega
  rw [or_step _ hl]
  rw [List.take_succ_eq_append_getElem (by simp; omega), num_snoc]
  simp [List.getElem_drop, List.getElem?_eq_getElem h]
theorem RIs.ne_ {w : World} {r p : Nat} {bs : List Bool} {k : Nat} (h : RIs w r p bs k) : p ≠ r := by
  rintro rfl
  have h1 := h.blk
  rw [h.row] at h1
  injection h1 with h1
  injection h1 with _ ht
  exact absurd ht (by decide)

def GetAt (w : World) (bs : List Bool) (k n : Nat) (i v : Value) (wr : World) : Prop :=
  ∃ j : Nat, j ≤ n ∧ i = .int .i64 j ∧ v = .int .u64 (num ((bs.drop k).take j) : Nat) ∧ Same w w wr

set_option maxHeartbeats 800000 in
set_option maxRecDepth 100000 in
theorem get_ok (w : World) (r p : Nat) (bs : List Bool) (k n : Nat) (h : RIs w r p bs k) (hn : n ≤ 64) (he : k + n ≤ bs.length) :
    Calls Tryd.prog 77 #[.pointer (some ⟨r, 0, none⟩), .int .i64 n] w fun e w' => e = .returned (.tuple #[.int .u64 (num ((bs.drop k).take n) : Nat), .int .i64 0]) ∧ RIs w' r p bs (k + n) ∧ w.grownBy w' (some r) := by
  have h0 : ¬ (n : Int) < 0 := by omega
  have h1 : ¬ (64 : Int) < (n : Int) := by omega
  have c0 : w.cell? ⟨r, 0, none⟩ = some (.slice (some ⟨p, 0, none⟩) (pack bs).length (pack bs).length) := by rw [cell_in h.blk]; rfl
  have c1 : w.cell? ⟨r, 1, none⟩ = some (.int .i64 (bs.length : Int)) := by rw [cell_in h.blk]; rfl
  have c2 : w.cell? ⟨r, 2, none⟩ = some (.int .i64 (k : Int)) := by rw [cell_in h.blk]; rfl
  have f2 := frozen_in h.blk 2
  have hs := h.size
  have hk := h.le
  have h2 : ¬ (bs.length : Int) - k < n := by omega
  have h3 : decide ((bs.length : Int) - k < n) = false := by simp; omega
  have e1 : IntKind.i64.wrap ((bs.length : Int) - k) = (bs.length : Int) - k := IntWalk.i64_in _ (by omega)
  have HR := Lib.hid h
  clear h
  go_enter Tryd.func77, Tryd.ntmps77
  go_wp2
  go_quiet (fail)
  go_wp2
  clear e1
  go_loopw [28, 6] (GetAt w bs k n) (fun i _ _ => n - (intOf i).toNat)
  case atStart => exact ⟨0, Nat.zero_le _, rfl, by simp [num], rfl, rfl, rfl, rfl⟩
  case round =>
    obtain ⟨j, hj, rfl, rfl, hsame⟩ := hrel
    have d0 : wr.cell? ⟨r, 0, none⟩ = some (.slice (some ⟨p, 0, none⟩) (pack bs).length (pack bs).length) := (same_cell hsame _).trans c0
    have d2 : wr.cell? ⟨r, 2, none⟩ = some (.int .i64 (k : Int)) := (same_cell hsame _).trans c2
    have g2 : wr.frozen? ⟨r, 2, none⟩ = false := (same_frozen hsame _).trans f2
    have HP := Lib.hid (show wr.heap[p]? = some (.cells (u8s (pack bs)).toArray 5 (0, 0)) by rw [hsame.heap]; exact HR.out.row)
    have HS := Lib.hid hsame
    clear hsame c0 c1 c2 f2
    by_cases hlt : j < n
    · have e1 : IntKind.i64.wrap ((k : Int) + j) = (k : Int) + j := IntWalk.i64_in _ (by omega)
      go_wp2_with fail
      go_quiet ((go_at_call 85; exact Calls.quiet_of_same (bitAt_add _ p k j bs (by omega) (by omega) HP.out)))
      clear e1
      go_wp2
      refine ⟨⟨j + 1, by omega, by go_num, ?_, ⟨HS.out.heap, HS.out.os, HS.out.tape, HS.out.output⟩⟩, by simp [intOf]; omega⟩
      rw [step_val bs k j (by omega) (by omega)]
    · go_wp2
      go_ret2
      have hjn : j = n := by omega
      subst hjn
      have hb : wr.heap[r]? = some (.cells #[.slice (some ⟨p, 0, none⟩) (pack bs).length (pack bs).length, .int .i64 (bs.length : Int), .int .i64 (k : Int)] 112 (0, 0)) := by rw [HS.out.heap]; exact HR.out.blk
      refine ⟨rfl, ⟨?_, ?_, by omega, hs⟩, HS.out.os, HS.out.tape, HS.out.output, ?_, ?_⟩
      · rw [heap_set hb]; simp
      · have hpr : p ≠ r := HR.out.ne_
        exact heap_far HP.out (p := ⟨r, 2, none⟩) hpr _
      · show w.heap.size ≤ (wr.setCell _ _).heap.size
        simp [HS.out.heap]
      · intro q hq hqr
        rw [Below.heap_setCell _ _ _ _ (by rintro rfl; exact hqr rfl), HS.out.heap]
end Go.Proofs.YtjbfgajognnmiaaDoor

/- What a writer and a reader hold is kept by calls that do not touch them. -/
namespace Go.Proofs.YtjbfgajognnmiaaDoor
open Go.RowKit

theorem get_one (w : World) (r p : Nat) (bs : List Bool) (k : Nat) (h : RIs w r p bs k) (he : k < bs.length) :
    Calls Tryd.prog 77 #[.pointer (some ⟨r, 0, none⟩), .int .i64 1] w fun e w' => e = .returned (.tuple #[.int .u64 ((bs.getD k false).toNat : Nat), .int .i64 0]) ∧ RIs w' r p bs (k + 1) ∧ w.grownBy w' (some r) := by
  have := get_ok w r p bs k 1 h (by omega) (by omega)
  rwa [show num ((bs.drop k).take 1) = (bs.getD k false).toNat by
    rw [List.take_succ_eq_append_getElem (by simp; omega), num_snoc]
    simp [num, List.getElem?_eq_getElem he]] at this

section
variable {w w' : World} {B g : Nat} {v : Value} {bs : List Bool} {r p k : Nat}
theorem WIs.lt (h : WIs w B g v bs) : g < w.heap.size := heap_lt h.blk
theorem RIs.lt (h : RIs w r p bs k) : r < w.heap.size := heap_lt h.blk
theorem RIs.lt' (h : RIs w r p bs k) : p < w.heap.size := heap_lt h.row
/-- A writer is kept where its two blocks are. -/
theorem WIs.keep (h : WIs w B g v bs) (hg : w'.heap[g]? = w.heap[g]?) (hv : ∀ q, v.ownBlock = some q → w'.heap[q]? = w.heap[q]?) : WIs w' B g v bs := by
  refine ⟨hg.trans h.blk, h.row.1, ?_⟩
  rcases h.row.2 with h2 | ⟨q, cap, cur, rfl, hq, hh, rest⟩
  · exact .inl h2
  · exact .inr ⟨q, cap, cur, rfl, hq, (hv q rfl).trans hh, rest⟩
theorem WIs.below (h : WIs w B g v bs) (hb : Below w.heap.size w w') : WIs w' B g v bs := h.keep (hb.block g h.lt) (fun q hq => hb.block q (h.row.lt q hq).2)
theorem WIs.same (h : WIs w B g v bs) (hb : Same w w w') : WIs w' B g v bs := h.keep (by rw [hb.heap]) (fun q _ => by rw [hb.heap])
theorem WIs.grown (h : WIs w B g v bs) (hb : w.grownBy w' (some r)) (h1 : g ≠ r) (h2 : v.ownBlock ≠ some r) : WIs w' B g v bs :=
  h.keep (hb.block g h.lt (fun e => h1 (by injection e))) (fun q hq => hb.block q (h.row.lt q hq).2 (fun e => h2 (by rw [hq, e])))
theorem RIs.below (h : RIs w r p bs k) (hb : Below w.heap.size w w') : RIs w' r p bs k :=
  ⟨(hb.block r h.lt).trans h.blk, (hb.block p h.lt').trans h.row, h.le, h.size⟩
theorem RIs.same (h : RIs w r p bs k) (hb : Same w w w') : RIs w' r p bs k := ⟨by rw [hb.heap]; exact h.blk, by rw [hb.heap]; exact h.row, h.le, h.size⟩
theorem RIs.kept (h : RIs w r p bs k) (hb : Kept w w' g v) (h1 : r ≠ g) (h2 : p ≠ g) (h3 : v.ownBlock ≠ some r) (h4 : v.ownBlock ≠ some p) : RIs w' r p bs k :=
  ⟨(hb.block r h.lt h1 (fun e => h3 e.symm)).trans h.blk, (hb.block p h.lt' h2 (fun e => h4 e.symm)).trans h.row, h.le, h.size⟩
theorem Same.below (h : Same w w w') : Below B w w' := ⟨h.os, h.tape, h.output, by rw [h.heap]; exact Nat.le_refl _, fun _ _ => by rw [h.heap]⟩
theorem grown_below (h : w.grownBy w' (some r)) (hB : B ≤ w.heap.size) (hr : B ≤ r) : Below B w w' := (Below.refl B w).grown h hB (fun q e => by injection e with e; omega)
/-- A new writer. -/
theorem WIs.new (w : World) (B : Nat) : WIs (w.alloc (.cells #[.slice none 0 0, .int .i64 0] 81)) B w.heap.size (.slice none 0 0) [] :=
  ⟨heap_alloc_new _ _, World.ownsRow_nil _ _ _ _⟩
end
end Go.Proofs.YtjbfgajognnmiaaDoor

/- Plain facts on binary digits and on the gamma code. -/
namespace Go.Proofs.YtjbfgajognnmiaaDoor

theorem digits_lt (n : Nat) : n < 2 ^ bitLen n := (bitLen_spec n).1
theorem digits_le (n k : Nat) (h : n < 2 ^ k) : bitLen n ≤ k := by
  by_cases h0 : n = 0
  · subst h0; simp [bitLen]
  · have h1 := (bitLen_spec n).2 h0
    by_cases hk : bitLen n ≤ k
    · exact hk
    · exact absurd (Nat.lt_of_le_of_lt h1 h) (Nat.not_lt.2 (Nat.pow_le_pow_right (by omega) (by omega)))
theorem digits_pos (n : Nat) (h : n ≠ 0) : 1 ≤ bitLen n := by simp [bitLen, h]
theorem digits_ge (n k : Nat) (h : 2 ^ k ≤ n) : k < bitLen n := by
  by_cases hk : k < bitLen n
  · exact hk
  · exact absurd (Nat.lt_of_lt_of_le (digits_lt n) (Nat.pow_le_pow_right (by omega : 0 < 2) (by omega : bitLen n ≤ k))) (Nat.not_lt.2 h)
theorem digits_is (n k : Nat) (h : 2 ^ k ≤ n) (h' : n < 2 ^ (k + 1)) : bitLen n = k + 1 := by
  have := digits_ge n k h
  have := digits_le n (k + 1) h'
  omega
theorem digits_half (n : Nat) (h : n ≠ 0) : bitLen n = bitLen (n / 2) + 1 := by
  by_cases h1 : n / 2 = 0
  · have : n = 1 := by omega
    subst this; decide
  · rw [bitLen_shift n 1 (by simpa using h1), Nat.pow_one]; omega
theorem digits_mono (a b : Nat) (h : a ≤ b) : bitLen a ≤ bitLen b := digits_le a _ (Nat.lt_of_le_of_lt h (digits_lt b))
theorem digits_step (n : Nat) : ∃ k, bitLen (n + 1) = k + 1 ∧ 2 ^ k ≤ n + 1 ∧ n + 1 < 2 ^ (k + 1) := by
  refine ⟨bitLen (n + 1) - 1, ?_, (bitLen_spec (n + 1)).2 (by omega), ?_⟩
  · have := digits_pos (n + 1) (by omega); omega
  · have := digits_pos (n + 1) (by omega)
    rw [show bitLen (n + 1) - 1 + 1 = bitLen (n + 1) by omega]
    exact digits_lt _

theorem bitsOf_zero (n : Nat) : bitsOf 0 n = List.replicate n false := by
  unfold bitsOf
  rw [List.eq_replicate_iff]
  refine ⟨by simp, fun b hb => ?_⟩
  obtain ⟨i, _, rfl⟩ := List.mem_map.1 hb
  simp
theorem bitsOf_succ (v n : Nat) : bitsOf v (n + 1) = v.testBit n :: bitsOf v n := by
  unfold bitsOf
  rw [List.range_succ_eq_map, List.map_cons, List.map_map]
  refine congr (congrArg List.cons (by simp)) ?_
  apply List.map_congr_left
  intro i hi
  have := List.mem_range.1 hi
  simp only [Function.comp]
  rw [show n + 1 - 1 - Nat.succ i = n - 1 - i by omega]
theorem bitsOf_head (v n : Nat) (h : 2 ^ n ≤ v) (h' : v < 2 ^ (n + 1)) : bitsOf v (n + 1) = true :: bitsOf v n := by
  rw [bitsOf_succ]
  congr 1
  rw [Nat.testBit_eq_decide_div_mod_eq]
  have : v / 2 ^ n = 1 := by
    rw [Nat.pow_succ] at h'
    have := Nat.div_lt_of_lt_mul (show v < 2 ^ n * 2 by omega)
    have := (Nat.le_div_iff_mul_le (Nat.two_pow_pos n)).2 (show 1 * 2 ^ n ≤ v by omega)
    omega
  simp [this]

/-- The gamma code of n. -/
def gamma (n : Nat) : List Bool := List.replicate (bitLen (n + 1) - 1) false ++ bitsOf (n + 1) (bitLen (n + 1))
theorem length_gamma (n : Nat) : (gamma n).length = 2 * bitLen (n + 1) - 1 := by
  have := digits_pos (n + 1) (by omega)
  simp [gamma, length_bitsOf]; omega
theorem gamma_small (n : Nat) (h : n ≤ 4294967296) : bitLen (n + 1) ≤ 33 := digits_le _ _ (by omega)
theorem gamma_eq (n k : Nat) (hk : bitLen (n + 1) = k + 1) : gamma n = List.replicate k false ++ true :: bitsOf (n + 1) k := by
  obtain ⟨j, h1, h2, h3⟩ := digits_step n
  obtain rfl : j = k := by omega
  rw [gamma, h1, bitsOf_head _ _ h2 h3, Nat.add_sub_cancel]
theorem gamma_back (n k : Nat) (hk : bitLen (n + 1) = k + 1) : 2 ^ k + num (bitsOf (n + 1) k) = n + 1 := by
  obtain ⟨j, h1, h2, h3⟩ := digits_step n
  obtain rfl : j = k := by omega
  rw [num_bitsOf]
  have : (n + 1) % 2 ^ j = n + 1 - 2 ^ j := by
    rw [Nat.pow_succ] at h3
    rw [Nat.mod_eq_sub_mod h2, Nat.mod_eq_of_lt (by omega)]
  omega
end Go.Proofs.YtjbfgajognnmiaaDoor
