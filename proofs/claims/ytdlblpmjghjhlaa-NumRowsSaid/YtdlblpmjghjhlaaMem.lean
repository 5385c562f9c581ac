/- Words for memory and for bits: what a writer's and a reader's struct hold, and what a call may have turned. -/
import Derived.Test.YtdlblpmjghjhlaaRows
import Derived.WalkKit
import Derived.Deep.AppendLies
import Derived.Deep.Draws
namespace Go.Proofs.Ytdlblpmjghjhlaa
open Go.RowKit

/-- The number that bits spell, the most significant one first. -/
def num (l : List Bool) : Nat := l.foldl (fun a b => 2 * a + b.toNat) 0
/-- The n lowest bits of v, the most significant one first. -/
def bitsOf (v n : Nat) : List Bool := (List.range n).map fun i => v.testBit (n - 1 - i)
/-- Byte k of a byte form. -/
def byteAt (bs : List Bool) (k : Nat) : Nat := num ((List.range 8).map fun j => bs.getD (8 * k + j) false)
/-- The byte form. -/
def pack (bs : List Bool) : List Nat := (List.range ((bs.length + 7) / 8)).map (byteAt bs)
def u8s (xs : List Nat) : List Value := xs.map fun (n : Nat) => Value.int .u8 (n : Int)

theorem length_pack (bs : List Bool) : (pack bs).length = (bs.length + 7) / 8 := by simp [pack]
theorem length_u8s (xs : List Nat) : (u8s xs).length = xs.length := by simp [u8s]

/-- Only block g, the block of v's row, and what is new, may have turned. -/
structure Kept (w w' : World) (g : Nat) (v : Value) : Prop where
  os : w'.os = w.os
  tape : w'.tape = w.tape
  output : w'.output = w.output
  size : w.heap.size ≤ w'.heap.size
  block : ∀ k, k < w.heap.size → k ≠ g → some k ≠ v.ownBlock → w'.heap[k]? = w.heap[k]?

/-- The row of v' is that of v, or a new one. -/
def Moved (w : World) (v v' : Value) : Prop := v'.ownBlock = v.ownBlock ∨ ∃ k, v'.ownBlock = some k ∧ w.heap.size ≤ k

/-- A writer's struct lies in block g and holds the bits bs; its bytes are the row of v, at B or above. -/
structure WIs (w : World) (B g : Nat) (v : Value) (bs : List Bool) : Prop where
  blk : w.heap[g]? = some (.cells #[v, .int .i64 (bs.length : Int)] 27 (0, 0))
  row : w.ownsRow B 5 1 v (pack bs).length (u8s (pack bs))

/-- A reader's struct lies in block r and holds the bits bs, of which k are read; its bytes lie in block p. -/
structure RIs (w : World) (r p : Nat) (bs : List Bool) (k : Nat) : Prop where
  blk : w.heap[r]? = some (.cells #[.slice (some ⟨p, 0, none⟩) (pack bs).length (pack bs).length, .int .i64 (bs.length : Int), .int .i64 (k : Int)] 71 (0, 0))
  row : w.heap[p]? = some (.cells (u8s (pack bs)).toArray 5 (0, 0))
  le : k ≤ bs.length
  size : bs.length ≤ 33554432

theorem heap_lt {w : World} {g : Nat} {o : Obj} (h : w.heap[g]? = some o) : g < w.heap.size := (Array.getElem?_eq_some_iff.1 h).1

section
variable {w w' w'' : World} {B g : Nat} {v v' v'' : Value}
theorem Kept.refl (w : World) (g : Nat) (v : Value) : Kept w w g v := ⟨rfl, rfl, rfl, Nat.le_refl _, fun _ _ _ _ => rfl⟩
theorem Moved.refl (w : World) (v : Value) : Moved w v v := .inl rfl
theorem Kept.trans (h : Kept w w' g v) (m : Moved w v v') (k : Kept w' w'' g v') : Kept w w'' g v :=
  ⟨k.os.trans h.os, k.tape.trans h.tape, k.output.trans h.output, Nat.le_trans h.size k.size, fun i hi hg hv => by
    refine (k.block i (Nat.lt_of_lt_of_le hi h.size) hg ?_).trans (h.block i hi hg hv)
    rcases m with m | ⟨j, m, hj⟩
    · rw [m]; exact hv
    · rw [m]; intro e; injection e with e; omega⟩
theorem Moved.trans (h : Kept w w' g v) (m : Moved w v v') (k : Moved w' v' v'') : Moved w v v'' := by
  rcases k with k | ⟨j, k, hj⟩
  · rcases m with m | ⟨i, m, hi⟩
    · exact .inl (k.trans m)
    · exact .inr ⟨i, k.trans m, hi⟩
  · exact .inr ⟨j, k, Nat.le_trans h.size hj⟩
theorem Kept.below (h : Kept w w' g v) (hg : B ≤ g) (hB : B ≤ w.heap.size) (hv : ∀ k, v.ownBlock = some k → B ≤ k) : Below B w w' :=
  ⟨h.os, h.tape, h.output, h.size, fun k hk => h.block k (by omega) (by omega) (fun e => by have := hv k e.symm; omega)⟩
theorem Kept.of_below (h : Below w.heap.size w w') : Kept w w' g v := ⟨h.os, h.tape, h.output, h.size, fun k hk _ _ => h.block k hk⟩
end

theorem WIs.own_ge {w : World} {B g : Nat} {v : Value} {bs : List Bool} (h : WIs w B g v bs) : ∀ k, v.ownBlock = some k → B ≤ k := fun k e => (h.row.lt k e).1
theorem WIs.own_ne {w : World} {B g : Nat} {v : Value} {bs : List Bool} (h : WIs w B g v bs) : v.ownBlock ≠ some g := by
  rcases h.row.2 with ⟨rfl, _⟩ | ⟨p, cap, cur, rfl, _, hh, _⟩
  · simp [Value.ownBlock]
  · intro e
    have e' : p = g := by simpa [Value.ownBlock] using e
    subst e'
    have := h.blk
    rw [hh] at this
    injection this with this
    injection this with _ ht
    exact absurd ht (by decide)
theorem cell_in {w : World} {g : Nat} {cs : Array Value} {t : TypeId} (h : w.heap[g]? = some (.cells cs t (0, 0))) (i : Nat) : w.cell? ⟨g, i, none⟩ = cs[i]? := cell_of_row w g i cs t (0, 0) h
theorem frozen_in {w : World} {g : Nat} {cs : Array Value} {t : TypeId} (h : w.heap[g]? = some (.cells cs t (0, 0))) (i : Nat) : w.frozen? ⟨g, i, none⟩ = false := by
  simp [World.frozen?, h]
theorem heap_set {w : World} {g : Nat} {cs : Array Value} {t : TypeId} (h : w.heap[g]? = some (.cells cs t (0, 0))) (i : Nat) (u : Value) :
    (w.setCell ⟨g, i, none⟩ u).heap[g]? = some (.cells (cs.setIfInBounds i u) t (0, 0)) := by
  simp [World.setCell, Array.getElem?_modify, h]
theorem heap_far {w : World} {g : Nat} {o : Obj} (h : w.heap[g]? = some o) {p : Addr} (hp : g ≠ p.block) (u : Value) : (w.setCell p u).heap[g]? = some o :=
  (Below.heap_setCell w p u g hp).trans h
theorem ownsRow_far {w : World} {base : Nat} {e : TypeId} {size : Nat} {v : Value} {n : Nat} {xs : List Value} (h : w.ownsRow base e size v n xs) {p : Addr} (hp : v.ownBlock ≠ some p.block) (u : Value) : (w.setCell p u).ownsRow base e size v n xs := by
  obtain ⟨h1, h2⟩ := h
  refine ⟨h1, ?_⟩
  rcases h2 with h2 | ⟨g, cap, cur, rfl, hg, hh, r⟩
  · exact .inl h2
  · exact .inr ⟨g, cap, cur, rfl, hg, by rw [Below.heap_setCell _ _ _ _ (by intro e; exact hp (by rw [← e]; rfl))]; exact hh, r⟩
end Go.Proofs.Ytdlblpmjghjhlaa
