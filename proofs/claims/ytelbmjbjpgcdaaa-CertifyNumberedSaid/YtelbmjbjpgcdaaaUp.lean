/- Worlds that only grow, step by step; bytes that are made (out of the texts of layer 6). -/
import Derived.Test.YtelbmjbjpgcdaaaBts
import Derived.Deep.RegionHeld3
namespace Go.Proofs.Ytelbmjbjpgcdaaa
open Go.RowKit

/-- Worlds that only grow, step by step. -/
theorem up1 {w x : World} (h : Below w.heap.size w x) (o : Obj) : Below w.heap.size w (x.alloc o) := h.alloc h.size o
theorem up2 {w x y : World} (h : Below w.heap.size w x) (k : Below x.heap.size x y) : Below w.heap.size w y := h.trans (k.mono h.size)
theorem upd {w x : World} (h : Below w.heap.size w x) : Below w.heap.size w x.drew := h.trans (Reading.below ⟨1, rfl⟩)
theorem below_drew {w x : World} (h : Below w.heap.size w.drew x) : Below w.heap.size w x := (Reading.below (w' := w.drew) ⟨1, rfl⟩).trans h

theorem zeros_made (w : World) (L q : Nat) (hq : w.heap.size = q) : Reads (w.alloc (.cells (madeCells #[.int .u8 0] L) 5)) (some ⟨q, 0, none⟩) L (bts (List.replicate L 0)) := by
  subst hq
  have h : (w.alloc (.cells (madeCells #[.int .u8 0] L) 5)).heap[w.heap.size]? = some (.cells (bts (List.replicate L 0)).toArray 5 (0, 0)) := by
    rw [heap_alloc_new, show bts (List.replicate L 0) = List.replicate L (.int .u8 0) by simp [bts], ← toList_madeCells_one]
  have := Reads.of_block h
  rwa [length_bts, List.length_replicate] at this
theorem BRow.reads {w : World} {q n : Nat} {l : List Nat} {rest : List Value} (h : BRow w q l rest) (hn : l.length = n) : Reads w (some ⟨q, 0, none⟩) n (bts l) := by
  subst hn
  exact ⟨length_bts l, fun _ => ⟨_, rfl, fun j u hj => by
    rw [add_zero_addr, cell_in h, List.getElem?_toArray, List.getElem?_append_left (by have := (List.getElem?_eq_some_iff.1 hj).1; exact this)]; exact hj⟩⟩
theorem BRow.below {w w' : World} {q : Nat} {l : List Nat} {rest : List Value} (h : BRow w q l rest) (hb : Below w.heap.size w w') : BRow w' q l rest := (hb.block q (heap_lt h)).trans h
theorem Reads.drew {w : World} {A : Option Addr} {n : Nat} {xs : List Value} (h : Reads w A n xs) : Reads w.drew A n xs := h.read ⟨1, rfl⟩
theorem Reads.of_marked {w : World} {q : Nat} {xs : List Value} {t : TypeId} {fr : Nat × Nat} (h : w.heap[q]? = some (.cells xs.toArray t fr)) : Reads w (some ⟨q, 0, none⟩) xs.length xs :=
  ⟨rfl, fun _ => ⟨_, rfl, fun j u hj => by
    rw [add_zero_addr, cell_of_row w q j xs.toArray t fr h]; simpa using hj⟩⟩
end Go.Proofs.Ytelbmjbjpgcdaaa
