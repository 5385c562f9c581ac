/- Layer 8: parts, as plain lists. -/
import Derived.Test.YtfdoemebongdbaaSouVert
namespace Go.Proofs.Ytfdoemebongdbaa
open Go.RowKit

/-- Where each number below M stands among the first k of vs (0: it is not there). -/
def toL (M : Nat) (vs : List Int) (k : Nat) : List Int := (List.range M).map fun (v : Nat) => if (vs.take k).contains (v : Int) then ((vs.idxOf (v : Int) : Nat) : Int) else 0
theorem toL_len (M : Nat) (vs : List Int) (k : Nat) : (toL M vs k).length = M := by simp [toL]
theorem toL_zero (M : Nat) (vs : List Int) : toL M vs 0 = List.replicate M 0 := by
  unfold toL
  apply List.ext_getElem?; intro i; by_cases h : i < M <;> simp [h]
theorem idxOf_getD {vs : List Int} (hn : vs.Nodup) {k : Nat} (hk : k < vs.length) : vs.idxOf (vs.getD k 0) = k := by
  rw [List.getD_eq_getElem?_getD, List.getElem?_eq_getElem hk]
  exact hn.idxOf_getElem k hk
theorem toL_set (M : Nat) (vs : List Int) (k x : Nat) (hn : vs.Nodup) (hk : k < vs.length) (hx : vs.getD k 0 = (x : Int)) : (toL M vs k).set x (k : Int) = toL M vs (k + 1) := by
  unfold toL
  rw [take_succ_getD vs k hk, hx]
  have hi := idxOf_getD hn hk
  rw [hx] at hi
  apply List.ext_getElem?
  intro i
  by_cases h : i < M
  · by_cases e : x = i
    · subst e; simp [h, hi]
    · have : ¬ ((i : Int) = (x : Int)) := by omega
      simp [e, h, this]
  · simp [h]
theorem toL_full (M : Nat) (vs : List Int) (v : Nat) (hv : v < M) (hm : (v : Int) ∈ vs) : (toL M vs vs.length).getD v 0 = ((vs.idxOf (v : Int) : Nat) : Int) := by
  unfold toL
  simp [hv, hm]
def idxT (vs : List Int) (t : Tr) : Tr := (((vs.idxOf t.1 : Nat) : Int), ((vs.idxOf t.2.1 : Nat) : Int), ((vs.idxOf t.2.2 : Nat) : Int))
/-- The triangles of a part. -/
def partL (l : List Tr) (vs ts : List Int) : List Tr := ts.map fun t => idxT vs (l.getD t.toNat z3)
theorem vertsUp_mem (l : List Tr) (ts : List Int) (M : Nat) (v : Int) : v ∈ vertsUp l ts M ↔ (0 ≤ v ∧ v < M ∧ v ∈ usedOf l ts) := by
  unfold vertsUp
  simp only [List.mem_filter, List.mem_map, List.mem_range, List.contains_iff_mem]
  constructor
  · rintro ⟨⟨a, ha, rfl⟩, h⟩; exact ⟨by omega, by omega, h⟩
  · rintro ⟨h0, h1, h2⟩; exact ⟨⟨v.toNat, by omega, by omega⟩, h2⟩
theorem vertsUp_sorted (l : List Tr) (ts : List Int) (M : Nat) : (vertsUp l ts M).Pairwise (· < ·) := by
  unfold vertsUp
  refine List.Pairwise.filter _ ?_
  rw [List.pairwise_map]
  exact List.pairwise_lt_range.imp (fun h => by omega)
theorem vertsUp_nodup (l : List Tr) (ts : List Int) (M : Nat) : (vertsUp l ts M).Nodup := (vertsUp_sorted l ts M).imp (fun h => by omega)
theorem used_of_mem {l : List Tr} {ts : List Int} {t : Int} (ht : t ∈ ts) : ∀ v ∈ triL (l.getD t.toNat z3), v ∈ usedOf l ts := fun _ hv => List.mem_flatMap.2 ⟨t, ht, hv⟩
/-- Renamed by where its vertices stand, a triangle of the part is what the part tells. -/
theorem ren_idx {M : Nat} {l : List Tr} {ts : List Int} {t : Int} (hf : Fit M l) (ht : t ∈ ts) (hr : 0 ≤ t ∧ t < l.length) : renT (toL M (vertsUp l ts M) (vertsUp l ts M).length) (l.getD t.toNat z3) = idxT (vertsUp l ts M) (l.getD t.toNat z3) := by
  have hok := hf.2.2.2 _ (getD3_mem (show t.toNat < l.length by omega))
  have hu := used_of_mem (l := l) ht
  generalize l.getD t.toNat z3 = x at hok hu
  obtain ⟨x0, x1, x2⟩ := x
  have key : ∀ v : Int, inN M v → v ∈ usedOf l ts → (toL M (vertsUp l ts M) (vertsUp l ts M).length).getD v.toNat 0 = (((vertsUp l ts M).idxOf v : Nat) : Int) := by
    intro v hv hm
    have h0 := hv.1
    have h1 := hv.2
    have e : ((v.toNat : Nat) : Int) = v := by omega
    have := toL_full M (vertsUp l ts M) v.toNat (by omega) (by rw [e]; exact (vertsUp_mem _ _ _ _).2 ⟨h0, h1, hm⟩)
    rw [this, e]
  unfold renT idxT
  rw [key x0 hok.1 (hu _ (by simp [triL])), key x1 hok.2.1 (hu _ (by simp [triL])), key x2 hok.2.2.1 (hu _ (by simp [triL]))]
/-- A row of ints in a block of its own. -/
def RowI (w : World) (q : Nat) (xs : List Int) : Prop := w.heap[q]? = some (.cells (ints xs).toArray 3 (0, 0))
theorem RowI.below {w w' : World} {q : Nat} {xs : List Int} (h : RowI w q xs) (hb : Below w.heap.size w w') : RowI w' q xs := (hb.block q (heap_lt h)).trans h
theorem RowI.set {w : World} {q : Nat} {xs : List Int} (h : RowI w q xs) (k : Nat) (x : Int) : RowI (w.setCell ⟨q, k, none⟩ (.int .i64 x)) q (xs.set k x) := by
  unfold RowI
  rw [heap_set h]
  simp [ints, List.map_set]
theorem RowI.cell {w : World} {q : Nat} {xs : List Int} (h : RowI w q xs) (k : Nat) (hk : k < xs.length) : w.cell? ⟨q, k, none⟩ = some (.int .i64 (xs.getD k 0)) := by
  rw [cell_in h]
  simp [ints, List.getElem?_eq_getElem hk]
theorem RowI.frozen {w : World} {q : Nat} {xs : List Int} (h : RowI w q xs) (k : Nat) : w.frozen? ⟨q, k, none⟩ = false := frozen_in h k
theorem RowI.reads {w : World} {q n : Nat} {xs : List Int} (h : RowI w q xs) (hn : xs.length = n) : Reads w (some ⟨q, 0, none⟩) n (ints xs) := by
  subst hn
  have := Reads.of_block h
  rwa [length_ints] at this
def zerI (n : Nat) : Obj := .cells (madeCells #[.int .i64 0] n) 3
theorem makeI (n : Nat) (hn : n ≤ 1000000) (W : World) : (Instr.makeSlice 29 (.int .i64 (n : Int)) (.int .i64 (n : Int))).run Try.prog W = .ok (.slice (some ⟨W.heap.size, 0, none⟩) n n) (W.alloc (zerI n)) :=
  run_make_row' (P := Try.prog) 29 3 (.int .i64 0) 8 Try.underlying29 Try.infoInt rfl .i64 .i64 n (by omega) (by omega) W
theorem RowI.made (w : World) (n : Nat) : RowI (w.alloc (zerI n)) w.heap.size (List.replicate n 0) := by
  unfold RowI zerI
  rw [heap_alloc_new]
  have : madeCells #[.int .i64 0] n = (ints (List.replicate n 0)).toArray := by
    apply Array.toList_inj.1
    rw [toList_madeCells_one]; simp [ints]
  rw [this]
end Go.Proofs.Ytfdoemebongdbaa
