/- Layer 8: slices of triangles that are made and filled; soups that are told. -/
import Derived.Test.YtelbmjbjpgcdaaaSouEq
import Derived.Handy
namespace Go.Proofs.Ytelbmjbjpgcdaaa
open Go.RowKit

/-- A row of triangles in a block of its own. -/
def Row3 (w : World) (q : Nat) (L : List Tr) : Prop := w.heap[q]? = some (.cells (ints (flat3 L)).toArray 41 (0, 0))
theorem ints_at (xs : List Int) (i : Nat) : (ints xs)[i]? = (xs[i]?).map (Value.int .i64) := by simp [ints]
theorem Row3.t3 {w : World} {q : Nat} {L : List Tr} (h : Row3 w q L) : T3 w (some ⟨q, 0, none⟩) L.length L := by
  refine ⟨rfl, fun _ => ⟨q, 0, rfl, fun i hi => ?_⟩⟩
  obtain ⟨a0, a1, a2⟩ := flat3_at L i hi
  rw [cell_in h, cell_in h, cell_in h]
  simp only [List.getElem?_toArray, ints_at, Nat.zero_add, Nat.mul_comm i 3, a0, a1, a2, Option.map_some, and_self]
theorem Row3.below {w w' : World} {q : Nat} {L : List Tr} (h : Row3 w q L) (hb : Below w.heap.size w w') : Row3 w' q L := (hb.block q (heap_lt h)).trans h
theorem flat3_set : ∀ (L : List Tr) (k : Nat) (t : Tr), k < L.length → flat3 (L.set k t) = (((flat3 L).set (k * 3) t.1).set (k * 3 + 1) t.2.1).set (k * 3 + 2) t.2.2
  | x :: L, 0, t, _ => by simp [flat3]
  | x :: L, k + 1, t, h => by
    have e : ∀ M : List Tr, ∀ y : Tr, flat3 (y :: M) = y.1 :: y.2.1 :: y.2.2 :: flat3 M := fun M y => by simp [flat3]
    rw [List.set_cons_succ, e, e, flat3_set L k t (by simpa using h), show (k + 1) * 3 = k * 3 + 1 + 1 + 1 by omega]
    simp only [List.set_cons_succ, show k * 3 + 1 + 1 + 1 + 1 = k * 3 + 1 + 1 + 1 + 1 from rfl, show k * 3 + 1 + 1 + 1 + 2 = (k * 3 + 2) + 1 + 1 + 1 by omega]
theorem ints_set (xs : List Int) (k : Nat) (x : Int) : ints (xs.set k x) = (ints xs).set k (.int .i64 x) := by simp [ints, List.map_set]
theorem Row3.set {w : World} {q k : Nat} {L : List Tr} (h : Row3 w q L) (hk : k < L.length) (a b c : Int) :
    Row3 (((w.setCell ⟨q, k * 3, none⟩ (.int .i64 a)).setCell ⟨q, k * 3 + 1, none⟩ (.int .i64 b)).setCell ⟨q, k * 3 + 2, none⟩ (.int .i64 c)) q (L.set k (a, b, c)) := by
  have := heap_set (heap_set (heap_set h (k * 3) (.int .i64 a)) (k * 3 + 1) (.int .i64 b)) (k * 3 + 2) (.int .i64 c)
  unfold Row3
  rw [this, flat3_set L k _ hk, ints_set, ints_set, ints_set]
  simp
theorem Row3.cell {w : World} {q k : Nat} {L : List Tr} (h : Row3 w q L) (hk : k < L.length) (j : Nat) (hj : j < 3) : (∃ v, w.cell? ⟨q, k * 3 + j, none⟩ = some v) ∧ w.frozen? ⟨q, k * 3 + j, none⟩ = false := by
  refine ⟨?_, frozen_in h _⟩
  rw [cell_in h]
  have hl : k * 3 + j < (ints (flat3 L)).length := by rw [length_ints, length_flat3]; omega
  exact ⟨_, by rw [List.getElem?_toArray, List.getElem?_eq_getElem hl]⟩
theorem Row3.cells {w : World} {q k : Nat} {L : List Tr} (h : Row3 w q L) (hk : k < L.length) : ∃ v0 v1 v2, (w.cell? ⟨q, k * 3, none⟩ = some v0 ∧ w.frozen? ⟨q, k * 3, none⟩ = false) ∧ (w.cell? ⟨q, k * 3 + 1, none⟩ = some v1 ∧ w.frozen? ⟨q, k * 3 + 1, none⟩ = false) ∧ (w.cell? ⟨q, k * 3 + 2, none⟩ = some v2 ∧ w.frozen? ⟨q, k * 3 + 2, none⟩ = false) := by
  obtain ⟨⟨v0, a0⟩, b0⟩ := h.cell hk 0 (by omega)
  obtain ⟨⟨v1, a1⟩, b1⟩ := h.cell hk 1 (by omega)
  obtain ⟨⟨v2, a2⟩, b2⟩ := h.cell hk 2 (by omega)
  exact ⟨v0, v1, v2, ⟨a0, b0⟩, ⟨a1, b1⟩, ⟨a2, b2⟩⟩
theorem made_zero (n : Nat) : (madeCells #[.int .i64 0, .int .i64 0, .int .i64 0] n).toList = List.replicate n (.int .i64 0) := by
  apply List.ext_getElem?
  intro j
  by_cases hj : j < n
  · rcases (show j % 3 = 0 ∨ j % 3 = 1 ∨ j % 3 = 2 by omega) with e | e | e <;> simp [madeCells, hj, e]
  · simp [madeCells, hj]
theorem flat3_zeros (n : Nat) : flat3 (List.replicate n z3) = List.replicate (n * 3) 0 := by
  induction n with
  | zero => rfl
  | succ n ih =>
    have e : flat3 (z3 :: List.replicate n z3) = 0 :: 0 :: 0 :: flat3 (List.replicate n z3) := by simp [flat3]
    rw [List.replicate_succ, e, ih, show (n + 1) * 3 = n * 3 + 1 + 1 + 1 by omega]
    simp [List.replicate_succ]
theorem Row3.made (w : World) (n : Nat) : Row3 (w.alloc (.cells (madeCells #[.int .i64 0, .int .i64 0, .int .i64 0] (n * 3)) 41)) w.heap.size (List.replicate n z3) := by
  unfold Row3
  rw [heap_alloc_new]
  have : madeCells #[.int .i64 0, .int .i64 0, .int .i64 0] (n * 3) = (ints (flat3 (List.replicate n z3))).toArray := by
    apply Array.toList_inj.1
    rw [made_zero, flat3_zeros]; simp [ints]
  rw [this]
/-- A list half filled. -/
def half3 (f : Nat → Tr) (n k : Nat) : List Tr := (List.range n).map fun i => if i < k then f i else z3
theorem half3_zero (f : Nat → Tr) (n : Nat) : half3 f n 0 = List.replicate n z3 := by
  unfold half3
  apply List.ext_getElem? ; intro i; by_cases h : i < n <;> simp [h]
theorem half3_len (f : Nat → Tr) (n k : Nat) : (half3 f n k).length = n := by simp [half3]
theorem half3_set (f : Nat → Tr) (n k : Nat) (_hk : k < n) : (half3 f n k).set k (f k) = half3 f n (k + 1) := by
  unfold half3
  apply List.ext_getElem?
  intro i
  by_cases h : i < n
  · by_cases e : k = i
    · subst e; simp [h]
    · have : (i < k + 1) ↔ i < k := by omega
      simp [e, h, this]
  · simp [h]
theorem half3_full (f : Nat → Tr) (n : Nat) : half3 f n n = (List.range n).map f := by
  unfold half3
  apply List.map_congr_left
  intro i hi
  simp [List.mem_range.1 hi]

/-- A soup that is told: its triangles in a row of its own. -/
def NewS (w w' : World) (N : Int) (l : List Tr) (v : Value) : Prop := ∃ A c, v = .agg #[.int .i64 N, .slice A l.length c] ∧ w'.ownsRow w.heap.size 41 3 (.slice A l.length c) l.length (ints (flat3 l)) ∧ Below w.heap.size w w'
theorem T3.of_own {w : World} {B n c : Nat} {A : Option Addr} {l : List Tr} (h : w.ownsRow B 41 3 (.slice A n c) n (ints (flat3 l))) : T3 w A n l := by
  have hl : l.length = n := by have := h.1; rw [length_ints, length_flat3] at this; omega
  refine ⟨hl, fun hn => ?_⟩
  rcases h.2 with ⟨h1, h2⟩ | ⟨q, cap, cur, h1, hq, hh, hc, hm, hs, ht⟩
  · omega
  · injection h1 with h1 _ h3
    subst h1 h3
    refine ⟨q, 0, rfl, fun i hi => ?_⟩
    obtain ⟨a0, a1, a2⟩ := flat3_at l i (by omega)
    have hc := fun j (hj : j < n * 3) => h.cellAt j hj
    rw [hc _ (by omega), hc _ (by omega), hc _ (by omega)]
    simp only [ints_at, Nat.zero_add, Nat.mul_comm i 3, a0, a1, a2, Option.map_some, and_self]
theorem Row3.own {w : World} {B q : Nat} {L : List Tr} (h : Row3 w q L) (hB : B ≤ q) (hm : L.length ≤ maxLen) : w.ownsRow B 41 3 (.slice (some ⟨q, 0, none⟩) L.length L.length) L.length (ints (flat3 L)) := by
  refine ⟨by rw [length_ints, length_flat3]; omega, .inr ⟨q, L.length, _, rfl, hB, h, Nat.le_refl _, hm, by simp [length_ints, length_flat3]; omega, ?_⟩⟩
  rw [List.toList_toArray, List.take_of_length_le (by rw [length_ints, length_flat3]; omega)]

theorem Try.infoTri : (Try.prog.info? 41).map (fun i => (i.zero, i.size, i.bytes)) = some (some (.agg #[.int .i64 0, .int .i64 0, .int .i64 0]), 3, 24) := by kernel_rfl
def zer3 (n : Nat) : Obj := .cells (madeCells #[.int .i64 0, .int .i64 0, .int .i64 0] (n * 3)) 41
theorem make3 (n m : Nat) (hnm : n ≤ m) (hn : m ≤ 1000000) (W : World) : (Instr.makeSlice 22 (.int .i64 (n : Int)) (.int .i64 (m : Int))).run Try.prog W = .ok (.slice (some ⟨W.heap.size, 0, none⟩) n m) (W.alloc (zer3 m)) := by
  obtain ⟨i0, hi, hz0, hz1, hz2⟩ := info_parts Try.infoTri
  have := run_make (P := Try.prog) W 22 41 i0 _ Try.underlying22 hi hz0 .i64 .i64 (n : Int) (m : Int) (by omega) (by omega) (by rw [hz2]; omega) (by omega)
  rw [this, hz1]
  rfl
theorem Row3.zer (w : World) (n : Nat) : Row3 (w.alloc (zer3 n)) w.heap.size (List.replicate n z3) := Row3.made w n
/-- A row being filled, beside the argument's box and the result's. -/
structure Fil (w wr : World) (g r q : Nat) (N : Int) (A : Option Addr) (n c : Nat) (L : List Tr) : Prop where
  below : Below w.heap.size w wr
  bx : Bx wr g N A n c
  res : Bx wr r 0 none 0 0
  row : Row3 wr q L
  gq : g ≠ q
  rq : r ≠ q
  wq : w.heap.size ≤ q
theorem Fil.up {w wr wr' : World} {g r q : Nat} {N : Int} {A : Option Addr} {n c : Nat} {L : List Tr} (h : Fil w wr g r q N A n c L) (b : Below wr.heap.size wr wr') : Fil w wr' g r q N A n c L :=
  ⟨h.below.trans (b.mono h.below.size), h.bx.below b, h.res.below b, h.row.below b, h.gq, h.rq, h.wq⟩
theorem Bx.set {w : World} {g q o : Nat} {N : Int} {A : Option Addr} {n c : Nat} (h : Bx w g N A n c) (hq : g ≠ q) (v : Value) : Bx (w.setCell ⟨q, o, none⟩ v) g N A n c := heap_far h hq v
theorem Fil.set {w wr : World} {g r q k : Nat} {N : Int} {A : Option Addr} {n c : Nat} {L : List Tr} (h : Fil w wr g r q N A n c L) (hk : k < L.length) (a b d : Int) :
    Fil w (((wr.setCell ⟨q, k * 3, none⟩ (.int .i64 a)).setCell ⟨q, k * 3 + 1, none⟩ (.int .i64 b)).setCell ⟨q, k * 3 + 2, none⟩ (.int .i64 d)) g r q N A n c (L.set k (a, b, d)) :=
  ⟨((h.below.setCell (p := ⟨q, k * 3, none⟩) h.wq _).setCell (p := ⟨q, k * 3 + 1, none⟩) h.wq _).setCell (p := ⟨q, k * 3 + 2, none⟩) h.wq _,
   ((h.bx.set h.gq _).set h.gq _).set h.gq _, ((h.res.set h.rq _).set h.rq _).set h.rq _, h.row.set hk a b d, h.gq, h.rq, h.wq⟩
def FilAt (w : World) (g r q : Nat) (N : Int) (A : Option Addr) (n c : Nat) (f : Nat → Tr) (m : Nat) (i : Value) (wr : World) : Prop := ∃ k : Nat, k ≤ m ∧ i = .int .i64 (k : Int) ∧ Fil w wr g r q N A n c (half3 f m k)
theorem Fil.start (w : World) (N : Int) (A : Option Addr) (n c m : Nat) : Fil w (((w.alloc (.cells #[.int .i64 N, .slice A n c] 24)).alloc (.cells #[.int .i64 0, .slice none 0 0] 24)).alloc (zer3 m)) w.heap.size (w.heap.size + 1) (w.heap.size + 1 + 1) N A n c (List.replicate m z3) := by
  have e1 : (w.alloc (.cells #[.int .i64 N, .slice A n c] 24)).heap.size = w.heap.size + 1 := World.size_alloc _ _
  have e2 : ((w.alloc (.cells #[.int .i64 N, .slice A n c] 24)).alloc (.cells #[.int .i64 0, .slice none 0 0] 24)).heap.size = w.heap.size + 1 + 1 := by rw [World.size_alloc, e1]
  refine ⟨up1 (up1 (up1 (Below.refl _ w) _) _) _, ((Bx.made w N A n c).below ((Below.refl _ _).alloc (Nat.le_refl _) _)).below ((Below.refl _ _).alloc (Nat.le_refl _) _), ?_, ?_, by omega, by omega, by omega⟩
  · have := (Bx.made (w.alloc (.cells #[.int .i64 N, .slice A n c] 24)) 0 none 0 0).below ((Below.refl _ _).alloc (Nat.le_refl _) (zer3 m))
    rwa [e1] at this
  · have := Row3.zer ((w.alloc (.cells #[.int .i64 N, .slice A n c] 24)).alloc (.cells #[.int .i64 0, .slice none 0 0] 24)) m
    rwa [e2] at this
theorem Fil.begin {w x : World} {g r : Nat} {N : Int} {A : Option Addr} {n c : Nat} (hb : Below w.heap.size w x) (hg : Bx x g N A n c) (hr : Bx x r 0 none 0 0) (m : Nat) : Fil w (x.alloc (zer3 m)) g r x.heap.size N A n c (List.replicate m z3) :=
  have b := (Below.refl _ x).alloc (Nat.le_refl _) (zer3 m)
  ⟨hb.trans (b.mono hb.size), hg.below b, hr.below b, Row3.zer x m, Nat.ne_of_lt (heap_lt hg), Nat.ne_of_lt (heap_lt hr), hb.size⟩
/-- The first two blocks of a function that is handed a soup and tells one. -/
theorem two_boxes (w : World) (N : Int) (A : Option Addr) (n c : Nat) (y : World) (hy : y = (w.alloc (.cells #[.int .i64 N, .slice A n c] 24)).alloc (.cells #[.int .i64 0, .slice none 0 0] 24)) :
    Below w.heap.size w y ∧ Bx y w.heap.size N A n c ∧ Bx y (w.heap.size + 1) 0 none 0 0 := by
  subst hy
  have e1 : (w.alloc (.cells #[.int .i64 N, .slice A n c] 24)).heap.size = w.heap.size + 1 := World.size_alloc _ _
  refine ⟨up1 (up1 (Below.refl _ w) _) _, (Bx.made w N A n c).below ((Below.refl _ _).alloc (Nat.le_refl _) _), ?_⟩
  have := Bx.made (w.alloc (.cells #[.int .i64 N, .slice A n c] 24)) 0 none 0 0
  rwa [e1] at this
/-- A soup is told out of a row and the result's two cells. -/
theorem newS_ret {w w1 : World} {r q : Nat} {N z : Int} {A : Option Addr} {n c m : Nat} {L : List Tr} (hb : Below w.heap.size w w1) (hr : Bx w1 r z A n c) (row : Row3 w1 q L) (hq : w.heap.size ≤ q) (hrq : r ≠ q) (hwr : w.heap.size ≤ r) (hm : L.length = m) (hle : m ≤ 1000000) :
    ((w1.setCell ⟨r, 0, none⟩ (.int .i64 N)).setCell ⟨r, 1, none⟩ (.slice (some ⟨q, 0, none⟩) m m)).heap[r]? = some (.cells #[.int .i64 N, .slice (some ⟨q, 0, none⟩) m m] 24 (0, 0)) ∧
    NewS w ((w1.setCell ⟨r, 0, none⟩ (.int .i64 N)).setCell ⟨r, 1, none⟩ (.slice (some ⟨q, 0, none⟩) m m)) N L (.agg #[.int .i64 N, .slice (some ⟨q, 0, none⟩) m m]) := by
  subst hm
  refine ⟨set2 hr, _, _, rfl, Row3.own ?_ hq (by unfold maxLen; omega), below_set2 hb hwr _ _⟩
  exact heap_far (heap_far row (Ne.symm hrq) _) (Ne.symm hrq) _
end Go.Proofs.Ytelbmjbjpgcdaaa
