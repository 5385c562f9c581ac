/- Layer 8: words for the memory of soups: slices of triangles and of edges; a soup that was handed in. -/
import Derived.Test.YtelbmjbjpgcdaaaSouPure
import Derived.Test.YtelbmjbjpgcdaaaUp
import Derived.BigQuiet
import Derived.Laws.Rows
import Derived.Laws.ResultCell
namespace Go.Proofs.Ytelbmjbjpgcdaaa
open Go.RowKit

/-- A slice of triangles that reads so (nil let in). -/
def T3 (w : World) (A : Option Addr) (n : Nat) (l : List Tr) : Prop :=
  l.length = n ∧ (0 < n → ∃ b off, A = some ⟨b, off, none⟩ ∧ ∀ i, i < n → w.cell? ⟨b, off + i * 3, none⟩ = some (.int .i64 (l.getD i z3).1) ∧ w.cell? ⟨b, off + i * 3 + 1, none⟩ = some (.int .i64 (l.getD i z3).2.1) ∧ w.cell? ⟨b, off + i * 3 + 2, none⟩ = some (.int .i64 (l.getD i z3).2.2))
theorem T3.below {w w' : World} {A : Option Addr} {n : Nat} {l : List Tr} (h : T3 w A n l) (hb : Below w.heap.size w w') : T3 w' A n l := by
  refine ⟨h.1, fun hn => ?_⟩
  obtain ⟨b, off, hA, hc⟩ := h.2 hn
  refine ⟨b, off, hA, fun i hi => ?_⟩
  obtain ⟨c0, c1, c2⟩ := hc i hi
  exact ⟨(hb.cell (World.block_lt_of_cell? w _ c0)).trans c0, (hb.cell (World.block_lt_of_cell? w _ c1)).trans c1, (hb.cell (World.block_lt_of_cell? w _ c2)).trans c2⟩
theorem T3.nil (w : World) (A : Option Addr) : T3 w A 0 [] := ⟨rfl, fun h => absurd h (by omega)⟩
/-- A slice of edges that reads so (nil let in). -/
def E2 (w : World) (A : Option Addr) (n : Nat) (l : List Ed) : Prop :=
  l.length = n ∧ (0 < n → ∃ b off, A = some ⟨b, off, none⟩ ∧ ∀ i, i < n → w.cell? ⟨b, off + i * 2, none⟩ = some (.int .i64 (l.getD i z2).1) ∧ w.cell? ⟨b, off + i * 2 + 1, none⟩ = some (.int .i64 (l.getD i z2).2))
theorem E2.below {w w' : World} {A : Option Addr} {n : Nat} {l : List Ed} (h : E2 w A n l) (hb : Below w.heap.size w w') : E2 w' A n l := by
  refine ⟨h.1, fun hn => ?_⟩
  obtain ⟨b, off, hA, hc⟩ := h.2 hn
  refine ⟨b, off, hA, fun i hi => ?_⟩
  obtain ⟨c0, c1⟩ := hc i hi
  exact ⟨(hb.cell (World.block_lt_of_cell? w _ c0)).trans c0, (hb.cell (World.block_lt_of_cell? w _ c1)).trans c1⟩
theorem E2.nil (w : World) (A : Option Addr) : E2 w A 0 [] := ⟨rfl, fun h => absurd h (by omega)⟩

/-- A soup's two cells in the block g. -/
def Bx (w : World) (g : Nat) (N : Int) (A : Option Addr) (n c : Nat) : Prop := w.heap[g]? = some (.cells #[.int .i64 N, .slice A n c] 24 (0, 0))
theorem Bx.c0 {w : World} {g : Nat} {N : Int} {A : Option Addr} {n c : Nat} (h : Bx w g N A n c) : w.cell? ⟨g, 0, none⟩ = some (.int .i64 N) := by rw [cell_in h]; rfl
theorem Bx.c1 {w : World} {g : Nat} {N : Int} {A : Option Addr} {n c : Nat} (h : Bx w g N A n c) : w.cell? ⟨g, 1, none⟩ = some (.slice A n c) := by rw [cell_in h]; rfl
theorem Bx.below {w w' : World} {g : Nat} {N : Int} {A : Option Addr} {n c : Nat} (h : Bx w g N A n c) (hb : Below w.heap.size w w') : Bx w' g N A n c := (hb.block g (heap_lt h)).trans h
theorem Bx.made (w : World) (N : Int) (A : Option Addr) (n c : Nat) : Bx (w.alloc (.cells #[.int .i64 N, .slice A n c] 24)) w.heap.size N A n c := heap_alloc_new w _

theorem set3 {w : World} {q : Nat} {z0 z1 z2 a b c : Value} {t : TypeId} (h : w.heap[q]? = some (.cells #[z0, z1, z2] t (0, 0))) : (((w.setCell ⟨q, 0, none⟩ a).setCell ⟨q, 1, none⟩ b).setCell ⟨q, 2, none⟩ c).heap[q]? = some (.cells #[a, b, c] t (0, 0)) := by
  simpa using heap_set (heap_set (heap_set h 0 a) 1 b) 2 c
theorem set2 {w : World} {q : Nat} {z0 z1 a b : Value} {t : TypeId} (h : w.heap[q]? = some (.cells #[z0, z1] t (0, 0))) : ((w.setCell ⟨q, 0, none⟩ a).setCell ⟨q, 1, none⟩ b).heap[q]? = some (.cells #[a, b] t (0, 0)) := by
  simpa using heap_set (heap_set h 0 a) 1 b
theorem below_set3 {B q : Nat} {w w1 : World} (h : Below B w w1) (hq : B ≤ q) (a b c : Value) : Below B w (((w1.setCell ⟨q, 0, none⟩ a).setCell ⟨q, 1, none⟩ b).setCell ⟨q, 2, none⟩ c) := ((h.setCell (p := ⟨q, 0, none⟩) hq a).setCell (p := ⟨q, 1, none⟩) hq b).setCell (p := ⟨q, 2, none⟩) hq c
theorem below_set2 {B q : Nat} {w w1 : World} (h : Below B w w1) (hq : B ≤ q) (a b : Value) : Below B w ((w1.setCell ⟨q, 0, none⟩ a).setCell ⟨q, 1, none⟩ b) := (h.setCell (p := ⟨q, 0, none⟩) hq a).setCell (p := ⟨q, 1, none⟩) hq b
theorem results_row2 {P : Program} {fn : Func} {p u : Tmp} {ty : TypeId} (h : fn.results = #[.cell p ty, .tmp u]) (tmps : Array Value) (w : World) (g : Nat) (t : TypeId) (cs : Array Value) (fr : Nat × Nat) (d : TypeDesc)
    (hp : tmps.getD p undef = .pointer (some ⟨g, 0, none⟩)) (hg : w.heap[g]? = some (.cells cs t fr))
    (hu : P.underlying ty = some d) (hd : (match d with | .struct _ | .array _ _ => true | _ => false) = true) (hi : (P.info? ty).map (·.size) = some cs.size) :
    (results fn tmps).run P w = .ok (.tuple #[.agg cs, tmps.getD u undef]) w := by
  rw [results_cell_tmp h, hp]
  simp [asAddr, run_loadVar_row w g t ty cs fr d hg hu hd hi]
theorem results_row3 {P : Program} {fn : Func} {p u v : Tmp} {ty : TypeId} (h : fn.results = #[.cell p ty, .tmp u, .tmp v]) (tmps : Array Value) (w : World) (g : Nat) (t : TypeId) (cs : Array Value) (fr : Nat × Nat) (d : TypeDesc)
    (hp : tmps.getD p undef = .pointer (some ⟨g, 0, none⟩)) (hg : w.heap[g]? = some (.cells cs t fr))
    (hu : P.underlying ty = some d) (hd : (match d with | .struct _ | .array _ _ => true | _ => false) = true) (hi : (P.info? ty).map (·.size) = some cs.size) :
    (results fn tmps).run P w = .ok (.tuple #[.agg cs, tmps.getD u undef, tmps.getD v undef]) w := by
  have hp' : tmps[p]?.getD undef = .pointer (some ⟨g, 0, none⟩) := by simpa using hp
  simp [results, h, hp', asAddr, run_loadVar_row w g t ty cs fr d hg hu hd hi]
end Go.Proofs.Ytelbmjbjpgcdaaa
