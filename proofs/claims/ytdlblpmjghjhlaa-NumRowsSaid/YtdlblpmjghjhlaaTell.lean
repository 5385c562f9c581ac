/- Reader.Bit, Left and At; what a writer and a reader hold is kept by calls that do not touch them. -/
import Derived.Test.YtdlblpmjghjhlaaGet
namespace Go.Proofs.Ytdlblpmjghjhlaa
open Go.RowKit

theorem left_any (w : World) (r p : Nat) (bs : List Bool) (k : Nat) (h : RIs w r p bs k) :
    Calls Try.prog 21 #[.pointer (some ⟨r, 0, none⟩)] w fun e w' => e = .returned (.int .i64 ((bs.length : Int) - (k : Int))) ∧ Same w w w' := by
  have c1 : w.cell? ⟨r, 1, none⟩ = some (.int .i64 (bs.length : Int)) := by rw [cell_in h.blk]; rfl
  have c2 : w.cell? ⟨r, 2, none⟩ = some (.int .i64 (k : Int)) := by rw [cell_in h.blk]; rfl
  have hs := h.size
  have hk := h.le
  have e1 : IntKind.i64.wrap ((bs.length : Int) - k) = (bs.length : Int) - k := IntWalk.i64_in _ (by omega)
  clear h
  go_enter Try.func21, Try.ntmps21
  go_wp2
  go_quiet (fail)
  go_wp2
  go_ret
  exact ⟨rfl, rfl, rfl, rfl, rfl⟩

theorem get_one (w : World) (r p : Nat) (bs : List Bool) (k : Nat) (h : RIs w r p bs k) (he : k < bs.length) :
    Calls Try.prog 39 #[.pointer (some ⟨r, 0, none⟩), .int .i64 1] w fun e w' => e = .returned (.tuple #[.int .u64 ((bs.getD k false).toNat : Nat), .int .i64 0]) ∧ RIs w' r p bs (k + 1) ∧ w.grownBy w' (some r) := by
  have := get_ok w r p bs k 1 h (by omega) (by omega)
  rwa [show num ((bs.drop k).take 1) = (bs.getD k false).toNat by
    rw [List.take_succ_eq_append_getElem (by simp; omega), num_snoc]
    simp [num, List.getElem?_eq_getElem he]] at this

theorem rbit_ok (w : World) (r p : Nat) (bs : List Bool) (k : Nat) (h : RIs w r p bs k) (he : k < bs.length) :
    Calls Try.prog 42 #[.pointer (some ⟨r, 0, none⟩)] w fun e w' => e = .returned (.tuple #[.bool (bs.getD k false), .int .i64 0]) ∧ RIs w' r p bs (k + 1) ∧ w.grownBy w' (some r) := by
  have hc := get_one w r p bs k h he
  generalize bs.getD k false = b at *
  have HC := Lib.hid hc
  clear hc h
  cases b
  all_goals
    go_enter Try.func42, Try.ntmps42
    go_wp2_with fail
    refine HC.out.mono ?_
    rintro e w1 ⟨rfl, h1, h2⟩
    have H1 := Lib.hid h1
    clear h1
    go_wp2
    go_ret2
    exact ⟨rfl, H1.out, h2⟩

theorem rbit_end (w : World) (r p : Nat) (bs : List Bool) (h : RIs w r p bs bs.length) :
    Calls Try.prog 42 #[.pointer (some ⟨r, 0, none⟩)] w fun e w' => e = .returned (.tuple #[.bool false, .int .i64 4]) ∧ Same w w w' := by
  have HC := Lib.hid (get_end w r p bs bs.length 1 h (by omega) (by omega))
  clear h
  go_enter Try.func42, Try.ntmps42
  go_wp2_with fail
  refine HC.out.mono ?_
  rintro e w1 ⟨rfl, h1⟩
  have H1 := Lib.hid h1
  clear h1
  go_wp2
  go_ret2
  exact ⟨rfl, H1.out⟩

section
variable {w w' : World} {B g : Nat} {v : Value} {bs : List Bool} {r p k : Nat}
theorem WIs.lt (h : WIs w B g v bs) : g < w.heap.size := heap_lt h.blk
theorem RIs.lt (h : RIs w r p bs k) : r < w.heap.size := heap_lt h.blk
theorem RIs.lt' (h : RIs w r p bs k) : p < w.heap.size := heap_lt h.row
/-- A writer is kept where its two blocks are. -/
theorem WIs.keep (h : WIs w B g v bs) (hg : w'.heap[g]? = w.heap[g]?) (hv : ∀ q, v.ownBlock = some q → w'.heap[q]? = w.heap[q]?) : WIs w' B g v bs := by
  refine ⟨hg.trans h.blk, h.row.1, ?_⟩
  rcases h.row.2 with h2 | ⟨q, cap, cur, rfl, hq, hh, rest⟩
  · exact .inl h2
  · exact .inr ⟨q, cap, cur, rfl, hq, (hv q rfl).trans hh, rest⟩
theorem WIs.below (h : WIs w B g v bs) (hb : Below w.heap.size w w') : WIs w' B g v bs := h.keep (hb.block g h.lt) (fun q hq => hb.block q (h.row.lt q hq).2)
theorem WIs.same (h : WIs w B g v bs) (hb : Same w w w') : WIs w' B g v bs := h.keep (by rw [hb.heap]) (fun q _ => by rw [hb.heap])
theorem WIs.grown (h : WIs w B g v bs) (hb : w.grownBy w' (some r)) (h1 : g ≠ r) (h2 : v.ownBlock ≠ some r) : WIs w' B g v bs :=
  h.keep (hb.block g h.lt (fun e => h1 (by injection e))) (fun q hq => hb.block q (h.row.lt q hq).2 (fun e => h2 (by rw [hq, e])))
theorem RIs.below (h : RIs w r p bs k) (hb : Below w.heap.size w w') : RIs w' r p bs k :=
  ⟨(hb.block r h.lt).trans h.blk, (hb.block p h.lt').trans h.row, h.le, h.size⟩
theorem RIs.same (h : RIs w r p bs k) (hb : Same w w w') : RIs w' r p bs k := ⟨by rw [hb.heap]; exact h.blk, by rw [hb.heap]; exact h.row, h.le, h.size⟩
theorem RIs.kept (h : RIs w r p bs k) (hb : Kept w w' g v) (h1 : r ≠ g) (h2 : p ≠ g) (h3 : v.ownBlock ≠ some r) (h4 : v.ownBlock ≠ some p) : RIs w' r p bs k :=
  ⟨(hb.block r h.lt h1 (fun e => h3 e.symm)).trans h.blk, (hb.block p h.lt' h2 (fun e => h4 e.symm)).trans h.row, h.le, h.size⟩
theorem Same.below (h : Same w w w') : Below B w w' := ⟨h.os, h.tape, h.output, by rw [h.heap]; exact Nat.le_refl _, fun _ _ => by rw [h.heap]⟩
theorem grown_below (h : w.grownBy w' (some r)) (hB : B ≤ w.heap.size) (hr : B ≤ r) : Below B w w' := (Below.refl B w).grown h hB (fun q e => by injection e with e; omega)
/-- A new writer. -/
theorem WIs.new (w : World) (B : Nat) : WIs (w.alloc (.cells #[.slice none 0 0, .int .i64 0] 27)) B w.heap.size (.slice none 0 0) [] :=
  ⟨heap_alloc_new _ _, World.ownsRow_nil _ _ _ _⟩
end
end Go.Proofs.Ytdlblpmjghjhlaa
