/- Layer 12: one more number, edge, row behind the others: as a step of a region. -/
import Derived.Test.YtmflacmgffpjoaaBdRows
namespace Go.Proofs.Ytmflacmgffpjoaa
open Go.RowKit

theorem wpl_snocI {wr : World} {B n : Nat} {v : Value} {xs : List Int} (x : Int) (own : wr.ownsRow B 3 1 v n (ints xs)) (hB : B ≤ wr.heap.size) (hn : n ≤ 1000000) {ops : Array Oper} {rest : List Oper} {o : Oper} {a : Act} {Q : Exit → Act → World → Prop} (hgd : o.guard = none) (s y : Operand)
    (ho : o.op = .call { callee := .builtin .append, args := #[s, y], argTypes := #[40, 40] }) (hs : a.eval s = v) (hx : a.eval y = .slice (some ⟨wr.heap.size, 0, none⟩) 1 1)
    (cont : ∀ A' c' w9, Below B wr w9 → w9.ownsRow B 3 1 (.slice A' (n + 1) c') (n + 1) (ints (xs ++ [x])) → wpList Try.prog ops Q rest (a.put o.dst (.slice A' (n + 1) c')) w9) :
    wpList Try.prog ops Q (o :: rest) a (wr.alloc (.cells #[.int .i64 x] 3)) := by
  obtain ⟨i0, hi, hz0, hz1, hz2⟩ := info_parts Try.infoInt
  have b := (Below.refl _ wr).alloc (Nat.le_refl _) (.cells #[.int .i64 x] 3)
  have q := ownK_up own b
  have hnew := heap_alloc_new wr (.cells #[.int .i64 x] 3)
  refine wpList_append_lies _ hgd s y 40 ho B 3 i0 (.int .i64 0) 1 8 Try.underlying40 hi hz0 hz1 hz2 rfl (by decide) v n (ints xs) hs q ⟨wr.heap.size, 0, none⟩ 1 1 (ints [x]) hx rfl
    (fun j u hj => by rw [add_zero_addr, cell_in hnew, List.getElem?_toArray]; exact hj) (ints_one _) (by omega) (by unfold maxLen; omega) (by omega) (Nat.le_trans hB b.size) _ rfl ?_
  intro g9 cap9 w9 own9 gr9 _ _
  refine cont _ cap9 w9 ((b.mono hB).trans ⟨gr9.os, gr9.tape, gr9.output, gr9.size, fun j hj => gr9.block j (by have := b.size; omega) fun e => by have := (own.lt j e.symm).1; omega⟩) ?_
  rw [ints_append]
  exact own9
/-- A row behind the other rows. -/
theorem wpl_snocR {wr : World} {B : Nat} {v : Value} {LL : List (List Int)} {x : Value} {xs : List Int} (own : RowsOwn wr B v LL) (hx : wr.ownsRow B 3 1 x xs.length (ints xs)) (hB : B ≤ wr.heap.size) (hn : LL.length ≤ 1000000) {ops : Array Oper} {rest : List Oper} {o : Oper} {a : Act} {Q : Exit → Act → World → Prop} (hgd : o.guard = none) (s y : Operand)
    (ho : o.op = .call { callee := .builtin .append, args := #[s, y], argTypes := #[36, 36] }) (hs : a.eval s = v) (hy : a.eval y = .slice (some ⟨wr.heap.size, 0, none⟩) 1 1)
    (cont : ∀ A' c' w9, Below B wr w9 → RowsOwn w9 B (.slice A' (LL.length + 1) c') (LL ++ [xs]) → wpList Try.prog ops Q rest (a.put o.dst (.slice A' (LL.length + 1) c')) w9) :
    wpList Try.prog ops Q (o :: rest) a (wr.alloc (.cells #[x] 40)) := by
  obtain ⟨i0, hi, hz0, hz1, hz2⟩ := info_parts Try.infoInts
  obtain ⟨A, c, rfl⟩ := ownK_form hx
  have b := (Below.refl _ wr).alloc (Nat.le_refl _) (.cells #[.slice A xs.length c] 40)
  obtain ⟨vs, hl, ho1, hr1⟩ := own.up b
  have hx1 := ownK_up hx b
  have hnew := heap_alloc_new wr (.cells #[.slice A xs.length c] 40)
  refine wpList_append_lies _ hgd s y 36 ho B 40 i0 (.slice none 0 0) 1 24 Try.underlying36 hi hz0 hz1 hz2 rfl (by decide) v LL.length vs hs ho1 ⟨wr.heap.size, 0, none⟩ 1 1 [.slice A xs.length c] hy rfl
    (fun j u hj => by rw [add_zero_addr, cell_in hnew, List.getElem?_toArray]; exact hj) (fun u hu => by rw [List.mem_singleton.1 hu]; rfl) (by omega) (by unfold maxLen; omega) (by omega) (Nat.le_trans hB b.size) _ rfl ?_
  intro g9 cap9 w9 own9 gr9 _ _
  obtain ⟨_, ho2, _⟩ := own
  refine cont _ cap9 w9 ((b.mono hB).trans ⟨gr9.os, gr9.tape, gr9.output, gr9.size, fun j hj => gr9.block j (by have := b.size; omega) fun e => by have := (ho1.lt j e.symm).1; omega⟩) (rows_add hl ho1 hr1 hx1 gr9 own9)
theorem step_snocE {w : World} {B n q : Nat} {v : Value} {es : List Ed} (e : Ed) (own : w.ownsRow B 59 2 v n (ints (flat2 es))) (hB : B ≤ w.heap.size) (hn : n ≤ 1000000) (hq : w.heap[q]? = some (.cells #[.int .i64 e.1, .int .i64 e.2] 59 (0, 0))) {ops : Array Oper} {o : Oper} {a : Act} {K : Act → World → Prop} {Q : Exit → Act → World → Prop} {E : Prop} (hgd : o.guard = none) (s y : Operand)
    (ho : o.op = .call { callee := .builtin .append, args := #[s, y], argTypes := #[30, 30] }) (hs : a.eval s = v) (hy : a.eval y = .slice (some ⟨q, 0, none⟩) 1 1)
    (cont : ∀ A' c' w9, Below B w w9 → w9.ownsRow B 59 2 (.slice A' (n + 1) c') (n + 1) (ints (flat2 (es ++ [e]))) → K (a.put o.dst (.slice A' (n + 1) c')) w9) :
    if Region.wanted o (yielded ops a.tmps) = true then Oper.wp Try.prog o a w K Q else E := by
  obtain ⟨i0, hi, hz0, hz1, hz2⟩ := info_parts Try.infoEd
  refine step_append_lies w hgd s y 30 ho B 59 i0 (.agg #[.int .i64 0, .int .i64 0]) 2 16 Try.underlying30 hi hz0 hz1 hz2 rfl (by decide) v n (ints (flat2 es)) hs own ⟨q, 0, none⟩ 1 1 (ints [e.1, e.2]) hy rfl (fun j u hj => ?_) (fun u hu => by simp [ints] at hu; rcases hu with rfl | rfl <;> rfl) (by decide) (by unfold maxLen; omega) (by omega) hB _ rfl ?_
  · rw [add_zero_addr, cell_in hq, List.getElem?_toArray]; exact hj
  · intro g9 cap9 w9 own9 gr9 _ _
    refine cont _ cap9 w9 ⟨gr9.os, gr9.tape, gr9.output, gr9.size, fun j hj => gr9.block j (by omega) fun e => by have := (own.lt j e.symm).1; omega⟩ ?_
    rw [flat2_append, ints_append]
    exact own9
end Go.Proofs.Ytmflacmgffpjoaa
