/- Layer 12: a soup in a box whose triangles are a row of its own: one more triangle behind them. -/
import Derived.Test.YtmflacmgffpjoaaGK
import Derived.Test.YtmflacmgffpjoaaGM
import Derived.Deep.RegionHeld3
namespace Go.Proofs.Ytmflacmgffpjoaa
open Go.RowKit

/-- A soup in the box gx; its triangles in a row of its own, from B on. -/
structure Own1 (B : Nat) (W : World) (gx : Nat) (N : Int) (v : Value) (L : List Tr) : Prop where
  bx : W.heap[gx]? = some (.cells #[.int .i64 N, v] 24 (0, 0))
  own : W.ownsRow B 53 3 v L.length (ints (flat3 L))
  sz : B ≤ W.heap.size
  bg : B ≤ gx
theorem Own1.up {B : Nat} {W W' : World} {gx : Nat} {N : Int} {v : Value} {L : List Tr} (h : Own1 B W gx N v L) (b : Below W.heap.size W W') : Own1 B W' gx N v L :=
  ⟨(b.block gx (heap_lt h.bx)).trans h.bx, ownK_up h.own b, Nat.le_trans h.sz b.size, h.bg⟩
theorem Own1.c0 {B : Nat} {W : World} {gx : Nat} {N : Int} {v : Value} {L : List Tr} (h : Own1 B W gx N v L) : W.cell? ⟨gx, 0, none⟩ = some (.int .i64 N) := by rw [cell_in h.bx]; rfl
theorem Own1.c1 {B : Nat} {W : World} {gx : Nat} {N : Int} {v : Value} {L : List Tr} (h : Own1 B W gx N v L) : W.cell? ⟨gx, 1, none⟩ = some v := by rw [cell_in h.bx]; rfl
theorem Own1.f1 {B : Nat} {W : World} {gx : Nat} {N : Int} {v : Value} {L : List Tr} (h : Own1 B W gx N v L) : W.frozen? ⟨gx, 1, none⟩ = false := frozen_in h.bx 1
abbrev triC (t : Tr) : Obj := .cells #[.int .i64 t.1, .int .i64 t.2.1, .int .i64 t.2.2] 53
/-- What stands when the new slice is stored. -/
theorem Own1.put {B : Nat} {W w9 : World} {gx : Nat} {N : Int} {v v' : Value} {L : List Tr} {t : Tr} (h : Own1 B W gx N v L) (gr : W.grownBy w9 v.ownBlock) (own : w9.ownsRow B 53 3 v' (L.length + 1) (ints (flat3 (L ++ [t])))) :
    w9.cell? ⟨gx, 1, none⟩ = some v ∧ w9.frozen? ⟨gx, 1, none⟩ = false ∧ Own1 B (w9.setCell ⟨gx, 1, none⟩ v') gx N v' (L ++ [t]) ∧ Below B W (w9.setCell ⟨gx, 1, none⟩ v') ∧ Below B W w9 := by
  have hne : ∀ k, v.ownBlock = some k → k ≠ gx := fun k hk e => by
    subst e
    obtain ⟨h1, h2⟩ := h.own
    rcases h2 with ⟨h3, _⟩ | ⟨q, cap, cur, h3, _, hq, _⟩
    · rw [h3] at hk; cases hk
    · rw [h3] at hk
      have e' : q = k := by simpa [Value.ownBlock] using hk
      subst e'
      rw [h.bx] at hq
      injection hq with hq
      injection hq with _ hq _
      exact absurd hq (by decide)
  have b9 : w9.heap[gx]? = some (.cells #[.int .i64 N, v] 24 (0, 0)) := (gr.block gx (heap_lt h.bx) (fun e => (hne gx e.symm) rfl)).trans h.bx
  have bw : Below B W w9 := ⟨gr.os, gr.tape, gr.output, gr.size, fun j hj => gr.block j (by have := h.sz; omega) fun e => by have := (h.own.lt j e.symm).1; omega⟩
  refine ⟨by rw [cell_in b9]; rfl, frozen_in b9 1, ⟨by have := heap_set b9 1 v'; exact this, ?_, ?_, h.bg⟩, bw.setCell (p := ⟨gx, 1, none⟩) h.bg _, bw⟩
  · rw [List.length_append]
    exact ownK9_set own b9 (by decide) 1 v'
  · rw [World.size_setCell]; exact Nat.le_trans h.sz gr.size
theorem Own1.step {B : Nat} {W : World} {gx : Nat} {N : Int} {v : Value} {L : List Tr} (h : Own1 B W gx N v L) (t : Tr) (hn : L.length ≤ 1000000) {ops : Array Oper} {o : Oper} {a : Act} {K : Act → World → Prop} {Q : Exit → Act → World → Prop} {E : Prop} (hgd : o.guard = none) (s y : Operand)
    (ho : o.op = .call { callee := .builtin .append, args := #[s, y], argTypes := #[22, 22] }) (hs : a.eval s = v) (hy : a.eval y = .slice (some ⟨W.heap.size, 0, none⟩) 1 1)
    (cont : ∀ A' c' w9, (W.alloc (triC t)).grownBy w9 v.ownBlock → w9.ownsRow B 53 3 (.slice A' (L.length + 1) c') (L.length + 1) (ints (flat3 (L ++ [t]))) → K (a.put o.dst (.slice A' (L.length + 1) c')) w9) :
    if Region.wanted o (yielded ops a.tmps) = true then Oper.wp Try.prog o a (W.alloc (triC t)) K Q else E := by
  obtain ⟨i0, hi, hz0, hz1, hz2⟩ := info_parts Try.infoTri
  have b := (Below.refl _ W).alloc (Nat.le_refl _) (triC t)
  have hnew := heap_alloc_new W (triC t)
  refine step_append_lies _ hgd s y 22 ho B 53 i0 (.agg #[.int .i64 0, .int .i64 0, .int .i64 0]) 3 24 Try.underlying22 hi hz0 hz1 hz2 rfl (by decide) v L.length (ints (flat3 L)) hs (ownK_up h.own b) ⟨W.heap.size, 0, none⟩ 1 1 (ints [t.1, t.2.1, t.2.2]) hy rfl
    (fun j u hj => by rw [add_zero_addr, cell_in hnew, List.getElem?_toArray]; exact hj) (ints_one9 _) (by decide) (by unfold maxLen; omega) (by omega) (Nat.le_trans h.sz b.size) _ rfl ?_
  intro g9 cap9 w9 own9 gr9 _ _
  refine cont _ cap9 w9 gr9 ?_
  have e : ints (flat3 (L ++ [t])) = ints (flat3 L) ++ ints [t.1, t.2.1, t.2.2] := by simp [flat3, ints]
  rw [e]
  exact own9
end Go.Proofs.Ytmflacmgffpjoaa
