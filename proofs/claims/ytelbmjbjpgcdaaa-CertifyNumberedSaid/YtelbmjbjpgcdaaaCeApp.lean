/- Layer 9: All's second closure: a witness is put behind the others, where there is room. -/
import Derived.Test.YtelbmjbjpgcdaaaCeTake
import Derived.Deep.DeepCutAuto
namespace Go.Proofs.Ytelbmjbjpgcdaaa
open Go.RowKit

theorem append_run9 {P : Program} {w : World} {ops : Array Oper} {rest : List Oper} {o : Oper} {a : Act} {Q : Exit → Act → World → Prop} (hgd : o.guard = none) (s x : Operand) (t tn : TypeId)
    (ho : o.op = .call { callee := .builtin .append, args := #[s, x], argTypes := #[t, tn] }) (vs vx v' : Value) (w' : World) (hs : a.eval s = vs) (hx : a.eval x = vx) (hrun : (Builtin.append_ #[t, tn] o.type #[vs, vx]).run P w = .ok v' w')
    (h : wpList P ops Q rest (a.put o.dst v') w') : wpList P ops Q (o :: rest) a w := by
  refine wpList_plain hgd fun _ hK => ?_
  unfold Oper.wp execOp
  simp only [ho, resolve, invoke, builtin, Sem.run_bind, Sem.run_pure, Result.andThen_ok, List.map_toArray, List.map_cons, List.map_nil, hs, hx, hrun]
  exact hK _ _ h
/-- Room for cap witnesses in the block r, of which the first are l. -/
def WRow (w : World) (r : Nat) (l : List Wt) (cap : Nat) : Prop := l.length ≤ cap ∧ ∃ rest : List Value, rest.length = (cap - l.length) * 3 ∧ w.heap[r]? = some (.cells (ints (flat3 l) ++ rest).toArray 35 (0, 0))
theorem Try.infoWit : (Try.prog.info? 35).map (fun i => (i.zero, i.size, i.bytes)) = some (some (.agg #[.int .i64 0, .int .i64 0, .int .i64 0]), 3, 24) := by kernel_rfl
theorem WRow.app {w : World} {r : Nat} {l : List Wt} {cap : Nat} (h : WRow w r l cap) (hl : l.length < cap) {x : Wt} {q : Nat} (hq : w.heap[q]? = some (.cells #[.int .i64 x.1, .int .i64 x.2.1, .int .i64 x.2.2] 35 (0, 0))) (ty : TypeId) :
    ∃ cs, (Builtin.append_ #[27, 27] ty #[.slice (some ⟨r, 0, none⟩) l.length cap, .slice (some ⟨q, 0, none⟩) 1 1]).run Try.prog w = .ok (.slice (some ⟨r, 0, none⟩) (l.length + 1) cap) (w.setRow r cs) ∧ WRow (w.setRow r cs) r (l ++ [x]) cap := by
  obtain ⟨h1, rest, hr, hh⟩ := h
  obtain ⟨i0, hi, _, hz1, _⟩ := info_parts Try.infoWit
  have hrun := run_append_room (P := Try.prog) w 27 ty 35 i0 Try.underlying27 hi r l.length cap _ hh ⟨q, 0, none⟩ 1 1 [.int .i64 x.1, .int .i64 x.2.1, .int .i64 x.2.2] (by rw [hz1]; rfl)
    (fun j u hj => by rw [add_zero_addr, cell_in hq]; simpa using hj) (fun u hu => by simp at hu; rcases hu with rfl | rfl | rfl <;> rfl) hl (by rw [hz1]; simp [length_ints, length_flat3]; omega)
  refine ⟨_, hrun, by simp; omega, rest.drop 3, by simp; omega, ?_⟩
  rw [setRow_heap w r _ _ 35 _ hh, hz1]
  have e1 : (ints (flat3 l) ++ rest).toArray.toList.take (l.length * 3) = ints (flat3 l) := by
    rw [List.toList_toArray, List.take_append_of_le_length (by rw [length_ints, length_flat3]; omega), List.take_of_length_le (by rw [length_ints, length_flat3]; omega)]
  have e2 : (ints (flat3 l) ++ rest).toArray.toList.drop (l.length * 3 + 3) = rest.drop 3 := by
    rw [List.toList_toArray, show l.length * 3 + 3 = (ints (flat3 l)).length + 3 by rw [length_ints, length_flat3]; omega, List.drop_append]; simp
  have e3 : ints (flat3 (l ++ [x])) = ints (flat3 l) ++ [.int .i64 x.1, .int .i64 x.2.1, .int .i64 x.2.2] := by simp [ints, flat3]
  rw [e1, e3]
  simp only [List.length_cons, List.length_nil]
  rw [e2]
/-- All's second closure: the witnesses are put into a row that has room for all of them. -/
structure ListSt (q r : Nat) (n : Nat) (l : List Wt) (w : World) : Prop where
  le : l.length ≤ n
  cell : w.heap[q]? = some (.cells #[.slice (some ⟨r, 0, none⟩) l.length n] 27 (0, 0))
  row : WRow w r l n

set_option maxHeartbeats 1000000 in
set_option maxRecDepth 100000 in
theorem cAll2_any (w : World) (q r n : Nat) (hqr : q ≠ r) (l : List Wt) (x : Wt) (hl : l.length < n) (h : ListSt q r n l w) :
    Calls Try.prog 25 #[wv x, .pointer (some ⟨q, 0, none⟩)] w fun e w' => e = .returned (.bool true) ∧ ListSt q r n (l ++ [x]) w' ∧ Chg (fun b => b = q ∨ b = r) w w' := by
  obtain ⟨w1, hw1⟩ : ∃ w1, w.alloc (.cells #[.int .i64 x.1, .int .i64 x.2.1, .int .i64 x.2.2] 35) = w1 := ⟨_, rfl⟩
  have b1 : Below w.heap.size w w1 := by rw [← hw1]; exact (Below.refl _ w).alloc (Nat.le_refl _) _
  obtain ⟨g, hg⟩ : ∃ g, w.heap.size = g := ⟨_, rfl⟩
  have g1 : w1.heap[g]? = some (.cells #[.int .i64 x.1, .int .i64 x.2.1, .int .i64 x.2.2] 35 (0, 0)) := by rw [← hw1, ← hg]; exact heap_alloc_new _ _
  obtain ⟨k, hk⟩ : ∃ k, w1.heap.size = k := ⟨_, rfl⟩
  obtain ⟨w2, hw2⟩ : ∃ w2, w1.alloc (.cells #[.int .i64 x.1, .int .i64 x.2.1, .int .i64 x.2.2] 35) = w2 := ⟨_, rfl⟩
  have b2 : Below w1.heap.size w1 w2 := by rw [← hw2]; exact (Below.refl _ w1).alloc (Nat.le_refl _) _
  have k2 : w2.heap[k]? = some (.cells #[.int .i64 x.1, .int .i64 x.2.1, .int .i64 x.2.2] 35 (0, 0)) := by rw [← hw2, ← hk]; exact heap_alloc_new _ _
  have c1 := (b1.block q (heap_lt h.cell)).trans h.cell
  have c2 := (b2.block q (heap_lt c1)).trans c1
  obtain ⟨_, rest, _, hh⟩ := h.row
  have r2 : WRow w2 r l n := by
    obtain ⟨a, rest, b, hh⟩ := h.row
    have := (b1.block r (heap_lt hh)).trans hh
    exact ⟨a, rest, b, (b2.block r (heap_lt this)).trans this⟩
  obtain ⟨cs, hrun, r3⟩ := r2.app hl k2 27
  have c3 : (w2.setRow r cs).heap[q]? = some (.cells #[.slice (some ⟨r, 0, none⟩) l.length n] 27 (0, 0)) := (setRow_other w2 r q cs hqr).trans c2
  have hqr' := Lib.hid hqr
  obtain ⟨w3, hw3⟩ : ∃ w3, w2.setRow r cs = w3 := ⟨_, rfl⟩
  have ch3 : Chg (fun b => b = q ∨ b = r) w w3 := by
    rw [← hw3]
    exact (Chg.of_below (b1.trans (b2.mono b1.size))).trans ⟨rfl, rfl, rfl, by rw [size_setRow]; exact Nat.le_refl _, fun b _ hb => setRow_other w2 r b cs fun e => hb (Or.inr e)⟩
  rw [hw3] at hrun r3 c3
  have z0 : w1.cell? ⟨q, 0, none⟩ = some (.slice (some ⟨r, 0, none⟩) l.length n) := by rw [cell_in c1]; rfl
  have z1 : w1.cell? ⟨g, 0, none⟩ = some (.int .i64 x.1) := by rw [cell_in g1]; rfl
  have z2 : w1.cell? ⟨g, 1, none⟩ = some (.int .i64 x.2.1) := by rw [cell_in g1]; rfl
  have z3 : w1.cell? ⟨g, 2, none⟩ = some (.int .i64 x.2.2) := by rw [cell_in g1]; rfl
  have z4 : w3.cell? ⟨q, 0, none⟩ = some (.slice (some ⟨r, 0, none⟩) l.length n) := by rw [cell_in c3]; rfl
  have f4 := frozen_in c3 0
  have R := Lib.hid hrun
  have R3 := Lib.hid r3
  have C3 := Lib.hid c3
  have CH := Lib.hid ch3
  have HL := Lib.hid hl
  clear hrun r3 c3 ch3 hl b1 b2 g1 k2 c1 c2 r2 hh h hw3 hqr
  go_enter Try.func25, Try.ntmps25
  go_upto_region 1 with fail
  clear hw1 hg
  go_wp2_with (at_builtin; refine append_run9 rfl (.tmp 4) (.tmp 6) 27 27 rfl (.slice (some ⟨r, 0, none⟩) l.length n) (.slice (some ⟨k, 0, none⟩) 1 1) _ _ rfl rfl R.out ?_)
  go_wp2
  go_ret
  have e := heap_set C3.out 0 (.slice (some ⟨r, 0, none⟩) (l.length + 1) n)
  refine ⟨rfl, ⟨by rw [List.length_append]; exact HL.out, by rw [e, List.length_append]; simp, R3.out.1, ?_⟩, CH.out.set _ _ (Or.inl rfl)⟩
  obtain ⟨_, rest, hr, hh⟩ := R3.out
  exact ⟨rest, hr, heap_far hh (Ne.symm hqr'.out) _⟩
theorem list_taker (q r : Nat) (hqr : q ≠ r) (ws : List Wt) : Taker 25 [.pointer (some ⟨q, 0, none⟩)] ws (fun _ => true) (fun b => b = q ∨ b = r) (ListSt q r ws.length) where
  call l x w hp hi := cAll2_any w q r ws.length hqr l x (by have := hp.length_le; simp at this; omega) hi
  keep l w w' hi hs := by
    obtain ⟨a, rest, b, hh⟩ := hi.row
    exact ⟨hi.le, (hs q (Or.inl rfl)).trans hi.cell, a, rest, b, (hs r (Or.inr rfl)).trans hh⟩
  lt l w hi b hb := by
    rcases hb with rfl | rfl
    · exact heap_lt hi.cell
    · obtain ⟨_, rest, _, hh⟩ := hi.row
      exact heap_lt hh
  enter := enter_All2
end Go.Proofs.Ytelbmjbjpgcdaaa
