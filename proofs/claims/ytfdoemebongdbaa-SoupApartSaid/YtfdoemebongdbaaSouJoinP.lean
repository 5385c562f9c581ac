/- Layer 8: soups joined, as plain lists; a soup being put together. -/
import Derived.Test.YtfdoemebongdbaaSouRefA
import Derived.Test.YtfdoemebongdbaaArgSoup
namespace Go.Proofs.Ytfdoemebongdbaa
open Go.RowKit

abbrev zS : Int × List Tr := (0, [])
/-- How many vertices, how many triangles the first k soups have. -/
def sumN (L : List (Int × List Tr)) : Nat → Int
  | 0 => 0
  | k + 1 => sumN L k + (L.getD k zS).1
def cntT (L : List (Int × List Tr)) : Nat → Nat
  | 0 => 0
  | k + 1 => cntT L k + (L.getD k zS).2.length
def shT (o : Int) (t : Tr) : Tr := (o + t.1, o + t.2.1, o + t.2.2)
/-- The triangles of the first k soups, by their new numbers. -/
def joinT (L : List (Int × List Tr)) : Nat → List Tr
  | 0 => []
  | k + 1 => joinT L k ++ (L.getD k zS).2.map (shT (sumN L k))
theorem joinT_len (L : List (Int × List Tr)) (k : Nat) : (joinT L k).length = cntT L k := by
  induction k with
  | zero => rfl
  | succ k ih => rw [joinT, cntT, List.length_append, List.length_map, ih]
theorem cntT_le (L : List (Int × List Tr)) (h : ∀ x ∈ L, x.2.length ≤ 1000) (k : Nat) : cntT L k ≤ 1000 * k := by
  induction k with
  | zero => exact Nat.zero_le _
  | succ k ih =>
    have : (L.getD k zS).2.length ≤ 1000 := by
      by_cases hk : k < L.length
      · exact h _ (by rw [List.getD_eq_getElem?_getD, List.getElem?_eq_getElem hk]; exact List.getElem_mem hk)
      · rw [List.getD_eq_getElem?_getD, List.getElem?_eq_none (by omega)]; exact Nat.zero_le _
    rw [cntT]; omega
theorem sumN_le (L : List (Int × List Tr)) (k : Nat) (h : ∀ j, j < k → 0 ≤ (L.getD j zS).1 ∧ (L.getD j zS).1 ≤ 4096) : 0 ≤ sumN L k ∧ sumN L k ≤ 4096 * (k : Int) := by
  induction k with
  | zero => exact ⟨by simp [sumN], by simp [sumN]⟩
  | succ k ih =>
    have h1 := ih (fun j hj => h j (by omega))
    have h2 := h k (by omega)
    rw [sumN]
    omega

/-- A soup being put together: the result's box, its own two cells, its triangles in a row of their own. -/
structure JSt (w wr : World) (r ob : Nat) (M : Int) (L : List Tr) (v : Value) : Prop where
  below : Below w.heap.size w wr
  res : Bx wr r 0 none 0 0
  ob' : wr.heap[ob]? = some (.cells #[.int .i64 M, v] 24 (0, 0))
  own : wr.ownsRow w.heap.size 51 3 v L.length (ints (flat3 L))
  wo : w.heap.size ≤ ob
  wr' : w.heap.size ≤ r
  ro : r ≠ ob
theorem JSt.up {w wr wx : World} {r ob : Nat} {M : Int} {L : List Tr} {v : Value} (h : JSt w wr r ob M L v) (b : Below wr.heap.size wr wx) : JSt w wx r ob M L v :=
  ⟨h.below.trans (b.mono h.below.size), h.res.below b, (b.block ob (heap_lt h.ob')).trans h.ob', ownK_up h.own b, h.wo, h.wr', h.ro⟩
/-- A block of another element type is not the row's. -/
theorem own_far8 {W W' : World} {B n s q : Nat} {t t' : TypeId} {v : Value} {xs : List Value} {cs : Array Value} {fr : Nat × Nat} (h : W.ownsRow B t s v n xs) (hq : W.heap[q]? = some (.cells cs t' fr)) (ht : t ≠ t') (g : W.grownBy W' v.ownBlock) : W'.heap[q]? = some (.cells cs t' fr) := by
  refine (g.block q (heap_lt hq) (fun e => ?_)).trans hq
  rcases h.2 with ⟨h1, _⟩ | ⟨p, cap, cur, h1, _, hh, _⟩
  · rw [h1] at e; cases e
  · rw [h1] at e
    have e : q = p := Option.some.inj e
    subst e
    rw [hq] at hh
    injection hh with hh
    injection hh with _ hh _
    exact ht hh.symm
theorem JSt.app {w wr w7 w9 : World} {r ob : Nat} {M : Int} {L : List Tr} {v v' : Value} {t : Tr} (h : JSt w wr r ob M L v) (b7 : Below wr.heap.size wr w7)
    (own9 : w9.ownsRow w.heap.size 51 3 v' (L.length + 1) (ints (flat3 L) ++ [.int .i64 t.1, .int .i64 t.2.1, .int .i64 t.2.2])) (gr : w7.grownBy w9 v.ownBlock) :
    JSt w (w9.setCell ⟨ob, 1, none⟩ v') r ob M (L ++ [t]) v' ∧ w9.heap[ob]? = some (.cells #[.int .i64 M, v] 24 (0, 0)) ∧ Below w.heap.size w w9 := by
  have q := h.up b7
  have o9 := own_far8 q.own q.ob' (by decide) gr
  have r9 : Bx w9 r 0 none 0 0 := own_far8 q.own q.res (by decide) gr
  have b9 : Below w.heap.size w w9 := own_grown_below q.below gr q.below.size (fun k hk => ownK_lt q.own k hk)
  refine ⟨⟨b9.setCell (p := ⟨ob, 1, none⟩) h.wo _, heap_far r9 h.ro _, ?_, ?_, h.wo, h.wr', h.ro⟩, o9, b9⟩
  · simpa using heap_set o9 1 v'
  · rw [List.length_append, flat3_append, ints_append]
    exact ownK_set own9 o9 (by decide) 1 v'
theorem JSt.wpl {w wr : World} {r ob : Nat} {M : Int} {L : List Tr} {v : Value} (h : JSt w wr r ob M L v) (t : Tr) {ops : Array Oper} {rest : List Oper} {o : Oper} {a : Act} {Q : Exit → Act → World → Prop} (hgd : o.guard = none) (s x : Operand)
    (ho : o.op = .call { callee := .builtin .append, args := #[s, x], argTypes := #[22, 22] }) (hs : a.eval s = v) (Z : Nat) (hZ : Z = wr.heap.size) (hx : a.eval x = .slice (some ⟨Z, 0, none⟩) 1 1) (hl : L.length ≤ 1000000)
    (cont : ∀ A' c' w9, JSt w (w9.setCell ⟨ob, 1, none⟩ (.slice A' (L.length + 1) c')) r ob M (L ++ [t]) (.slice A' (L.length + 1) c') → w9.heap[ob]? = some (.cells #[.int .i64 M, v] 24 (0, 0)) → Below w.heap.size w w9 → (∀ (q : Nat) (cs : Array Value), wr.heap[q]? = some (Obj.cells cs 24 (0, 0)) → w9.heap[q]? = some (Obj.cells cs 24 (0, 0))) → wpList Try.prog ops Q rest (a.put o.dst (.slice A' (L.length + 1) c')) w9) :
    wpList Try.prog ops Q (o :: rest) a (wr.alloc (triO t)) := by
  obtain ⟨i0, hi, hz0, hz1, hz2⟩ := info_parts Try.infoTri
  subst hZ
  have b := (Below.refl _ wr).alloc (Nat.le_refl _) (triO t)
  have q := h.up b
  refine wpList_append_lies _ hgd s x 22 ho w.heap.size 51 i0 (.agg #[.int .i64 0, .int .i64 0, .int .i64 0]) 3 24 Try.underlying22 hi hz0 hz1 hz2 rfl (by decide) v L.length (ints (flat3 L)) hs q.own ⟨wr.heap.size, 0, none⟩ 1 1 [.int .i64 t.1, .int .i64 t.2.1, .int .i64 t.2.2] hx rfl (tri_cells wr t) (ones3 _ _ _) (by decide) (by unfold maxLen; omega) (by omega) q.below.size _ rfl ?_
  intro g9 cap9 w9 own9 gr9 _ _
  obtain ⟨h1, h2, h3⟩ := h.app (t := t) b own9 gr9
  exact cont _ _ w9 h1 h2 h3 (fun p cs hp => own_far8 q.own ((b.block p (heap_lt hp)).trans hp) (by decide) gr9)
/-- The number of vertices is put up. -/
theorem JSt.more {w wr : World} {r ob : Nat} {M : Int} {L : List Tr} {v : Value} (h : JSt w wr r ob M L v) (M' : Int) : JSt w (wr.setCell ⟨ob, 0, none⟩ (.int .i64 M')) r ob M' L v := by
  refine ⟨h.below.setCell (p := ⟨ob, 0, none⟩) h.wo _, heap_far h.res h.ro _, ?_, ownK_set h.own h.ob' (by decide) 0 _, h.wo, h.wr', h.ro⟩
  simpa using heap_set h.ob' 0 (.int .i64 M')
/-- What is told at the end. -/
theorem JSt.ret {w wr : World} {r ob k : Nat} {M : Int} {L : List Tr} {A' : Option Addr} {c' : Nat} (h : JSt w wr r ob M L (.slice A' k c')) (hk : L.length = k) :
    ((wr.setCell ⟨r, 0, none⟩ (.int .i64 M)).setCell ⟨r, 1, none⟩ (.slice A' k c')).heap[r]? = some (.cells #[.int .i64 M, .slice A' k c'] 24 (0, 0)) ∧
    NewS w ((wr.setCell ⟨r, 0, none⟩ (.int .i64 M)).setCell ⟨r, 1, none⟩ (.slice A' k c')) M L (.agg #[.int .i64 M, .slice A' k c']) := by
  subst hk
  refine ⟨set2 h.res, _, _, rfl, ?_, below_set2 h.below h.wr' _ _⟩
  have o1 := ownK_set h.own h.res (by decide) 0 (.int .i64 M)
  exact ownK_set o1 (heap_set h.res 0 (.int .i64 M)) (by decide) 1 (.slice A' L.length c')
end Go.Proofs.Ytfdoemebongdbaa
