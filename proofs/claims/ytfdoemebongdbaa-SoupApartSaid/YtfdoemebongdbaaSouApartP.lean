/- Layer 8: rows that are written over; what each of the calls tells, as far as its memory goes. -/
import Derived.Test.YtfdoemebongdbaaSouPartsQ
import Derived.Test.YtfdoemebongdbaaSouRefG
namespace Go.Proofs.Ytfdoemebongdbaa
open Go.ChangeShapes Go.WideShapes Go.ChangeAt Go.RowKit

theorem arg_soup0 {H : Type} {enc : TypeId × Value → H} {W : World} {v : Value} {d : DataW H} {p : List MemPlace} {base : Nat} (hv : Value.okWide Try.prog W .any base 24 v)
    (h : DataW.Trod enc Try.prog W 0 (fun _ => true) true 24 v d p) : ∃ N A n c, ∃ l : List Tr, v = .agg #[.int .i64 N, .slice A n c] ∧ (-9223372036854775808 ≤ N ∧ N ≤ 9223372036854775807) ∧ (A = none → c = 0) ∧ T3 W A n l := by
  obtain ⟨cs, rfl, hsz⟩ := okWide_struct Try.underlying24 hv
  obtain ⟨fuel, hf⟩ := h
  obtain ⟨y0, y1, m, _, hl, h0, h1⟩ := trod_struct2 Try.underlying24 hf
  have hc2 : Try.prog.cellsOf 24 = 2 := by kernel_rfl
  have hc0 : Try.prog.cellsOf 3 = 1 := by kernel_rfl
  have hc1 : Try.prog.cellsOf 22 = 1 := by kernel_rfl
  rw [hc2] at hsz
  obtain ⟨cs⟩ := cs
  match cs, hsz with
  | [u0, u1], _ =>
    have h0' : DataW.trod enc Try.prog W 0 (fun _ => true) true m 3 [u0] = some y0 := by
      have h := h0
      simp only [Value.cells, hc0] at h
      exact h
    have h1' : DataW.trod enc Try.prog W 0 (fun _ => true) true m 22 [u1] = some y1 := by
      have h := h1
      simp only [Value.cells, hc1] at h
      exact h
    obtain ⟨A, n, c, hA, hz0, l, hr⟩ := cells_tris h1'
    obtain ⟨z, hz, _, hb⟩ := DataW.trod_int Try.underlying3 h0'
    simp at hz
    have hbd := bounds_i64 hb
    subst hA hz
    exact ⟨z, A, n, c, l, rfl, hbd, hz0, hr⟩

theorem t3_flat {w : World} {A : Option Addr} {n : Nat} {l : List Tr} (h : T3 w A n l) (hn : 0 < n) : ∃ ad, A = some ad ∧ ∀ j u, (ints (flat3 l))[j]? = some u → w.cell? (ad.add j) = some u := by
  obtain ⟨b, off, rfl, hc⟩ := h.2 hn
  refine ⟨_, rfl, fun j u hu => ?_⟩
  have hj : j < 3 * n := by
    have := (List.getElem?_eq_some_iff.1 hu).1
    rw [length_ints, length_flat3, h.1] at this
    exact this
  have ea : ∀ j, (⟨b, off, none⟩ : Addr).add j = ⟨b, off + j, none⟩ := fun j => by unfold Addr.add; split <;> simp_all
  have hk : j / 3 < n := by omega
  obtain ⟨c0, c1, c2⟩ := hc (j / 3) hk
  obtain ⟨a0, a1, a2⟩ := flat3_at l (j / 3) (by rw [h.1]; exact hk)
  rw [ea, ← hu, ints_at]
  have hm : j % 3 = 0 ∨ j % 3 = 1 ∨ j % 3 = 2 := by omega
  rcases hm with hm | hm | hm
  · have e1 : 3 * (j / 3) = j := by omega
    have e2 : off + j / 3 * 3 = off + j := by omega
    rw [e1] at a0
    rw [e2] at c0
    rw [c0, a0]; rfl
  · have e1 : 3 * (j / 3) + 1 = j := by omega
    have e2 : off + j / 3 * 3 + 1 = off + j := by omega
    rw [e1] at a1
    rw [e2] at c1
    rw [c1, a1]; rfl
  · have e1 : 3 * (j / 3) + 2 = j := by omega
    have e2 : off + j / 3 * 3 + 2 = off + j := by omega
    rw [e1] at a2
    rw [e2] at c2
    rw [c2, a2]; rfl
theorem own_emptyT (w : World) : (w.alloc (.cells #[] 51)).ownsRow w.heap.size 51 3 (.slice (some ⟨w.heap.size, 0, none⟩) 0 0) 0 (ints (flat3 [])) :=
  ⟨rfl, .inr ⟨w.heap.size, 0, #[], rfl, Nat.le_refl _, heap_alloc_new w _, Nat.le_refl _, by unfold maxLen; omega, rfl, rfl⟩⟩
theorem own_emptyI (w : World) : (w.alloc (.cells #[] 3)).ownsRow w.heap.size 3 1 (.slice (some ⟨w.heap.size, 0, none⟩) 0 0) 0 (ints []) :=
  ⟨rfl, .inr ⟨w.heap.size, 0, #[], rfl, Nat.le_refl _, heap_alloc_new w _, Nat.le_refl _, by unfold maxLen; omega, rfl, rfl⟩⟩
/-- append of a slice of triangles (perhaps of none), at a step of a region that draws its order. -/
theorem stepT {w : World} {B n : Nat} {v : Value} {X : List Tr} (hown : w.ownsRow B 51 3 v n (ints (flat3 X))) {A : Option Addr} {m c : Nat} {Y : List Tr} (hr : T3 w A m Y) (hA0 : A = none → c = 0) {ops : Array Oper} {o : Oper} {a : Act} {K : Act → World → Prop} {Q : Exit → Act → World → Prop} {E : Prop} (hgd : o.guard = none) (s x : Operand)
    (ho : o.op = .call { callee := .builtin .append, args := #[s, x], argTypes := #[22, 22] }) (hs : a.eval s = v) (hx : a.eval x = .slice A m c) (hl : n + m ≤ 1000000) (hB : B ≤ w.heap.size)
    (cont : ∀ A' c' w9, w9.ownsRow B 51 3 (.slice A' (n + m) c') (n + m) (ints (flat3 (X ++ Y))) → w.grownBy w9 v.ownBlock → K (a.put o.dst (.slice A' (n + m) c')) w9) :
    if Region.wanted o (yielded ops a.tmps) = true then Oper.wp Try.prog o a w K Q else E := by
  obtain ⟨i0, hi, hz0, hz1, hz2⟩ := info_parts Try.infoTri
  have hw : Region.wanted o (yielded ops a.tmps) = true := by simp [Region.wanted, hgd]
  rw [if_pos hw]
  rw [flat3_append, ints_append] at cont
  rcases A with _ | ad
  · have hc : c = 0 := hA0 rfl
    have hm : m = 0 := by
      rcases Nat.eq_zero_or_pos m with h0 | h0
      · exact h0
      · obtain ⟨ad, he, _⟩ := t3_flat hr h0; cases he
    subst hc hm
    have hnil : Y = [] := List.eq_nil_of_length_eq_zero hr.1
    subst hnil
    obtain ⟨A', c', rfl⟩ := ownK_form hown
    have hrun := run_append_owned_none (P := Try.prog) w B 22 o.type 51 i0 3 Try.underlying22 hi (.slice A' n c') n (ints (flat3 X)) hown
    unfold Oper.wp execOp
    simp only [ho, resolve, invoke, builtin, Sem.run_bind, Sem.run_pure, Result.andThen_ok, List.map_toArray, List.map_cons, List.map_nil, hs, hx, hrun]
    exact cont A' c' w (by rw [show ints (flat3 []) = [] from rfl, List.append_nil]; exact hown) (World.grownBy.refl w _)
  · have hcells : ∀ j u, (ints (flat3 Y))[j]? = some u → w.cell? (ad.add j) = some u := by
      intro j u hu
      have hj : j < (ints (flat3 Y)).length := (List.getElem?_eq_some_iff.1 hu).1
      rw [length_ints, length_flat3, hr.1] at hj
      obtain ⟨ad', he, hc⟩ := t3_flat hr (by omega)
      injection he with he
      subst he
      exact hc j u hu
    refine wp_append_own w s x 22 ho B 51 i0 (.agg #[.int .i64 0, .int .i64 0, .int .i64 0]) 3 24 Try.underlying22 hi hz0 hz1 hz2 rfl (by decide) v n (ints (flat3 X)) hs hown ad m c (ints (flat3 Y)) hx (by rw [length_ints, length_flat3, hr.1]; omega) hcells (ints_one _) (by unfold maxLen; omega) (by omega) hB fun v' w' h2 h3 _ => ?_
    obtain ⟨A', c', rfl⟩ := ownK_form h2
    exact cont A' c' w' h2 h3

theorem stepT0 {w : World} {B : Nat} {v : Value} (hown : w.ownsRow B 51 3 v 0 (ints (flat3 []))) {A : Option Addr} {m c : Nat} {Y : List Tr} (hr : T3 w A m Y) (hA0 : A = none → c = 0) {ops : Array Oper} {o : Oper} {a : Act} {K : Act → World → Prop} {Q : Exit → Act → World → Prop} {E : Prop} (hgd : o.guard = none) (s x : Operand)
    (ho : o.op = .call { callee := .builtin .append, args := #[s, x], argTypes := #[22, 22] }) (hs : a.eval s = v) (hx : a.eval x = .slice A m c) (hl : m ≤ 1000000) (hB : B ≤ w.heap.size)
    (cont : ∀ A' c' w9, w9.ownsRow B 51 3 (.slice A' m c') m (ints (flat3 Y)) → w.grownBy w9 v.ownBlock → K (a.put o.dst (.slice A' m c')) w9) :
    if Region.wanted o (yielded ops a.tmps) = true then Oper.wp Try.prog o a w K Q else E :=
  stepT (n := 0) (X := []) hown hr hA0 hgd s x ho hs hx (by omega) hB (fun A' c' w9 h1 h2 => by
    rw [Nat.zero_add, List.nil_append] at h1
    rw [Nat.zero_add]
    exact cont A' c' w9 h1 h2)
/-- The copy of the soup that is kept: its box, its triangles. -/
def WasCut (w2 : World) (N : Int) (n : Nat) (l : List Tr) (v : Value) (wc : World) : Prop := ∃ wb wA wcap, v = .pointer (some ⟨wb, 0, none⟩) ∧ Below w2.heap.size w2 wc ∧ Bx wc wb N wA n wcap ∧ T3 wc wA n l
theorem was_end {w2 w9 : World} {ob Z n c9 : Nat} {N : Int} {l : List Tr} {A9 : Option Addr} (hb : w9.heap[ob]? = some (.cells #[.int .i64 0, .slice none 0 0] 24 (0, 0))) (own : w9.ownsRow Z 51 3 (.slice A9 n c9) n (ints (flat3 l))) (b : Below w2.heap.size w2 w9) (ho : w2.heap.size ≤ ob) :
    WasCut w2 N n l (.pointer (some ⟨ob, 0, none⟩)) ((w9.setCell ⟨ob, 0, none⟩ (.int .i64 N)).setCell ⟨ob, 1, none⟩ (.slice A9 n c9)) := by
  have o1 := ownK_set own hb (by decide) 0 (.int .i64 N)
  have o2 := ownK_set o1 (heap_set hb 0 (.int .i64 N)) (by decide) 1 (.slice A9 n c9)
  exact ⟨ob, A9, c9, rfl, below_set2 b ho _ _, set2 hb, T3.of_own o2⟩

/-- A row of n elements of s cells between two blocks' numbers: it may be written over. -/
def Room (w : World) (Z Y s : Nat) (A : Option Addr) (n : Nat) : Prop := 0 < n → ∃ q cur t, A = some ⟨q, 0, none⟩ ∧ Z ≤ q ∧ q < Y ∧ w.heap[q]? = some (.cells cur t (0, 0)) ∧ n * s ≤ cur.size
theorem Room.of_own {w : World} {B n s c : Nat} {t : TypeId} {A : Option Addr} {xs : List Value} (h : w.ownsRow B t s (.slice A n c) n xs) : Room w B w.heap.size s A n := by
  intro hn
  rcases h.2 with ⟨h1, h2⟩ | ⟨q, cap, cur, h1, hq, hh, hc, hm, hs, ht⟩
  · omega
  · injection h1 with h1 _ h3
    subst h1
    exact ⟨q, cur, t, rfl, hq, heap_lt hh, hh, by rw [hs]; exact Nat.mul_le_mul_right s hc⟩
theorem Room.below {w w' : World} {Z Y s n : Nat} {A : Option Addr} (h : Room w Z Y s A n) (b : Below w.heap.size w w') : Room w' Z Y s A n := by
  intro hn
  obtain ⟨q, cur, t, h1, h2, h3, h4, h5⟩ := h hn
  exact ⟨q, cur, t, h1, h2, h3, (b.block q (heap_lt h4)).trans h4, h5⟩
theorem Room.wide {w : World} {Z Y Z' Y' s n : Nat} {A : Option Addr} (h : Room w Z Y s A n) (hz : Z' ≤ Z) (hy : Y ≤ Y') : Room w Z' Y' s A n := by
  intro hn
  obtain ⟨q, cur, t, h1, h2, h3, h4, h5⟩ := h hn
  exact ⟨q, cur, t, h1, Nat.le_trans hz h2, Nat.lt_of_lt_of_le h3 hy, h4, h5⟩
theorem Room.set {w : World} {Z Y s n : Nat} {A : Option Addr} (h : Room w Z Y s A n) (g i : Nat) (u : Value) : Room (w.setCell ⟨g, i, none⟩ u) Z Y s A n := by
  intro hn
  obtain ⟨q, cur, t, h1, h2, h3, h4, h5⟩ := h hn
  by_cases e : q = g
  · subst e
    exact ⟨q, cur.setIfInBounds i u, t, h1, h2, h3, heap_set h4 i u, by rw [Array.size_setIfInBounds]; exact h5⟩
  · exact ⟨q, cur, t, h1, h2, h3, heap_far h4 e u, h5⟩
theorem Room.cell {w : World} {Z Y s n : Nat} {A : Option Addr} (h : Room w Z Y s A n) {i : Nat} (hi : i < n) : ∃ q, A = some ⟨q, 0, none⟩ ∧ Z ≤ q ∧ q < Y ∧ ∀ j, j < s → (∃ v, w.cell? ⟨q, i * s + j, none⟩ = some v) ∧ w.frozen? ⟨q, i * s + j, none⟩ = false := by
  obtain ⟨q, cur, t, h1, h2, h3, h4, h5⟩ := h (by omega)
  refine ⟨q, h1, h2, h3, fun j hj => ⟨?_, frozen_in h4 _⟩⟩
  rw [cell_in h4]
  have hm : (i + 1) * s ≤ n * s := Nat.mul_le_mul_right s hi
  rw [Nat.succ_mul] at hm
  exact ⟨_, Array.getElem?_eq_getElem (show i * s + j < cur.size by omega)⟩

/-- What a call that tells a soup (and an error's number) leaves: a new row. -/
def NewT (w : World) (e : Ending) (w' : World) : Prop := ∃ N A m c k, e = .returned (.tuple #[.agg #[.int .i64 N, .slice A m c], .int .i64 k]) ∧ Room w' w.heap.size w'.heap.size 3 A m ∧ m ≤ 8192 ∧ Below w.heap.size w w'
def NewT3 (w : World) (e : Ending) (w' : World) : Prop := ∃ N A m c Ao mo co k, e = .returned (.tuple #[.agg #[.int .i64 N, .slice A m c], .slice Ao mo co, .int .i64 k]) ∧ Room w' w.heap.size w'.heap.size 3 A m ∧ Room w' w.heap.size w'.heap.size 1 Ao mo ∧ m ≤ 8192 ∧ mo ≤ 8192 ∧ Below w.heap.size w w'
theorem NewT.err {w w' : World} {k : Int} {e : Ending} (h : ErrS w k e w') : NewT w e w' := by
  obtain ⟨rfl, b⟩ := h
  exact ⟨0, none, 0, 0, k, rfl, fun h => absurd h (by omega), by omega, b⟩
theorem NewT.ok {w w' : World} {N : Int} {l : List Tr} {e : Ending} (h : OkS w N l e w') (hl : l.length ≤ 8192) : NewT w e w' := by
  obtain ⟨v, rfl, A, c, rfl, o, b⟩ := h
  exact ⟨_, A, _, c, 0, rfl, Room.of_own o, hl, b⟩
theorem sreytfdoemebongdbaanew (w : World) (N : Int) (A B : Option Addr) (n c m d : Nat) (l : List Tr) (cs : List Int) (h : T3 w A n l) (ht : Reads w B m (ints cs)) (hn : n ≤ 8192) (hm : m ≤ 8192) :
    Calls Try.prog 19 #[.agg #[.int .i64 N, .slice A n c], .slice B m d] w (NewT w) := by
  by_cases hf : Fit N l
  · by_cases hp : IsPerm N cs
    · exact (sreytfdoemebongdbaaok w N A B n c m d l cs h ht (by omega) (by omega) hf hp).mono fun e w' h' => NewT.ok h' (by rw [List.length_map, h.1]; exact hn)
    · exact (sreytfdoemebongdbaaform w N A B n c m d l cs h ht (by omega) (by omega) hf hp).mono fun e w' h' => NewT.err h'
  · exact (sreytfdoemebongdbaaarg w N A B n c m d l h (by omega) hf).mono fun e w' h' => NewT.err h'
theorem spick_new (w : World) (N : Int) (A B : Option Addr) (n c m d : Nat) (l : List Tr) (cs : List Int) (h : T3 w A n l) (ht : Reads w B m (ints cs)) (hn : n ≤ 8192) (hm : m ≤ 8192) :
    Calls Try.prog 22 #[.agg #[.int .i64 N, .slice A n c], .slice B m d] w (NewT w) :=
  (spick_tell w N A B n c m d l cs h ht (by omega) hm).mono fun _ _ ⟨N', A', m', c', _, k, he, _, o, hm', b⟩ => ⟨N', A', m', c', k, he, Room.of_own o, hm', b⟩
theorem spart_new (w : World) (N : Int) (A B : Option Addr) (n c m d : Nat) (l : List Tr) (cs : List Int) (h : T3 w A n l) (ht : Reads w B m (ints cs)) (hn : n ≤ 8192) (hm : m ≤ 8192) :
    Calls Try.prog 24 #[.agg #[.int .i64 N, .slice A n c], .slice B m d] w (NewT3 w) :=
  (spart_tell w N A B n c m d l cs h ht (by omega) hm).mono fun _ _ ⟨N', A', m', c', _, Ao, mo, co, _, k, he, _, o, o', hm', hmo, b⟩ => ⟨N', A', m', c', Ao, mo, co, k, he, Room.of_own o, Room.of_own o', hm', hmo, b⟩
theorem soups_one {w : World} {q : Nat} {N : Int} {A : Option Addr} {n c : Nat} {l : List Tr} (hq : w.heap[q]? = some (.cells #[.int .i64 N, .slice A n c] 24 (0, 0))) (h : T3 w A n l) : Soups w (some ⟨q, 0, none⟩) 1 [(N, l)] := by
  refine ⟨rfl, fun _ => ⟨q, 0, rfl, fun i hi => ?_⟩⟩
  have hl := h.1
  subst hl
  obtain rfl : i = 0 := by omega
  exact ⟨A, c, by rw [cell_in hq]; rfl, by rw [cell_in hq]; rfl, h⟩
theorem sjoin_new (w : World) (q : Nat) (N : Int) (A : Option Addr) (n c : Nat) (l : List Tr) (hq : w.heap[q]? = some (.cells #[.int .i64 N, .slice A n c] 24 (0, 0))) (h : T3 w A n l) (hn : n ≤ 1000) :
    Calls Try.prog 27 #[.slice (some ⟨q, 0, none⟩) 1 1] w (NewT w) := by
  have hl : ∀ x ∈ [(N, l)], x.2.length ≤ 1000 := by
    intro x hx
    obtain rfl := List.mem_singleton.1 hx
    rw [h.1]; exact hn
  refine (sjoin_any w _ 1 1 _ (soups_one hq h) (by omega) hl).mono fun e w' h' => ?_
  rcases h' with ⟨_, h'⟩ | ⟨_, _, h'⟩ | ⟨_, _, h'⟩
  · exact NewT.err h'
  · exact NewT.err h'
  · exact NewT.ok h' (by rw [joinT_len]; have := cntT_le _ hl 1; omega)
/-- Edges, the code's or the document's, of any soup. -/
def EdgT (w : World) (N : Int) (l : List Tr) (e : Ending) (w' : World) : Prop := ∃ es A m c, e = .returned (.slice A m c) ∧ (Fit N l → IsEdges l es) ∧ (¬ Fit N l → es = []) ∧ w'.ownsRow w.heap.size 54 2 (.slice A m c) m (ints (flat2 es)) ∧ m ≤ 3 * l.length ∧ Below w.heap.size w w'
theorem sedges_new (w : World) (N : Int) (A : Option Addr) (n c : Nat) (l : List Tr) (h : T3 w A n l) (hn : n ≤ 8192) : Calls Try.prog 30 #[.agg #[.int .i64 N, .slice A n c]] w (EdgT w N l) := by
  by_cases hf : Fit N l
  · exact (sedges_any w N A n c l h hn hf).mono fun e w' ⟨es, A', c', he, hi, o, b, hl⟩ => ⟨es, A', _, c', he, fun _ => hi, fun h => absurd hf h, o, hl, b⟩
  · exact (sedges_no w N A n c l h (by omega) hf).mono fun e w' ⟨he, b⟩ => ⟨[], none, 0, 0, he, fun h => absurd h hf, fun _ => rfl, World.ownsRow_nil _ _ _ _, by omega, b⟩
theorem redges_new (w : World) (N : Int) (A : Option Addr) (n c : Nat) (l : List Tr) (h : T3 w A n l) (hn : n ≤ 8192) : Calls Try.prog 31 #[.agg #[.int .i64 N, .slice A n c]] w (EdgT w N l) := by
  by_cases hf : Fit N l
  · exact (redges_any w N A n c l h hn hf).mono fun e w' ⟨es, A', c', he, hi, o, b, hl⟩ => ⟨es, A', _, c', he, fun _ => hi, fun h => absurd hf h, o, hl, b⟩
  · exact (redges_no w N A n c l h (by omega) hf).mono fun e w' ⟨he, b⟩ => ⟨[], none, 0, 0, he, fun h => absurd h hf, fun _ => rfl, World.ownsRow_nil _ _ _ _, by omega, b⟩
theorem edges_same {N : Int} {l : List Tr} {es fs : List Ed} (h1 : Fit N l → IsEdges l es) (h2 : ¬ Fit N l → es = []) (g1 : Fit N l → IsEdges l fs) (g2 : ¬ Fit N l → fs = []) : fs = es := by
  by_cases hf : Fit N l
  · exact ((h1 hf).one (g1 hf) (fun _ => Iff.rfl)).symm
  · rw [h2 hf, g2 hf]

/-- Five soups in a row, and their rows of triangles, which may be written over. -/
abbrev sv := Int × Option Addr × Nat × Nat
def flatS (L : List sv) : List Value := L.flatMap fun x => [.int .i64 x.1, .slice x.2.1 x.2.2.1 x.2.2.2]
theorem flatS_at : ∀ (L : List sv) (k : Nat), k < L.length → (flatS L)[k * 2]? = some (.int .i64 (L.getD k (0, none, 0, 0)).1) ∧ (flatS L)[k * 2 + 1]? = some (.slice (L.getD k (0, none, 0, 0)).2.1 (L.getD k (0, none, 0, 0)).2.2.1 (L.getD k (0, none, 0, 0)).2.2.2)
  | x :: L, 0, _ => by simp [flatS]
  | x :: L, k + 1, h => by
    have := flatS_at L k (by simpa using h)
    have e : flatS (x :: L) = .int .i64 x.1 :: .slice x.2.1 x.2.2.1 x.2.2.2 :: flatS L := by simp [flatS]
    rw [e, show (k + 1) * 2 = k * 2 + 1 + 1 by omega]
    simp only [List.getElem?_cons_succ, List.getD_cons_succ]
    exact this
structure Wipe (W6 wr : World) (sb : Nat) (L : List sv) (Ao : Option Addr) (mo : Nat) (Ae : Option Addr) (me : Nat) : Prop where
  below : Below W6.heap.size W6 wr
  five : wr.heap[sb]? = some (.cells (flatS L).toArray 24 (0, 0))
  rooms : ∀ x ∈ L, Room wr W6.heap.size sb 3 x.2.1 x.2.2.1 ∧ x.2.2.1 ≤ 8192
  old : Room wr W6.heap.size sb 1 Ao mo
  edg : Room wr W6.heap.size sb 2 Ae me
theorem Wipe.up {W6 wr wr' : World} {sb : Nat} {L : List sv} {Ao Ae : Option Addr} {mo me : Nat} (h : Wipe W6 wr sb L Ao mo Ae me) (b : Below wr.heap.size wr wr') : Wipe W6 wr' sb L Ao mo Ae me :=
  ⟨up2 h.below b, (b.block sb (heap_lt h.five)).trans h.five, fun x hx => ⟨(h.rooms x hx).1.below b, (h.rooms x hx).2⟩, h.old.below b, h.edg.below b⟩
theorem Wipe.set {W6 wr : World} {sb : Nat} {L : List sv} {Ao Ae : Option Addr} {mo me : Nat} (h : Wipe W6 wr sb L Ao mo Ae me) {q : Nat} (h1 : W6.heap.size ≤ q) (h2 : q < sb) (i : Nat) (u : Value) : Wipe W6 (wr.setCell ⟨q, i, none⟩ u) sb L Ao mo Ae me :=
  ⟨h.below.setCell (p := ⟨q, i, none⟩) h1 u, heap_far h.five (show sb ≠ q by omega) u, fun x hx => ⟨(h.rooms x hx).1.set q i u, (h.rooms x hx).2⟩, h.old.set q i u, h.edg.set q i u⟩
end Go.Proofs.Ytfdoemebongdbaa
