/- The document's answers for layer 8: mirrored, renamed. -/
import Derived.Test.YtmflacmgffpjoaaSouOwS
import Derived.Test.YtmflacmgffpjoaaGK
import Derived.Deep.RegionHeld3
namespace Go.Proofs.Ytmflacmgffpjoaa
open Go.RowKit

theorem T3.at {w : World} {b off n : Nat} {l : List Tr} (h : T3 w (some ⟨b, off, none⟩) n l) (i : Nat) (hi : i < n) : w.cell? ⟨b, off + i * 3, none⟩ = some (.int .i64 (l.getD i z3).1) ∧ w.cell? ⟨b, off + i * 3 + 1, none⟩ = some (.int .i64 (l.getD i z3).2.1) ∧ w.cell? ⟨b, off + i * 3 + 2, none⟩ = some (.int .i64 (l.getD i z3).2.2) := by
  obtain ⟨b', off', hA, hc⟩ := h.2 (by omega)
  injection hA with hA
  injection hA with h1 h2
  subst h1 h2
  exact hc i hi
theorem far1 {w : World} {q : Nat} {p : Addr} (hp : p.block ≠ q) (i : Nat) (a : Value) : (w.setCell ⟨q, i, none⟩ a).cell? p = w.cell? p := by
  have := Below.heap_setCell w ⟨q, i, none⟩ a p.block hp
  simp only [World.cell?, this]
/-- A soup in two cells whose triangles are a row of its own: being filled by append. -/
structure RSt (w wr : World) (g r ob Z : Nat) (N M : Int) (A : Option Addr) (n c : Nat) (L : List Tr) (v : Value) : Prop where
  below : Below w.heap.size w wr
  bx : Bx wr g N A n c
  res : Bx wr r 0 none 0 0
  ob' : wr.heap[ob]? = some (.cells #[.int .i64 M, v] 24 (0, 0))
  own : wr.ownsRow Z 53 3 v L.length (ints (flat3 L))
  wo : w.heap.size ≤ ob
  wz : w.heap.size ≤ Z
  gz : g < Z
  oz : ob < Z
  go : g ≠ ob
  rz : r < Z
  ro : r ≠ ob
  zw : Z ≤ wr.heap.size
theorem RSt.up {w wr wr' : World} {g r ob Z : Nat} {N M : Int} {A : Option Addr} {n c : Nat} {L : List Tr} {v : Value} (h : RSt w wr g r ob Z N M A n c L v) (b : Below wr.heap.size wr wr') : RSt w wr' g r ob Z N M A n c L v :=
  ⟨h.below.trans (b.mono h.below.size), h.bx.below b, h.res.below b, (b.block ob (heap_lt h.ob')).trans h.ob', ownK_up h.own b, h.wo, h.wz, h.gz, h.oz, h.go, h.rz, h.ro, Nat.le_trans h.zw b.size⟩
/-- One more triangle stands behind the others, and the soup's second cell has the new slice. -/
theorem RSt.app {w wr w7 w9 : World} {g r ob Z : Nat} {N M : Int} {A : Option Addr} {n c : Nat} {L : List Tr} {v v' : Value} {t : Tr} (h : RSt w wr g r ob Z N M A n c L v) (b7 : Below wr.heap.size wr w7)
    (own9 : w9.ownsRow Z 53 3 v' (L.length + 1) (ints (flat3 L) ++ [.int .i64 t.1, .int .i64 t.2.1, .int .i64 t.2.2])) (gr : w7.grownBy w9 v.ownBlock) :
    RSt w (w9.setCell ⟨ob, 1, none⟩ v') g r ob Z N M A n c (L ++ [t]) v' ∧ w9.heap[ob]? = some (.cells #[.int .i64 M, v] 24 (0, 0)) ∧ Below w.heap.size w w9 ∧ Bx w9 g N A n c := by
  have q := h.up b7
  have hne : ∀ k, v.ownBlock = some k → Z ≤ k := fun k hk => ownK_lt q.own k hk
  have o9 : w9.heap[ob]? = some (.cells #[.int .i64 M, v] 24 (0, 0)) := (gr.block ob (heap_lt q.ob') (fun e => by have := hne ob e.symm; have := h.oz; omega)).trans q.ob'
  have g9 : Bx w9 g N A n c := (gr.block g (heap_lt q.bx) (fun e => by have := hne g e.symm; have := h.gz; omega)).trans q.bx
  have b9 : Below w.heap.size w w9 := own_grown_below q.below gr q.below.size (fun k hk => by have := hne k hk; have := h.wz; omega)
  have r9 : Bx w9 r 0 none 0 0 := (gr.block r (heap_lt q.res) (fun e => by have := hne r e.symm; have := h.rz; omega)).trans q.res
  refine ⟨⟨b9.setCell (p := ⟨ob, 1, none⟩) h.wo _, heap_far g9 h.go _, heap_far r9 h.ro _, ?_, ?_, h.wo, h.wz, h.gz, h.oz, h.go, h.rz, h.ro, ?_⟩, o9, b9, g9⟩
  · simpa using heap_set o9 1 v'
  · rw [List.length_append, flat3_append, ints_append]
    exact ownK_set own9 o9 (by decide) 1 v'
  · rw [World.size_setCell]; exact Nat.le_trans q.zw gr.size
theorem RSt.first {w x : World} {g r Z : Nat} {N M : Int} {A : Option Addr} {n c : Nat} (hb : Below w.heap.size w x) (hg : Bx x g N A n c) (hr : Bx x r 0 none 0 0) (hZ : Z = x.heap.size + 1) : RSt w (x.alloc (.cells #[.int .i64 M, .slice none 0 0] 24)) g r x.heap.size Z N M A n c [] (.slice none 0 0) := by
  have b := (Below.refl _ x).alloc (Nat.le_refl _) (.cells #[.int .i64 M, .slice none 0 0] 24)
  have := hb.size
  have hgl := heap_lt hg
  have hrl := heap_lt hr
  exact ⟨hb.trans (b.mono hb.size), hg.below b, hr.below b, heap_alloc_new x _, World.ownsRow_nil _ _ _ _, hb.size, by omega, by omega, by omega, by omega, by omega, by omega, by rw [World.size_alloc]; omega⟩
theorem ones3 (a b c : Int) : ∀ u ∈ [Value.int .i64 a, .int .i64 b, .int .i64 c], u.oneCell' = true := by
  intro u hu
  simp at hu
  rcases hu with rfl | rfl | rfl <;> rfl
abbrev triO (t : Tr) : Obj := .cells #[.int .i64 t.1, .int .i64 t.2.1, .int .i64 t.2.2] 53
theorem tri_cells (w : World) (t : Tr) : ∀ j u, [Value.int .i64 t.1, .int .i64 t.2.1, .int .i64 t.2.2][j]? = some u → (w.alloc (triO t)).cell? ((⟨w.heap.size, 0, none⟩ : Addr).add j) = some u :=
  cells_of8 (Reads.of_block (xs := [.int .i64 t.1, .int .i64 t.2.1, .int .i64 t.2.2]) (heap_alloc_new w (triO t))) (by simp)
/-- append of one triangle, at a step of a region that draws its order. -/
theorem RSt.step {w wr : World} {g r ob Z : Nat} {N M : Int} {A : Option Addr} {n c : Nat} {L : List Tr} {v : Value} (h : RSt w wr g r ob Z N M A n c L v) (t : Tr) {ops : Array Oper} {o : Oper} {a : Act} {K : Act → World → Prop} {Q : Exit → Act → World → Prop} {E : Prop} (hgd : o.guard = none) (s x : Operand)
    (ho : o.op = .call { callee := .builtin .append, args := #[s, x], argTypes := #[22, 22] }) (hs : a.eval s = v) (hx : a.eval x = .slice (some ⟨wr.heap.size, 0, none⟩) 1 1) (hl : L.length ≤ 1000000)
    (cont : ∀ A' c' w9, RSt w (w9.setCell ⟨ob, 1, none⟩ (.slice A' (L.length + 1) c')) g r ob Z N M A n c (L ++ [t]) (.slice A' (L.length + 1) c') → w9.heap[ob]? = some (.cells #[.int .i64 M, v] 24 (0, 0)) → Below w.heap.size w w9 → Bx w9 g N A n c → K (a.put o.dst (.slice A' (L.length + 1) c')) w9) :
    if Region.wanted o (yielded ops a.tmps) = true then Oper.wp Try.prog o a (wr.alloc (triO t)) K Q else E := by
  obtain ⟨i0, hi, hz0, hz1, hz2⟩ := info_parts Try.infoTri
  have b := (Below.refl _ wr).alloc (Nat.le_refl _) (triO t)
  have q := h.up b
  refine step_append_lies _ hgd s x 22 ho Z 53 i0 (.agg #[.int .i64 0, .int .i64 0, .int .i64 0]) 3 24 Try.underlying22 hi hz0 hz1 hz2 rfl (by decide) v L.length (ints (flat3 L)) hs q.own ⟨wr.heap.size, 0, none⟩ 1 1 [.int .i64 t.1, .int .i64 t.2.1, .int .i64 t.2.2] hx rfl (tri_cells wr t) (ones3 _ _ _) (by decide) (by unfold maxLen; omega) (by omega) q.zw _ rfl ?_
  intro g9 cap9 w9 own9 gr9 _ _
  obtain ⟨h1, h2, h3, h4⟩ := h.app (t := t) b own9 gr9
  exact cont _ _ w9 h1 h2 h3 h4
/-- .. in a plain region. -/
theorem RSt.wpl {w wr : World} {g r ob Z : Nat} {N M : Int} {A : Option Addr} {n c : Nat} {L : List Tr} {v : Value} (h : RSt w wr g r ob Z N M A n c L v) (t : Tr) {ops : Array Oper} {rest : List Oper} {o : Oper} {a : Act} {Q : Exit → Act → World → Prop} (hgd : o.guard = none) (s x : Operand)
    (ho : o.op = .call { callee := .builtin .append, args := #[s, x], argTypes := #[22, 22] }) (hs : a.eval s = v) (hx : a.eval x = .slice (some ⟨wr.heap.size, 0, none⟩) 1 1) (hl : L.length ≤ 1000000)
    (cont : ∀ A' c' w9, RSt w (w9.setCell ⟨ob, 1, none⟩ (.slice A' (L.length + 1) c')) g r ob Z N M A n c (L ++ [t]) (.slice A' (L.length + 1) c') → w9.heap[ob]? = some (.cells #[.int .i64 M, v] 24 (0, 0)) → Below w.heap.size w w9 → Bx w9 g N A n c → wpList Try.prog ops Q rest (a.put o.dst (.slice A' (L.length + 1) c')) w9) :
    wpList Try.prog ops Q (o :: rest) a (wr.alloc (triO t)) := by
  obtain ⟨i0, hi, hz0, hz1, hz2⟩ := info_parts Try.infoTri
  have b := (Below.refl _ wr).alloc (Nat.le_refl _) (triO t)
  have q := h.up b
  refine wpList_append_lies _ hgd s x 22 ho Z 53 i0 (.agg #[.int .i64 0, .int .i64 0, .int .i64 0]) 3 24 Try.underlying22 hi hz0 hz1 hz2 rfl (by decide) v L.length (ints (flat3 L)) hs q.own ⟨wr.heap.size, 0, none⟩ 1 1 [.int .i64 t.1, .int .i64 t.2.1, .int .i64 t.2.2] hx rfl (tri_cells wr t) (ones3 _ _ _) (by decide) (by unfold maxLen; omega) (by omega) q.zw _ rfl ?_
  intro g9 cap9 w9 own9 gr9 _ _
  obtain ⟨h1, h2, h3, h4⟩ := h.app (t := t) b own9 gr9
  exact cont _ _ w9 h1 h2 h3 h4
/-- What is told at the end: the soup's two cells are stored into the result's. -/
theorem RSt.ret {w wr : World} {g r ob Z : Nat} {N M : Int} {A : Option Addr} {n c k : Nat} {L : List Tr} {A' : Option Addr} {c' : Nat} (h : RSt w wr g r ob Z N M A n c L (.slice A' k c')) (hk : L.length = k) (hwr : w.heap.size ≤ r) :
    ((wr.setCell ⟨r, 0, none⟩ (.int .i64 M)).setCell ⟨r, 1, none⟩ (.slice A' k c')).heap[r]? = some (.cells #[.int .i64 M, .slice A' k c'] 24 (0, 0)) ∧
    NewS w ((wr.setCell ⟨r, 0, none⟩ (.int .i64 M)).setCell ⟨r, 1, none⟩ (.slice A' k c')) M L (.agg #[.int .i64 M, .slice A' k c']) := by
  subst hk
  refine ⟨set2 h.res, _, _, rfl, ?_, below_set2 h.below hwr _ _⟩
  have o1 := ownK_set h.own h.res (by decide) 0 (.int .i64 M)
  have o2 := ownK_set o1 (heap_set h.res 0 (.int .i64 M)) (by decide) 1 (.slice A' L.length c')
  exact ownK_base o2 h.wz
def RAt (w : World) (g r ob Z : Nat) (N M : Int) (A : Option Addr) (n c : Nat) (f : Nat → Tr) (m : Nat) (i : Value) (wr : World) : Prop := ∃ k v, k ≤ m ∧ i = .int .i64 ((k : Nat) : Int) ∧ RSt w wr g r ob Z N M A n c ((List.range k).map f) v

set_option maxHeartbeats 8000000 in
set_option maxRecDepth 100000 in
theorem rmirror_any (w : World) (N : Int) (A : Option Addr) (n c : Nat) (l : List Tr) (h : T3 w A n l) (hn : n ≤ 1000000) :
    Calls Try.prog 26 #[.agg #[.int .i64 N, .slice A n c]] w (NewTold w N (l.map mirT)) := by
  have HL := Lib.hid h
  clear h
  go_enter Try.func26, Try.ntmps26
  go_wp2_with fail
  obtain ⟨y, hy⟩ : ∃ y, y = (w.alloc (.cells #[.int .i64 N, .slice A n c] 24)).alloc (.cells #[.int .i64 0, .slice none 0 0] 24) := ⟨_, rfl⟩
  have T := Lib.hid (two_boxes w N A n c y hy)
  have hys : y.heap.size = w.heap.size + 1 + 1 := by rw [hy, World.size_alloc, World.size_alloc]
  have S0 := Lib.hid (RSt.first (M := N) T.out.1 T.out.2.1 T.out.2.2 rfl)
  rw [hys] at S0
  simp only [← hy]
  clear hy hys
  obtain ⟨g, hg⟩ : ∃ g, w.heap.size = g := ⟨_, rfl⟩
  obtain ⟨ob, hob⟩ : ∃ ob, g + 1 + 1 = ob := ⟨_, rfl⟩
  obtain ⟨w3, hw3⟩ : ∃ w3, y.alloc (.cells #[.int .i64 N, .slice none 0 0] 24) = w3 := ⟨_, rfl⟩
  rw [hw3, hg, hob] at S0
  have HG := Lib.hid (And.intro hg hob)
  simp only [hw3, hg, hob]
  clear hw3 hg hob
  go_loopw [4] (RAt w g (g + 1) ob (ob + 1) N N A n c (fun i => mirT (l.getD i z3)) n) (fun i _ => n - (intOf i).toNat)
  case atStart => exact ⟨0, _, Nat.zero_le _, rfl, S0.out⟩
  case round =>
    obtain ⟨k, v, hk, rfl, hst⟩ := hrel
    obtain ⟨Av, cv, rfl⟩ := ownK_form hst.own
    have HS := Lib.hid hst
    have e1 := hst.bx.c1
    have o1 : wr.cell? ⟨ob, 1, none⟩ = some (.slice Av ((List.range k).map (fun i => mirT (l.getD i z3))).length cv) := by rw [cell_in hst.ob']; rfl
    have o0 : wr.cell? ⟨ob, 0, none⟩ = some (.int .i64 N) := by rw [cell_in hst.ob']; rfl
    rw [List.length_map, List.length_range] at o1
    clear hst
    by_cases hlt : k < n
    · have b1 : (k : Int) < n := by omega
      obtain ⟨b, off, rfl, hat⟩ := (HL.out.below HS.out.below).2 (by omega)
      obtain ⟨c0, c1, c2⟩ := hat k hlt
      clear hat
      obtain ⟨x, hx⟩ : ∃ x, l.getD k z3 = x := ⟨_, rfl⟩
      have HX := Lib.hid hx
      rw [hx] at c0 c1 c2
      clear hx
      obtain ⟨x0, x1, x2⟩ := x
      have d0 : wr.drew.cell? ⟨b, off + k * 3, none⟩ = some (.int .i64 x0) := c0
      have d1 : wr.drew.cell? ⟨b, off + k * 3 + 1, none⟩ = some (.int .i64 x1) := c1
      have d2 : wr.drew.cell? ⟨b, off + k * 3 + 2, none⟩ = some (.int .i64 x2) := c2
      have HH := Lib.hid (fun (W : World) (b8 : Below wr.drew.heap.size wr.drew W) => (⟨(b8.cell (p := ⟨g, 1, none⟩) (World.block_lt_of_cell? wr.drew _ (show wr.drew.cell? ⟨g, 1, none⟩ = _ from e1))).trans e1, (b8.cell (p := ⟨b, off + k * 3, none⟩) (World.block_lt_of_cell? wr.drew _ d0)).trans d0, (b8.cell (p := ⟨b, off + k * 3 + 1, none⟩) (World.block_lt_of_cell? wr.drew _ d1)).trans d1, (b8.cell (p := ⟨b, off + k * 3 + 2, none⟩) (World.block_lt_of_cell? wr.drew _ d2)).trans d2⟩ : _ ∧ _ ∧ _ ∧ _))
      have HH9 := Lib.hid (fun (W : World) (b9 : Below w.heap.size w W) (g9 : Bx W g N (some ⟨b, off, none⟩) n c) => (show W.cell? ⟨g, 1, none⟩ = some (.slice (some ⟨b, off, none⟩) n c) ∧ W.cell? ⟨b, off + k * 3, none⟩ = some (.int .i64 x0) ∧ W.cell? ⟨b, off + k * 3 + 1, none⟩ = some (.int .i64 x1) ∧ W.cell? ⟨b, off + k * 3 + 2, none⟩ = some (.int .i64 x2) by
        have := (HL.out.below b9).at k hlt
        rw [HX.out] at this
        exact ⟨g9.c1, this⟩))
      have d3 : wr.drew.cell? ⟨g, 1, none⟩ = some (.slice (some ⟨b, off, none⟩) n c) := e1
      have d4 : wr.drew.cell? ⟨ob, 1, none⟩ = some (.slice Av k cv) := o1
      have d5 : (wr.alloc (.cells #[.int .i64 x0, .int .i64 x2, .int .i64 x1] 53)).cell? ⟨ob, 1, none⟩ = some (.slice Av k cv) := (((Below.refl _ wr).alloc (Nat.le_refl _) _).cell (World.block_lt_of_cell? wr _ o1)).trans o1
      have N1 : g ≠ ob := HS.out.go
      have hbw : b < w.heap.size := by
        have := World.block_lt_of_cell? w _ (HL.out.at k hlt).1
        simpa using this
      have N2 : b ≠ ob := by have := HS.out.wo; omega
      clear hbw
      have HD := HS.out.up (wr' := wr.drew) (Reading.below ⟨1, rfl⟩)
      have hlen : ((List.range k).map (fun i => mirT (l.getD i z3))).length = k := by simp
      obtain ⟨Lk, hLk⟩ : ∃ Lk, (List.range k).map (fun i => mirT (l.getD i z3)) = Lk := ⟨_, rfl⟩
      have hL1 : (List.range (k + 1)).map (fun i => mirT (l.getD i z3)) = Lk ++ [(x0, x2, x1)] := by rw [List.range_succ, List.map_append, hLk, List.map_singleton, HX.out]; rfl
      rw [hLk] at HD hlen
      rw [hlen] at HD
      have HL1 := Lib.hid (And.intro hL1 hlen)
      have HDD := Lib.hid HD
      clear hLk hL1 HD hlen
      go_wp2_with fail
      refine wp_region_noPanic ?_
      refine wp_region_held_drew (S := fun w' => w'.cell? ⟨g, 1, none⟩ = some (.slice (some ⟨b, off, none⟩) n c) ∧ w'.cell? ⟨b, off + k * 3, none⟩ = some (.int .i64 x0) ∧ w'.cell? ⟨b, off + k * 3 + 1, none⟩ = some (.int .i64 x1) ∧ w'.cell? ⟨b, off + k * 3 + 2, none⟩ = some (.int .i64 x2)) (by kernel_rfl) ⟨d3, d0, d1, d2⟩ (fun _ => ?_)
      refine wpAnyH_take (i := 0) (v := ?v0) rfl (by kernel_rfl) (by kernel_rfl) (by kernel_rfl) (fun _ _ _ h => h) (Or.inl ⟨by rfl, ?y0⟩) ⟨d3, d0, d1, d2⟩ ?_
      case y0 => (intro w hSw; (try dsimp only at hSw); go_simp; try with_reducible rfl)
      simp only [Act.put, List.setIfInBounds_toArray, List.set_cons_zero, List.set_cons_succ, List.getElem_toArray, List.getElem_cons_zero]
      refine wpAnyH_take (i := 2) (v := ?v2) rfl (by kernel_rfl) (by kernel_rfl) (by kernel_rfl) (fun _ _ _ h => h) (Or.inl ⟨by rfl, ?y2⟩) ⟨d3, d0, d1, d2⟩ ?_
      case y2 => (intro w hSw; (try dsimp only at hSw); go_simp; try with_reducible rfl)
      simp only [Act.put, List.setIfInBounds_toArray, List.set_cons_zero, List.set_cons_succ, List.getElem_toArray, List.getElem_cons_zero, List.getElem_cons_succ]
      refine wpAnyH_take (i := 3) (v := ?v3) rfl (by kernel_rfl) (by kernel_rfl) (by kernel_rfl) (fun _ _ _ h => h) (Or.inl ⟨by rfl, ?y3⟩) ⟨d3, d0, d1, d2⟩ ?_
      case y3 => (intro w hSw; (try dsimp only at hSw); go_simp; try with_reducible rfl)
      simp only [Act.put, List.setIfInBounds_toArray, List.set_cons_zero, List.set_cons_succ, List.getElem_toArray, List.getElem_cons_zero, List.getElem_cons_succ]
      refine wpAnyH_take (i := 4) (v := ?v4) rfl (by kernel_rfl) (by kernel_rfl) (by kernel_rfl) (fun _ _ _ h => h) (Or.inl ⟨by rfl, ?y4⟩) ⟨d3, d0, d1, d2⟩ ?_
      case y4 => (intro w hSw; (try dsimp only at hSw); go_simp; try with_reducible rfl)
      simp only [Act.put, List.setIfInBounds_toArray, List.set_cons_zero, List.set_cons_succ, List.getElem_toArray, List.getElem_cons_zero, List.getElem_cons_succ]
      refine wpAnyH_take (i := 5) (v := ?v5) rfl (by kernel_rfl) (by kernel_rfl) (by kernel_rfl) (fun _ _ _ h => h) (Or.inl ⟨by rfl, ?y5⟩) ⟨d3, d0, d1, d2⟩ ?_
      case y5 => (intro w hSw; (try dsimp only at hSw); go_simp; try with_reducible rfl)
      simp only [Act.put, List.setIfInBounds_toArray, List.set_cons_zero, List.set_cons_succ, List.getElem_toArray, List.getElem_cons_zero, List.getElem_cons_succ]
      refine wpAnyH_take (i := 6) (v := ?v6) rfl (by kernel_rfl) (by kernel_rfl) (by kernel_rfl) (fun _ _ _ h => h) (Or.inl ⟨by rfl, ?y6⟩) ⟨d3, d0, d1, d2⟩ ?_
      case y6 => (intro w hSw; (try dsimp only at hSw); go_simp; try with_reducible rfl)
      simp only [Act.put, List.setIfInBounds_toArray, List.set_cons_zero, List.set_cons_succ, List.getElem_toArray, List.getElem_cons_zero, List.getElem_cons_succ]
      refine wpAnyH_take (i := 7) (v := ?v7) rfl (by kernel_rfl) (by kernel_rfl) (by kernel_rfl) (fun _ _ _ h => h) (Or.inl ⟨by rfl, ?y7⟩) ⟨d3, d0, d1, d2⟩ ?_
      case y7 => (intro w hSw; (try dsimp only at hSw); go_simp; try with_reducible rfl)
      simp only [Act.put, List.setIfInBounds_toArray, List.set_cons_zero, List.set_cons_succ, List.getElem_toArray, List.getElem_cons_zero, List.getElem_cons_succ]
      refine wpAnyH_take (i := 8) (v := ?v8) rfl (by kernel_rfl) (by kernel_rfl) (by kernel_rfl) (fun _ _ _ h => h) (Or.inl ⟨by rfl, ?y8⟩) ⟨d3, d0, d1, d2⟩ ?_
      case y8 => (intro w hSw; (try dsimp only at hSw); go_simp; try with_reducible rfl)
      simp only [Act.put, List.setIfInBounds_toArray, List.set_cons_zero, List.set_cons_succ, List.getElem_toArray, List.getElem_cons_zero, List.getElem_cons_succ]
      refine wpAnyH_take (i := 9) (v := ?v9) rfl (by kernel_rfl) (by kernel_rfl) (by kernel_rfl) (fun _ _ _ h => h) (Or.inl ⟨by rfl, ?y9⟩) ⟨d3, d0, d1, d2⟩ ?_
      case y9 => (intro w hSw; (try dsimp only at hSw); go_simp; try with_reducible rfl)
      simp only [Act.put, List.setIfInBounds_toArray, List.set_cons_zero, List.set_cons_succ, List.getElem_toArray, List.getElem_cons_zero, List.getElem_cons_succ]
      refine wpAnyH_take (i := 10) (v := ?v10) rfl (by kernel_rfl) (by kernel_rfl) (by kernel_rfl) (fun _ _ _ h => h) (Or.inl ⟨by rfl, ?y10⟩) ⟨d3, d0, d1, d2⟩ ?_
      case y10 => (intro w hSw; (try dsimp only at hSw); go_simp; try with_reducible rfl)
      simp only [Act.put, List.setIfInBounds_toArray, List.set_cons_zero, List.set_cons_succ, List.getElem_toArray, List.getElem_cons_zero, List.getElem_cons_succ]
      refine wpAnyH_take (i := 11) (v := ?v11) rfl (by kernel_rfl) (by kernel_rfl) (by kernel_rfl) (fun _ _ _ h => h) (Or.inl ⟨by rfl, ?y11⟩) ⟨d3, d0, d1, d2⟩ ?_
      case y11 => (intro w hSw; (try dsimp only at hSw); go_simp; try with_reducible rfl)
      simp only [Act.put, List.setIfInBounds_toArray, List.set_cons_zero, List.set_cons_succ, List.getElem_toArray, List.getElem_cons_zero, List.getElem_cons_succ]
      refine wpAnyH_take (i := 12) (v := ?v12) rfl (by kernel_rfl) (by kernel_rfl) (by kernel_rfl) (fun _ _ _ h => h) (Or.inl ⟨by rfl, ?y12⟩) ⟨d3, d0, d1, d2⟩ ?_
      case y12 => (intro w hSw; (try dsimp only at hSw); go_simp; try with_reducible rfl)
      simp only [Act.put, List.setIfInBounds_toArray, List.set_cons_zero, List.set_cons_succ, List.getElem_toArray, List.getElem_cons_zero, List.getElem_cons_succ]
      refine wpAnyH_take (i := 13) (v := ?v13) rfl (by kernel_rfl) (by kernel_rfl) (by kernel_rfl) (fun _ _ _ h => h) (Or.inl ⟨by rfl, ?y13⟩) ⟨d3, d0, d1, d2⟩ ?_
      case y13 => (intro w hSw; (try dsimp only at hSw); go_simp; try with_reducible rfl)
      simp only [Act.put, List.setIfInBounds_toArray, List.set_cons_zero, List.set_cons_succ, List.getElem_toArray, List.getElem_cons_zero, List.getElem_cons_succ]
      refine wpAnyH_take (i := 14) (v := ?v14) rfl (by kernel_rfl) (by kernel_rfl) (by kernel_rfl) (fun _ _ _ h => h) (Or.inl ⟨by rfl, ?y14⟩) ⟨d3, d0, d1, d2⟩ ?_
      case y14 => (intro w hSw; (try dsimp only at hSw); go_simp; try with_reducible rfl)
      simp only [Act.put, List.setIfInBounds_toArray, List.set_cons_zero, List.set_cons_succ, List.getElem_toArray, List.getElem_cons_zero, List.getElem_cons_succ]
      refine wpAnyH_take (i := 15) (v := ?v15) rfl (by kernel_rfl) (by kernel_rfl) (by kernel_rfl) (fun _ _ _ h => h) (Or.inl ⟨by rfl, ?y15⟩) ⟨d3, d0, d1, d2⟩ ?_
      case y15 => (intro w hSw; (try dsimp only at hSw); go_simp; try with_reducible rfl)
      simp only [Act.put, List.setIfInBounds_toArray, List.set_cons_zero, List.set_cons_succ, List.getElem_toArray, List.getElem_cons_zero, List.getElem_cons_succ]
      refine wpAnyH_take (i := 16) (v := ?v16) rfl (by kernel_rfl) (by kernel_rfl) (by kernel_rfl) (fun _ _ _ h => h) (Or.inl ⟨by rfl, ?y16⟩) ⟨d3, d0, d1, d2⟩ ?_
      case y16 => (intro w hSw; (try dsimp only at hSw); go_simp; try with_reducible rfl)
      simp only [Act.put, List.setIfInBounds_toArray, List.set_cons_zero, List.set_cons_succ, List.getElem_toArray, List.getElem_cons_zero, List.getElem_cons_succ]
      refine wpAnyH_take (i := 17) (v := ?v17) rfl (by kernel_rfl) (by kernel_rfl) (by kernel_rfl) (fun _ _ _ h => h) (Or.inl ⟨by rfl, ?y17⟩) ⟨d3, d0, d1, d2⟩ ?_
      case y17 => (intro w hSw; (try dsimp only at hSw); go_simp; try with_reducible rfl)
      simp only [Act.put, List.setIfInBounds_toArray, List.set_cons_zero, List.set_cons_succ, List.getElem_toArray, List.getElem_cons_zero, List.getElem_cons_succ]
      refine wpAnyH_take (i := 18) (v := ?v18) rfl (by kernel_rfl) (by kernel_rfl) (by kernel_rfl) (fun _ _ _ h => h) (Or.inl ⟨by rfl, ?y18⟩) ⟨d3, d0, d1, d2⟩ ?_
      case y18 => (intro w hSw; (try dsimp only at hSw); go_simp; try with_reducible rfl)
      simp only [Act.put, List.setIfInBounds_toArray, List.set_cons_zero, List.set_cons_succ, List.getElem_toArray, List.getElem_cons_zero, List.getElem_cons_succ]
      refine wpAnyH_take (i := 19) (v := ?v19) rfl (by kernel_rfl) (by kernel_rfl) (by kernel_rfl) (fun _ _ _ h => h) (Or.inl ⟨by rfl, ?y19⟩) ⟨d3, d0, d1, d2⟩ ?_
      case y19 => (intro w hSw; (try dsimp only at hSw); go_simp; try with_reducible rfl)
      simp only [Act.put, List.setIfInBounds_toArray, List.set_cons_zero, List.set_cons_succ, List.getElem_toArray, List.getElem_cons_zero, List.getElem_cons_succ]
      refine wpAnyH_take (i := 20) (v := ?v20) rfl (by kernel_rfl) (by kernel_rfl) (by kernel_rfl) (fun _ _ _ h => h) (Or.inl ⟨by rfl, ?y20⟩) ⟨d3, d0, d1, d2⟩ ?_
      case y20 => (intro w hSw; (try dsimp only at hSw); go_simp; try with_reducible rfl)
      simp only [Act.put, List.setIfInBounds_toArray, List.set_cons_zero, List.set_cons_succ, List.getElem_toArray, List.getElem_cons_zero, List.getElem_cons_succ]
      refine wpAnyH_ready (rs := [1, 21]) (by kernel_rfl) (by simp) ?_
      refine AllReadyH.cons rfl (fun K hK => ?_) (AllReadyH.cons rfl (fun K hK => ?_) AllReadyH.nil)
      · go_simp
        refine hK.out _ _ ⟨d3, d0, d1, d2⟩ (fun _ => ?_)
        clear hK K
        try simp only [Act.put, List.setIfInBounds_toArray, List.set_cons_zero, List.set_cons_succ, List.getElem_toArray, List.getElem_cons_zero, List.getElem_cons_succ]
        refine wpAnyH_ready (rs := [21]) (by kernel_rfl) (by simp) ?_
        refine AllReadyH.cons rfl (fun K hK => ?_) AllReadyH.nil
        go_simp
        refine hK.out _ _ (HH.out _ ((Below.refl _ wr.drew).alloc (Nat.le_refl _) _)) (fun _ => ?_)
        clear hK K
        try simp only [Act.put, List.setIfInBounds_toArray, List.set_cons_zero, List.set_cons_succ, List.getElem_toArray, List.getElem_cons_zero, List.getElem_cons_succ]
        refine wpAnyH_ready (rs := [22]) (by kernel_rfl) (by simp) ?_
        refine AllReadyH.cons rfl (fun K hK => ?_) AllReadyH.nil
        refine HDD.out.step (x0, x2, x1) (by rfl) (.tmp 16) (.tmp 36) (by rfl) (by go_simp) (by go_simp) (by have := HL1.out.2; omega) ?_
        intro A9 c9 w9 st9 o9 b9 g9
        have s9 := HH9.out w9 b9 g9
        have p9 : w9.cell? ⟨ob, 1, none⟩ = some (.slice Av k cv) := by rw [cell_in o9]; rfl
        have f9 := frozen_in o9 1
        have sf := fun v => (⟨(far1 N1 1 v).trans s9.1, (far1 N2 1 v).trans s9.2.1, (far1 N2 1 v).trans s9.2.2.1, (far1 N2 1 v).trans s9.2.2.2⟩ : _ ∧ _ ∧ _ ∧ _)
        have ST := Lib.hid st9
        clear st9 o9 b9 g9
        refine hK.out _ _ s9 (fun _ => ?_)
        clear hK K
        try simp only [Act.put, List.setIfInBounds_toArray, List.set_cons_zero, List.set_cons_succ, List.getElem_toArray, List.getElem_cons_zero, List.getElem_cons_succ]
        refine wpAnyH_take (i := 23) (v := ?v23) rfl (by kernel_rfl) (by kernel_rfl) (by kernel_rfl) (fun _ _ _ h => h) (Or.inl ⟨by rfl, ?y23⟩) s9 ?_
        case y23 => (intro w hSw; (try dsimp only at hSw); go_simp; try with_reducible rfl)
        simp only [Act.put, List.setIfInBounds_toArray, List.set_cons_zero, List.set_cons_succ, List.getElem_toArray, List.getElem_cons_zero, List.getElem_cons_succ]
        refine wpAnyH_ready (rs := [24]) (by kernel_rfl) (by simp) ?_
        refine AllReadyH.cons rfl (fun K hK => ?_) AllReadyH.nil
        go_simp
        refine hK.out _ _ (sf _) (fun _ => ?_)
        clear hK K
        try simp only [Act.put, List.setIfInBounds_toArray, List.set_cons_zero, List.set_cons_succ, List.getElem_toArray, List.getElem_cons_zero, List.getElem_cons_succ]
        refine wpAnyH_done (by kernel_rfl) ?_ _
        refine NoPanic.normal ?_
        go_wp2_with fail
        refine ⟨⟨k + 1, .slice A9 (Lk.length + 1) c9, by omega, by go_num, ?_⟩, by simp [intOf]; omega⟩
        rw [HL1.out.1]
        exact ST.out
      · go_simp
        refine hK.out _ _ (HH.out _ ((Below.refl _ wr.drew).alloc (Nat.le_refl _) _)) (fun _ => ?_)
        clear hK K
        try simp only [Act.put, List.setIfInBounds_toArray, List.set_cons_zero, List.set_cons_succ, List.getElem_toArray, List.getElem_cons_zero, List.getElem_cons_succ]
        refine wpAnyH_ready (rs := [1]) (by kernel_rfl) (by simp) ?_
        refine AllReadyH.cons rfl (fun K hK => ?_) AllReadyH.nil
        go_simp
        refine hK.out _ _ (HH.out _ ((Below.refl _ wr.drew).alloc (Nat.le_refl _) _)) (fun _ => ?_)
        clear hK K
        try simp only [Act.put, List.setIfInBounds_toArray, List.set_cons_zero, List.set_cons_succ, List.getElem_toArray, List.getElem_cons_zero, List.getElem_cons_succ]
        refine wpAnyH_ready (rs := [22]) (by kernel_rfl) (by simp) ?_
        refine AllReadyH.cons rfl (fun K hK => ?_) AllReadyH.nil
        refine HDD.out.step (x0, x2, x1) (by rfl) (.tmp 16) (.tmp 36) (by rfl) (by go_simp) (by go_simp) (by have := HL1.out.2; omega) ?_
        intro A9 c9 w9 st9 o9 b9 g9
        have s9 := HH9.out w9 b9 g9
        have p9 : w9.cell? ⟨ob, 1, none⟩ = some (.slice Av k cv) := by rw [cell_in o9]; rfl
        have f9 := frozen_in o9 1
        have sf := fun v => (⟨(far1 N1 1 v).trans s9.1, (far1 N2 1 v).trans s9.2.1, (far1 N2 1 v).trans s9.2.2.1, (far1 N2 1 v).trans s9.2.2.2⟩ : _ ∧ _ ∧ _ ∧ _)
        have ST := Lib.hid st9
        clear st9 o9 b9 g9
        refine hK.out _ _ s9 (fun _ => ?_)
        clear hK K
        try simp only [Act.put, List.setIfInBounds_toArray, List.set_cons_zero, List.set_cons_succ, List.getElem_toArray, List.getElem_cons_zero, List.getElem_cons_succ]
        refine wpAnyH_take (i := 23) (v := ?v23) rfl (by kernel_rfl) (by kernel_rfl) (by kernel_rfl) (fun _ _ _ h => h) (Or.inl ⟨by rfl, ?y23⟩) s9 ?_
        case y23 => (intro w hSw; (try dsimp only at hSw); go_simp; try with_reducible rfl)
        simp only [Act.put, List.setIfInBounds_toArray, List.set_cons_zero, List.set_cons_succ, List.getElem_toArray, List.getElem_cons_zero, List.getElem_cons_succ]
        refine wpAnyH_ready (rs := [24]) (by kernel_rfl) (by simp) ?_
        refine AllReadyH.cons rfl (fun K hK => ?_) AllReadyH.nil
        go_simp
        refine hK.out _ _ (sf _) (fun _ => ?_)
        clear hK K
        try simp only [Act.put, List.setIfInBounds_toArray, List.set_cons_zero, List.set_cons_succ, List.getElem_toArray, List.getElem_cons_zero, List.getElem_cons_succ]
        refine wpAnyH_done (by kernel_rfl) ?_ _
        refine NoPanic.normal ?_
        go_wp2_with fail
        refine ⟨⟨k + 1, .slice A9 (Lk.length + 1) c9, by omega, by go_num, ?_⟩, by simp [intOf]; omega⟩
        rw [HL1.out.1]
        exact ST.out
    · obtain rfl : k = n := by omega
      have b1 : ¬ (k : Int) < k := by omega
      have e2 := HS.out.res.c0
      have e3 := HS.out.res.c1
      have z0 := frozen_in HS.out.res 0
      have z1 := frozen_in HS.out.res 1
      have hlen : ((List.range k).map (fun i => mirT (l.getD i z3))).length = k := by simp
      have HS2 := HS.out
      rw [hlen] at HS2
      have HR := Lib.hid HS2
      clear HS2 hlen
      go_wp2_with fail
      obtain ⟨hrow, hnew⟩ := HR.out.ret (by simp) (by have := HG.out.1; omega)
      refine bodyPost_ret (results_cell_row rfl _ _ (g + 1) 24 _ (0, 0) _ rfl hrow Try.underlying24 rfl (by kernel_rfl)) rfl ⟨_, rfl, ?_⟩
      rw [range_map l mirT HL.out.1] at hnew
      exact hnew
end Go.Proofs.Ytmflacmgffpjoaa
