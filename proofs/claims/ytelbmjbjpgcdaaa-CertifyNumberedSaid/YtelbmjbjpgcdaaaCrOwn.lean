/- Layer 9: the law's own functions: the tetrahedron; a list in memory of its own; great; the same witnesses. -/
import Derived.Test.YtelbmjbjpgcdaaaCrAll
import Derived.Test.YtelbmjbjpgcdaaaSouSame
import Derived.Test.YtelbmjbjpgcdaaaCeAll
namespace Go.Proofs.Ytelbmjbjpgcdaaa
open Go.RowKit

set_option maxRecDepth 100000 in
theorem great9_any (w : World) (N : Int) (A : Option Addr) (n c : Nat) :
    Calls Try.prog 19 #[.agg #[.int .i64 N, .slice A n c]] w (BoolTold9 w (decide ((40 : Int) < n ∨ 40 < N))) := by
  have b1 := (Below.refl _ w).alloc (Nat.le_refl _) (.cells #[.int .i64 N, .slice A n c] 24)
  by_cases h1 : (40 : Int) < n
  · have d1 : decide ((n : Int) > 40) = true := by simpa using h1
    go_enter Try.func19, Try.ntmps19
    go_wp2
    go_ret
    exact ⟨by rw [decide_eq_true (.inl h1)]; rfl, b1⟩
  · have d1 : decide ((n : Int) > 40) = false := by simpa using h1
    go_enter Try.func19, Try.ntmps19
    go_wp2
    go_ret
    exact ⟨by simp, b1⟩
def tet9 : List Tr := [(0, 1, 2), (0, 3, 1), (1, 3, 2), (2, 3, 0)]
def SolTold (w : World) (e : Ending) (w' : World) : Prop := ∃ q, e = .returned (.agg #[.int .i64 4, .slice (some ⟨q, 0, none⟩) 4 4]) ∧ Row3 w' q tet9 ∧ Below w.heap.size w w' ∧ w.heap.size ≤ q
set_option maxHeartbeats 4000000 in
set_option maxRecDepth 100000 in
theorem solid9_any (w : World) : Calls Try.prog 22 #[] w (SolTold w) := by
  go_enter Try.func22, Try.ntmps22
  go_wp2_with fail
  have R1 := Bx.made w 4 (some ⟨w.heap.size + 1, 0, none⟩) 4 4
  have R2 := R1.below ((Below.refl _ _).alloc (Nat.le_refl _) (.cells (ints (flat3 tet9)).toArray 41))
  have Q : Row3 ((w.alloc (.cells #[.int .i64 4, .slice (some ⟨w.heap.size + 1, 0, none⟩) 4 4] 24)).alloc (.cells (ints (flat3 tet9)).toArray 41)) (w.heap.size + 1) tet9 := by
    have := heap_alloc_new (w.alloc (.cells #[.int .i64 4, .slice (some ⟨w.heap.size + 1, 0, none⟩) 4 4] 24)) (.cells (ints (flat3 tet9)).toArray 41)
    rw [World.size_alloc] at this
    exact this
  refine bodyPost_ret (results_cell_row rfl _ _ w.heap.size 24 #[.int .i64 4, .slice (some ⟨w.heap.size + 1, 0, none⟩) 4 4] (0, 0) _ rfl R2 Try.underlying24 rfl (by kernel_rfl)) rfl ?_
  exact ⟨_, rfl, Q, up1 (up1 (Below.refl _ w) _) _, by omega⟩
theorem agg3_iff (x y : Tr) : ((x.1 == y.1 && (x.2.1 == y.2.1 && x.2.2 == y.2.2)) = true) ↔ x = y := by rw [agg3_ne, decide_eq_true_iff]
def OwnTold9 (w : World) (N : Int) (tl : List Tr) (e : Ending) (w' : World) : Prop := ∃ v, e = .returned v ∧ NewS w w' N tl v
theorem run_append_zero (W : World) (ty : TypeId) (q c : Nat) (A : Option Addr) : (Builtin.append_ #[22, 22] ty #[.slice (some ⟨q, 0, none⟩) 0 0, .slice A 0 c]).run Try.prog W = .ok (.slice (some ⟨q, 0, none⟩) 0 0) W := by
  obtain ⟨i0, hi, hz0, hz1, hz2⟩ := info_parts Try.infoTri
  cases A <;> simp [Builtin.append_, run_underlying Try.underlying22, sizeOf, typeInfo, hi, Builtin.lenOf, Builtin.firstCells, loadCells, loadCellsFrom, storeCells]
theorem wpl_append0 {ops : Array Oper} {rest : List Oper} {o : Oper} {a : Act} {Q : Exit → Act → World → Prop} {w : World} (hgd : o.guard = none) (s x : Operand)
    (ho : o.op = .call { callee := .builtin .append, args := #[s, x], argTypes := #[22, 22] }) (q c : Nat) (A : Option Addr) (hs : a.eval s = .slice (some ⟨q, 0, none⟩) 0 0) (hx : a.eval x = .slice A 0 c)
    (h : wpList Try.prog ops Q rest (a.put o.dst (.slice (some ⟨q, 0, none⟩) 0 0)) w) : wpList Try.prog ops Q (o :: rest) a w :=
  wpList_plain hgd fun _ hK => by
    have hr := run_append_zero w o.type q c A
    unfold Oper.wp execOp
    simp only [ho, resolve, invoke, builtin, Sem.run_bind, Sem.run_pure, Result.andThen_ok, List.map_toArray, List.map_cons, List.map_nil, hs, hx, hr]
    exact hK _ _ h
theorem T3.flat {w : World} {b off n : Nat} {l : List Tr} (h : T3 w (some ⟨b, off, none⟩) n l) : ∀ j u, (ints (flat3 l))[j]? = some u → w.cell? ((⟨b, off, none⟩ : Addr).add j) = some u := by
  intro j u hj
  have hlt : j < (ints (flat3 l)).length := by
    rcases Nat.lt_or_ge j (ints (flat3 l)).length with h1 | h1
    · exact h1
    · rw [List.getElem?_eq_none h1] at hj; cases hj
  rw [length_ints, length_flat3] at hlt
  obtain ⟨b', off', e, hc⟩ := h.2 (by have := h.1; omega)
  injection e with e
  injection e with e1 e2
  subst e1 e2
  have hl := h.1
  obtain ⟨c0, c1, c2⟩ := hc (j / 3) (by omega)
  obtain ⟨a0, a1, a2⟩ := flat3_at l (j / 3) (by omega)
  rw [ints_at] at hj
  have hadd : (⟨b, off, none⟩ : Addr).add j = ⟨b, off + j, none⟩ := by simp [Addr.add]
  rw [hadd]
  rcases (show j = 3 * (j / 3) ∨ j = 3 * (j / 3) + 1 ∨ j = 3 * (j / 3) + 2 by omega) with e | e | e
  · rw [show off + j = off + j / 3 * 3 by omega, c0]
    rw [e, a0] at hj
    exact hj
  · rw [show off + j = off + j / 3 * 3 + 1 by omega, c1]
    rw [e, a1] at hj
    exact hj
  · rw [show off + j = off + j / 3 * 3 + 2 by omega, c2]
    rw [e, a2] at hj
    exact hj
theorem ints_one9 (xs : List Int) : ∀ u ∈ ints xs, u.oneCell' = true := by
  intro u hu
  unfold ints at hu
  obtain ⟨x, _, rfl⟩ := List.mem_map.1 hu
  rfl
theorem ownK9_set {W : World} {B n s r : Nat} {t t' : TypeId} {v : Value} {xs : List Value} {cs : Array Value} {fr : Nat × Nat} (h : W.ownsRow B t s v n xs) (hr : W.heap[r]? = some (.cells cs t' fr)) (ht : t ≠ t') (i : Nat) (u : Value) : (W.setCell ⟨r, i, none⟩ u).ownsRow B t s v n xs := by
  refine ⟨h.1, ?_⟩
  rcases h.2 with h2 | ⟨q, cap, cur, h1, hq, hh, hx⟩
  · exact .inl h2
  · refine .inr ⟨q, cap, cur, h1, hq, heap_far hh ?_ u, hx⟩
    intro e
    have e : q = r := e
    subst e
    rw [hh] at hr
    injection hr with hr
    injection hr with _ hr _
    exact ht hr
set_option maxHeartbeats 4000000 in
set_option maxRecDepth 100000 in
theorem own9_any (w : World) (N : Int) (A : Option Addr) (n c : Nat) (tl : List Tr) (ht : T3 w A n tl) (hn : n ≤ 1000000) : Calls Try.prog 12 #[.agg #[.int .i64 N, .slice A n c]] w (OwnTold9 w N tl) := by
  obtain ⟨w1, hw1⟩ : ∃ w1, w.alloc (.cells #[.int .i64 N, .slice A n c] 24) = w1 := ⟨_, rfl⟩
  obtain ⟨g, hg⟩ : ∃ g, w.heap.size = g := ⟨_, rfl⟩
  have b1 : Below w.heap.size w w1 := by rw [← hw1]; exact (Below.refl _ w).alloc (Nat.le_refl _) _
  have x1 : Bx w1 g N A n c := by rw [← hw1, ← hg]; exact Bx.made w N A n c
  obtain ⟨w2, hw2⟩ : ∃ w2, w1.alloc (.cells #[.int .i64 0, .slice none 0 0] 24) = w2 := ⟨_, rfl⟩
  obtain ⟨rb, hrb⟩ : ∃ rb, w1.heap.size = rb := ⟨_, rfl⟩
  have b2 : Below w1.heap.size w1 w2 := by rw [← hw2]; exact (Below.refl _ w1).alloc (Nat.le_refl _) _
  have r2 : Bx w2 rb 0 none 0 0 := by rw [← hw2, ← hrb]; exact Bx.made w1 0 none 0 0
  obtain ⟨w3, hw3⟩ : ∃ w3, w2.alloc (.cells #[] 41) = w3 := ⟨_, rfl⟩
  obtain ⟨q, hq⟩ : ∃ q, w2.heap.size = q := ⟨_, rfl⟩
  have b3 : Below w2.heap.size w2 w3 := by rw [← hw3]; exact (Below.refl _ w2).alloc (Nat.le_refl _) _
  have q3 : w3.heap[q]? = some (.cells #[] 41 (0, 0)) := by rw [← hw3, ← hq]; exact heap_alloc_new w2 _
  have x3 := x1.below (b2.trans (b3.mono b2.size))
  have r3 := r2.below b3
  have b13 := b1.trans ((b2.trans (b3.mono b2.size)).mono b1.size)
  have hgr : g < rb := by rw [← hrb]; exact heap_lt x1
  have hrq : rb < q := by rw [← hq]; exact heap_lt r2
  have o3 : w3.ownsRow q 41 3 (.slice (some ⟨q, 0, none⟩) 0 0) 0 (ints (flat3 [])) := ⟨rfl, .inr ⟨q, 0, _, rfl, Nat.le_refl _, q3, Nat.le_refl _, by decide, rfl, rfl⟩⟩
  have z0 := x3.c0
  have z1 := x3.c1
  have f1 := frozen_in x3 1
  have fin : ∀ (w9 : World) (A' : Option Addr) (c' : Nat), Below w.heap.size w w9 → Bx w9 g N A n c → Bx w9 rb 0 none 0 0 → w9.ownsRow q 41 3 (.slice A' n c') n (ints (flat3 tl)) →
      Below w.heap.size w (w9.setCell ⟨g, 1, none⟩ (.slice A' n c')) ∧ Bx (w9.setCell ⟨g, 1, none⟩ (.slice A' n c')) g N A' n c' ∧ Bx (w9.setCell ⟨g, 1, none⟩ (.slice A' n c')) rb 0 none 0 0 ∧ (w9.setCell ⟨g, 1, none⟩ (.slice A' n c')).ownsRow q 41 3 (.slice A' n c') n (ints (flat3 tl)) := fun w9 A' c' hb hx hr ho =>
    ⟨hb.setCell (p := ⟨g, 1, none⟩) (show w.heap.size ≤ g by omega) _, by have := heap_set hx 1 (.slice A' n c'); exact this, heap_far hr (show rb ≠ g by omega) _, ownK9_set ho hx (by decide) 1 _⟩
  have ret : ∀ (wa : World) (A' : Option Addr) (c' : Nat), Below w.heap.size w wa → Bx wa rb 0 none 0 0 → wa.ownsRow q 41 3 (.slice A' n c') n (ints (flat3 tl)) →
      NewS w ((wa.setCell ⟨rb, 0, none⟩ (.int .i64 N)).setCell ⟨rb, 1, none⟩ (.slice A' n c')) N tl (.agg #[.int .i64 N, .slice A' n c']) := fun wa A' c' hb hr ho => by
    have o1 := ownK9_set ho hr (by decide) 0 (.int .i64 N)
    have o2 := ownK9_set o1 (heap_set hr 0 (.int .i64 N)) (by decide) 1 (.slice A' n c')
    have hl := ht.1
    subst hl
    exact ⟨A', c', rfl, ownK9_base o2 (by omega), below_set2 hb (by omega) _ _⟩
  have RET := Lib.hid ret
  have FIN := Lib.hid fin
  have HB := Lib.hid (And.intro b13 (And.intro x3 (And.intro r3 (And.intro o3 (And.intro hgr (And.intro hrq (And.intro hg ht)))))))
  clear b1 x1 b2 r2 b3 q3 x3 r3 b13 hgr hrq o3 fin ret ht
  have main : ∀ (w9 : World) (A' : Option Addr) (c' : Nat), Below w.heap.size w w9 → Bx w9 g N A n c → Bx w9 rb 0 none 0 0 → w9.ownsRow q 41 3 (.slice A' n c') n (ints (flat3 tl)) →
      ∃ wa, w9.setCell ⟨g, 1, none⟩ (.slice A' n c') = wa ∧ w9.frozen? ⟨g, 1, none⟩ = false ∧ w9.cell? ⟨g, 1, none⟩ = some (.slice A n c) ∧ wa.cell? ⟨g, 0, none⟩ = some (.int .i64 N) ∧ wa.cell? ⟨g, 1, none⟩ = some (.slice A' n c') ∧ wa.frozen? ⟨rb, 0, none⟩ = false ∧ wa.frozen? ⟨rb, 1, none⟩ = false ∧ wa.cell? ⟨rb, 0, none⟩ = some (.int .i64 0) ∧ wa.cell? ⟨rb, 1, none⟩ = some (.slice none 0 0) ∧ Below w.heap.size w wa ∧ Bx wa rb 0 none 0 0 ∧ wa.ownsRow q 41 3 (.slice A' n c') n (ints (flat3 tl)) := fun w9 A' c' hb hx hr ho => by
    obtain ⟨h1, h2, h3, h4⟩ := FIN.out w9 A' c' hb hx hr ho
    exact ⟨_, rfl, frozen_in hx 1, hx.c1, h2.c0, h2.c1, frozen_in h3 0, frozen_in h3 1, h3.c0, h3.c1, h1, h3, h4⟩
  have MAIN := Lib.hid main
  clear main FIN
  by_cases h0 : n = 0
  · subst h0
    have hl : tl = [] := List.eq_nil_of_length_eq_zero HB.out.2.2.2.2.2.2.2.1
    subst hl
    obtain ⟨wa, ha, f1', c1', d0, d1, e0, e1, e2, e3, ba, ra, oa⟩ := MAIN.out w3 _ 0 HB.out.1 HB.out.2.1 HB.out.2.2.1 HB.out.2.2.2.1
    have HA := Lib.hid (And.intro ba (And.intro ra oa))
    clear ba ra oa
    go_enter Try.func12, Try.ntmps12
    go_wp2_with (at_builtin; refine wpl_append0 rfl (.tmp 3) (.tmp 5) rfl q c A rfl rfl ?_)
    refine bodyPost_ret (results_cell_row rfl _ _ rb 24 #[.int .i64 N, .slice (some ⟨q, 0, none⟩) 0 0] (0, 0) _ rfl (set2 HA.out.2.1) Try.underlying24 rfl (by kernel_rfl)) rfl ?_
    exact ⟨_, rfl, RET.out wa _ 0 HA.out.1 HA.out.2.1 HA.out.2.2⟩
  · have HI := Lib.hid (info_parts Try.infoTri)
    obtain ⟨bA, off, rfl, _⟩ := HB.out.2.2.2.2.2.2.2.2 (by omega)
    obtain ⟨i0, hi, hz0, hz1, hz2⟩ := HI.out
    have t3 := Lib.hid (HB.out.2.2.2.2.2.2.2.below HB.out.1)
    have hsz : q ≤ w3.heap.size := by rw [← hq, ← hw3]; simp [World.size_alloc]
    go_enter Try.func12, Try.ntmps12
    go_wp2_with (at_builtin; refine wpList_append_lies _ rfl (.tmp 3) (.tmp 5) 22 rfl q 41 i0 (.agg #[.int .i64 0, .int .i64 0, .int .i64 0]) 3 24 Try.underlying22 hi hz0 hz1 hz2 rfl (by decide) (.slice (some ⟨q, 0, none⟩) 0 0) 0 (ints (flat3 [])) rfl HB.out.2.2.2.1 ⟨bA, off, none⟩ n c (ints (flat3 tl)) rfl (by rw [length_ints, length_flat3]; have := t3.out.1; omega) t3.out.flat (ints_one9 _) (by omega) (by unfold maxLen; omega) (by omega) hsz _ rfl ?_)
    intro g9 cap9 w9 own9 gr9 _ _
    have own' : w9.ownsRow q 41 3 (.slice (some ⟨g9, 0, none⟩) n cap9) n (ints (flat3 tl)) := by
      have := own9
      exact this
    have far : ∀ b o, b < q → w3.heap[b]? = some o → w9.heap[b]? = some o := fun b o hb ho => (gr9.block b (heap_lt ho) (fun e => by have e : some q = some b := e.symm; injection e with e; omega)).trans ho
    obtain ⟨wa, ha, f1', c1', d0, d1, e0, e1, e2, e3, ba, ra, oa⟩ := MAIN.out w9 _ cap9 (own_grown_below HB.out.1 gr9 HB.out.1.size (fun k hk => by have e : some q = some k := hk; injection e with e; have := HB.out.2.2.2.2.1; have := HB.out.2.2.2.2.2.1; have := HB.out.2.2.2.2.2.2.1; omega)) (far g _ (by have := HB.out.2.2.2.2.1; have := HB.out.2.2.2.2.2.1; omega) HB.out.2.1) (far rb _ (by have := HB.out.2.2.2.2.2.1; omega) HB.out.2.2.1) own'
    have HA := Lib.hid (And.intro ba (And.intro ra oa))
    clear ba ra oa own9 own' gr9 far
    go_wp2_with fail
    refine bodyPost_ret (results_cell_row rfl _ _ rb 24 #[.int .i64 N, .slice (some ⟨g9, 0, none⟩) n cap9] (0, 0) _ rfl (set2 HA.out.2.1) Try.underlying24 rfl (by kernel_rfl)) rfl ?_
    exact ⟨_, rfl, RET.out wa _ cap9 HA.out.1 HA.out.2.1 HA.out.2.2⟩
/-- The law's own 'same': the lists told are the same. -/
def SaAt (w : World) (n : Nat) (a b : List Tr) (i : Value) (wr : World) : Prop := Below w.heap.size w wr ∧ ∃ k : Nat, k ≤ n ∧ i = .int .i64 (k : Int) ∧ ∀ j, j < k → a.getD j z3 = b.getD j z3
theorem neqW9 (w : World) (x0 x1 x2 y0 y1 y2 : Int) : (binOp .neq 35 (.agg #[.int .i64 x0, .int .i64 x1, .int .i64 x2]) (.agg #[.int .i64 y0, .int .i64 y1, .int .i64 y2])).run Try.prog w = .ok (.bool (!(x0 == y0 && (x1 == y1 && x2 == y2)))) w := by
  rw [run_neq_struct, eqInW w (x0, x1, x2) (y0, y1, y2)]; rfl
set_option maxHeartbeats 4000000 in
set_option maxRecDepth 100000 in
theorem same9_any (w : World) (A B : Option Addr) (n c m d : Nat) (a b : List Tr) (ha : T3 w A n a) (hb : T3 w B m b) (hn : n ≤ 140737488351232) : Calls Try.prog 15 #[.slice A n c, .slice B m d] w (BoolTold9 w (decide (a = b))) := by
  have HA := Lib.hid ha
  have HB := Lib.hid hb
  clear ha hb
  by_cases h2 : n = m
  case neg =>
    have f2 : ((n : Int) == (m : Int)) = false := by simp; omega
    have H2 := Lib.hid h2
    clear h2
    go_enter Try.func15, Try.ntmps15
    go_wp2
    go_ret
    exact ⟨by rw [decide_eq_false fun e => H2.out (by rw [← HA.out.1, ← HB.out.1, e])]; rfl, Below.refl _ w⟩
  subst h2
  go_enter Try.func15, Try.ntmps15
  go_wp2_with fail
  go_loopw [13] (SaAt w n a b) (fun i _ => n - (intOf i).toNat)
  case atStart => exact ⟨Below.refl _ _, 0, Nat.zero_le _, rfl, fun j hj => absurd hj (by omega)⟩
  case round =>
    obtain ⟨hb, k, hk, rfl, ha⟩ := hrel
    have HR := Lib.hid (And.intro hb ha)
    clear ha hb
    by_cases hlt : k < n
    · have b1 : (k : Int) < n := by omega
      obtain ⟨ba, oa, rfl, hat⟩ := (HA.out.below HR.out.1).2 (by omega)
      obtain ⟨c0, c1, c2⟩ := hat k hlt
      obtain ⟨bb, ob, rfl, hbt⟩ := (HB.out.below HR.out.1).2 (by omega)
      obtain ⟨d0, d1, d2⟩ := hbt k hlt
      clear hat hbt
      obtain ⟨x, hx⟩ : ∃ x, a.getD k z3 = x := ⟨_, rfl⟩
      obtain ⟨y, hy⟩ : ∃ y, b.getD k z3 = y := ⟨_, rfl⟩
      have HX := Lib.hid (And.intro hx hy)
      rw [hx] at c0 c1 c2
      rw [hy] at d0 d1 d2
      clear hx hy
      obtain ⟨x0, x1, x2⟩ := x
      obtain ⟨y0, y1, y2⟩ := y
      have B2 := Lib.hid HR.out.1
      have gd := fun W op u v => run_eqGuard_agg (P := Try.prog) W op 35 u v #[.int .i64 x0, .int .i64 x1, .int .i64 x2] #[.int .i64 y0, .int .i64 y1, .int .i64 y2] Try.eqGuardType35
      have nq := fun W => neqW9 W x0 x1 x2 y0 y1 y2
      by_cases hxy : (x0, x1, x2) = (y0, y1, y2)
      · rw [(eq3_iff (x0, x1, x2) (y0, y1, y2)).2 hxy] at nq
        have HE := Lib.hid hxy
        clear hxy
        go_wp2_with fail
        go_quiet (fail)
        go_wp2_with fail
        refine ⟨⟨B2.out.trans (Reading.below ⟨_, rfl⟩), k + 1, by omega, by go_num, fun j hj => ?_⟩, by simp [intOf]; omega⟩
        rcases Nat.lt_or_ge j k with h3 | h3
        · exact HR.out.2 j h3
        · obtain rfl : j = k := by omega
          rw [HX.out.1, HX.out.2]; exact HE.out
      · rw [eq3_no (x := (x0, x1, x2)) (y := (y0, y1, y2)) hxy] at nq
        have HE := Lib.hid (show a ≠ b from fun e => hxy (by rw [← HX.out.1, ← HX.out.2, e]))
        clear hxy
        go_wp2_with fail
        go_quiet (fail)
        go_wp2_with fail
        go_ret
        exact ⟨by rw [decide_eq_false HE.out]; rfl, B2.out.trans (Reading.below ⟨_, rfl⟩)⟩
    · obtain rfl : k = n := by omega
      have b1 : ¬ (k : Int) < k := by omega
      have HE := Lib.hid (show a = b by
        refine List.ext_getElem (by rw [HA.out.1, HB.out.1]) fun j h1 h2 => ?_
        have := HR.out.2 j (by rw [← HA.out.1]; exact h1)
        rwa [List.getD_eq_getElem?_getD, List.getD_eq_getElem?_getD, List.getElem?_eq_getElem h1, List.getElem?_eq_getElem h2] at this)
      go_wp2
      go_ret
      exact ⟨by rw [decide_eq_true HE.out]; rfl, HR.out.1⟩
end Go.Proofs.Ytelbmjbjpgcdaaa
