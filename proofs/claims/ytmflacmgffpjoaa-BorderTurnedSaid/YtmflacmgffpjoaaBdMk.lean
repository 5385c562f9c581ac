/- Layer 12: the marks that ranges over functions leave behind in a plain loop; a map that a round writes; one more number, row behind the others within such a round. -/
import Derived.Test.YtmflacmgffpjoaaMapB
import Derived.Test.YtmflacmgffpjoaaGY
import Derived.Test.YtmflacmgffpjoaaBdApp
import Derived.Test.YtmflacmgffpjoaaGP
import Derived.Sort.LoopGhostIn
namespace Go.Proofs.Ytmflacmgffpjoaa
open Go.RowKit

/-- A number as the machine has it. -/
def wI (x : Int) : Int := IntKind.i64.wrap x
theorem wI_wf (x : Int) : (Lit.int .i64 (wI x)).wf = true := wf_wrap _ _
theorem wI_in {x : Int} (h : -9223372036854775808 ≤ x ∧ x ≤ 9223372036854775807) : wI x = x := IntWalk.i64_in _ h
theorem wI_nats {L : List Nat} (h : ∀ x ∈ L, x < 4096) : (natsI L).map wI = natsI L := by
  unfold natsI
  rw [List.map_map]
  exact List.map_congr_left fun x hx => by have := h x hx; exact wI_in (x := (x : Int)) (by constructor <;> omega)
theorem KeepsFrom.mono {B C : Nat} {W W' : World} (h : KeepsFrom B W W') (hB : B ≤ C) : KeepsFrom C W W' := ⟨h.size, fun k o hk => h.same k o (Nat.le_trans hB hk)⟩
theorem keepsFrom_below {B : Nat} {W W' : World} (h : Below W.heap.size W W') : KeepsFrom B W W' := ⟨h.size, fun k _ _ hk _ => (h.block k (Array.getElem?_eq_some_iff.1 hk).1).trans hk⟩
theorem keepX_grown {X : Nat → Prop} {m b : Nat} {W W' : World} (hX : X b) (hg : W.grownBy W' (some b)) : KeepX X m W W' :=
  ⟨hg.os, hg.tape, hg.output, hg.size, fun k _ hlt hx => hg.block k hlt fun e => by injection e with e; subst e; exact hx hX⟩
theorem MapB.not_row {w : World} {b : Nat} {S : List Int} (h : MapB w b S) {B s n : Nat} {t : TypeId} {v : Value} {xs : List Value} (hr : w.ownsRow B t s v n xs) : some b ≠ v.ownBlock := by
  obtain ⟨D, ⟨es, clock, hb, _⟩, _⟩ := h
  rcases hr.2 with ⟨rfl, _⟩ | ⟨g, cap, cur, rfl, _, hgb, _⟩
  · simp [Value.ownBlock]
  · intro e
    obtain rfl : b = g := by simpa [Value.ownBlock] using e
    rw [hb] at hgb; cases hgb
theorem MapB.not_box {w : World} {b : Nat} {S : List Int} (h : MapB w b S) {q : Nat} {t : TypeId} {v : Value} (hq : Boxed w q t v) : q ≠ b := by
  obtain ⟨D, ⟨es, clock, hb, _⟩, _⟩ := h
  rintro rfl
  rw [show w.heap[q]? = _ from hq] at hb; cases hb
theorem MapB.no_cells {w : World} {b : Nat} {S : List Int} (h : MapB w b S) {o : Obj} (ho : w.heap[b]? = some o) : o.isCells = false := by
  obtain ⟨D, ⟨es, clock, hb, _⟩, _⟩ := h
  rw [hb] at ho; cases ho; rfl
theorem MapB.others {w w' : World} {b : Nat} {S : List Int} (h : MapB w b S) (k : KeepsOthers w w') : MapB w' b S := by
  obtain ⟨o, ho⟩ : ∃ o, w.heap[b]? = some o := ⟨_, Array.getElem?_eq_getElem h.lt⟩
  exact h.kept ((k.same b o ho (h.no_cells ho)).trans ho.symm)
theorem mapB_own {m b : Nat} (f : List Int → List Int) (h : b < m) : OwnFrom m (fun (pre : List Int) W => MapB W b (f pre)) := fun _ _ _ _ hs hg hr => hs.kept (hg.block b hs.lt fun e => by have := (hr b e.symm).1; omega)
/-- A row behind the other rows: what lay elsewhere. -/
theorem rows_keeps {W w9 : World} {B : Nat} {v : Value} {LL : List (List Int)} {tmp : Obj} (own : RowsOwn W B v LL) (gr : (W.alloc tmp).grownBy w9 v.ownBlock) : KeepsOthers W w9 ∧ ∀ X, KeepX X B W w9 := by
  obtain ⟨vs, _, h2, _⟩ := own
  refine ⟨(KeepsOthers.alloc W tmp).trans (KeepsOthers.of_grownBy gr fun j o ej hj => ?_), fun X => ?_⟩
  · rcases (h2.alloc tmp).2 with ⟨rfl, _⟩ | ⟨g, cap, cur, rfl, _, hgb, _⟩
    · simp [Value.ownBlock] at ej
    · obtain rfl : g = j := by simpa [Value.ownBlock] using ej
      rw [hgb] at hj; cases hj; rfl
  · have h1 : KeepX X B W (W.alloc tmp) := .of_below ((Below.refl _ W).alloc (Nat.le_refl _) tmp)
    exact h1.trans ⟨gr.os, gr.tape, gr.output, gr.size, fun b hb hs _ => gr.block b hs fun e => by have := (h2.lt b e.symm).1; omega⟩
theorem own_far {W W' : World} {B s n : Nat} {t : TypeId} {v : Value} {xs : List Value} (h : W.ownsRow B t s v n xs) (k : ∀ (g : Nat) (o : Obj), W.heap[g]? = some o → o.isCells = true → W'.heap[g]? = some o) : W'.ownsRow B t s v n xs := by
  refine ⟨h.1, h.2.imp id ?_⟩
  rintro ⟨g, cap, cur, h1, h2, h3, h4⟩
  exact ⟨g, cap, cur, h1, h2, k g _ h3 rfl, h4⟩
theorem RowsOwn.far {W W' : World} {B : Nat} {v : Value} {LL : List (List Int)} (h : RowsOwn W B v LL) (k : ∀ (g : Nat) (o : Obj), W.heap[g]? = some o → o.isCells = true → W'.heap[g]? = some o) : RowsOwn W' B v LL := by
  obtain ⟨vs, h1, h2, h3⟩ := h
  exact ⟨vs, h1, own_far h2 k, fun i hi => own_far (h3 i hi) k⟩
theorem RowsOwn.putObj {W : World} {B D : Nat} {v : Value} {LL : List (List Int)} {o : Obj} (h : RowsOwn W B v LL) (o' : Obj) (hD : W.heap[D]? = some o) (hc : o.isCells = false) : RowsOwn (W.putObj D o') B v LL :=
  h.far fun g u hg hu => (World.putObj_heap_other (fun e => by subst e; rw [hD] at hg; cases hg; rw [hc] at hu; cases hu)).trans hg
/-- The marks, the latest first. -/
def MarksD (B : Nat) (W : World) : List Deferred → Prop
  | [] => True
  | d :: ds => (∃ D, d = { target := .collected D, args := #[] } ∧ B ≤ D ∧ W.heap[D]? = some (.deferred (some [])) ∧ ∀ e ∈ ds, ∃ D', e = { target := .collected D', args := #[] } ∧ D' < D) ∧ MarksD B W ds
theorem MarksD.kept {B : Nat} {W W' : World} (k : KeepsFrom B W W') : ∀ {ds : List Deferred}, MarksD B W ds → MarksD B W' ds
  | [], _ => trivial
  | _ :: _, ⟨⟨D, h1, h2, h3, h4⟩, h⟩ => ⟨⟨D, h1, h2, k.same D _ h2 h3 rfl, h4⟩, h.kept k⟩
theorem MarksD.lt {B : Nat} {W : World} : ∀ {ds : List Deferred}, MarksD B W ds → ∀ e ∈ ds, ∃ D', e = { target := .collected D', args := #[] } ∧ D' < W.heap.size
  | d :: ds, ⟨⟨D, h1, _, h3, _⟩, h⟩, e, he => by
    rcases List.mem_cons.1 he with rfl | he
    · exact ⟨D, h1, (Array.getElem?_eq_some_iff.1 h3).1⟩
    · exact h.lt e he
theorem MarksD.push {B D : Nat} {W W' : World} {ds : List Deferred} (h : MarksD B W ds) (k : KeepsFrom B W W') (hB : B ≤ D) (hW : W.heap.size ≤ D) (hD : W'.heap[D]? = some (.deferred (some []))) : MarksD B W' ({ target := .collected D, args := #[] } :: ds) :=
  ⟨⟨D, rfl, hB, hD, fun e he => by obtain ⟨D', h1, h2⟩ := h.lt e he; exact ⟨D', h1, by omega⟩⟩, h.kept k⟩
theorem MarksD.put {B D : Nat} {W : World} {o : Obj} : ∀ {ds : List Deferred}, MarksD B W ds → (∀ e ∈ ds, ∃ D', e = { target := .collected D', args := #[] } ∧ D' < D) → MarksD B (W.putObj D o) ds
  | [], _, _ => trivial
  | d :: ds, ⟨⟨D1, h1, h2, h3, h4⟩, h⟩, hl => by
    refine ⟨⟨D1, h1, h2, ?_, h4⟩, h.put fun e he => hl e (List.mem_cons_of_mem _ he)⟩
    obtain ⟨D', e1, e2⟩ := hl d List.mem_cons_self
    have : D1 = D' := by rw [h1] at e1; injection e1 with e1 _; injection e1
    exact (World.putObj_heap_other (by omega)).trans h3
/-- A function that leaves with marks. -/
theorem leaves_marks {F : Fence} {n : Nat} {P : Program} {fn : Func} {tmps : Array Value} {R : Ending → World → Prop} {B : Nat} {I : World → Prop} (hI : ∀ W D, B ≤ D → W.heap[D]? = some (.deferred (some [])) → I W → I (W.putObj D (.deferred none)))
    (hR : ∀ W, I W → LeavesIn F n P fn tmps R [] .returning W) : ∀ (ds : List Deferred) (W : World), MarksD B W ds → I W → LeavesInM F n P fn tmps R ds .returning W
  | [], W, _, h => hR W h
  | _ :: ds, W, ⟨⟨D, rfl, h2, h3, h4⟩, hm⟩, h => ⟨by simp, .inl ⟨D, _, rfl, run_takeDeferred h3, leaves_marks hI hR ds _ (hm.put h4) (hI W D h2 h3 h)⟩⟩
section
variable {F : Fence} {rm : Nat} {ops : Array Oper} {rest : List Oper} {o : Oper} {a : Act} {Q : Exit → Act → World → Prop}
theorem wplIn_snocI {wr : World} {B n : Nat} {v : Value} {xs : List Int} (x : Int) (own : wr.ownsRow B 3 1 v n (ints xs)) (hB : B ≤ wr.heap.size) (hn : n ≤ 1000000) (hgd : o.guard = none) (s y : Operand)
    (ho : o.op = .call { callee := .builtin .append, args := #[s, y], argTypes := #[40, 40] }) (hs : a.eval s = v) (hx : a.eval y = .slice (some ⟨wr.heap.size, 0, none⟩) 1 1)
    (cont : ∀ g c' w9, (wr.alloc (.cells #[.int .i64 x] 3)).grownBy w9 v.ownBlock → w9.ownsRow B 3 1 (.slice (some ⟨g, 0, none⟩) (n + 1) c') (n + 1) (ints (xs ++ [x])) → wpListIn F rm Try.prog ops Q rest (a.put o.dst (.slice (some ⟨g, 0, none⟩) (n + 1) c')) w9) :
    wpListIn F rm Try.prog ops Q (o :: rest) a (wr.alloc (.cells #[.int .i64 x] 3)) := by
  obtain ⟨i0, hi, hz0, hz1, hz2⟩ := info_parts Try.infoInt
  have b := (Below.refl _ wr).alloc (Nat.le_refl _) (.cells #[.int .i64 x] 3)
  have hnew := heap_alloc_new wr (.cells #[.int .i64 x] 3)
  refine wpListIn_append_own _ hgd s y 40 ho B 3 i0 (.int .i64 0) 1 8 Try.underlying40 hi hz0 hz1 hz2 rfl (by decide) v n (ints xs) hs (ownK_up own b) ⟨wr.heap.size, 0, none⟩ 1 1 (ints [x]) hx rfl
    (fun j u hj => by rw [add_zero_addr, cell_in hnew, List.getElem?_toArray]; exact hj) (ints_one _) (by unfold maxLen; omega) (by omega) (Nat.le_trans hB b.size) ?_
  intro v' w9 own9 gr9 _
  obtain ⟨g, cap, rfl, _, _⟩ := own9.form (by omega)
  refine cont g cap w9 gr9 ?_
  rw [ints_append]
  exact own9
theorem wplIn_snocR {wr : World} {B : Nat} {v : Value} {LL : List (List Int)} {x : Value} {xs : List Int} (own : RowsOwn wr B v LL) (hx : wr.ownsRow B 3 1 x xs.length (ints xs)) (hB : B ≤ wr.heap.size) (hn : LL.length ≤ 1000000) (hgd : o.guard = none) (s y : Operand)
    (ho : o.op = .call { callee := .builtin .append, args := #[s, y], argTypes := #[36, 36] }) (hs : a.eval s = v) (hy : a.eval y = .slice (some ⟨wr.heap.size, 0, none⟩) 1 1)
    (cont : ∀ v' w9, (wr.alloc (.cells #[x] 40)).grownBy w9 v.ownBlock → RowsOwn w9 B v' (LL ++ [xs]) → wpListIn F rm Try.prog ops Q rest (a.put o.dst v') w9) :
    wpListIn F rm Try.prog ops Q (o :: rest) a (wr.alloc (.cells #[x] 40)) := by
  obtain ⟨i0, hi, hz0, hz1, hz2⟩ := info_parts Try.infoInts
  obtain ⟨A, c, rfl⟩ := ownK_form hx
  have b := (Below.refl _ wr).alloc (Nat.le_refl _) (.cells #[.slice A xs.length c] 40)
  obtain ⟨vs, hl, ho1, hr1⟩ := own.up b
  have hx1 := ownK_up hx b
  have hnew := heap_alloc_new wr (.cells #[.slice A xs.length c] 40)
  refine wpListIn_append_own _ hgd s y 36 ho B 40 i0 (.slice none 0 0) 1 24 Try.underlying36 hi hz0 hz1 hz2 rfl (by decide) v LL.length vs hs ho1 ⟨wr.heap.size, 0, none⟩ 1 1 [.slice A xs.length c] hy rfl
    (fun j u hj => by rw [add_zero_addr, cell_in hnew, List.getElem?_toArray]; exact hj) (fun u hu => by rw [List.mem_singleton.1 hu]; rfl) (by unfold maxLen; omega) (by omega) (Nat.le_trans hB b.size) ?_
  intro v' w9 own9 gr9 _
  exact cont v' w9 gr9 (rows_add hl ho1 hr1 hx1 gr9 own9)
end
end Go.Proofs.Ytmflacmgffpjoaa
