/- Texts laid one behind the other: Base, SouPure, CerPure, CerPinch, CerMore, CerNum, CerOpen, CerEx, CerTurn, CorPure, CorMore, CorPick, CorLaw, RingPure, RingMore, RgPure, SouSide, BordPure, BordLoop, BdLst, BdWk. -/
import Derived.Test.YtmflacmgffpjoaaRows
import Derived.WalkKit
import Derived.Deep.AppendLies
import Derived.Deep.Draws
import Derived.Deep.OwnRows
import Derived.Laws.CopyOwn
import Derived.Lib.Hide
import Derived.ProofKit
import Derived.OpenShut
import Derived.ShutString
import Derived.ChangeOld

/- Words for memory that every layer needs: blocks and their cells, a slice that reads as a list, a call that only reads. -/
namespace Go.Proofs.Ytmflacmgffpjoaa
open Go.RowKit Go.ChangeShapes Go.WideShapes Go.ChangeAt

def ints (xs : List Int) : List Value := xs.map (Value.int .i64)
theorem length_ints (xs : List Int) : (ints xs).length = xs.length := by simp [ints]
theorem ints_one (xs : List Int) : ∀ u ∈ ints xs, u.oneCell' = true := by
  intro u hu
  simp only [ints, List.mem_map] at hu
  obtain ⟨x, _, rfl⟩ := hu
  rfl
theorem ints_append (xs ys : List Int) : ints (xs ++ ys) = ints xs ++ ints ys := by simp [ints]

/-- A call that only reads (it may have drawn). -/
abbrev Reading (w w' : World) : Prop := ∃ n, w' = w.drewN n
theorem Reading.below {w w' : World} {B : Nat} (h : Reading w w') : Below B w w' := by
  obtain ⟨n, rfl⟩ := h
  exact ⟨rfl, rfl, rfl, Nat.le_refl _, fun _ _ => rfl⟩
theorem Reading.heap {w w' : World} (h : Reading w w') : w'.heap = w.heap := by
  obtain ⟨n, rfl⟩ := h
  rfl
theorem Reading.trans {w w' w'' : World} (h : Reading w w') (k : Reading w' w'') : Reading w w'' := by
  obtain ⟨n, rfl⟩ := h
  obtain ⟨m, rfl⟩ := k
  exact ⟨n + m, by rw [World.drewN_drewN]⟩
theorem Reading.refl (w : World) : Reading w w := ⟨0, rfl⟩

theorem heap_lt {w : World} {g : Nat} {o : Obj} (h : w.heap[g]? = some o) : g < w.heap.size := (Array.getElem?_eq_some_iff.1 h).1
theorem cell_in {w : World} {g : Nat} {cs : Array Value} {t : TypeId} (h : w.heap[g]? = some (.cells cs t (0, 0))) (i : Nat) : w.cell? ⟨g, i, none⟩ = cs[i]? := cell_of_row w g i cs t (0, 0) h
theorem frozen_in {w : World} {g : Nat} {cs : Array Value} {t : TypeId} (h : w.heap[g]? = some (.cells cs t (0, 0))) (i : Nat) : w.frozen? ⟨g, i, none⟩ = false := by
  simp [World.frozen?, h]
theorem heap_set {w : World} {g : Nat} {cs : Array Value} {t : TypeId} (h : w.heap[g]? = some (.cells cs t (0, 0))) (i : Nat) (u : Value) :
    (w.setCell ⟨g, i, none⟩ u).heap[g]? = some (.cells (cs.setIfInBounds i u) t (0, 0)) := by
  simp [World.setCell, Array.getElem?_modify, h]
theorem heap_far {w : World} {g : Nat} {o : Obj} (h : w.heap[g]? = some o) {p : Addr} (hp : g ≠ p.block) (u : Value) : (w.setCell p u).heap[g]? = some o :=
  (Below.heap_setCell w p u g hp).trans h

/-- A slice of one-cell elements that reads as xs (nil let in). -/
def Reads (w : World) (A : Option Addr) (n : Nat) (xs : List Value) : Prop :=
  xs.length = n ∧ (0 < n → ∃ ad, A = some ad ∧ ∀ j u, xs[j]? = some u → w.cell? (ad.add j) = some u)
theorem Reads.below {w w' : World} {A : Option Addr} {n : Nat} {xs : List Value} (h : Reads w A n xs) (hb : Below w.heap.size w w') : Reads w' A n xs :=
  ⟨h.1, fun hn => by
    obtain ⟨ad, hA, hc⟩ := h.2 hn
    exact ⟨ad, hA, fun j u hj => (hb.cell (World.block_lt_of_cell? w _ (hc j u hj))).trans (hc j u hj)⟩⟩
theorem Reads.read {w w' : World} {A : Option Addr} {n : Nat} {xs : List Value} (h : Reads w A n xs) (hb : Reading w w') : Reads w' A n xs := h.below hb.below
theorem add_zero_addr (q j : Nat) : (⟨q, 0, none⟩ : Addr).add j = ⟨q, j, none⟩ := by unfold Addr.add; split <;> simp_all
theorem Reads.of_block {w : World} {q : Nat} {xs : List Value} {t : TypeId} (h : w.heap[q]? = some (.cells xs.toArray t (0, 0))) : Reads w (some ⟨q, 0, none⟩) xs.length xs :=
  ⟨rfl, fun _ => ⟨_, rfl, fun j u hj => by
    rw [add_zero_addr, cell_in h]; simpa using hj⟩⟩
theorem Reads.of_own {w : World} {B n : Nat} {t : TypeId} {v : Value} {xs : List Value} (h : w.ownsRow B t 1 v n xs) : ∃ A c, v = .slice A n c ∧ (A = none → c = 0) ∧ Reads w A n xs := by
  rcases h.2 with ⟨h1, h2⟩ | ⟨q, cap, cur, h1, hq, hh, hc, hm, hs, ht⟩
  · exact ⟨none, 0, by rw [h1, h2], fun _ => rfl, by have := h.1; omega, fun h => by omega⟩
  · exact ⟨_, _, h1, fun e => (nomatch e), by have := h.1; omega, fun _ => ⟨_, rfl, h.cells (by rw [h1]; rfl)⟩⟩
/-- The element k of a slice of integers. -/
theorem Reads.int {w : World} {A : Option Addr} {n : Nat} {xs : List Int} (h : Reads w A n (ints xs)) (k : Nat) (hk : k < n) : ∃ ad, A = some ad ∧ w.cell? (ad.add k) = some (.int .i64 (xs.getD k 0)) := by
  obtain ⟨ad, hA, hc⟩ := h.2 (by omega)
  refine ⟨ad, hA, hc k _ ?_⟩
  have hl : xs.length = n := by have := h.1; rwa [length_ints] at this
  have : k < xs.length := by omega
  simp [ints, List.getElem?_eq_getElem this]
theorem Reads.len {w : World} {A : Option Addr} {n : Nat} {xs : List Int} (h : Reads w A n (ints xs)) : xs.length = n := by have := h.1; rwa [length_ints] at this

/-- append of a slice that reads as a list, nil let in. -/
theorem wpList_append_reads {P : Program} {w : World} {ops : Array Oper} {rest : List Oper} {o : Oper} {a : Act} {Q : Exit → Act → World → Prop} (hgd : o.guard = none) (s x : Operand) (t : TypeId)
    (ho : o.op = .call { callee := .builtin .append, args := #[s, x], argTypes := #[t, t] }) (base : Nat) (e : TypeId) (i : TypeInfo) (z : Value) (bytes : Nat) (ht : P.underlying t = some (.slice e)) (hi : P.info? e = some i)
    (hz : i.zero = some z ∧ i.size = 1 ∧ i.bytes = bytes) (hzs : z.cells.size = 1) (v : Value) (n : Nat) (xs : List Value) (hs : a.eval s = v) (hown : w.ownsRow base e 1 v n xs) (A : Option Addr) (m c : Nat) (news : List Value) (hx : a.eval x = .slice A m c)
    (hr : Reads w A m news) (hA : A = none → c = 0) (h1 : ∀ u ∈ news, u.oneCell' = true) (h63 : n + m ≤ maxLen) (hbytes : (n + m) * bytes ≤ 140737488355328) (hbase : base ≤ w.heap.size)
    (h : ∀ v' w', w'.ownsRow base e 1 v' (n + m) (xs ++ news) → w.grownBy w' v.ownBlock → wpList P ops Q rest (a.put o.dst v') w') : wpList P ops Q (o :: rest) a w := by
  rcases A with _ | ad
  · have hc : c = 0 := hA rfl
    have hm : m = 0 := by
      rcases Nat.eq_zero_or_pos m with h0 | h0
      · exact h0
      · obtain ⟨ad, he, _⟩ := hr.2 h0; cases he
    subst hc hm
    have hnil : news = [] := List.eq_nil_of_length_eq_zero hr.1
    subst hnil
    have hrun := run_append_owned_none (P := P) w base t o.type e i 1 ht hi v n xs hown
    refine wpList_plain hgd fun _ hK => ?_
    unfold Oper.wp execOp
    simp only [ho, resolve, invoke, builtin, Sem.run_bind, Sem.run_pure, Result.andThen_ok, List.map_toArray, List.map_cons, List.map_nil, hs, hx, hrun]
    exact hK _ _ (h v w (by simpa using hown) (World.grownBy.refl w _))
  · have hcells : ∀ j u, news[j]? = some u → w.cell? (ad.add j) = some u := by
      intro j u hu
      have hj : j < news.length := (List.getElem?_eq_some_iff.1 hu).1
      obtain ⟨ad', he, hc⟩ := hr.2 (by have := hr.1; omega)
      injection he with he
      subst he
      exact hc j u hu
    exact wpList_append_own w hgd s x t ho base e i z 1 bytes ht hi hz.1 hz.2.1 hz.2.2 hzs (by omega) v n xs hs hown ad m c news hx (by have := hr.1; omega) hcells h1 h63 hbytes hbase fun v' w' h2 h3 _ => h v' w' h2 h3

theorem own_grown_below {w w1 w2 : World} {B : Nat} {v : Value} (hb : Below B w w1) (hg : w1.grownBy w2 v.ownBlock) (hB : B ≤ w1.heap.size) (hv : ∀ k, v.ownBlock = some k → B ≤ k) : Below B w w2 :=
  hb.trans ⟨hg.os, hg.tape, hg.output, hg.size, fun j hj => hg.block j (by omega) (fun e => by have := hv j e.symm; omega)⟩

theorem own_knob : ownKnob Try.prog.godebug = none := by kernel_rfl
theorem laid_out : laidOutB Try.prog = true := by kernel_rfl
theorem Try.infoInt : (Try.prog.info? 3).map (fun i => (i.zero, i.size, i.bytes)) = some (some (.int .i64 0), 1, 8) := by kernel_rfl
end Go.Proofs.Ytmflacmgffpjoaa

/- Layer 8: soups as plain lists: what fits, what is renamed, picked, joined. -/
namespace Go.Proofs.Ytmflacmgffpjoaa

/-- A triangle. -/
abbrev Tr := Int × Int × Int
abbrev z3 : Tr := (0, 0, 0)
abbrev Ed := Int × Int
abbrev z2 : Ed := (0, 0)
def inN (N x : Int) : Prop := 0 ≤ x ∧ x < N
instance (N x : Int) : Decidable (inN N x) := inferInstanceAs (Decidable (_ ∧ _))
def okTri (N : Int) (t : Tr) : Prop := inN N t.1 ∧ inN N t.2.1 ∧ inN N t.2.2 ∧ t.1 ≠ t.2.1 ∧ t.2.1 ≠ t.2.2 ∧ t.1 ≠ t.2.2
instance (N : Int) (t : Tr) : Decidable (okTri N t) := inferInstanceAs (Decidable (_ ∧ _))
def Fit (N : Int) (l : List Tr) : Prop := 0 ≤ N ∧ N ≤ 4096 ∧ l.length ≤ 8192 ∧ ∀ t ∈ l, okTri N t
instance (N : Int) (l : List Tr) : Decidable (Fit N l) := inferInstanceAs (Decidable (_ ∧ _))
def allIn (N : Int) (l : List Int) : Prop := ∀ x ∈ l, inN N x
instance (N : Int) (l : List Int) : Decidable (allIn N l) := inferInstanceAs (Decidable (∀ x ∈ l, _))

theorem getD3_mem {l : List Tr} {i : Nat} (h : i < l.length) : l.getD i z3 ∈ l := by
  rw [List.getD_eq_getElem?_getD, List.getElem?_eq_getElem h]; exact List.getElem_mem h
theorem mem3_getD {l : List Tr} {x : Tr} (h : x ∈ l) : ∃ i, i < l.length ∧ l.getD i z3 = x := by
  obtain ⟨i, hi, rfl⟩ := List.mem_iff_getElem.1 h
  exact ⟨i, hi, by rw [List.getD_eq_getElem?_getD, List.getElem?_eq_getElem hi]; rfl⟩
theorem getDi_mem {l : List Int} {i : Nat} (h : i < l.length) : l.getD i 0 ∈ l := by
  rw [List.getD_eq_getElem?_getD, List.getElem?_eq_getElem h]; exact List.getElem_mem h
theorem memi_getD {l : List Int} {x : Int} (h : x ∈ l) : ∃ i, i < l.length ∧ l.getD i 0 = x := by
  obtain ⟨i, hi, rfl⟩ := List.mem_iff_getElem.1 h
  exact ⟨i, hi, by rw [List.getD_eq_getElem?_getD, List.getElem?_eq_getElem hi]; rfl⟩
theorem mem2_getD {l : List Ed} {x : Ed} (h : x ∈ l) : ∃ i, i < l.length ∧ l.getD i z2 = x := by
  obtain ⟨i, hi, rfl⟩ := List.mem_iff_getElem.1 h
  exact ⟨i, hi, by rw [List.getD_eq_getElem?_getD, List.getElem?_eq_getElem hi]; rfl⟩
theorem ext_getD {α : Type} {z : α} {a b : List α} (hl : a.length = b.length) (h : ∀ i, i < a.length → a.getD i z = b.getD i z) : a = b := by
  refine List.ext_getElem hl fun i h1 h2 => ?_
  have := h i h1
  rwa [List.getD_eq_getElem?_getD, List.getD_eq_getElem?_getD, List.getElem?_eq_getElem h1, List.getElem?_eq_getElem h2] at this

theorem told_t {p : Prop} [Decidable p] (h : p) : Ending.returned (.bool true) = .returned (.bool (decide p)) := by rw [decide_eq_true h]
theorem told_f {p : Prop} [Decidable p] (h : ¬ p) : Ending.returned (.bool false) = .returned (.bool (decide p)) := by rw [decide_eq_false h]

/-- Flat cells. -/
def flat3 (l : List Tr) : List Int := l.flatMap fun t => [t.1, t.2.1, t.2.2]
def flat2 (l : List Ed) : List Int := l.flatMap fun t => [t.1, t.2]
theorem length_flat3 (l : List Tr) : (flat3 l).length = 3 * l.length := by
  induction l with
  | nil => rfl
  | cons t l ih => simp only [flat3, List.flatMap_cons, List.length_append, List.length_cons, List.length_nil] at *; omega
theorem length_flat2 (l : List Ed) : (flat2 l).length = 2 * l.length := by
  induction l with
  | nil => rfl
  | cons t l ih => simp only [flat2, List.flatMap_cons, List.length_append, List.length_cons, List.length_nil] at *; omega
theorem flat3_append (a b : List Tr) : flat3 (a ++ b) = flat3 a ++ flat3 b := by simp [flat3]
theorem flat2_append (a b : List Ed) : flat2 (a ++ b) = flat2 a ++ flat2 b := by simp [flat2]
theorem flat3_at : ∀ (l : List Tr) (i : Nat), i < l.length → (flat3 l)[3 * i]? = some (l.getD i z3).1 ∧ (flat3 l)[3 * i + 1]? = some (l.getD i z3).2.1 ∧ (flat3 l)[3 * i + 2]? = some (l.getD i z3).2.2
  | t :: l, 0, _ => by simp [flat3]
  | t :: l, i + 1, h => by
    have := flat3_at l i (by simpa using h)
    have e : flat3 (t :: l) = t.1 :: t.2.1 :: t.2.2 :: flat3 l := by simp [flat3]
    rw [e, show 3 * (i + 1) = 3 * i + 1 + 1 + 1 by omega]
    simp only [List.getElem?_cons_succ, List.getD_cons_succ, show 3 * i + 1 + 1 + 1 + 1 = (3 * i + 1) + 1 + 1 + 1 by omega, show 3 * i + 1 + 1 + 1 + 2 = (3 * i + 2) + 1 + 1 + 1 by omega]
    exact this
theorem flat2_at : ∀ (l : List Ed) (i : Nat), i < l.length → (flat2 l)[2 * i]? = some (l.getD i z2).1 ∧ (flat2 l)[2 * i + 1]? = some (l.getD i z2).2
  | t :: l, 0, _ => by simp [flat2]
  | t :: l, i + 1, h => by
    have := flat2_at l i (by simpa using h)
    have e : flat2 (t :: l) = t.1 :: t.2 :: flat2 l := by simp [flat2]
    rw [e, show 2 * (i + 1) = 2 * i + 1 + 1 by omega]
    simp only [List.getElem?_cons_succ, List.getD_cons_succ]
    exact this

/-- A list that has each number below N once. -/
def IsPerm (N : Int) (to : List Int) : Prop := (to.length : Int) = N ∧ allIn N to ∧ to.Nodup
instance (N : Int) (to : List Int) : Decidable (IsPerm N to) := inferInstanceAs (Decidable (_ ∧ _))

/-- A triangle by other numbers; mirrored; turned to its corner k. -/
def renT (to : List Int) (t : Tr) : Tr := (to.getD t.1.toNat 0, to.getD t.2.1.toNat 0, to.getD t.2.2.toNat 0)
def mirT (t : Tr) : Tr := (t.1, t.2.2, t.2.1)
def rotT (t : Tr) (k : Nat) : Tr := if k = 0 then t else if k = 1 then (t.2.1, t.2.2, t.1) else (t.2.2, t.1, t.2.1)
end Go.Proofs.Ytmflacmgffpjoaa

/- Layer 9: witnesses, as plain lists: which triangles, pairs of triangles and vertices are told. -/
namespace Go.Proofs.Ytmflacmgffpjoaa

/-- A witness: a kind, and two numbers. -/
abbrev Wt := Int × Int × Int
def hasE (t : Tr) (a b : Int) : Prop := (t.1 = a ∧ t.2.1 = b) ∨ (t.2.1 = a ∧ t.2.2 = b) ∨ (t.2.2 = a ∧ t.1 = b)
instance (t : Tr) (a b : Int) : Decidable (hasE t a b) := inferInstanceAs (Decidable (_ ∨ _))
def hasV (t : Tr) (v : Int) : Prop := t.1 = v ∨ t.2.1 = v ∨ t.2.2 = v
instance (t : Tr) (v : Int) : Decidable (hasV t v) := inferInstanceAs (Decidable (_ ∨ _))
def badT (N : Int) (t : Tr) : Prop := ¬ (inN N t.1 ∧ inN N t.2.1 ∧ inN N t.2.2)
instance (N : Int) (t : Tr) : Decidable (badT N t) := inferInstanceAs (Decidable (¬ _))
def loopT (t : Tr) : Prop := t.1 = t.2.1 ∨ t.2.1 = t.2.2 ∨ t.2.2 = t.1
instance (t : Tr) : Decidable (loopT t) := inferInstanceAs (Decidable (_ ∨ _))
def twice (t u : Tr) : Prop := hasE u t.1 t.2.1 ∨ hasE u t.2.1 t.2.2 ∨ hasE u t.2.2 t.1
instance (t u : Tr) : Decidable (twice t u) := inferInstanceAs (Decidable (_ ∨ _))
def mirrd (t u : Tr) : Prop := hasV u t.1 ∧ hasV u t.2.1 ∧ hasV u t.2.2
instance (t u : Tr) : Decidable (mirrd t u) := inferInstanceAs (Decidable (_ ∧ _))
/-- Two triangles at v that have an edge at v in common. -/
def adjV (v : Int) (t u : Tr) : Prop := ∃ w, w ≠ v ∧ hasV t w ∧ hasV u w
theorem adjV_symm {v : Int} {t u : Tr} (h : adjV v t u) : adjV v u t := by obtain ⟨w, h1, h2, h3⟩ := h; exact ⟨w, h1, h3, h2⟩
/-- All triangles at v hang together. -/
def Conn (l : List Tr) (v : Int) : Prop := ∀ P : Tr → Prop, (∃ t ∈ l, hasV t v ∧ P t) → (∀ t ∈ l, ∀ u ∈ l, hasV t v → hasV u v → P t → adjV v t u → P u) → ∀ u ∈ l, hasV u v → P u
def IsPin (l : List Tr) (p : Int → Bool) : Prop := ∀ v, p v = true ↔ ¬ Conn l v
theorem IsPin.one {l : List Tr} {p q : Int → Bool} (h : IsPin l p) (h' : IsPin l q) : p = q := by
  funext v
  have h1 := h v
  have h2 := h' v
  cases hp : p v <;> cases hq : q v <;> simp_all
theorem isPin_exists (l : List Tr) : ∃ p, IsPin l p := ⟨fun v => @decide (¬ Conn l v) (Classical.propDecidable _), fun v => by simp⟩

def idxW (k : Int) (q : Tr → Bool) (l : List Tr) : List Wt := ((List.range l.length).filter fun i => q (l.getD i z3)).map fun i => (k, ((i : Nat) : Int), 0)
def pairW (k : Int) (q : Tr → Tr → Bool) (l : List Tr) : List Wt := (List.range l.length).flatMap fun b => ((List.range b).filter fun a => q (l.getD a z3) (l.getD b z3)).map fun a => (k, ((a : Nat) : Int), ((b : Nat) : Int))
def vertW (k : Int) (q : Int → Bool) (N : Int) : List Wt := ((List.range N.toNat).filter fun (v : Nat) => q v).map fun (v : Nat) => (k, (v : Int), 0)
def lonely (l : List Tr) (v : Int) : Bool := l.all fun t => decide (¬ hasV t v)
/-- The first list that has something. -/
def firstL : List (List Wt) → List Wt
  | [] => []
  | [] :: r => firstL r
  | (x :: a) :: _ => x :: a
def stagesW (p : Int → Bool) (N : Int) (l : List Tr) : List (List Wt) :=
  [idxW 1 (fun t => decide (badT N t)) l, idxW 2 (fun t => decide (loopT t)) l, pairW 3 (fun t u => decide (twice t u)) l, pairW 4 (fun t u => decide (mirrd t u)) l, vertW 5 (lonely l) N, vertW 6 p N]
def wits (p : Int → Bool) (N : Int) (l : List Tr) : List Wt := if N < 0 ∨ 4096 < N ∨ 8192 < l.length then [(1, -1, 0)] else firstL (stagesW p N l)
/-- All witnesses that are reported. -/
def IsAll (N : Int) (l : List Tr) (ws : List Wt) : Prop := ∃ p, IsPin l p ∧ ws = wits p N l
theorem IsAll.one {N : Int} {l : List Tr} {a b : List Wt} (h : IsAll N l a) (h' : IsAll N l b) : b = a := by
  obtain ⟨p, hp, rfl⟩ := h
  obtain ⟨q, hq, rfl⟩ := h'
  rw [hp.one hq]
theorem isAll_exists (N : Int) (l : List Tr) : ∃ ws, IsAll N l ws := by
  obtain ⟨p, hp⟩ := isPin_exists l
  exact ⟨_, p, hp, rfl⟩

theorem firstL_nil {L : List (List Wt)} : firstL L = [] ↔ ∀ a ∈ L, a = [] := by
  induction L with
  | nil => simp [firstL]
  | cons a r ih =>
    cases a with
    | nil => simp [firstL, ih]
    | cons x a => simp [firstL]
theorem idxW_nil {k : Int} {q : Tr → Bool} {l : List Tr} : idxW k q l = [] ↔ ∀ t ∈ l, q t = false := by
  unfold idxW
  rw [List.map_eq_nil_iff, List.filter_eq_nil_iff]
  constructor
  · intro h t ht
    obtain ⟨i, hi, rfl⟩ := mem3_getD ht
    have := h i (List.mem_range.2 hi)
    simpa using this
  · intro h i hi
    rw [h _ (getD3_mem (List.mem_range.1 hi))]
    simp
theorem pairW_nil {k : Int} {q : Tr → Tr → Bool} {l : List Tr} : pairW k q l = [] ↔ l.Pairwise fun t u => q t u = false := by
  unfold pairW
  rw [List.flatMap_eq_nil_iff, List.pairwise_iff_getElem]
  constructor
  · intro h i j hi hj hij
    have h1 := h j (List.mem_range.2 hj)
    rw [List.map_eq_nil_iff, List.filter_eq_nil_iff] at h1
    have h2 := h1 i (List.mem_range.2 hij)
    rw [List.getD_eq_getElem?_getD, List.getD_eq_getElem?_getD, List.getElem?_eq_getElem hi, List.getElem?_eq_getElem hj] at h2
    simpa using h2
  · intro h b hb
    rw [List.map_eq_nil_iff, List.filter_eq_nil_iff]
    intro a ha
    have hb' := List.mem_range.1 hb
    have ha' := List.mem_range.1 ha
    have h2 := h a b (by omega) hb' ha'
    rw [List.getD_eq_getElem?_getD, List.getD_eq_getElem?_getD, List.getElem?_eq_getElem (show a < l.length by omega), List.getElem?_eq_getElem hb']
    simpa using h2
theorem vertW_nil {k : Int} {q : Int → Bool} {N : Int} : vertW k q N = [] ↔ ∀ v : Int, inN N v → q v = false := by
  unfold vertW
  rw [List.map_eq_nil_iff, List.filter_eq_nil_iff]
  constructor
  · intro h v hv
    have h0 := hv.1
    have h1 := hv.2
    have := h v.toNat (List.mem_range.2 (by omega))
    rw [show ((v.toNat : Nat) : Int) = v by omega] at this
    simpa using this
  · intro h v hv
    have := List.mem_range.1 hv
    rw [h v ⟨by omega, by omega⟩]
    simp
theorem lonely_false {l : List Tr} {v : Int} : lonely l v = false ↔ ∃ t ∈ l, hasV t v := by
  unfold lonely
  rw [List.all_eq_false]
  constructor
  · rintro ⟨t, ht, h⟩; exact ⟨t, ht, by simpa using h⟩
  · rintro ⟨t, ht, h⟩; exact ⟨t, ht, by simpa using h⟩

/-- A surface, told by what it has. -/
structure Surf (N : Int) (l : List Tr) : Prop where
  n0 : 0 ≤ N
  n1 : N ≤ 4096
  t1 : l.length ≤ 8192
  inb : ∀ t ∈ l, inN N t.1 ∧ inN N t.2.1 ∧ inN N t.2.2
  noloop : ∀ t ∈ l, ¬ loopT t
  notwice : l.Pairwise fun t u => ¬ twice t u
  nomirr : l.Pairwise fun t u => ¬ mirrd t u
  used : ∀ v, inN N v → ∃ t ∈ l, hasV t v
  conn : ∀ v, inN N v → Conn l v
theorem surf_iff {N : Int} {l : List Tr} {p : Int → Bool} (hp : IsPin l p) : wits p N l = [] ↔ Surf N l := by
  unfold wits
  by_cases hr : N < 0 ∨ 4096 < N ∨ 8192 < l.length
  · rw [if_pos hr]
    constructor
    · intro h; cases h
    · intro h
      have := h.n0
      have := h.n1
      have := h.t1
      omega
  · rw [if_neg hr, firstL_nil]
    have hpin : ∀ v, p v = false ↔ Conn l v := fun v => by
      have := hp v
      cases hv : p v <;> simp_all
    constructor
    · intro h
      have h1 := idxW_nil.1 (h _ (by simp [stagesW]; exact .inl rfl))
      have h2 := idxW_nil.1 (h _ (by simp [stagesW]; exact .inr (.inl rfl)))
      have h3 := pairW_nil.1 (h _ (by simp [stagesW]; exact .inr (.inr (.inl rfl))))
      have h4 := pairW_nil.1 (h _ (by simp [stagesW]; exact .inr (.inr (.inr (.inl rfl)))))
      have h5 := vertW_nil.1 (h _ (by simp [stagesW]; exact .inr (.inr (.inr (.inr (.inl rfl))))))
      have h6 := vertW_nil.1 (h _ (by simp [stagesW]; exact .inr (.inr (.inr (.inr (.inr rfl))))))
      exact ⟨by omega, by omega, by omega, fun t ht => by have := h1 t ht; simpa [badT] using this, fun t ht => by have := h2 t ht; simpa using this, h3.imp (fun h => by simpa using h), h4.imp (fun h => by simpa using h), fun v hv => lonely_false.1 (h5 v hv), fun v hv => (hpin v).1 (h6 v hv)⟩
    · intro h a ha
      simp only [stagesW, List.mem_cons, List.not_mem_nil, or_false] at ha
      rcases ha with rfl | rfl | rfl | rfl | rfl | rfl
      · exact idxW_nil.2 fun t ht => decide_eq_false (fun hb => hb (h.inb t ht))
      · exact idxW_nil.2 fun t ht => decide_eq_false (h.noloop t ht)
      · exact pairW_nil.2 (h.notwice.imp fun hb => decide_eq_false hb)
      · exact pairW_nil.2 (h.nomirr.imp fun hb => decide_eq_false hb)
      · exact vertW_nil.2 fun v hv => lonely_false.2 (h.used v hv)
      · exact vertW_nil.2 fun v hv => (hpin v).2 (h.conn v hv)
theorem isAll_nil {N : Int} {l : List Tr} {ws : List Wt} (h : IsAll N l ws) : ws = [] ↔ Surf N l := by
  obtain ⟨p, hp, rfl⟩ := h
  exact surf_iff hp
theorem twice_iff {t u : Tr} : twice t u ↔ ∃ a b, hasE t a b ∧ hasE u a b := by
  constructor
  · rintro (h | h | h)
    · exact ⟨_, _, .inl ⟨rfl, rfl⟩, h⟩
    · exact ⟨_, _, .inr (.inl ⟨rfl, rfl⟩), h⟩
    · exact ⟨_, _, .inr (.inr ⟨rfl, rfl⟩), h⟩
  · rintro ⟨a, b, (⟨rfl, rfl⟩ | ⟨rfl, rfl⟩ | ⟨rfl, rfl⟩), h2⟩
    · exact .inl h2
    · exact .inr (.inl h2)
    · exact .inr (.inr h2)
theorem twice_symm {t u : Tr} (h : twice t u) : twice u t := by
  obtain ⟨a, b, h1, h2⟩ := twice_iff.1 h
  exact twice_iff.2 ⟨a, b, h2, h1⟩
theorem twice_self (t : Tr) : twice t t := twice_iff.2 ⟨t.1, t.2.1, .inl ⟨rfl, rfl⟩, .inl ⟨rfl, rfl⟩⟩
theorem hasE_mir {t : Tr} {a b : Int} : hasE (mirT t) a b ↔ hasE t b a := by
  simp only [hasE, mirT]; constructor <;> rintro (⟨h1, h2⟩ | ⟨h1, h2⟩ | ⟨h1, h2⟩) <;> simp [h1, h2]
theorem hasV_mir {t : Tr} {v : Int} : hasV (mirT t) v ↔ hasV t v := by
  simp only [hasV, mirT]; constructor <;> rintro (h1 | h1 | h1) <;> simp [h1]
theorem hasE_rot {t : Tr} {k : Nat} {a b : Int} : hasE (rotT t k) a b ↔ hasE t a b := by
  unfold rotT
  split
  · rfl
  · split
    · simp only [hasE]; constructor <;> rintro (⟨h1, h2⟩ | ⟨h1, h2⟩ | ⟨h1, h2⟩) <;> simp [h1, h2]
    · simp only [hasE]; constructor <;> rintro (⟨h1, h2⟩ | ⟨h1, h2⟩ | ⟨h1, h2⟩) <;> simp [h1, h2]
theorem hasV_rot {t : Tr} {k : Nat} {v : Int} : hasV (rotT t k) v ↔ hasV t v := by
  unfold rotT
  split
  · rfl
  · split
    · simp only [hasV]; constructor <;> rintro (h1 | h1 | h1) <;> simp [h1]
    · simp only [hasV]; constructor <;> rintro (h1 | h1 | h1) <;> simp [h1]
theorem badT_iff {N : Int} {t : Tr} : badT N t ↔ ∃ v, hasV t v ∧ ¬ inN N v := by
  unfold badT
  constructor
  · intro h
    by_cases h1 : inN N t.1
    · by_cases h2 : inN N t.2.1
      · exact ⟨_, .inr (.inr rfl), fun h3 => h ⟨h1, h2, h3⟩⟩
      · exact ⟨_, .inr (.inl rfl), h2⟩
    · exact ⟨_, .inl rfl, h1⟩
  · rintro ⟨v, (rfl | rfl | rfl), hv⟩ ⟨h1, h2, h3⟩
    · exact hv h1
    · exact hv h2
    · exact hv h3
theorem loopT_iff {t : Tr} : loopT t ↔ ∃ v, hasE t v v := by
  constructor
  · rintro (h | h | h)
    · exact ⟨t.1, .inl ⟨rfl, h.symm⟩⟩
    · exact ⟨t.2.1, .inr (.inl ⟨rfl, h.symm⟩)⟩
    · exact ⟨t.2.2, .inr (.inr ⟨rfl, h.symm⟩)⟩
  · rintro ⟨v, (⟨h1, h2⟩ | ⟨h1, h2⟩ | ⟨h1, h2⟩)⟩
    · exact .inl (h1.trans h2.symm)
    · exact .inr (.inl (h1.trans h2.symm))
    · exact .inr (.inr (h1.trans h2.symm))
theorem mirrd_iff {t u : Tr} : mirrd t u ↔ ∀ v, hasV t v → hasV u v := by
  constructor
  · rintro ⟨h1, h2, h3⟩ v (rfl | rfl | rfl)
    · exact h1
    · exact h2
    · exact h3
  · intro h; exact ⟨h _ (.inl rfl), h _ (.inr (.inl rfl)), h _ (.inr (.inr rfl))⟩

/-- Two lists of triangles that stand for one another, place by place: the same is told. -/
theorem isAll_same {N : Int} {l l' : List Tr} (hl : l'.length = l.length) (hbad : ∀ i, i < l.length → (badT N (l'.getD i z3) ↔ badT N (l.getD i z3))) (hloop : ∀ i, i < l.length → (loopT (l'.getD i z3) ↔ loopT (l.getD i z3)))
    (htw : ∀ i j, i < l.length → j < l.length → (twice (l'.getD i z3) (l'.getD j z3) ↔ twice (l.getD i z3) (l.getD j z3))) (hv : ∀ i, i < l.length → ∀ v, hasV (l'.getD i z3) v ↔ hasV (l.getD i z3) v) {ws : List Wt} (h : IsAll N l ws) : IsAll N l' ws := by
  obtain ⟨p, hp, rfl⟩ := h
  have hmem : ∀ {i}, i < l.length → l'.getD i z3 ∈ l' := fun hi => getD3_mem (by rw [hl]; exact hi)
  have back : ∀ t' ∈ l', ∃ i, i < l.length ∧ l'.getD i z3 = t' := fun t' ht => by
    obtain ⟨i, hi, e⟩ := mem3_getD ht
    exact ⟨i, by rw [← hl]; exact hi, e⟩
  have hadj : ∀ v i j, i < l.length → j < l.length → (adjV v (l'.getD i z3) (l'.getD j z3) ↔ adjV v (l.getD i z3) (l.getD j z3)) := fun v i j hi hj =>
    ⟨fun ⟨w, h1, h2, h3⟩ => ⟨w, h1, (hv i hi w).1 h2, (hv j hj w).1 h3⟩, fun ⟨w, h1, h2, h3⟩ => ⟨w, h1, (hv i hi w).2 h2, (hv j hj w).2 h3⟩⟩
  have hconn : ∀ v, Conn l' v ↔ Conn l v := by
    intro v
    constructor
    · intro hc P hex hcl u hu huv
      obtain ⟨j, hj, rfl⟩ := mem3_getD hu
      have key := hc (fun t' => ∃ i, i < l.length ∧ hasV (l.getD i z3) v ∧ P (l.getD i z3) ∧ (∀ w, hasV t' w ↔ hasV (l.getD i z3) w)) ?_ ?_ _ (hmem hj) ((hv j hj v).2 huv)
      · obtain ⟨i, hi, hiv, hP, hw⟩ := key
        obtain ⟨w, hww⟩ : ∃ w, (w ≠ v ∧ hasV (l.getD i z3) w) ∨ (∀ w, hasV (l.getD i z3) w → w = v) := by
          by_cases he : ∃ w, w ≠ v ∧ hasV (l.getD i z3) w
          · obtain ⟨w, hw⟩ := he; exact ⟨w, .inl hw⟩
          · exact ⟨v, .inr fun w hw => Classical.byContradiction fun hn => he ⟨w, hn, hw⟩⟩
        rcases hww with ⟨hw1, hw2⟩ | hall
        · exact hcl _ (getD3_mem hi) _ (getD3_mem hj) hiv huv hP ⟨w, hw1, hw2, (hv j hj w).1 ((hw w).2 hw2)⟩
        · have e1 : l.getD i z3 = (v, v, v) := Prod.ext (hall _ (.inl rfl)) (Prod.ext (hall _ (.inr (.inl rfl))) (hall _ (.inr (.inr rfl))))
          have hall' : ∀ w, hasV (l.getD j z3) w → w = v := fun w hw' => hall w ((hw w).1 ((hv j hj w).2 hw'))
          have e2 : l.getD j z3 = (v, v, v) := Prod.ext (hall' _ (.inl rfl)) (Prod.ext (hall' _ (.inr (.inl rfl))) (hall' _ (.inr (.inr rfl))))
          rw [e2, ← e1]; exact hP
      · obtain ⟨t, ht, htv, hPt⟩ := hex
        obtain ⟨i, hi, rfl⟩ := mem3_getD ht
        exact ⟨_, hmem hi, (hv i hi v).2 htv, i, hi, htv, hPt, hv i hi⟩
      · rintro t ht u hu htv huv ⟨i, hi, hiv, hP, hw⟩ ⟨w, hw1, hw2, hw3⟩
        obtain ⟨j', hj', rfl⟩ := back u hu
        exact ⟨j', hj', (hv j' hj' v).1 huv, hcl _ (getD3_mem hi) _ (getD3_mem hj') hiv ((hv j' hj' v).1 huv) hP ⟨w, hw1, (hw w).1 hw2, (hv j' hj' w).1 hw3⟩, hv j' hj'⟩
    · intro hc P hex hcl u hu huv
      obtain ⟨j, hj, rfl⟩ := back u hu
      have key := hc (fun t => ∃ i, i < l.length ∧ hasV (l'.getD i z3) v ∧ P (l'.getD i z3) ∧ (∀ w, hasV t w ↔ hasV (l'.getD i z3) w)) ?_ ?_ _ (getD3_mem hj) ((hv j hj v).1 huv)
      · obtain ⟨i, hi, hiv, hP, hw⟩ := key
        obtain ⟨w, hww⟩ : ∃ w, (w ≠ v ∧ hasV (l'.getD i z3) w) ∨ (∀ w, hasV (l'.getD i z3) w → w = v) := by
          by_cases he : ∃ w, w ≠ v ∧ hasV (l'.getD i z3) w
          · obtain ⟨w, hw⟩ := he; exact ⟨w, .inl hw⟩
          · exact ⟨v, .inr fun w hw => Classical.byContradiction fun hn => he ⟨w, hn, hw⟩⟩
        rcases hww with ⟨hw1, hw2⟩ | hall
        · exact hcl _ (hmem hi) _ (hmem hj) hiv huv hP ⟨w, hw1, hw2, (hv j hj w).2 ((hw w).2 hw2)⟩
        · have e1 : l'.getD i z3 = (v, v, v) := Prod.ext (hall _ (.inl rfl)) (Prod.ext (hall _ (.inr (.inl rfl))) (hall _ (.inr (.inr rfl))))
          have hall' : ∀ w, hasV (l'.getD j z3) w → w = v := fun w hw' => hall w ((hw w).1 ((hv j hj w).1 hw'))
          have e2 : l'.getD j z3 = (v, v, v) := Prod.ext (hall' _ (.inl rfl)) (Prod.ext (hall' _ (.inr (.inl rfl))) (hall' _ (.inr (.inr rfl))))
          rw [e2, ← e1]; exact hP
      · obtain ⟨t, ht, htv, hPt⟩ := hex
        obtain ⟨i, hi, rfl⟩ := back t ht
        exact ⟨_, getD3_mem hi, (hv i hi v).1 htv, i, hi, htv, hPt, fun w => (hv i hi w).symm⟩
      · rintro t ht u hu htv huv ⟨i, hi, hiv, hP, hw⟩ ⟨w, hw1, hw2, hw3⟩
        obtain ⟨j', hj', rfl⟩ := mem3_getD hu
        exact ⟨j', hj', (hv j' hj' v).2 huv, hcl _ (hmem hi) _ (hmem hj') hiv ((hv j' hj' v).2 huv) hP ⟨w, hw1, (hw w).1 hw2, (hv j' hj' w).2 hw3⟩, fun w => (hv j' hj' w).symm⟩
  refine ⟨p, fun v => by rw [hp v, hconn v], ?_⟩
  have b1 : idxW 1 (fun t => decide (badT N t)) l' = idxW 1 (fun t => decide (badT N t)) l := by
    unfold idxW
    rw [hl]
    congr 1
    exact List.filter_congr fun i hi => decide_eq_decide.2 (hbad i (List.mem_range.1 hi))
  have b2 : idxW 2 (fun t => decide (loopT t)) l' = idxW 2 (fun t => decide (loopT t)) l := by
    unfold idxW
    rw [hl]
    congr 1
    exact List.filter_congr fun i hi => decide_eq_decide.2 (hloop i (List.mem_range.1 hi))
  have pw : ∀ (k : Int) (q : Tr → Tr → Bool), (∀ i j, i < l.length → j < l.length → q (l'.getD i z3) (l'.getD j z3) = q (l.getD i z3) (l.getD j z3)) → pairW k q l' = pairW k q l := by
    intro k q hq
    unfold pairW
    rw [hl]
    rw [List.flatMap_def, List.flatMap_def]
    congr 1
    refine List.map_congr_left fun b hb => ?_
    congr 1
    have hb' := List.mem_range.1 hb
    exact List.filter_congr fun a ha => hq a b (by have := List.mem_range.1 ha; omega) hb'
  have b3 := pw 3 (fun t u => decide (twice t u)) fun i j hi hj => decide_eq_decide.2 (htw i j hi hj)
  have b4 := pw 4 (fun t u => decide (mirrd t u)) fun i j hi hj => decide_eq_decide.2 (by
    rw [mirrd_iff, mirrd_iff]
    exact ⟨fun h v h1 => (hv j hj v).1 (h v ((hv i hi v).2 h1)), fun h v h1 => (hv j hj v).2 (h v ((hv i hi v).1 h1))⟩)
  have b5 : lonely l' = lonely l := by
    funext v
    cases h1 : lonely l' v <;> cases h2 : lonely l v <;> first
      | rfl
      | (exfalso
         obtain ⟨t, ht, hh⟩ := lonely_false.1 h1
         obtain ⟨i, hi, rfl⟩ := back t ht
         have := lonely_false.2 ⟨_, getD3_mem hi, (hv i hi v).1 hh⟩
         rw [this] at h2; cases h2)
      | (exfalso
         obtain ⟨t, ht, hh⟩ := lonely_false.1 h2
         obtain ⟨i, hi, rfl⟩ := mem3_getD ht
         have := lonely_false.2 ⟨_, hmem hi, (hv i hi v).2 hh⟩
         rw [this] at h1; cases h1)
  unfold wits stagesW
  rw [hl, b1, b2, b3, b4, b5]
end Go.Proofs.Ytmflacmgffpjoaa

/- Layer 9: the triangles at a vertex, flagged round by round, as far as they hang together with the first one. -/
namespace Go.Proofs.Ytmflacmgffpjoaa

theorem adjV_iff {v : Int} {t u : Tr} : adjV v t u ↔ (t.1 ≠ v ∧ hasV u t.1) ∨ (t.2.1 ≠ v ∧ hasV u t.2.1) ∨ (t.2.2 ≠ v ∧ hasV u t.2.2) := by
  constructor
  · rintro ⟨w, hw, (rfl | rfl | rfl), h2⟩
    · exact .inl ⟨hw, h2⟩
    · exact .inr (.inl ⟨hw, h2⟩)
    · exact .inr (.inr ⟨hw, h2⟩)
  · rintro (⟨h1, h2⟩ | ⟨h1, h2⟩ | ⟨h1, h2⟩)
    · exact ⟨_, h1, .inl rfl, h2⟩
    · exact ⟨_, h1, .inr (.inl rfl), h2⟩
    · exact ⟨_, h1, .inr (.inr rfl), h2⟩
instance (v : Int) (t u : Tr) : Decidable (adjV v t u) := decidable_of_iff _ adjV_iff.symm
def Reach (v : Int) (L : List Tr) (i : Nat) : Prop := ∀ P : Nat → Prop, P 0 → (∀ a b, a < L.length → b < L.length → P a → adjV v (L.getD a z3) (L.getD b z3) → P b) → P i
theorem Reach.zero (v : Int) (L : List Tr) : Reach v L 0 := fun _ h0 _ => h0
theorem Reach.step {v : Int} {L : List Tr} {a b : Nat} (h : Reach v L a) (ha : a < L.length) (hb : b < L.length) (hadj : adjV v (L.getD a z3) (L.getD b z3)) : Reach v L b := fun P h0 hs => hs a b ha hb (h P h0 hs) hadj
/-- A triangle with three vertices, one of them v, hangs together with itself. -/
theorem adjV_self {v : Int} {t : Tr} (hn : ¬ loopT t) : adjV v t t := by
  by_cases h : t.1 = v
  · exact ⟨t.2.1, fun e => hn (.inl (h.trans e.symm)), .inr (.inl rfl), .inr (.inl rfl)⟩
  · exact ⟨t.1, h, .inl rfl, .inl rfl⟩
theorem reach_conn {l L : List Tr} {v : Int} (hL : ∀ t, t ∈ L ↔ t ∈ l ∧ hasV t v) (hn : 0 < L.length) (nl : ∀ t ∈ L, ¬ loopT t) : (∀ i, i < L.length → Reach v L i) ↔ Conn l v := by
  constructor
  · intro h P hex hcl u hu huv
    have step : ∀ Q : Tr → Prop, (∀ t ∈ l, ∀ u ∈ l, hasV t v → hasV u v → Q t → adjV v t u → Q u) → Q (L.getD 0 z3) → ∀ u ∈ l, hasV u v → Q u := by
      intro Q hQ h0 u hu huv
      obtain ⟨i, hi, rfl⟩ := mem3_getD ((hL u).2 ⟨hu, huv⟩)
      refine h i hi (fun j => Q (L.getD j z3)) h0 fun a b ha hb hQa hadj => ?_
      obtain ⟨ha1, ha2⟩ := (hL _).1 (getD3_mem ha)
      obtain ⟨hb1, hb2⟩ := (hL _).1 (getD3_mem hb)
      exact hQ _ ha1 _ hb1 ha2 hb2 hQa hadj
    refine Classical.byContradiction fun hnP => ?_
    obtain ⟨t, ht, htv, hP⟩ := hex
    by_cases h0 : P (L.getD 0 z3)
    · exact hnP (step P hcl h0 u hu huv)
    · exact step (fun t => ¬ P t) (fun a ha b hb hav hbv hna hadj hPb => hna (hcl b hb a ha hbv hav hPb (adjV_symm hadj))) h0 t ht htv hP
  · intro h i hi
    have hm := (hL _).1 (getD3_mem hi)
    obtain ⟨h01, h02⟩ := (hL _).1 (getD3_mem hn)
    obtain ⟨j, hj, hr, e⟩ := h (fun t => ∃ j, j < L.length ∧ Reach v L j ∧ L.getD j z3 = t) ⟨_, h01, h02, 0, hn, Reach.zero v L, rfl⟩ (fun t ht u hu htv huv ⟨j, hj, hr, e⟩ hadj => by
      obtain ⟨b, hb, rfl⟩ := mem3_getD ((hL u).2 ⟨hu, huv⟩)
      subst e
      exact ⟨b, hb, hr.step hj hb hadj, rfl⟩) _ hm.1 hm.2
    refine hr.step hj hi ?_
    rw [e]
    exact adjV_self (nl _ (getD3_mem hi))

def cntF (F : Nat → Bool) (n : Nat) : Nat := (List.range n).countP F
theorem cntF_le (F : Nat → Bool) (n : Nat) : cntF F n ≤ n := by
  have := List.countP_le_length (p := F) (l := List.range n)
  rwa [List.length_range] at this
theorem cntF_mono {F G : Nat → Bool} {n : Nat} (h : ∀ i, i < n → F i = true → G i = true) : cntF F n ≤ cntF G n := by
  induction n with
  | zero => exact Nat.le_refl _
  | succ n ih =>
    have := ih (fun i hi => h i (by omega))
    have hn := h n (by omega)
    unfold cntF at *
    rw [List.range_succ, List.countP_append, List.countP_append, List.countP_cons, List.countP_cons, List.countP_nil, List.countP_nil]
    cases hF : F n <;> cases hG : G n <;> simp_all <;> omega
theorem cntF_more {F G : Nat → Bool} {n k : Nat} (h : ∀ i, i < n → F i = true → G i = true) (hk : k < n) (h1 : F k = false) (h2 : G k = true) : cntF F n + 1 ≤ cntF G n := by
  induction n with
  | zero => omega
  | succ n ih =>
    have hn := h n (by omega)
    have hle := cntF_mono (n := n) (fun i hi => h i (by omega))
    have hkn : k = n ∨ k < n := by omega
    unfold cntF at *
    rw [List.range_succ, List.countP_append, List.countP_append, List.countP_cons, List.countP_cons, List.countP_nil, List.countP_nil]
    rcases hkn with rfl | hkn
    · simp [h1, h2]; omega
    · have := ih (fun i hi => h i (by omega)) hkn
      cases hF : F n <;> cases hG : G n <;> simp_all <;> omega
/-- After r rounds: all that is reached is flagged, or more than r are flagged. -/
def Far (v : Int) (L : List Tr) (r : Nat) (F : Nat → Bool) : Prop := (∀ i, i < L.length → Reach v L i → F i = true) ∨ r + 1 ≤ cntF F L.length
theorem Far.start {v : Int} {L : List Tr} {F : Nat → Bool} (hn : 0 < L.length) (h0 : F 0 = true) : Far v L 0 F := by
  refine .inr ?_
  have := cntF_more (F := fun _ => false) (G := F) (n := L.length) (k := 0) (fun i _ h => by cases h) hn rfl h0
  omega
theorem Far.round {v : Int} {L : List Tr} {r : Nat} {F G : Nat → Bool} (h : Far v L r F) (h0 : F 0 = true) (hm : ∀ i, i < L.length → F i = true → G i = true) (hs : ∀ a b, a < L.length → b < L.length → F a = true → adjV v (L.getD a z3) (L.getD b z3) → G b = true) : Far v L (r + 1) G := by
  rcases h with h | h
  · exact .inl fun i hi hr => hm i hi (h i hi hr)
  · by_cases hc : ∀ a b, a < L.length → b < L.length → F a = true → adjV v (L.getD a z3) (L.getD b z3) → F b = true
    · refine .inl fun i hi hr => hm i hi ?_
      have := hr (fun j => j < L.length → F j = true) (fun _ => h0) (fun a b ha hb hP hadj _ => hc a b ha hb (hP ha) hadj)
      exact this hi
    · refine .inr ?_
      obtain ⟨a, b, ha, hb, hFa, hadj, hFb⟩ : ∃ a b, a < L.length ∧ b < L.length ∧ F a = true ∧ adjV v (L.getD a z3) (L.getD b z3) ∧ F b = false := by
        refine Classical.byContradiction fun hn => hc fun a b ha hb hFa hadj => ?_
        cases hFb : F b with
        | true => rfl
        | false => exact absurd ⟨a, b, ha, hb, hFa, hadj, hFb⟩ hn
      have := cntF_more hm hb hFb (hs a b ha hb hFa hadj)
      omega
theorem Far.done {v : Int} {L : List Tr} {F : Nat → Bool} (h : Far v L L.length F) (hs : ∀ i, i < L.length → F i = true → Reach v L i) (i : Nat) (hi : i < L.length) : F i = true ↔ Reach v L i := by
  refine ⟨hs i hi, fun hr => ?_⟩
  rcases h with h | h
  · exact h i hi hr
  · have := cntF_le F L.length
    omega
end Go.Proofs.Ytmflacmgffpjoaa

/- Layer 9: triangles turned, mirrored; a vertex more; a triangle once more; two surfaces side by side. -/
namespace Go.Proofs.Ytmflacmgffpjoaa

theorem isAll_turned {N : Int} {l l' : List Tr} (hl : l'.length = l.length) (h : ∀ i, i < l.length → ∃ k, l'.getD i z3 = rotT (l.getD i z3) k) {ws : List Wt} (ha : IsAll N l ws) : IsAll N l' ws := by
  have hE : ∀ i, i < l.length → ∀ a b, hasE (l'.getD i z3) a b ↔ hasE (l.getD i z3) a b := fun i hi a b => by
    obtain ⟨k, e⟩ := h i hi
    rw [e, hasE_rot]
  have hV : ∀ i, i < l.length → ∀ v, hasV (l'.getD i z3) v ↔ hasV (l.getD i z3) v := fun i hi v => by
    obtain ⟨k, e⟩ := h i hi
    rw [e, hasV_rot]
  refine isAll_same hl (fun i hi => ?_) (fun i hi => ?_) (fun i j hi hj => ?_) hV ha
  · rw [badT_iff, badT_iff]
    exact exists_congr fun v => and_congr (hV i hi v) Iff.rfl
  · rw [loopT_iff, loopT_iff]
    exact exists_congr fun v => hE i hi v v
  · rw [twice_iff, twice_iff]
    exact exists_congr fun a => exists_congr fun b => and_congr (hE i hi a b) (hE j hj a b)
theorem isAll_mir {N : Int} {l : List Tr} {ws : List Wt} (ha : IsAll N l ws) : IsAll N (l.map mirT) ws := by
  have e : ∀ i, i < l.length → (l.map mirT).getD i z3 = mirT (l.getD i z3) := fun i hi => by
    rw [List.getD_eq_getElem?_getD, List.getElem?_map, List.getD_eq_getElem?_getD, List.getElem?_eq_getElem hi]; rfl
  refine isAll_same (List.length_map _) (fun i hi => ?_) (fun i hi => ?_) (fun i j hi hj => ?_) (fun i hi v => ?_) ha
  · rw [e i hi, badT_iff, badT_iff]
    exact exists_congr fun v => and_congr hasV_mir Iff.rfl
  · rw [e i hi, loopT_iff, loopT_iff]
    exact exists_congr fun v => hasE_mir
  · rw [e i hi, e j hj, twice_iff, twice_iff]
    constructor
    · rintro ⟨a, b, h1, h2⟩; exact ⟨b, a, hasE_mir.1 h1, hasE_mir.1 h2⟩
    · rintro ⟨a, b, h1, h2⟩; exact ⟨b, a, hasE_mir.2 h1, hasE_mir.2 h2⟩
  · rw [e i hi, hasV_mir]

theorem stage_first {p : Int → Bool} {N : Int} {l : List Tr} (h0 : 0 ≤ N) (h1 : N ≤ 4096) (h2 : l.length ≤ 8192) : wits p N l = firstL (stagesW p N l) := by
  unfold wits
  rw [if_neg (by omega)]
theorem idx1_nil {N : Int} {l : List Tr} (h : ∀ t ∈ l, inN N t.1 ∧ inN N t.2.1 ∧ inN N t.2.2) : idxW 1 (fun t => decide (badT N t)) l = [] := idxW_nil.2 fun t ht => decide_eq_false (fun hb => hb (h t ht))
theorem idx2_nil {l : List Tr} (h : ∀ t ∈ l, ¬ loopT t) : idxW 2 (fun t => decide (loopT t)) l = [] := idxW_nil.2 fun t ht => decide_eq_false (h t ht)
theorem pair3_nil {l : List Tr} (h : l.Pairwise fun t u => ¬ twice t u) : pairW 3 (fun t u => decide (twice t u)) l = [] := pairW_nil.2 (h.imp fun hb => decide_eq_false hb)
theorem pair4_nil {l : List Tr} (h : l.Pairwise fun t u => ¬ mirrd t u) : pairW 4 (fun t u => decide (mirrd t u)) l = [] := pairW_nil.2 (h.imp fun hb => decide_eq_false hb)
theorem inN_more {N M x : Int} (h : inN N x) (hm : N ≤ M) : inN M x := ⟨h.1, Int.lt_of_lt_of_le h.2 hm⟩
theorem has_in {N : Int} {l : List Tr} (h : ∀ t ∈ l, inN N t.1 ∧ inN N t.2.1 ∧ inN N t.2.2) {t : Tr} (ht : t ∈ l) {v : Int} (hv : hasV t v) : inN N v := by
  obtain ⟨h1, h2, h3⟩ := h t ht
  rcases hv with rfl | rfl | rfl
  · exact h1
  · exact h2
  · exact h3
theorem vertW_succ (k : Int) (q : Int → Bool) (N : Nat) : vertW k q ((N + 1 : Nat) : Int) = vertW k q (N : Int) ++ (if q (N : Int) = true then [(k, (N : Int), 0)] else []) := by
  unfold vertW
  rw [show ((N + 1 : Nat) : Int).toNat = N + 1 by omega, show ((N : Nat) : Int).toNat = N by omega, List.range_succ, List.filter_append, List.map_append]
  congr 1
  by_cases h : q (N : Int) = true
  · simp [h]
  · simp [h]
/-- A surface with a vertex more. -/
theorem surf_more {N : Int} {l : List Tr} (h : Surf N l) (hN : N + 1 ≤ 4096) {ws : List Wt} (ha : IsAll (N + 1) l ws) : ws = [(5, N, 0)] := by
  obtain ⟨p, hp, rfl⟩ := ha
  have n0 := h.n0
  rw [stage_first (by omega) hN h.t1]
  unfold stagesW
  rw [idx1_nil (fun t ht => ⟨inN_more (h.inb t ht).1 (by omega), inN_more (h.inb t ht).2.1 (by omega), inN_more (h.inb t ht).2.2 (by omega)⟩), idx2_nil h.noloop, pair3_nil h.notwice, pair4_nil h.nomirr]
  obtain ⟨n, rfl⟩ : ∃ n : Nat, N = (n : Int) := ⟨N.toNat, by omega⟩
  have e : vertW 5 (lonely l) ((n : Int) + 1) = [(5, (n : Int), 0)] := by
    rw [show (n : Int) + 1 = ((n + 1 : Nat) : Int) by omega, vertW_succ, vertW_nil.2 (fun v hv => lonely_false.2 (h.used v hv))]
    have : lonely l (n : Int) = true := by
      cases hq : lonely l (n : Int) with
      | true => rfl
      | false =>
        obtain ⟨t, ht, hv⟩ := lonely_false.1 hq
        have := has_in h.inb ht hv
        have := this.2
        omega
    simp [this]
  rw [e]
  rfl

theorem pairW_snoc (k : Int) (q : Tr → Tr → Bool) (l : List Tr) (x : Tr) : pairW k q (l ++ [x]) = pairW k q l ++ ((List.range l.length).filter fun a => q (l.getD a z3) x).map fun a => (k, ((a : Nat) : Int), ((l.length : Nat) : Int)) := by
  unfold pairW
  rw [List.length_append, List.length_singleton, List.range_succ, List.flatMap_append, List.flatMap_singleton]
  have g1 : ∀ a, a < l.length → (l ++ [x]).getD a z3 = l.getD a z3 := fun a ha => by
    rw [List.getD_eq_getElem?_getD, List.getD_eq_getElem?_getD, List.getElem?_append_left ha]
  have g2 : (l ++ [x]).getD l.length z3 = x := by
    rw [List.getD_eq_getElem?_getD, List.getElem?_append_right (Nat.le_refl _), Nat.sub_self]; rfl
  congr 1
  · rw [List.flatMap_def, List.flatMap_def]
    congr 1
    refine List.map_congr_left fun b hb => ?_
    have hb' := List.mem_range.1 hb
    congr 1
    refine List.filter_congr fun a ha => ?_
    rw [g1 a (by have := List.mem_range.1 ha; omega), g1 b hb']
  · congr 1
    refine List.filter_congr fun a ha => ?_
    rw [g1 a (List.mem_range.1 ha), g2]
theorem filter_one {n k : Nat} (hk : k < n) {q : Nat → Bool} (h : ∀ a, a < n → (q a = true ↔ a = k)) : (List.range n).filter q = [k] := by
  have e : (List.range n).filter q = (List.range n).filter (fun a => a == k) := List.filter_congr fun a ha => by
    have := h a (List.mem_range.1 ha)
    cases hq : q a <;> simp_all
  rw [e]
  clear e h
  induction n with
  | zero => omega
  | succ n ih =>
    rw [List.range_succ, List.filter_append]
    by_cases hkn : k = n
    · subst hkn
      have : (List.range k).filter (fun a => a == k) = [] := List.filter_eq_nil_iff.2 fun a ha => by have := List.mem_range.1 ha; simp; omega
      rw [this]; simp
    · rw [ih (by omega)]
      simp
      omega
theorem pair_at {R : Tr → Tr → Prop} {l : List Tr} (h : l.Pairwise R) {i j : Nat} (hi : i < l.length) (hj : j < l.length) (hij : i < j) : R (l.getD i z3) (l.getD j z3) := by
  rw [List.getD_eq_getElem?_getD, List.getD_eq_getElem?_getD, List.getElem?_eq_getElem hi, List.getElem?_eq_getElem hj]
  exact List.pairwise_iff_getElem.1 h i j hi hj hij
theorem notwice_ne {l : List Tr} (h : l.Pairwise fun t u => ¬ twice t u) {i j : Nat} (hi : i < l.length) (hj : j < l.length) (hne : i ≠ j) : ¬ twice (l.getD i z3) (l.getD j z3) := by
  rcases Nat.lt_or_gt_of_ne hne with h1 | h1
  · exact pair_at h hi hj h1
  · exact fun ht => pair_at h hj hi h1 (twice_symm ht)
theorem inb_snoc {N : Int} {l : List Tr} {x : Tr} (h : ∀ t ∈ l, inN N t.1 ∧ inN N t.2.1 ∧ inN N t.2.2) (hx : inN N x.1 ∧ inN N x.2.1 ∧ inN N x.2.2) : ∀ t ∈ l ++ [x], inN N t.1 ∧ inN N t.2.1 ∧ inN N t.2.2 := by
  intro t ht
  rcases List.mem_append.1 ht with h1 | h1
  · exact h t h1
  · rw [List.mem_singleton.1 h1]; exact hx
theorem noloop_snoc {l : List Tr} {x : Tr} (h : ∀ t ∈ l, ¬ loopT t) (hx : ¬ loopT x) : ∀ t ∈ l ++ [x], ¬ loopT t := by
  intro t ht
  rcases List.mem_append.1 ht with h1 | h1
  · exact h t h1
  · rw [List.mem_singleton.1 h1]; exact hx
/-- A surface with a triangle of it once more. -/
theorem surf_twin {N : Int} {l : List Tr} (h : Surf N l) (hl : l.length + 1 ≤ 8192) {k : Nat} (hk : k < l.length) {ws : List Wt} (ha : IsAll N (l ++ [l.getD k z3]) ws) : ws = [(3, (k : Int), (l.length : Int))] := by
  obtain ⟨p, hp, rfl⟩ := ha
  rw [stage_first h.n0 h.n1 (by rw [List.length_append, List.length_singleton]; exact hl)]
  unfold stagesW
  have hm := getD3_mem hk
  rw [idx1_nil (inb_snoc h.inb (h.inb _ hm)), idx2_nil (noloop_snoc h.noloop (h.noloop _ hm)), pairW_snoc, pair3_nil h.notwice, List.nil_append, filter_one hk]
  · rfl
  · intro a ha
    rw [decide_eq_true_iff]
    constructor
    · intro ht
      exact Classical.byContradiction fun hne => notwice_ne h.notwice ha hk hne ht
    · rintro rfl; exact twice_self _
/-- .. or with its mirror: it is told, as Twice or as Mirrored. -/
theorem surf_twin_mir {N : Int} {l : List Tr} (h : Surf N l) (hl : l.length + 1 ≤ 8192) {k : Nat} (hk : k < l.length) {ws : List Wt} (ha : IsAll N (l ++ [mirT (l.getD k z3)]) ws) : ∃ x r, ws = x :: r ∧ (x.1 = 3 ∨ x.1 = 4) := by
  obtain ⟨p, hp, rfl⟩ := ha
  rw [stage_first h.n0 h.n1 (by rw [List.length_append, List.length_singleton]; exact hl)]
  unfold stagesW
  have hm := getD3_mem hk
  have hb := h.inb _ hm
  have hlp := h.noloop _ hm
  have hlm : ¬ loopT (mirT (l.getD k z3)) := fun hx => by
    obtain ⟨v, hv⟩ := loopT_iff.1 hx
    exact hlp (loopT_iff.2 ⟨v, hasE_mir.1 hv⟩)
  rw [idx1_nil (inb_snoc (x := mirT (l.getD k z3)) h.inb ⟨hb.1, hb.2.2, hb.2.1⟩), idx2_nil (noloop_snoc (x := mirT (l.getD k z3)) h.noloop hlm), pairW_snoc, pair3_nil h.notwice, List.nil_append, pairW_snoc, pair4_nil h.nomirr, List.nil_append]
  have h4 : ((List.range l.length).filter fun a => decide (mirrd (l.getD a z3) (mirT (l.getD k z3)))) ≠ [] := by
    intro e
    have := List.filter_eq_nil_iff.1 e k (List.mem_range.2 hk)
    exact this (decide_eq_true (mirrd_iff.2 fun v hv => hasV_mir.2 hv))
  cases h3 : ((List.range l.length).filter fun a => decide (twice (l.getD a z3) (mirT (l.getD k z3)))) with
  | cons x r => exact ⟨_, _, rfl, .inl rfl⟩
  | nil =>
    cases h5 : ((List.range l.length).filter fun a => decide (mirrd (l.getD a z3) (mirT (l.getD k z3)))) with
    | nil => exact absurd h5 h4
    | cons x r => exact ⟨_, _, rfl, .inr rfl⟩

def shT9 (o : Int) (t : Tr) : Tr := (t.1 + o, t.2.1 + o, t.2.2 + o)
theorem hasV_sh {o : Int} {t : Tr} {v : Int} : hasV (shT9 o t) v ↔ hasV t (v - o) := by
  unfold hasV shT9
  constructor <;> rintro (h | h | h) <;> simp only at h ⊢ <;> omega
theorem hasE_sh {o : Int} {t : Tr} {a b : Int} : hasE (shT9 o t) a b ↔ hasE t (a - o) (b - o) := by
  unfold hasE shT9
  constructor <;> rintro (⟨h, h'⟩ | ⟨h, h'⟩ | ⟨h, h'⟩) <;> simp only at h h' ⊢ <;> omega
theorem hasE_hasV {t : Tr} {a b : Int} (h : hasE t a b) : hasV t a ∧ hasV t b := by
  rcases h with ⟨h1, h2⟩ | ⟨h1, h2⟩ | ⟨h1, h2⟩
  · exact ⟨.inl h1, .inr (.inl h2)⟩
  · exact ⟨.inr (.inl h1), .inr (.inr h2)⟩
  · exact ⟨.inr (.inr h1), .inl h2⟩
/-- Two surfaces side by side. -/
theorem surf_join {N M : Int} {a b : List Tr} (ha : Surf N a) (hb : Surf M b) (hn : N + M ≤ 4096) (hl : a.length + b.length ≤ 8192) : Surf (N + M) (a ++ b.map (shT9 N)) := by
  have n0 := ha.n0
  have m0 := hb.n0
  have hva : ∀ t ∈ a, ∀ v, hasV t v → inN N v := fun t ht v hv => has_in ha.inb ht hv
  have hvb : ∀ t ∈ b, ∀ v, hasV (shT9 N t) v → N ≤ v ∧ v < N + M := fun t ht v hv => by
    have := has_in hb.inb ht (hasV_sh.1 hv)
    have h1 := this.1
    have h2 := this.2
    omega
  have inV : ∀ {K : Int} {t : Tr}, (∀ v, hasV t v → inN K v) → inN K t.1 ∧ inN K t.2.1 ∧ inN K t.2.2 := fun h => ⟨h _ (.inl rfl), h _ (.inr (.inl rfl)), h _ (.inr (.inr rfl))⟩
  refine ⟨by omega, hn, by rw [List.length_append, List.length_map]; exact hl, fun t ht => ?_, fun t ht => ?_, ?_, ?_, fun v hv => ?_, fun v hv => ?_⟩
  · rcases List.mem_append.1 ht with h | h
    · exact inV fun v hv => inN_more (hva t h v hv) (by omega)
    · obtain ⟨u, hu, rfl⟩ := List.mem_map.1 h
      exact inV fun v hv => by have := hvb u hu v hv; exact ⟨by omega, this.2⟩
  · rcases List.mem_append.1 ht with h | h
    · exact ha.noloop t h
    · obtain ⟨u, hu, rfl⟩ := List.mem_map.1 h
      intro hx
      obtain ⟨v, hv⟩ := loopT_iff.1 hx
      exact hb.noloop u hu (loopT_iff.2 ⟨_, hasE_sh.1 hv⟩)
  · rw [List.pairwise_append]
    refine ⟨ha.notwice, ?_, fun t ht u hu hx => ?_⟩
    · rw [List.pairwise_map]
      refine hb.notwice.imp fun {t u} hx hx' => hx ?_
      obtain ⟨x, y, h1, h2⟩ := twice_iff.1 hx'
      exact twice_iff.2 ⟨_, _, hasE_sh.1 h1, hasE_sh.1 h2⟩
    · obtain ⟨u', hu', rfl⟩ := List.mem_map.1 hu
      obtain ⟨x, y, h1, h2⟩ := twice_iff.1 hx
      have := (hva t ht x (hasE_hasV h1).1).2
      have := (hvb u' hu' x (hasE_hasV h2).1).1
      omega
  · rw [List.pairwise_append]
    refine ⟨ha.nomirr, ?_, fun t ht u hu hx => ?_⟩
    · rw [List.pairwise_map]
      refine hb.nomirr.imp fun {t u} hx hx' => hx (mirrd_iff.2 fun v hv => ?_)
      have := hasV_sh.1 (mirrd_iff.1 hx' (v + N) (hasV_sh.2 (by rw [Int.add_sub_cancel]; exact hv)))
      rwa [Int.add_sub_cancel] at this
    · obtain ⟨u', hu', rfl⟩ := List.mem_map.1 hu
      have h1 := (hva t ht t.1 (.inl rfl)).2
      have := (hvb u' hu' t.1 hx.1).1
      omega
  · by_cases hvN : v < N
    · obtain ⟨t, ht, h⟩ := ha.used v ⟨hv.1, hvN⟩
      exact ⟨t, List.mem_append_left _ ht, h⟩
    · obtain ⟨t, ht, h⟩ := hb.used (v - N) ⟨by omega, by have := hv.2; omega⟩
      exact ⟨_, List.mem_append_right _ (List.mem_map.2 ⟨t, ht, rfl⟩), hasV_sh.2 h⟩
  · by_cases hvN : v < N
    · intro P hex hcl u hu huv
      have ina : ∀ t ∈ a ++ b.map (shT9 N), hasV t v → t ∈ a := fun t ht htv => by
        rcases List.mem_append.1 ht with h | h
        · exact h
        · obtain ⟨t', ht', rfl⟩ := List.mem_map.1 h
          have := (hvb t' ht' v htv).1
          omega
      obtain ⟨t, ht, htv, hP⟩ := hex
      exact ha.conn v ⟨hv.1, hvN⟩ P ⟨t, ina t ht htv, htv, hP⟩ (fun t ht u hu => hcl t (List.mem_append_left _ ht) u (List.mem_append_left _ hu)) u (ina u hu huv) huv
    · intro P hex hcl u hu huv
      have inb : ∀ t ∈ a ++ b.map (shT9 N), hasV t v → ∃ t' ∈ b, shT9 N t' = t := fun t ht htv => by
        rcases List.mem_append.1 ht with h | h
        · have := (hva t h v htv).2
          omega
        · obtain ⟨t', ht', e⟩ := List.mem_map.1 h
          exact ⟨t', ht', e⟩
      obtain ⟨t, ht, htv, hP⟩ := hex
      obtain ⟨t', ht', rfl⟩ := inb t ht htv
      obtain ⟨u', hu', rfl⟩ := inb u hu huv
      refine hb.conn (v - N) ⟨by omega, by have := hv.2; omega⟩ (fun x => P (shT9 N x)) ⟨t', ht', hasV_sh.1 htv, hP⟩ (fun x hx y hy hxv hyv hPx hadj => ?_) u' hu' (hasV_sh.1 huv)
      obtain ⟨w, hw, h1, h2⟩ := hadj
      exact hcl _ (List.mem_append_right _ (List.mem_map.2 ⟨x, hx, rfl⟩)) _ (List.mem_append_right _ (List.mem_map.2 ⟨y, hy, rfl⟩)) (hasV_sh.2 hxv) (hasV_sh.2 hyv) hPx ⟨w + N, by omega, hasV_sh.2 (by rw [Int.add_sub_cancel]; exact h1), hasV_sh.2 (by rw [Int.add_sub_cancel]; exact h2)⟩
end Go.Proofs.Ytmflacmgffpjoaa

/- Layer 9: by other numbers, in another order, as many witnesses are told, of the same kind. -/
namespace Go.Proofs.Ytmflacmgffpjoaa

/-- Of triangles with three vertices: the same three, either way. -/
theorem mirrd_back {t u : Tr} (ht : ¬ loopT t) (hu : ¬ loopT u) (h : mirrd u t) : mirrd t u := by
  obtain ⟨t0, t1, t2⟩ := t
  obtain ⟨u0, u1, u2⟩ := u
  simp only [mirrd, hasV, loopT] at *
  omega
def cntP (q : Tr → Tr → Bool) : List Tr → Nat
  | [] => 0
  | x :: l => l.countP (q x) + cntP q l
theorem cntP_snoc (q : Tr → Tr → Bool) (l : List Tr) (x : Tr) : cntP q (l ++ [x]) = cntP q l + l.countP (fun a => q a x) := by
  induction l with
  | nil => simp [cntP]
  | cons y l ih =>
    simp only [List.cons_append, cntP, ih, List.countP_append, List.countP_cons, List.countP_nil]
    omega
theorem range_getD (l : List Tr) : (List.range l.length).map (fun i => l.getD i z3) = l := by
  refine ext_getD (z := z3) (by simp) fun i hi => ?_
  rw [List.length_map, List.length_range] at hi
  rw [List.getD_eq_getElem?_getD, List.getElem?_map, List.getElem?_range hi]
  rfl
theorem filter_len (l : List Tr) (q : Tr → Bool) : ((List.range l.length).filter fun i => q (l.getD i z3)).length = l.countP q := by
  conv => rhs; rw [← range_getD l]
  rw [List.countP_map, List.countP_eq_length_filter]
  rfl
theorem idxW_len (k : Int) (q : Tr → Bool) (l : List Tr) : (idxW k q l).length = l.countP q := by
  unfold idxW
  rw [List.length_map, filter_len]
theorem pairW_len (k : Int) (q : Tr → Tr → Bool) : ∀ (n : Nat) (l : List Tr), l.length = n → (pairW k q l).length = cntP q l
  | 0, l, h => by
    obtain rfl := List.eq_nil_of_length_eq_zero h
    rfl
  | n + 1, l, h => by
    rcases List.eq_nil_or_concat l with rfl | ⟨r, x, rfl⟩
    · cases h
    · simp only [List.concat_eq_append] at h ⊢
      rw [pairW_snoc, List.length_append, List.length_map, filter_len r (fun a => q a x), cntP_snoc, pairW_len k q n r (by simpa using h)]
theorem vertW_len (k : Int) (q : Int → Bool) (N : Int) : (vertW k q N).length = ((List.range N.toNat).map fun (v : Nat) => (v : Int)).countP q := by
  unfold vertW
  rw [List.length_map, List.countP_map, List.countP_eq_length_filter]
  rfl
theorem cntP_perm {q : Tr → Tr → Bool} (hs : ∀ a b, q a b = q b a) {l l' : List Tr} (h : l.Perm l') : cntP q l = cntP q l' := by
  induction h with
  | nil => rfl
  | cons x h ih => rw [cntP, cntP, ih, h.countP_eq]
  | swap x y l => simp only [cntP, List.countP_cons, hs x y]; omega
  | trans _ _ ih1 ih2 => exact ih1.trans ih2
theorem cntP_map {q : Tr → Tr → Bool} {f : Tr → Tr} (hf : ∀ a b, q (f a) (f b) = q a b) (l : List Tr) : cntP q (l.map f) = cntP q l := by
  induction l with
  | nil => rfl
  | cons x l ih =>
    rw [List.map_cons, cntP, cntP, ih, List.countP_map]
    congr 1
    exact List.countP_congr fun a _ => by simp [Function.comp, hf]

def mapT (f : Int → Int) (t : Tr) : Tr := (f t.1, f t.2.1, f t.2.2)
theorem mapT_inv {f g : Int → Int} (gf : ∀ x, g (f x) = x) (t : Tr) : mapT g (mapT f t) = t := by simp [mapT, gf]
theorem hasV_map {f g : Int → Int} (gf : ∀ x, g (f x) = x) {t : Tr} {v : Int} : hasV (mapT f t) (f v) ↔ hasV t v := by
  have inj : ∀ x, f x = f v ↔ x = v := fun x => ⟨fun h => by rw [← gf x, h, gf], fun h => by rw [h]⟩
  simp only [hasV, mapT, inj]
theorem hasE_map {f g : Int → Int} (gf : ∀ x, g (f x) = x) {t : Tr} {a b : Int} : hasE (mapT f t) (f a) (f b) ↔ hasE t a b := by
  have inj : ∀ x y, f x = f y ↔ x = y := fun x y => ⟨fun h => by rw [← gf x, h, gf], fun h => by rw [h]⟩
  simp only [hasE, mapT, inj]
theorem conn_map {f g : Int → Int} (gf : ∀ x, g (f x) = x) {l l' : List Tr} (hm : ∀ t', t' ∈ l' ↔ ∃ t ∈ l, mapT f t = t') {v : Int} (h : Conn l v) : Conn l' (f v) := by
  intro P hex hcl u hu huv
  obtain ⟨u0, hu0, rfl⟩ := (hm u).1 hu
  obtain ⟨t, ht, htv, hP⟩ := hex
  obtain ⟨t0, ht0, rfl⟩ := (hm t).1 ht
  refine h (fun x => P (mapT f x)) ⟨t0, ht0, (hasV_map gf).1 htv, hP⟩ (fun a ha b hb hav hbv hPa hadj => ?_) u0 hu0 ((hasV_map gf).1 huv)
  obtain ⟨w, hw, h1, h2⟩ := hadj
  exact hcl _ ((hm _).2 ⟨a, ha, rfl⟩) _ ((hm _).2 ⟨b, hb, rfl⟩) ((hasV_map gf).2 hav) ((hasV_map gf).2 hbv) hPa ⟨f w, fun e => hw (by rw [← gf w, e, gf]), (hasV_map gf).2 h1, (hasV_map gf).2 h2⟩

/-- The kind that is told: 0, if there is none. -/
def kindW (ws : List Wt) : Int := match ws with | [] => 0 | x :: _ => x.1
theorem first_alike : ∀ (A B : List (List Wt)), A.length = B.length → (∀ i, i < A.length → (A.getD i []).length = (B.getD i []).length) → (∀ i, i < A.length → kindW (A.getD i []) = kindW (B.getD i [])) → (firstL A).length = (firstL B).length ∧ kindW (firstL A) = kindW (firstL B)
  | [], [], _, _, _ => ⟨rfl, rfl⟩
  | a :: A, b :: B, hl, h1, h2 => by
    have e1 := h1 0 (by simp)
    have e2 := h2 0 (by simp)
    simp only [List.getD_cons_zero] at e1 e2
    have ih := first_alike A B (by simpa using hl) (fun i hi => by have := h1 (i + 1) (by simpa using hi); simpa using this) (fun i hi => by have := h2 (i + 1) (by simpa using hi); simpa using this)
    cases a with
    | nil =>
      obtain rfl := List.eq_nil_of_length_eq_zero e1.symm
      exact ih
    | cons x a =>
      cases b with
      | nil => cases e1
      | cons y b => exact ⟨e1, e2⟩
theorem kind_of {k : Int} : ∀ {ws : List Wt}, (∀ x ∈ ws, x.1 = k) → kindW ws = if ws = [] then 0 else k
  | [], _ => rfl
  | x :: ws, h => by rw [if_neg (by simp)]; exact h x (by simp)
theorem idxW_kind {k : Int} {q : Tr → Bool} {l : List Tr} : ∀ x ∈ idxW k q l, x.1 = k := by
  intro x hx
  obtain ⟨i, _, rfl⟩ := List.mem_map.1 hx
  rfl
theorem pairW_kind {k : Int} {q : Tr → Tr → Bool} {l : List Tr} : ∀ x ∈ pairW k q l, x.1 = k := by
  intro x hx
  obtain ⟨b, _, hx⟩ := List.mem_flatMap.1 hx
  obtain ⟨i, _, rfl⟩ := List.mem_map.1 hx
  rfl
theorem vertW_kind {k : Int} {q : Int → Bool} {N : Int} : ∀ x ∈ vertW k q N, x.1 = k := by
  intro x hx
  obtain ⟨i, _, rfl⟩ := List.mem_map.1 hx
  rfl
theorem kind_len {k : Int} {a b : List Wt} (ha : ∀ x ∈ a, x.1 = k) (hb : ∀ x ∈ b, x.1 = k) (h : a.length = b.length) : kindW a = kindW b := by
  rw [kind_of ha, kind_of hb]
  cases a with
  | nil => obtain rfl := List.eq_nil_of_length_eq_zero h.symm; rfl
  | cons x a => cases b with
    | nil => cases h
    | cons y b => simp
theorem count_shift {f g : Int → Int} (gf : ∀ x, g (f x) = x) (fg : ∀ x, f (g x) = x) {N : Int} (hin : ∀ x, inN N (f x) ↔ inN N x) {q q' : Int → Bool} (hq : ∀ v, q' (f v) = q v) : ((List.range N.toNat).map fun (v : Nat) => (v : Int)).countP q' = ((List.range N.toNat).map fun (v : Nat) => (v : Int)).countP q := by
  have hmem : ∀ x : Int, x ∈ ((List.range N.toNat).map fun (v : Nat) => (v : Int)) ↔ inN N x := fun x => by
    rw [List.mem_map]
    constructor
    · rintro ⟨a, ha, rfl⟩; have := List.mem_range.1 ha; exact ⟨by omega, by omega⟩
    · rintro ⟨h0, h1⟩; exact ⟨x.toNat, List.mem_range.2 (by omega), by omega⟩
  have hnd : ((List.range N.toNat).map fun (v : Nat) => (v : Int)).Nodup := by
    rw [List.nodup_iff_pairwise_ne, List.pairwise_map]
    exact List.pairwise_lt_range.imp (fun h => by omega)
  have hnd2 : (((List.range N.toNat).map fun (v : Nat) => (v : Int)).map f).Nodup := by
    rw [List.nodup_iff_pairwise_ne] at *
    rw [List.pairwise_map]
    exact hnd.imp (fun {a b} h e => h (by rw [← gf a, e, gf]))
  have hp : (((List.range N.toNat).map fun (v : Nat) => (v : Int)).map f).Perm ((List.range N.toNat).map fun (v : Nat) => (v : Int)) := by
    rw [List.perm_ext_iff_of_nodup hnd2 hnd]
    intro x
    rw [hmem, List.mem_map]
    constructor
    · rintro ⟨y, hy, rfl⟩; exact (hin y).2 ((hmem y).1 hy)
    · intro hx; exact ⟨g x, (hmem _).2 ((hin _).1 (by rw [fg]; exact hx)), fg x⟩
  rw [← hp.countP_eq, List.countP_map]
  exact List.countP_congr fun v _ => by simp [Function.comp, hq]
/-- By other numbers, in another order. -/
theorem isAll_numbered {f g : Int → Int} (gf : ∀ x, g (f x) = x) (fg : ∀ x, f (g x) = x) {N : Int} (hin : ∀ x, inN N (f x) ↔ inN N x) {l l' : List Tr} (hp : l'.Perm (l.map (mapT f))) {ws ws' : List Wt} (h : IsAll N l ws) (h' : IsAll N l' ws') : ws'.length = ws.length ∧ kindW ws' = kindW ws := by
  obtain ⟨p, hpp, rfl⟩ := h
  obtain ⟨p', hpp', rfl⟩ := h'
  have hmem : ∀ t', t' ∈ l' ↔ ∃ t ∈ l, mapT f t = t' := fun t' => by rw [hp.mem_iff, List.mem_map]
  have hmem2 : ∀ t, t ∈ l ↔ ∃ t' ∈ l', mapT g t' = t := fun t => by
    constructor
    · intro ht; exact ⟨mapT f t, (hmem _).2 ⟨t, ht, rfl⟩, mapT_inv gf t⟩
    · rintro ⟨t', ht', rfl⟩
      obtain ⟨t, ht, rfl⟩ := (hmem t').1 ht'
      rw [mapT_inv gf]; exact ht
  have hll : l'.length = l.length := by rw [hp.length_eq, List.length_map]
  have hc : ∀ v, Conn l' (f v) ↔ Conn l v := fun v => ⟨fun h => by have := conn_map fg hmem2 h; rwa [gf] at this, fun h => conn_map gf hmem h⟩
  have hpin : ∀ v, p' (f v) = p v := fun v => by
    have h1 := hpp v
    have h2 := hpp' (f v)
    rw [hc v] at h2
    exact Bool.eq_iff_iff.2 (h2.trans h1.symm)
  have hlon : ∀ v, lonely l' (f v) = lonely l v := fun v => by
    have key : lonely l' (f v) = false ↔ lonely l v = false := by
      rw [lonely_false, lonely_false]
      constructor
      · rintro ⟨t, ht, hv⟩
        obtain ⟨t0, ht0, rfl⟩ := (hmem t).1 ht
        exact ⟨t0, ht0, (hasV_map gf).1 hv⟩
      · rintro ⟨t, ht, hv⟩; exact ⟨_, (hmem _).2 ⟨t, ht, rfl⟩, (hasV_map gf).2 hv⟩
    rw [Bool.eq_iff_iff, ← Bool.not_eq_false, ← Bool.not_eq_false, key]
  have hbad : ∀ t, decide (badT N (mapT f t)) = decide (badT N t) := fun t => decide_eq_decide.2 (by simp only [badT, mapT, hin])
  have inj : ∀ x y, f x = f y ↔ x = y := fun x y => ⟨fun h => by rw [← gf x, h, gf], fun h => by rw [h]⟩
  have hloop : ∀ t, decide (loopT (mapT f t)) = decide (loopT t) := fun t => decide_eq_decide.2 (by simp only [loopT, mapT, inj])
  have htw : ∀ t u, decide (twice (mapT f t) (mapT f u)) = decide (twice t u) := fun t u => decide_eq_decide.2 (by simp only [twice, hasE, mapT, inj])
  have hmi : ∀ t u, decide (mirrd (mapT f t) (mapT f u)) = decide (mirrd t u) := fun t u => decide_eq_decide.2 (by simp only [mirrd, hasV, mapT, inj])
  unfold wits
  rw [hll]
  by_cases hr : N < 0 ∨ 4096 < N ∨ 8192 < l.length
  · rw [if_pos hr, if_pos hr]; exact ⟨rfl, rfl⟩
  rw [if_neg hr, if_neg hr]
  have c1 : ∀ (k : Int) (q : Tr → Bool), (∀ t, q (mapT f t) = q t) → (idxW k q l').length = (idxW k q l).length := fun k q hq => by
    rw [idxW_len, idxW_len, hp.countP_eq, List.countP_map]
    exact List.countP_congr fun a _ => by simp [Function.comp, hq]
  by_cases hlp : idxW 2 (fun t => decide (loopT t)) l = []
  all_goals
    have i1 := c1 1 (fun t => decide (badT N t)) hbad
    have i2 := c1 2 (fun t => decide (loopT t)) hloop
  · have s3 : ∀ t u : Tr, decide (twice t u) = decide (twice u t) := fun t u => decide_eq_decide.2 ⟨twice_symm, twice_symm⟩
    have i3 : (pairW 3 (fun t u => decide (twice t u)) l').length = (pairW 3 (fun t u => decide (twice t u)) l).length := by
      rw [pairW_len 3 _ _ l' rfl, pairW_len 3 _ _ l rfl, cntP_perm s3 hp, cntP_map htw]
    have nol := idxW_nil.1 hlp
    have nol' : ∀ t ∈ l', ¬ loopT t := fun t ht => by
      obtain ⟨t0, ht0, rfl⟩ := (hmem t).1 ht
      have := nol t0 ht0
      rw [← hloop] at this
      simpa using this
    have hq4 : ∀ (l : List Tr), (∀ t ∈ l, ¬ loopT t) → cntP (fun t u => decide (mirrd t u)) l = cntP (fun t u => decide (mirrd t u) || decide (mirrd u t)) l := by
      intro l
      induction l with
      | nil => intro _; rfl
      | cons x l ih =>
        intro h
        rw [cntP, cntP, ih (fun t ht => h t (by simp [ht]))]
        congr 1
        refine List.countP_congr fun u hu => ?_
        have h1 := h x (by simp)
        have h2 := h u (by simp [hu])
        have : mirrd u x → mirrd x u := fun hm => mirrd_back h1 h2 hm
        simp only [Bool.or_eq_true, decide_eq_true_eq]
        exact ⟨fun h => .inl h, fun h => h.elim id this⟩
    have i4 : (pairW 4 (fun t u => decide (mirrd t u)) l').length = (pairW 4 (fun t u => decide (mirrd t u)) l).length := by
      rw [pairW_len 4 _ _ l' rfl, pairW_len 4 _ _ l rfl, hq4 l' nol', hq4 l (fun t ht => by have := nol t ht; simpa using this), cntP_perm (fun a b => Bool.or_comm _ _) hp, cntP_map (fun a b => by rw [hmi, hmi])]
    have i5 : (vertW 5 (lonely l') N).length = (vertW 5 (lonely l) N).length := by rw [vertW_len, vertW_len]; exact count_shift gf fg hin hlon
    have i6 : (vertW 6 p' N).length = (vertW 6 p N).length := by rw [vertW_len, vertW_len]; exact count_shift gf fg hin hpin
    have j1 := kind_len idxW_kind idxW_kind i1
    have j2 := kind_len idxW_kind idxW_kind i2
    have j3 := kind_len pairW_kind pairW_kind i3
    have j4 := kind_len pairW_kind pairW_kind i4
    have j5 := kind_len vertW_kind vertW_kind i5
    have j6 := kind_len vertW_kind vertW_kind i6
    refine first_alike _ _ rfl (fun i hi => ?_) (fun i hi => ?_)
    · rcases i with _ | _ | _ | _ | _ | _ | i
      · exact i1
      · exact i2
      · exact i3
      · exact i4
      · exact i5
      · exact i6
      · simp [stagesW] at hi; omega
    · rcases i with _ | _ | _ | _ | _ | _ | i
      · exact j1
      · exact j2
      · exact j3
      · exact j4
      · exact j5
      · exact j6
      · simp [stagesW] at hi; omega
  · -- there are loops: what comes behind is not told
    unfold stagesW
    have k2 := kind_len (idxW_kind (k := 2) (q := fun t => decide (loopT t)) (l := l')) (idxW_kind (l := l)) i2
    cases h1 : idxW 1 (fun t => decide (badT N t)) l with
    | cons x a =>
      cases h1' : idxW 1 (fun t => decide (badT N t)) l' with
      | nil => rw [h1, h1'] at i1; cases i1
      | cons y b =>
        have := kind_len (idxW_kind (k := 1) (q := fun t => decide (badT N t)) (l := l')) (idxW_kind (l := l)) i1
        rw [h1, h1'] at this i1
        exact ⟨i1, this⟩
    | nil =>
      have h1' : idxW 1 (fun t => decide (badT N t)) l' = [] := List.eq_nil_of_length_eq_zero (by rw [i1, h1]; rfl)
      rw [h1']
      cases h2 : idxW 2 (fun t => decide (loopT t)) l with
      | nil => exact absurd h2 hlp
      | cons x a =>
        cases h2' : idxW 2 (fun t => decide (loopT t)) l' with
        | nil => rw [h2, h2'] at i2; cases i2
        | cons y b => rw [h2, h2'] at k2 i2; exact ⟨i2, k2⟩
end Go.Proofs.Ytmflacmgffpjoaa

/- Layer 9: a closed surface without one triangle; with one triangle turned round. -/
namespace Go.Proofs.Ytmflacmgffpjoaa

def Closed (l : List Tr) : Prop := ∀ t ∈ l, ∀ a b, hasE t a b → ∃ u ∈ l, hasE u b a
/-- The vertex behind v, and the one before it, in a triangle. -/
def outV (v : Int) (t : Tr) : Int := if t.1 = v then t.2.1 else if t.2.1 = v then t.2.2 else t.1
def innV (v : Int) (t : Tr) : Int := if t.1 = v then t.2.2 else if t.2.1 = v then t.1 else t.2.1
theorem out_edge {t : Tr} {v : Int} (hv : hasV t v) : hasE t v (outV v t) := by
  unfold outV
  rcases hv with h | h | h
  · rw [if_pos h]; exact .inl ⟨h, rfl⟩
  · by_cases h1 : t.1 = v
    · rw [if_pos h1]; exact .inl ⟨h1, rfl⟩
    · rw [if_neg h1, if_pos h]; exact .inr (.inl ⟨h, rfl⟩)
  · by_cases h1 : t.1 = v
    · rw [if_pos h1]; exact .inl ⟨h1, rfl⟩
    · by_cases h2 : t.2.1 = v
      · rw [if_neg h1, if_pos h2]; exact .inr (.inl ⟨h2, rfl⟩)
      · rw [if_neg h1, if_neg h2]; exact .inr (.inr ⟨h, rfl⟩)
theorem inn_edge {t : Tr} {v : Int} (hv : hasV t v) : hasE t (innV v t) v := by
  unfold innV
  rcases hv with h | h | h
  · rw [if_pos h]; exact .inr (.inr ⟨rfl, h⟩)
  · by_cases h1 : t.1 = v
    · rw [if_pos h1]; exact .inr (.inr ⟨rfl, h1⟩)
    · rw [if_neg h1, if_pos h]; exact .inl ⟨rfl, h⟩
  · by_cases h1 : t.1 = v
    · rw [if_pos h1]; exact .inr (.inr ⟨rfl, h1⟩)
    · by_cases h2 : t.2.1 = v
      · rw [if_neg h1, if_pos h2]; exact .inl ⟨rfl, h2⟩
      · rw [if_neg h1, if_neg h2]; exact .inr (.inl ⟨rfl, h⟩)
/-- What a triangle without a loop has at v. -/
theorem at_v {t : Tr} {v : Int} (hn : ¬ loopT t) (hv : hasV t v) : outV v t ≠ v ∧ innV v t ≠ v ∧ outV v t ≠ innV v t ∧ (∀ w, w ≠ v → hasV t w → w = outV v t ∨ w = innV v t) ∧ (∀ b, hasE t v b → b = outV v t) ∧ (∀ a, hasE t a v → a = innV v t) := by
  obtain ⟨x, y, z⟩ := t
  have key : (x = v ∧ outV v (x, y, z) = y ∧ innV v (x, y, z) = z) ∨ (x ≠ v ∧ y = v ∧ outV v (x, y, z) = z ∧ innV v (x, y, z) = x) ∨ (x ≠ v ∧ y ≠ v ∧ outV v (x, y, z) = x ∧ innV v (x, y, z) = y) := by
    unfold outV innV
    by_cases h1 : x = v
    · exact .inl ⟨h1, if_pos h1, if_pos h1⟩
    · by_cases h2 : y = v
      · exact .inr (.inl ⟨h1, h2, by rw [if_neg h1, if_pos h2], by rw [if_neg h1, if_pos h2]⟩)
      · exact .inr (.inr ⟨h1, h2, by rw [if_neg h1, if_neg h2], by rw [if_neg h1, if_neg h2]⟩)
  generalize outV v (x, y, z) = o at key ⊢
  generalize innV v (x, y, z) = i at key ⊢
  simp only [loopT, hasV, hasE] at *
  refine ⟨?_, ?_, ?_, ?_, ?_, ?_⟩ <;> omega
theorem edge_back {t : Tr} (hn : ¬ loopT t) {a b : Int} (h : hasE t a b) : ¬ hasE t b a := by
  obtain ⟨x, y, z⟩ := t
  simp only [loopT, hasE] at *
  omega
theorem nodup_sub {a b : List Int} (ha : a.Nodup) (h : ∀ e ∈ a, e ∈ b) : a.length ≤ b.length := by
  induction a generalizing b with
  | nil => exact Nat.zero_le _
  | cons x a ih =>
    rw [List.nodup_cons] at ha
    have hx := h x (by simp)
    have := ih (b := b.erase x) ha.2 (fun e he => (List.mem_erase_of_ne (by rintro rfl; exact ha.1 he)).2 (h e (by simp [he])))
    have h2 := List.length_erase_of_mem hx
    have h3 : 0 < b.length := List.length_pos_of_mem hx
    simp only [List.length_cons]
    omega
theorem nodup_all {a b : List Int} (ha : a.Nodup) (h : ∀ e ∈ a, e ∈ b) (hl : b.length ≤ a.length) : ∀ e ∈ b, e ∈ a := by
  intro e he
  refine Classical.byContradiction fun hn => ?_
  have := nodup_sub (a := e :: a) (b := b) (List.nodup_cons.2 ⟨hn, ha⟩) (fun x hx => by
    rcases List.mem_cons.1 hx with rfl | hx
    · exact he
    · exact h x hx)
  simp only [List.length_cons] at this
  omega
theorem pair_mem {A B : List Tr} {x : Tr} {R : Tr → Tr → Prop} (h : (A ++ x :: B).Pairwise R) : (A ++ B).Pairwise R ∧ (∀ t ∈ A, R t x) ∧ (∀ t ∈ B, R x t) := by
  rw [List.pairwise_append, List.pairwise_cons] at h
  obtain ⟨h1, ⟨h2, h3⟩, h4⟩ := h
  exact ⟨List.pairwise_append.2 ⟨h1, h3, fun a ha b hb => h4 a ha b (by simp [hb])⟩, fun t ht => h4 t ht x (by simp), h2⟩
theorem mem_mid {A B : List Tr} {x t : Tr} : t ∈ A ++ x :: B ↔ t = x ∨ t ∈ A ++ B := by
  simp only [List.mem_append, List.mem_cons]
  constructor
  · rintro (h | h | h)
    · exact .inr (.inl h)
    · exact .inl h
    · exact .inr (.inr h)
  · rintro (h | h | h)
    · exact .inr (.inl h)
    · exact .inl h
    · exact .inr (.inr h)
/-- In a surface two triangles with a directed edge in common are the same. -/
theorem one_edge {l : List Tr} (h : l.Pairwise fun t u => ¬ twice t u) {t u : Tr} (ht : t ∈ l) (hu : u ∈ l) {a b : Int} (h1 : hasE t a b) (h2 : hasE u a b) : t = u := by
  obtain ⟨i, hi, rfl⟩ := mem3_getD ht
  obtain ⟨j, hj, rfl⟩ := mem3_getD hu
  by_cases e : i = j
  · rw [e]
  · exact absurd (twice_iff.2 ⟨a, b, h1, h2⟩) (notwice_ne h hi hj e)
theorem open_mid {N : Int} {A B : List Tr} {x : Tr} (h : Surf N (A ++ x :: B)) (hc : Closed (A ++ x :: B)) : Surf N (A ++ B) := by
  obtain ⟨tw, twA, twB⟩ := pair_mem h.notwice
  obtain ⟨mi, _, _⟩ := pair_mem h.nomirr
  have hx : x ∈ A ++ x :: B := mem_mid.2 (.inl rfl)
  have sub : ∀ t, t ∈ A ++ B → t ∈ A ++ x :: B := fun t ht => mem_mid.2 (.inr ht)
  have nx : ∀ t ∈ A ++ B, t ≠ x := fun t ht e => by
    subst e
    rcases List.mem_append.1 ht with h1 | h1
    · exact twA _ h1 (twice_self _)
    · exact twB _ h1 (twice_self _)
  have other : ∀ t ∈ A ++ x :: B, ∀ a b, hasE t a b → ∃ u ∈ A ++ x :: B, hasE u b a ∧ u ≠ t := fun t ht a b hE => by
    obtain ⟨u, hu, hu'⟩ := hc t ht a b hE
    exact ⟨u, hu, hu', fun e => edge_back (h.noloop t ht) hE (e ▸ hu')⟩
  refine ⟨h.n0, h.n1, by have := h.t1; simp only [List.length_append, List.length_cons] at *; omega, fun t ht => h.inb t (sub t ht), fun t ht => h.noloop t (sub t ht), tw, mi, fun v hv => ?_, fun v hv => ?_⟩
  · obtain ⟨t, ht, htv⟩ := h.used v hv
    rcases mem_mid.1 ht with rfl | ht'
    · obtain ⟨u, hu, hE, hne⟩ := other t hx _ _ (out_edge htv)
      rcases mem_mid.1 hu with e | hu'
      · exact absurd e hne
      · exact ⟨u, hu', (hasE_hasV hE).2⟩
    · exact ⟨t, ht', htv⟩
  · by_cases hxv : hasV x v
    case neg =>
      intro P hex hcl u hu huv
      have back : ∀ t ∈ A ++ x :: B, hasV t v → t ∈ A ++ B := fun t ht htv => by
        rcases mem_mid.1 ht with rfl | h1
        · exact absurd htv hxv
        · exact h1
      obtain ⟨t, ht, htv, hP⟩ := hex
      exact h.conn v hv P ⟨t, sub t ht, htv, hP⟩ (fun a ha b hb hav hbv => hcl a (back a ha hav) b (back b hb hbv) hav hbv) u (sub u hu) huv
    -- the triangles before and behind x at v
    obtain ⟨s, hs, hsE, hsx⟩ := other x hx _ _ (out_edge hxv)
    obtain ⟨r, hr, hrE, hrx⟩ := other x hx _ _ (inn_edge hxv)
    have hs' : s ∈ A ++ B := by rcases mem_mid.1 hs with e | h1; exact absurd e hsx; exact h1
    have hr' : r ∈ A ++ B := by rcases mem_mid.1 hr with e | h1; exact absurd e hrx; exact h1
    have hsv : hasV s v := (hasE_hasV hsE).2
    have hrv : hasV r v := (hasE_hasV hrE).1
    have info := fun (t : Tr) (ht : t ∈ A ++ x :: B) (htv : hasV t v) => at_v (h.noloop t ht) htv
    have outOne : ∀ t ∈ A ++ x :: B, ∀ u ∈ A ++ x :: B, hasV t v → hasV u v → outV v t = outV v u → t = u := fun t ht u hu htv huv e => one_edge h.notwice ht hu (out_edge htv) (by rw [e]; exact out_edge huv)
    have innOne : ∀ t ∈ A ++ x :: B, ∀ u ∈ A ++ x :: B, hasV t v → hasV u v → innV v t = innV v u → t = u := fun t ht u hu htv huv e => one_edge h.notwice ht hu (inn_edge htv) (by rw [e]; exact inn_edge huv)
    have sIn : innV v s = outV v x := ((info s hs hsv).2.2.2.2.2 _ hsE).symm
    have rOut : outV v r = innV v x := ((info r hr hrv).2.2.2.2.1 _ hrE).symm
    have adjIff : ∀ t ∈ A ++ x :: B, ∀ u ∈ A ++ x :: B, hasV t v → hasV u v → t ≠ u → adjV v t u → outV v t = innV v u ∨ innV v t = outV v u := by
      intro t ht u hu htv huv hne ⟨w, hw, h1, h2⟩
      rcases (info t ht htv).2.2.2.1 w hw h1 with e1 | e1 <;> rcases (info u hu huv).2.2.2.1 w hw h2 with e2 | e2
      · exact absurd (outOne t ht u hu htv huv (e1.symm.trans e2)) hne
      · exact .inl (e1.symm.trans e2)
      · exact .inr (e1.symm.trans e2)
      · exact absurd (innOne t ht u hu htv huv (e1.symm.trans e2)) hne
    have adjOf : ∀ t ∈ A ++ x :: B, ∀ u ∈ A ++ x :: B, hasV t v → hasV u v → outV v t = innV v u → adjV v t u := fun t ht u hu htv huv e => ⟨outV v t, (info t ht htv).1, (hasE_hasV (out_edge htv)).2, by rw [e]; exact (hasE_hasV (inn_edge huv)).1⟩
    -- no part that is closed holds s and not r
    have noSplit : ∀ Q : Tr → Prop, (∀ t ∈ A ++ B, ∀ u ∈ A ++ B, hasV t v → hasV u v → Q t → adjV v t u → Q u) → Q s → ¬ Q r → False := by
      intro Q hQ hQs hQr
      obtain ⟨L, hL, hnd⟩ : ∃ L : List Tr, (∀ t, t ∈ L ↔ (t ∈ A ++ B ∧ hasV t v ∧ Q t)) ∧ L.Nodup := by
        refine ⟨(A ++ B).filter fun t => @decide (hasV t v ∧ Q t) (Classical.propDecidable _), fun t => by rw [List.mem_filter]; exact and_congr Iff.rfl (@decide_eq_true_iff _ (Classical.propDecidable _)), ?_⟩
        rw [List.nodup_iff_pairwise_ne]
        refine List.Pairwise.filter _ ?_
        exact List.Pairwise.imp (fun {a b} (hh : ¬ twice a b) (e : a = b) => hh (by rw [e]; exact twice_self b)) tw
      have o1 : (L.map (outV v)).Nodup := by
        rw [List.nodup_iff_pairwise_ne] at *
        rw [List.pairwise_map]
        refine hnd.imp_of_mem fun {a b} ha hb hne e => hne ?_
        have ha' := (hL a).1 ha
        have hb' := (hL b).1 hb
        exact outOne a (sub a ha'.1) b (sub b hb'.1) ha'.2.1 hb'.2.1 e
      have i1 := nodup_all o1 (b := L.map (innV v)) (fun e he => by
        obtain ⟨t, ht, rfl⟩ := List.mem_map.1 he
        obtain ⟨htm, htv, hQt⟩ := (hL t).1 ht
        obtain ⟨u, hu, hE, hne⟩ := other t (sub t htm) _ _ (out_edge htv)
        have huv := (hasE_hasV hE).2
        have e1 := (info u hu huv).2.2.2.2.2 _ hE
        have hux : u ≠ x := by
          rintro rfl
          have : t = r := outOne t (sub t htm) r hr htv hrv (by rw [rOut, e1])
          exact hQr (this ▸ hQt)
        have hu' : u ∈ A ++ B := by
          rcases mem_mid.1 hu with e | h1
          · exact absurd e hux
          · exact h1
        exact List.mem_map.2 ⟨u, (hL u).2 ⟨hu', huv, hQ t htm u hu' htv huv hQt (adjOf t (sub t htm) u hu htv huv e1)⟩, e1.symm⟩) (by simp)
      have hsm := i1 (innV v s) (List.mem_map.2 ⟨s, (hL s).2 ⟨hs', hsv, hQs⟩, rfl⟩)
      obtain ⟨t, ht, e⟩ := List.mem_map.1 hsm
      obtain ⟨htm, htv, _⟩ := (hL t).1 ht
      exact nx t htm (outOne t (sub t htm) x hx htv hxv (by rw [e, sIn]))
    -- a part that holds neither is closed with x beside it
    have noRest : ∀ Q : Tr → Prop, (∀ t ∈ A ++ B, ∀ u ∈ A ++ B, hasV t v → hasV u v → Q t → adjV v t u → Q u) → ¬ Q s → ¬ Q r → ∀ t ∈ A ++ B, hasV t v → ¬ Q t := by
      intro Q hQ hQs hQr t ht htv hQt
      have := h.conn v hv (fun u => u ≠ x ∧ Q u) ⟨t, sub t ht, htv, nx t ht, hQt⟩ (fun a ha b hb hav hbv hPa hadj => ?_) x hx hxv
      · exact this.1 rfl
      · have ha' : a ∈ A ++ B := by
          rcases mem_mid.1 ha with e | h1
          · exact absurd e hPa.1
          · exact h1
        rcases mem_mid.1 hb with rfl | hb'
        · exfalso
          rcases adjIff a ha b hb hav hbv hPa.1 hadj with e | e
          · exact hQr ((outOne a ha r hr hav hrv (by rw [e, rOut])) ▸ hPa.2)
          · exact hQs ((innOne a ha s hs hav hsv (by rw [e, sIn])) ▸ hPa.2)
        · exact ⟨nx b hb', hQ a ha' b hb' hav hbv hPa.2 hadj⟩
    intro P hex hcl u hu huv
    have hcn : ∀ t ∈ A ++ B, ∀ u ∈ A ++ B, hasV t v → hasV u v → ¬ P t → adjV v t u → ¬ P u := fun t ht u hu htv huv hn ha hp => hn (hcl u hu t ht huv htv hp (adjV_symm ha))
    obtain ⟨t0, ht0, h0v, hP0⟩ := hex
    refine Classical.byContradiction fun hPu => ?_
    by_cases hPs : P s
    · by_cases hPr : P r
      · exact noRest (fun t => ¬ P t) hcn (fun hn => hn hPs) (fun hn => hn hPr) u hu huv hPu
      · exact noSplit P hcl hPs hPr
    · by_cases hPr : P r
      · exact noSplit (fun t => ¬ P t) hcn hPs (fun hn => hn hPr)
      · exact noRest P hcl hPs hPr t0 ht0 h0v hP0
end Go.Proofs.Ytmflacmgffpjoaa

/- Layer 9: what hangs together, decided; small surfaces, decided (the former out of CrEx). -/
namespace Go.Proofs.Ytmflacmgffpjoaa

theorem conn_ex9 {l : List Tr} {v : Int} (h : ∀ t ∈ l, ∀ u ∈ l, hasV t v → hasV u v → t = u ∨ adjV v t u) : Conn l v := fun P ⟨t, ht, hv, hp⟩ hs u hu huv => by
  rcases h t ht u hu hv huv with rfl | ha
  · exact hp
  · exact hs t ht u hu hv huv hp ha
def adB (v : Int) (t u : Tr) : Bool := decide (t = u) || [t.1, t.2.1, t.2.2].any fun w => decide (w ≠ v) && decide (hasV u w)
theorem adB_iff {v : Int} {t u : Tr} (h : adB v t u = true) : t = u ∨ adjV v t u := by
  unfold adB at h
  rw [Bool.or_eq_true] at h
  rcases h with h | h
  · exact .inl (of_decide_eq_true h)
  · right
    rw [List.any_eq_true] at h
    obtain ⟨w, hw, h⟩ := h
    rw [Bool.and_eq_true, decide_eq_true_eq, decide_eq_true_eq] at h
    refine ⟨w, h.1, ?_, h.2⟩
    simp only [List.mem_cons, List.not_mem_nil, or_false] at hw
    unfold hasV
    rcases hw with h | h | h
    · exact .inl h.symm
    · exact .inr (.inl h.symm)
    · exact .inr (.inr h.symm)
def conB (l : List Tr) (v : Int) : Bool := l.all fun t => l.all fun u => !(decide (hasV t v) && decide (hasV u v)) || adB v t u
theorem conB_conn {l : List Tr} {v : Int} (h : conB l v = true) : Conn l v := by
  refine conn_ex9 fun t ht u hu hv hv' => ?_
  unfold conB at h
  have := List.all_eq_true.1 (List.all_eq_true.1 h t ht) u hu
  rw [decide_eq_true hv, decide_eq_true hv'] at this
  exact adB_iff (by simpa using this)
/-- A small surface, decided. -/
theorem surf_by {N : Nat} {l : List Tr} (h1 : N ≤ 4096 ∧ l.length ≤ 8192) (h2 : (l.all fun t => decide (inN (N : Int) t.1 ∧ inN (N : Int) t.2.1 ∧ inN (N : Int) t.2.2)) = true) (h3 : (l.all fun t => decide (¬ loopT t)) = true) (h4 : decide (l.Pairwise fun t u => ¬ twice t u) = true) (h5 : decide (l.Pairwise fun t u => ¬ mirrd t u) = true)
    (h6 : ((List.range N).all fun v => l.any fun t => decide (hasV t (v : Int))) = true) (h7 : ((List.range N).all fun v => conB l (v : Int)) = true) : Surf (N : Int) l := by
  have nat : ∀ v : Int, inN (N : Int) v → ∃ k : Nat, k ∈ List.range N ∧ v = (k : Int) := fun v hv => ⟨v.toNat, List.mem_range.2 (by have := hv.1; have := hv.2; omega), by have := hv.1; omega⟩
  refine ⟨by omega, by omega, h1.2, fun t ht => of_decide_eq_true (List.all_eq_true.1 h2 t ht), fun t ht => of_decide_eq_true (List.all_eq_true.1 h3 t ht), of_decide_eq_true h4, of_decide_eq_true h5, fun v hv => ?_, fun v hv => ?_⟩
  · obtain ⟨k, hk, rfl⟩ := nat v hv
    obtain ⟨t, ht, h⟩ := List.any_eq_true.1 (List.all_eq_true.1 h6 k hk)
    exact ⟨t, ht, of_decide_eq_true h⟩
  · obtain ⟨k, hk, rfl⟩ := nat v hv
    exact conB_conn (List.all_eq_true.1 h7 k hk)
end Go.Proofs.Ytmflacmgffpjoaa

/- Layer 9: a closed surface with one triangle turned round. -/
namespace Go.Proofs.Ytmflacmgffpjoaa

theorem count_one {L : List Tr} (h : L.Pairwise fun t u => ¬ twice t u) {a b : Int} (hex : ∃ u ∈ L, hasE u a b) : L.countP (fun u => decide (hasE u a b)) = 1 := by
  induction L with
  | nil => obtain ⟨u, hu, _⟩ := hex; cases hu
  | cons y L ih =>
    rw [List.pairwise_cons] at h
    rw [List.countP_cons]
    by_cases hy : hasE y a b
    · have : L.countP (fun u => decide (hasE u a b)) = 0 := List.countP_eq_zero.2 fun u hu => by
        rw [decide_eq_true_iff]
        exact fun hE => h.1 u hu (twice_iff.2 ⟨a, b, hy, hE⟩)
      rw [this, if_pos (decide_eq_true hy)]
    · obtain ⟨u, hu, hE⟩ := hex
      rcases List.mem_cons.1 hu with rfl | hu
      · exact absurd hE hy
      · rw [ih h.2 ⟨u, hu, hE⟩, decide_eq_false hy]
        rfl
theorem count_three {L : List Tr} {a b c : Tr → Bool} (h : ∀ u ∈ L, ¬ (a u = true ∧ b u = true) ∧ ¬ (b u = true ∧ c u = true) ∧ ¬ (a u = true ∧ c u = true)) : L.countP (fun u => a u || b u || c u) = L.countP a + L.countP b + L.countP c := by
  induction L with
  | nil => rfl
  | cons y L ih =>
    have hy := h y (by simp)
    have := ih (fun u hu => h u (by simp [hu]))
    simp only [List.countP_cons, this]
    cases ha : a y <;> cases hb : b y <;> cases hc : c y <;> simp_all <;> omega
theorem three_mirr {x u : Tr} {p q r : Int} (hx : ∀ v, hasV x v → v = p ∨ v = q ∨ v = r) (h1 : hasE u q p) (h2 : hasE u r q) : mirrd x u :=
  mirrd_iff.2 fun v hv => by
    rcases hx v hv with rfl | rfl | rfl
    · exact (hasE_hasV h1).2
    · exact (hasE_hasV h1).1
    · exact (hasE_hasV h2).1
theorem turn_mid {N : Int} {A B : List Tr} {x : Tr} (h : Surf N (A ++ x :: B)) (hc : Closed (A ++ x :: B)) {ws : List Wt} (ha : IsAll N (A ++ mirT x :: B) ws) : ws.length = 3 ∧ ∃ y r, ws = y :: r ∧ y.1 = 3 ∧ (y.2.1 = (A.length : Int) ∨ y.2.2 = (A.length : Int)) := by
  obtain ⟨p, hp, rfl⟩ := ha
  obtain ⟨tw, twA, twB⟩ := pair_mem h.notwice
  obtain ⟨_, miA, miB⟩ := pair_mem h.nomirr
  have hx : x ∈ A ++ x :: B := mem_mid.2 (.inl rfl)
  have hxl := h.noloop x hx
  have hxb := h.inb x hx
  have sub : ∀ t, t ∈ A ++ B → t ∈ A ++ x :: B := fun t ht => mem_mid.2 (.inr ht)
  have hml : ¬ loopT (mirT x) := fun hm => by
    obtain ⟨v, hv⟩ := loopT_iff.1 hm
    exact hxl (loopT_iff.2 ⟨v, hasE_mir.1 hv⟩)
  have hlen : (A ++ mirT x :: B).length = (A ++ x :: B).length := by simp
  have ex : ∀ a b, hasE x a b → ∃ u ∈ A ++ B, hasE u b a := fun a b hE => by
    obtain ⟨u, hu, hu'⟩ := hc x hx a b hE
    rcases mem_mid.1 hu with rfl | h1
    · exact absurd hu' (edge_back hxl hE)
    · exact ⟨u, h1, hu'⟩
  have nomi : ∀ u ∈ A ++ B, ¬ mirrd x u := fun u hu hm => by
    rcases List.mem_append.1 hu with h1 | h1
    · exact miA u h1 (mirrd_back (h.noloop u (sub u hu)) hxl hm)
    · exact miB u h1 hm
  have e1 : hasE x x.1 x.2.1 := .inl ⟨rfl, rfl⟩
  have e2 : hasE x x.2.1 x.2.2 := .inr (.inl ⟨rfl, rfl⟩)
  have e3 : hasE x x.2.2 x.1 := .inr (.inr ⟨rfl, rfl⟩)
  have s3 : ∀ t u : Tr, decide (twice t u) = decide (twice u t) := fun t u => decide_eq_decide.2 ⟨twice_symm, twice_symm⟩
  have hq : ∀ u, decide (twice (mirT x) u) = (decide (hasE u x.2.1 x.1) || decide (hasE u x.2.2 x.2.1) || decide (hasE u x.1 x.2.2)) := fun u => by
    rw [Bool.eq_iff_iff, Bool.or_eq_true, Bool.or_eq_true, decide_eq_true_iff, decide_eq_true_iff, decide_eq_true_iff, decide_eq_true_iff]
    show (hasE u x.1 x.2.2 ∨ hasE u x.2.2 x.2.1 ∨ hasE u x.2.1 x.1) ↔ _
    constructor
    · rintro (g | g | g)
      · exact .inr g
      · exact .inl (.inr g)
      · exact .inl (.inl g)
    · rintro ((g | g) | g)
      · exact .inr (.inr g)
      · exact .inr (.inl g)
      · exact .inl g
  have hvs : ∀ v, hasV x v → v = x.1 ∨ v = x.2.1 ∨ v = x.2.2 := fun v hv => by rcases hv with g | g | g <;> simp [g]
  have cnt : (A ++ B).countP (fun u => decide (twice (mirT x) u)) = 3 := by
    have : (fun u => decide (twice (mirT x) u)) = fun u => (decide (hasE u x.2.1 x.1) || decide (hasE u x.2.2 x.2.1) || decide (hasE u x.1 x.2.2)) := funext hq
    rw [this, count_three (fun u hu => ?_), count_one tw (ex _ _ e1), count_one tw (ex _ _ e2), count_one tw (ex _ _ e3)]
    have hnm := nomi u hu
    simp only [decide_eq_true_iff]
    refine ⟨fun ⟨g1, g2⟩ => hnm (three_mirr hvs g1 g2), fun ⟨g1, g2⟩ => hnm (three_mirr (p := x.2.1) (q := x.2.2) (r := x.1) (fun v hv => by rcases hvs v hv with g | g | g <;> simp [g]) g1 g2), fun ⟨g1, g2⟩ => hnm (three_mirr (p := x.2.2) (q := x.1) (r := x.2.1) (fun v hv => by rcases hvs v hv with g | g | g <;> simp [g]) g2 g1)⟩
  have hl3 : (pairW 3 (fun t u => decide (twice t u)) (A ++ mirT x :: B)).length = 3 := by
    rw [pairW_len 3 _ _ _ rfl, cntP_perm s3 List.perm_middle, cntP, cnt, ← pairW_len 3 _ _ (A ++ B) rfl, pair3_nil tw]
    rfl
  have g0 : ∀ i, i ≠ A.length → (A ++ mirT x :: B).getD i z3 = (A ++ x :: B).getD i z3 := fun i hi => by
    rw [List.getD_eq_getElem?_getD, List.getD_eq_getElem?_getD]
    congr 1
    rcases Nat.lt_or_ge i A.length with h1 | h1
    · rw [List.getElem?_append_left h1, List.getElem?_append_left h1]
    · obtain ⟨d, hd⟩ : ∃ d, i - A.length = d + 1 := ⟨i - A.length - 1, by omega⟩
      rw [List.getElem?_append_right h1, List.getElem?_append_right h1, hd, List.getElem?_cons_succ, List.getElem?_cons_succ]
  have hmem : ∀ y ∈ pairW 3 (fun t u => decide (twice t u)) (A ++ mirT x :: B), y.1 = 3 ∧ (y.2.1 = (A.length : Int) ∨ y.2.2 = (A.length : Int)) := fun y hy => by
    obtain ⟨b, hb, hy⟩ := List.mem_flatMap.1 hy
    obtain ⟨a, ha, rfl⟩ := List.mem_map.1 hy
    obtain ⟨ha1, ha2⟩ := List.mem_filter.1 ha
    have hb' := List.mem_range.1 hb
    have ha' := List.mem_range.1 ha1
    refine ⟨rfl, ?_⟩
    by_cases c1 : a = A.length
    · exact .inl (by rw [c1])
    · by_cases c2 : b = A.length
      · exact .inr (by rw [c2])
      · exfalso
        rw [g0 a c1, g0 b c2, decide_eq_true_iff] at ha2
        exact pair_at h.notwice (by omega) (by omega) ha' ha2
  have hb1 : ∀ t ∈ A ++ mirT x :: B, inN N t.1 ∧ inN N t.2.1 ∧ inN N t.2.2 := fun t ht => by
    rcases mem_mid.1 ht with rfl | h1
    · exact ⟨hxb.1, hxb.2.2, hxb.2.1⟩
    · exact h.inb t (sub t h1)
  have hb2 : ∀ t ∈ A ++ mirT x :: B, ¬ loopT t := fun t ht => by
    rcases mem_mid.1 ht with rfl | h1
    · exact hml
    · exact h.noloop t (sub t h1)
  rw [stage_first h.n0 h.n1 (by rw [hlen]; exact h.t1)]
  unfold stagesW
  rw [idx1_nil hb1, idx2_nil hb2]
  cases hw : pairW 3 (fun t u => decide (twice t u)) (A ++ mirT x :: B) with
  | nil => rw [hw] at hl3; cases hl3
  | cons y r =>
    rw [hw] at hl3 hmem
    have := hmem y (by simp)
    exact ⟨hl3, y, r, rfl, this.1, this.2⟩
end Go.Proofs.Ytmflacmgffpjoaa

/- Layer 10: corners, as plain numbers: next, previous, the edge that one faces, the one across. -/
namespace Go.Proofs.Ytmflacmgffpjoaa

def nxt (c : Nat) : Nat := if c % 3 = 2 then c - 2 else c + 1
def prv (c : Nat) : Nat := if c % 3 = 0 then c + 2 else c - 1
def cor3 (t : Tr) (k : Nat) : Int := if k = 0 then t.1 else if k = 1 then t.2.1 else t.2.2
def vtx (l : List Tr) (c : Nat) : Int := cor3 (l.getD (c / 3) z3) (c % 3)
def edgeC (l : List Tr) (c : Nat) : Ed := (vtx l (nxt c), vtx l (prv c))
/-- The least number below n of which p tells true; -1: there is none. -/
def findC (n : Nat) (p : Nat → Bool) : Int := match (List.range n).find? p with | some c => (c : Int) | none => -1
def facing (l : List Tr) (e : Ed) : Int := findC (3 * l.length) fun c => decide (edgeC l c = e)
def oppC (l : List Tr) (c : Nat) : Int := facing l ((edgeC l c).2, (edgeC l c).1)
def cornerAt (l : List Tr) (v : Int) : Int := findC (3 * l.length) fun c => decide (vtx l c = v)

theorem nxt_div (c : Nat) : nxt c / 3 = c / 3 := by unfold nxt; split <;> omega
theorem prv_div (c : Nat) : prv c / 3 = c / 3 := by unfold prv; split <;> omega
theorem nxt_lt {c n : Nat} (h : c < 3 * n) : nxt c < 3 * n := by have := nxt_div c; omega
theorem prv_lt {c n : Nat} (h : c < 3 * n) : prv c < 3 * n := by have := prv_div c; omega
theorem nxt3 (c : Nat) : nxt (nxt (nxt c)) = c := by unfold nxt; repeat' split
                                                     all_goals omega
theorem prv_nxt (c : Nat) : prv (nxt c) = c := by unfold prv nxt; repeat' split
                                                  all_goals omega
theorem nxt_prv (c : Nat) : nxt (prv c) = c := by unfold prv nxt; repeat' split
                                                  all_goals omega
theorem prv_eq (c : Nat) : prv c = nxt (nxt c) := by unfold prv nxt; repeat' split
                                                     all_goals omega
theorem findC_none {n : Nat} {p : Nat → Bool} : findC n p = -1 ↔ ∀ c, c < n → p c = false := by
  unfold findC
  cases h : (List.range n).find? p with
  | none =>
    rw [List.find?_eq_none] at h
    exact ⟨fun _ c hc => by have := h c (List.mem_range.2 hc); simpa using this, fun _ => rfl⟩
  | some c =>
    have h1 := List.find?_some h
    have h2 := List.mem_range.1 (List.mem_of_find?_eq_some h)
    constructor
    · intro e; simp only at e; omega
    · intro hh; rw [hh c h2] at h1; cases h1
theorem findC_spec {n : Nat} {p : Nat → Bool} {c : Nat} : findC n p = (c : Int) ↔ c < n ∧ p c = true ∧ ∀ a, a < c → p a = false := by
  unfold findC
  cases h : (List.range n).find? p with
  | none =>
    rw [List.find?_eq_none] at h
    constructor
    · intro e; simp only at e; omega
    · rintro ⟨h1, h2, _⟩; exact absurd h2 (h c (List.mem_range.2 h1))
  | some d =>
    have h1 := List.find?_some h
    have h2 := List.mem_range.1 (List.mem_of_find?_eq_some h)
    rw [List.find?_eq_some_iff_append] at h
    obtain ⟨_, L1, L2, e, hl⟩ := h
    have hd : ∀ a, a < d → p a = false := by
      intro a ha
      have hlen : L1.length = d := by
        have := congrArg (fun l => l[L1.length]?) e
        simp only [List.getElem?_append_right (Nat.le_refl _), Nat.sub_self, List.getElem?_cons_zero] at this
        rw [List.getElem?_range (by have := congrArg List.length e; simp at this; omega)] at this
        simpa using this
      have : a ∈ L1 := by
        have g := congrArg (fun l => l[a]?) e
        rw [List.getElem?_range (by omega), List.getElem?_append_left (by omega)] at g
        exact List.mem_of_getElem? g.symm
      simpa using hl a this
    constructor
    · intro e; obtain rfl : d = c := by simp only at e; omega
      exact ⟨h2, h1, hd⟩
    · rintro ⟨g1, g2, g3⟩
      rcases Nat.lt_trichotomy c d with h5 | h5 | h5
      · rw [hd c h5] at g2; cases g2
      · rw [h5]
      · rw [g3 d h5] at h1; cases h1
theorem findC_cases (n : Nat) (p : Nat → Bool) : findC n p = -1 ∨ ∃ c : Nat, findC n p = (c : Int) ∧ c < n ∧ p c = true := by
  cases h : (List.range n).find? p with
  | none => left; unfold findC; rw [h]
  | some d => right; exact ⟨d, by unfold findC; rw [h], List.mem_range.1 (List.mem_of_find?_eq_some h), List.find?_some h⟩
theorem findC_one {n : Nat} {p : Nat → Bool} {c : Nat} (hc : c < n) (hp : p c = true) (hu : ∀ a, a < n → p a = true → a = c) : findC n p = (c : Int) :=
  findC_spec.2 ⟨hc, hp, fun a ha => by
    cases h : p a with
    | false => rfl
    | true => have := hu a (by omega) h; omega⟩

theorem cor3_hasV (t : Tr) (k : Nat) : hasV t (cor3 t k) := by
  unfold cor3
  split
  · exact .inl rfl
  · split
    · exact .inr (.inl rfl)
    · exact .inr (.inr rfl)
/-- The edge that a corner faces is one of its triangle. -/
theorem edgeC_has (l : List Tr) (c : Nat) : hasE (l.getD (c / 3) z3) (edgeC l c).1 (edgeC l c).2 := by
  unfold edgeC vtx
  simp only [nxt_div, prv_div]
  generalize l.getD (c / 3) z3 = t
  have hm : c % 3 = 0 ∨ c % 3 = 1 ∨ c % 3 = 2 := by omega
  rcases hm with hm | hm | hm
  · have h1 : nxt c % 3 = 1 := by unfold nxt; split <;> omega
    have h2 : prv c % 3 = 2 := by unfold prv; split <;> omega
    rw [h1, h2]; exact .inr (.inl ⟨rfl, rfl⟩)
  · have h1 : nxt c % 3 = 2 := by unfold nxt; split <;> omega
    have h2 : prv c % 3 = 0 := by unfold prv; split <;> omega
    rw [h1, h2]; exact .inr (.inr ⟨rfl, rfl⟩)
  · have h1 : nxt c % 3 = 0 := by unfold nxt; split <;> omega
    have h2 : prv c % 3 = 1 := by unfold prv; split <;> omega
    rw [h1, h2]; exact .inl ⟨rfl, rfl⟩
/-- Each edge of a triangle is faced by one of its corners. -/
theorem hasE_corner {l : List Tr} {t : Nat} (ht : t < l.length) {a b : Int} (h : hasE (l.getD t z3) a b) : ∃ c, c < 3 * l.length ∧ c / 3 = t ∧ edgeC l c = (a, b) := by
  have d0 : (3 * t) / 3 = t := by omega
  have d1 : (3 * t + 1) / 3 = t := by omega
  have d2 : (3 * t + 2) / 3 = t := by omega
  have m0 : (3 * t) % 3 = 0 := by omega
  have m1 : (3 * t + 1) % 3 = 1 := by omega
  have m2 : (3 * t + 2) % 3 = 2 := by omega
  have n0 : nxt (3 * t) = 3 * t + 1 := by unfold nxt; split <;> omega
  have n1 : nxt (3 * t + 1) = 3 * t + 2 := by unfold nxt; split <;> omega
  have n2 : nxt (3 * t + 2) = 3 * t := by unfold nxt; split <;> omega
  have p0 : prv (3 * t) = 3 * t + 2 := by unfold prv; split <;> omega
  have p1 : prv (3 * t + 1) = 3 * t := by unfold prv; split <;> omega
  have p2 : prv (3 * t + 2) = 3 * t + 1 := by unfold prv; split <;> omega
  have v0 : vtx l (3 * t) = (l.getD t z3).1 := by unfold vtx; rw [d0, m0]; rfl
  have v1 : vtx l (3 * t + 1) = (l.getD t z3).2.1 := by unfold vtx; rw [d1, m1]; rfl
  have v2 : vtx l (3 * t + 2) = (l.getD t z3).2.2 := by unfold vtx; rw [d2, m2]; rfl
  rcases h with ⟨h1, h2⟩ | ⟨h1, h2⟩ | ⟨h1, h2⟩
  · exact ⟨3 * t + 2, by omega, d2, by unfold edgeC; rw [n2, p2, v0, v1, h1, h2]⟩
  · exact ⟨3 * t, by omega, d0, by unfold edgeC; rw [n0, p0, v1, v2, h1, h2]⟩
  · exact ⟨3 * t + 1, by omega, d1, by unfold edgeC; rw [n1, p1, v2, v0, h1, h2]⟩
/-- In a surface no two corners face one directed edge. -/
theorem edgeC_inj {N : Int} {l : List Tr} (h : Surf N l) {c d : Nat} (hc : c < 3 * l.length) (hd : d < 3 * l.length) (e : edgeC l c = edgeC l d) : c = d := by
  have hc3 : c / 3 < l.length := by omega
  have hd3 : d / 3 < l.length := by omega
  have e1 := edgeC_has l c
  have e2 := edgeC_has l d
  rw [← e] at e2
  have ht : c / 3 = d / 3 := Classical.byContradiction fun hne => notwice_ne h.notwice hc3 hd3 hne (twice_iff.2 ⟨_, _, e1, e2⟩)
  have hn := h.noloop _ (getD3_mem hc3)
  unfold edgeC vtx at e
  simp only [nxt_div, prv_div, ← ht] at e
  generalize l.getD (c / 3) z3 = t at e hn
  obtain ⟨x, y, z⟩ := t
  simp only [loopT] at hn
  injection e with e1 e2
  have hcm : c % 3 = 0 ∨ c % 3 = 1 ∨ c % 3 = 2 := by omega
  have hdm : d % 3 = 0 ∨ d % 3 = 1 ∨ d % 3 = 2 := by omega
  have key : ∀ a : Nat, (a % 3 = 0 → nxt a % 3 = 1 ∧ prv a % 3 = 2) ∧ (a % 3 = 1 → nxt a % 3 = 2 ∧ prv a % 3 = 0) ∧ (a % 3 = 2 → nxt a % 3 = 0 ∧ prv a % 3 = 1) := fun a => by
    unfold nxt prv
    refine ⟨fun h => ?_, fun h => ?_, fun h => ?_⟩ <;> simp only [h] <;> constructor <;> simp <;> omega
  rcases hcm with m | m | m <;> rcases hdm with k | k | k
  · omega
  · rw [((key c).1 m).1, ((key d).2.1 k).1] at e1; simp [cor3] at e1; omega
  · rw [((key c).1 m).1, ((key d).2.2 k).1] at e1; simp [cor3] at e1; omega
  · rw [((key c).2.1 m).1, ((key d).1 k).1] at e1; simp [cor3] at e1; omega
  · omega
  · rw [((key c).2.1 m).1, ((key d).2.2 k).1] at e1; simp [cor3] at e1; omega
  · rw [((key c).2.2 m).1, ((key d).1 k).1] at e1; simp [cor3] at e1; omega
  · rw [((key c).2.2 m).1, ((key d).2.1 k).1] at e1; simp [cor3] at e1; omega
  · omega
theorem facing_edge {N : Int} {l : List Tr} (h : Surf N l) {c : Nat} (hc : c < 3 * l.length) : facing l (edgeC l c) = (c : Int) :=
  findC_one hc (decide_eq_true rfl) fun _ ha he => edgeC_inj h ha hc (of_decide_eq_true he)
theorem facing_some {l : List Tr} {e : Ed} {c : Nat} (h : facing l e = (c : Int)) : c < 3 * l.length ∧ edgeC l c = e := by
  obtain ⟨h1, h2, _⟩ := findC_spec.1 h
  exact ⟨h1, of_decide_eq_true h2⟩
theorem facing_none {l : List Tr} {e : Ed} : facing l e = -1 ↔ ∀ t ∈ l, ¬ hasE t e.1 e.2 := by
  unfold facing
  rw [findC_none]
  constructor
  · intro h t ht hE
    obtain ⟨i, hi, rfl⟩ := mem3_getD ht
    obtain ⟨c, hc, _, he⟩ := hasE_corner hi hE
    have := h c hc
    rw [decide_eq_false_iff_not] at this
    exact this he
  · intro h c hc
    rw [decide_eq_false_iff_not]
    intro he
    have := edgeC_has l c
    rw [he] at this
    exact h _ (getD3_mem (by omega)) this
theorem facing_cases (l : List Tr) (e : Ed) : facing l e = -1 ∨ ∃ c : Nat, facing l e = (c : Int) ∧ c < 3 * l.length ∧ edgeC l c = e := by
  rcases findC_cases (3 * l.length) (fun c => decide (edgeC l c = e)) with h | ⟨c, h1, h2, h3⟩
  · exact .inl h
  · exact .inr ⟨c, h1, h2, of_decide_eq_true h3⟩
/-- Across and back. -/
theorem opp_back {N : Int} {l : List Tr} (h : Surf N l) {c o : Nat} (hc : c < 3 * l.length) (ho : oppC l c = (o : Int)) : o < 3 * l.length ∧ oppC l o = (c : Int) ∧ edgeC l o = ((edgeC l c).2, (edgeC l c).1) ∧ o / 3 ≠ c / 3 ∧ vtx l o ≠ vtx l c := by
  obtain ⟨h1, h2⟩ := facing_some ho
  have hc3 : c / 3 < l.length := by omega
  have ho3 : o / 3 < l.length := by omega
  have hE := edgeC_has l c
  have hE2 := edgeC_has l o
  rw [h2] at hE2
  simp only at hE2
  have hne : o / 3 ≠ c / 3 := fun e => by
    rw [e] at hE2
    exact edge_back (h.noloop _ (getD3_mem hc3)) hE hE2
  refine ⟨h1, ?_, h2, hne, fun hv => ?_⟩
  · unfold oppC
    rw [h2]
    exact facing_edge h hc
  · -- the same three vertices
    have tri : ∀ (a : Nat) (v : Int), hasV (l.getD (a / 3) z3) v → v = vtx l a ∨ v = (edgeC l a).1 ∨ v = (edgeC l a).2 := fun a v hh => by
      unfold edgeC vtx
      simp only [nxt_div, prv_div]
      generalize l.getD (a / 3) z3 = t at hh
      have hm : a % 3 = 0 ∨ a % 3 = 1 ∨ a % 3 = 2 := by omega
      have key : (a % 3 = 0 → nxt a % 3 = 1 ∧ prv a % 3 = 2) ∧ (a % 3 = 1 → nxt a % 3 = 2 ∧ prv a % 3 = 0) ∧ (a % 3 = 2 → nxt a % 3 = 0 ∧ prv a % 3 = 1) := by
        unfold nxt prv
        refine ⟨fun h => ?_, fun h => ?_, fun h => ?_⟩ <;> simp only [h] <;> constructor <;> simp <;> omega
      rcases hm with m | m | m
      · rw [m, (key.1 m).1, (key.1 m).2]; rcases hh with g | g | g <;> simp [cor3, g]
      · rw [m, (key.2.1 m).1, (key.2.1 m).2]; rcases hh with g | g | g <;> simp [cor3, g]
      · rw [m, (key.2.2 m).1, (key.2.2 m).2]; rcases hh with g | g | g <;> simp [cor3, g]
    have all : mirrd (l.getD (c / 3) z3) (l.getD (o / 3) z3) := mirrd_iff.2 fun v hvv => by
      rcases tri c v hvv with e | e | e
      · rw [e, ← hv]; exact cor3_hasV _ _
      · rw [e]; exact (hasE_hasV hE2).2
      · rw [e]; exact (hasE_hasV hE2).1
    rcases Nat.lt_or_gt_of_ne hne with g | g
    · exact pair_at h.nomirr ho3 hc3 g (mirrd_back (h.noloop _ (getD3_mem ho3)) (h.noloop _ (getD3_mem hc3)) all)
    · exact pair_at h.nomirr hc3 ho3 g all
end Go.Proofs.Ytmflacmgffpjoaa

/- Layer 10: what is across, by other numbers, in the mirror, with triangles in another order that begin with other corners. -/
namespace Go.Proofs.Ytmflacmgffpjoaa

theorem surf_of {N : Int} {l l' : List Tr} (h : Surf N l) (k : ∀ ws, IsAll N l ws → IsAll N l' ws) : Surf N l' := by
  obtain ⟨ws, hw⟩ := isAll_exists N l
  have := (isAll_nil hw).2 h
  exact (isAll_nil (k ws hw)).1 this
theorem surf_mir {N : Int} {l : List Tr} (h : Surf N l) : Surf N (l.map mirT) := surf_of h fun _ => isAll_mir
theorem surf_turned {N : Int} {l l' : List Tr} (h : Surf N l) (hl : l'.length = l.length) (ht : ∀ i, i < l.length → ∃ k, l'.getD i z3 = rotT (l.getD i z3) k) : Surf N l' := surf_of h fun _ => isAll_turned hl ht
theorem surf_numbered {f g : Int → Int} (gf : ∀ x, g (f x) = x) (fg : ∀ x, f (g x) = x) {N : Int} (hin : ∀ x, inN N (f x) ↔ inN N x) {l l' : List Tr} (hp : l'.Perm (l.map (mapT f))) (h : Surf N l) : Surf N l' := by
  obtain ⟨ws, hw⟩ := isAll_exists N l
  obtain ⟨ws', hw'⟩ := isAll_exists N l'
  have e := (isAll_nil hw).2 h
  have := (isAll_numbered gf fg hin hp hw hw').1
  rw [e] at this
  exact (isAll_nil hw').1 (List.eq_nil_of_length_eq_zero this)
theorem surf_perm {N : Int} {l l' : List Tr} (hp : l'.Perm l) (h : Surf N l) : Surf N l' := by
  refine surf_numbered (f := id) (g := id) (fun _ => rfl) (fun _ => rfl) (fun _ => Iff.rfl) ?_ h
  have : l.map (mapT id) = l := by
    conv => rhs; rw [← List.map_id l]
    exact List.map_congr_left fun t _ => rfl
  rw [this]
  exact hp

/-- Corners of one list that stand for those of another one: what faces an edge stands for what faces it there. -/
theorem facing_map {M : Int} {l r : List Tr} (hr : Surf M r) {s : Nat → Nat} {p : Ed → Ed} (hs : ∀ c, c < 3 * l.length → s c < 3 * r.length ∧ edgeC r (s c) = p (edgeC l c)) (hsur : ∀ d, d < 3 * r.length → ∃ c, c < 3 * l.length ∧ s c = d) (hp : ∀ c e, c < 3 * l.length → p (edgeC l c) = p e → edgeC l c = e) (e : Ed) :
    (facing l e = -1 ∧ facing r (p e) = -1) ∨ ∃ c : Nat, c < 3 * l.length ∧ facing l e = (c : Int) ∧ facing r (p e) = ((s c : Nat) : Int) := by
  rcases facing_cases l e with h | ⟨c, h, hc, he⟩
  · refine .inl ⟨h, ?_⟩
    rcases facing_cases r (p e) with g | ⟨d, _, hd, hde⟩
    · exact g
    · exfalso
      obtain ⟨c, hc, rfl⟩ := hsur d hd
      have h1 := hp c e hc ((hs c hc).2.symm.trans hde)
      have := facing_none.1 h _ (getD3_mem (show c / 3 < l.length by omega))
      have h2 := edgeC_has l c
      rw [h1] at h2
      exact this h2
  · refine .inr ⟨c, hc, h, ?_⟩
    have := facing_edge hr (hs c hc).1
    rw [(hs c hc).2, he] at this
    exact this
def swapE (e : Ed) : Ed := (e.2, e.1)
theorem opp_map {M : Int} {l r : List Tr} (hr : Surf M r) {s : Nat → Nat} {p : Ed → Ed} (hs : ∀ c, c < 3 * l.length → s c < 3 * r.length ∧ edgeC r (s c) = p (edgeC l c)) (hsur : ∀ d, d < 3 * r.length → ∃ c, c < 3 * l.length ∧ s c = d) (hp : ∀ c e, c < 3 * l.length → p (edgeC l c) = p e → edgeC l c = e) (hw : ∀ e, swapE (p e) = p (swapE e)) {c : Nat} (hc : c < 3 * l.length) :
    (oppC l c = -1 ∧ oppC r (s c) = -1) ∨ ∃ o : Nat, o < 3 * l.length ∧ oppC l c = (o : Int) ∧ oppC r (s c) = ((s o : Nat) : Int) := by
  unfold oppC
  rw [(hs c hc).2]
  have := facing_map hr hs hsur hp (swapE (edgeC l c))
  rw [← hw] at this
  exact this

/-- By other numbers. -/
theorem vtx_map (f : Int → Int) {l : List Tr} {c : Nat} (hc : c < 3 * l.length) : vtx (l.map (mapT f)) c = f (vtx l c) := by
  unfold vtx
  have : (l.map (mapT f)).getD (c / 3) z3 = mapT f (l.getD (c / 3) z3) := by
    rw [List.getD_eq_getElem?_getD, List.getD_eq_getElem?_getD, List.getElem?_map, List.getElem?_eq_getElem (show c / 3 < l.length by omega)]; rfl
  rw [this]
  unfold cor3 mapT
  split
  · rfl
  · split <;> rfl
theorem opp_renamed {f g : Int → Int} (gf : ∀ x, g (f x) = x) {M : Int} {l : List Tr} (hr : Surf M (l.map (mapT f))) {c : Nat} (hc : c < 3 * l.length) : oppC (l.map (mapT f)) c = oppC l c := by
  have inj : ∀ x y, f x = f y → x = y := fun x y h => by rw [← gf x, h, gf]
  have h := opp_map (l := l) (s := fun c => c) (p := fun e => (f e.1, f e.2)) hr (fun c hc => ⟨by rw [List.length_map]; exact hc, by unfold edgeC; rw [vtx_map f (nxt_lt hc), vtx_map f (prv_lt hc)]⟩) (fun d hd => ⟨d, by rwa [List.length_map] at hd, rfl⟩) (fun c e _ he => by
    injection he with h1 h2
    exact Prod.ext (inj _ _ h1) (inj _ _ h2)) (fun _ => rfl) hc
  rcases h with ⟨h1, h2⟩ | ⟨o, _, h1, h2⟩
  · rw [h1, h2]
  · rw [h1, h2]
/-- In the mirror. -/
def mirC (c : Nat) : Nat := if c % 3 = 0 then c else if c % 3 = 1 then c + 1 else c - 1
theorem mirC_div (c : Nat) : mirC c / 3 = c / 3 := by unfold mirC; repeat' split
                                                      all_goals omega
theorem mirC_mirC (c : Nat) : mirC (mirC c) = c := by unfold mirC; repeat' split
                                                      all_goals omega
theorem vtx_mirC {l : List Tr} {c : Nat} (hc : c < 3 * l.length) : vtx (l.map mirT) (mirC c) = vtx l c := by
  unfold vtx
  rw [mirC_div]
  have : (l.map mirT).getD (c / 3) z3 = mirT (l.getD (c / 3) z3) := by
    rw [List.getD_eq_getElem?_getD, List.getD_eq_getElem?_getD, List.getElem?_map, List.getElem?_eq_getElem (show c / 3 < l.length by omega)]; rfl
  rw [this]
  have hm : c % 3 = 0 ∨ c % 3 = 1 ∨ c % 3 = 2 := by omega
  rcases hm with m | m | m
  · have : mirC c % 3 = 0 := by unfold mirC; split <;> omega
    rw [this, m]; rfl
  · have : mirC c % 3 = 2 := by unfold mirC; repeat' split
                                all_goals omega
    rw [this, m]; rfl
  · have : mirC c % 3 = 1 := by unfold mirC; repeat' split
                                all_goals omega
    rw [this, m]; rfl
theorem nxt_mirC (c : Nat) : nxt (mirC c) = mirC (prv c) := by unfold nxt mirC prv; repeat' split
                                                               all_goals omega
theorem prv_mirC (c : Nat) : prv (mirC c) = mirC (nxt c) := by unfold nxt mirC prv; repeat' split
                                                               all_goals omega
theorem edge_mirC {l : List Tr} {c : Nat} (hc : c < 3 * l.length) : edgeC (l.map mirT) (mirC c) = swapE (edgeC l c) := by
  unfold edgeC swapE
  rw [nxt_mirC, prv_mirC, vtx_mirC (prv_lt hc), vtx_mirC (nxt_lt hc)]
theorem mirC_lt {c n : Nat} (h : c < 3 * n) : mirC c < 3 * n := by have := mirC_div c; omega
theorem facing_mir {N : Int} {l : List Tr} (h : Surf N l) {c : Nat} (hc : c < 3 * l.length) : facing (l.map mirT) (swapE (edgeC l c)) = ((mirC c : Nat) : Int) := by
  rw [← edge_mirC hc]
  exact facing_edge (surf_mir h) (by rw [List.length_map]; exact mirC_lt hc)
theorem opp_mir {N : Int} {l : List Tr} (h : Surf N l) {c : Nat} (hc : c < 3 * l.length) : (oppC l c = -1 ∧ oppC (l.map mirT) (mirC c) = -1) ∨ ∃ o : Nat, o < 3 * l.length ∧ oppC l c = (o : Int) ∧ oppC (l.map mirT) (mirC c) = ((mirC o : Nat) : Int) :=
  opp_map (surf_mir h) (fun c hc => ⟨by rw [List.length_map]; exact mirC_lt hc, edge_mirC hc⟩) (fun d hd => by
    rw [List.length_map] at hd
    exact ⟨mirC d, mirC_lt hd, mirC_mirC d⟩) (fun c e _ he => by
    unfold swapE at he
    injection he with h1 h2
    exact Prod.ext h2 h1) (fun _ => rfl) hc

/-- One corner of each triangle, in any order: the triangles that begin with these. -/
structure Firsts (l : List Tr) (cs : List Nat) : Prop where
  len : cs.length = l.length
  lt : ∀ c ∈ cs, c < 3 * l.length
  one : (cs.map (· / 3)).Nodup
def pickN (l : List Tr) (c : Nat) : Tr := rotT (l.getD (c / 3) z3) (c % 3)
/-- Where a corner of l stands in what is picked, the corner's triangle being picked i-th, from corner d on. -/
def stand (i d c : Nat) : Nat := if c = d then 3 * i else if c = nxt d then 3 * i + 1 else 3 * i + 2
theorem pick_vtx {l : List Tr} {cs : List Nat} {i : Nat} (hi : i < cs.length) : vtx (cs.map (pickN l)) (3 * i) = vtx l (cs.getD i 0) ∧ vtx (cs.map (pickN l)) (3 * i + 1) = vtx l (nxt (cs.getD i 0)) ∧ vtx (cs.map (pickN l)) (3 * i + 2) = vtx l (prv (cs.getD i 0)) := by
  have e : (cs.map (pickN l)).getD i z3 = pickN l (cs.getD i 0) := by
    rw [List.getD_eq_getElem?_getD, List.getD_eq_getElem?_getD, List.getElem?_map, List.getElem?_eq_getElem hi]; rfl
  generalize cs.getD i 0 = d at e
  unfold vtx
  rw [show (3 * i) / 3 = i by omega, show (3 * i) % 3 = 0 by omega, show (3 * i + 1) / 3 = i by omega, show (3 * i + 1) % 3 = 1 by omega, show (3 * i + 2) / 3 = i by omega, show (3 * i + 2) % 3 = 2 by omega, e, nxt_div, prv_div]
  unfold pickN
  generalize l.getD (d / 3) z3 = t
  have hm : d % 3 = 0 ∨ d % 3 = 1 ∨ d % 3 = 2 := by omega
  rcases hm with m | m | m
  · have h1 : nxt d % 3 = 1 := by unfold nxt; split <;> omega
    have h2 : prv d % 3 = 2 := by unfold prv; split <;> omega
    rw [m, h1, h2]; exact ⟨rfl, rfl, rfl⟩
  · have h1 : nxt d % 3 = 2 := by unfold nxt; split <;> omega
    have h2 : prv d % 3 = 0 := by unfold prv; split <;> omega
    rw [m, h1, h2]; exact ⟨rfl, rfl, rfl⟩
  · have h1 : nxt d % 3 = 0 := by unfold nxt; split <;> omega
    have h2 : prv d % 3 = 1 := by unfold prv; split <;> omega
    rw [m, h1, h2]; exact ⟨rfl, rfl, rfl⟩
theorem surf_pick {N : Int} {l : List Tr} {cs : List Nat} (h : Surf N l) (hf : Firsts l cs) : Surf N (cs.map (pickN l)) := by
  have hlen : (cs.map fun c => l.getD (c / 3) z3).length = cs.length := List.length_map _
  have hperm : (cs.map fun c => l.getD (c / 3) z3).Perm l := by
    have e : (cs.map fun c => l.getD (c / 3) z3) = (cs.map (· / 3)).map (fun t => l.getD t z3) := by rw [List.map_map]; rfl
    rw [e]
    conv => rhs; rw [← range_getD l]
    refine List.Perm.map _ ?_
    have hsub : ∀ a ∈ cs.map (· / 3), a ∈ List.range l.length := fun a ha => by
      obtain ⟨c, hc, rfl⟩ := List.mem_map.1 ha
      have := hf.lt c hc
      exact List.mem_range.2 (by omega)
    rw [List.perm_ext_iff_of_nodup hf.one List.nodup_range]
    refine fun a => ⟨hsub a, fun ha => ?_⟩
    have inj : ∀ {x y : List Nat}, x.Nodup → (x.map fun (n : Nat) => (n : Int)).Nodup := fun {x _} hx => by
      rw [List.nodup_iff_pairwise_ne] at *
      rw [List.pairwise_map]
      exact hx.imp fun hne e => hne (by omega)
    have := nodup_all (inj (y := []) hf.one) (b := (List.range l.length).map fun (n : Nat) => (n : Int)) (fun e he => by
      obtain ⟨a, ha, rfl⟩ := List.mem_map.1 he
      exact List.mem_map.2 ⟨a, hsub a ha, rfl⟩) (by simp [hf.len]) (a : Int) (List.mem_map.2 ⟨a, ha, rfl⟩)
    obtain ⟨b, hb, e⟩ := List.mem_map.1 this
    obtain rfl : b = a := by omega
    exact hb
  refine surf_turned (surf_perm hperm h) (by rw [List.length_map, hlen]) fun i hi => ?_
  rw [hlen] at hi
  refine ⟨cs.getD i 0 % 3, ?_⟩
  rw [List.getD_eq_getElem?_getD, List.getD_eq_getElem?_getD, List.getElem?_map, List.getElem?_map, List.getD_eq_getElem?_getD, List.getElem?_eq_getElem hi]
  rfl
end Go.Proofs.Ytmflacmgffpjoaa

/- Layer 10: what is across, where triangles stand in another order and begin with other corners. -/
namespace Go.Proofs.Ytmflacmgffpjoaa

def whereC (cs : List Nat) (c : Nat) : Nat := (cs.map (· / 3)).idxOf (c / 3)
def sC (cs : List Nat) (c : Nat) : Nat := stand (whereC cs c) (cs.getD (whereC cs c) 0) c
theorem firsts_all {l : List Tr} {cs : List Nat} (hf : Firsts l cs) {t : Nat} (ht : t < l.length) : t ∈ cs.map (· / 3) := by
  have inj : ∀ {x : List Nat}, x.Nodup → (x.map fun (n : Nat) => (n : Int)).Nodup := fun {x} hx => by
    rw [List.nodup_iff_pairwise_ne] at *
    rw [List.pairwise_map]
    exact hx.imp fun hne e => hne (by omega)
  have := nodup_all (inj hf.one) (b := (List.range l.length).map fun (n : Nat) => (n : Int)) (fun e he => by
    obtain ⟨a, ha, rfl⟩ := List.mem_map.1 he
    obtain ⟨c, hc, rfl⟩ := List.mem_map.1 ha
    have := hf.lt c hc
    exact List.mem_map.2 ⟨c / 3, List.mem_range.2 (by omega), rfl⟩) (by simp [hf.len]) (t : Int) (List.mem_map.2 ⟨t, List.mem_range.2 ht, rfl⟩)
  obtain ⟨b, hb, e⟩ := List.mem_map.1 this
  obtain rfl : b = t := by omega
  exact hb
theorem whereC_spec {l : List Tr} {cs : List Nat} (hf : Firsts l cs) {c : Nat} (hc : c < 3 * l.length) : whereC cs c < cs.length ∧ cs.getD (whereC cs c) 0 / 3 = c / 3 := by
  have hm := firsts_all hf (show c / 3 < l.length by omega)
  have hi := List.idxOf_lt_length_of_mem hm
  have hi' : whereC cs c < cs.length := by rw [List.length_map] at hi; exact hi
  refine ⟨hi', ?_⟩
  have := List.getElem_idxOf hi
  rw [List.getElem_map] at this
  rw [List.getD_eq_getElem?_getD, List.getElem?_eq_getElem hi']
  exact this
theorem whereC_at {l : List Tr} {cs : List Nat} (hf : Firsts l cs) {i : Nat} (hi : i < cs.length) {c : Nat} (hc : c / 3 = cs.getD i 0 / 3) : whereC cs c = i := by
  unfold whereC
  have hi' : i < (cs.map (· / 3)).length := by rw [List.length_map]; exact hi
  have : (cs.map (· / 3))[i] = c / 3 := by
    rw [List.getElem_map, hc, List.getD_eq_getElem?_getD, List.getElem?_eq_getElem hi]; rfl
  rw [← this]
  exact hf.one.idxOf_getElem i hi'
theorem three_corners {c d : Nat} (h : d / 3 = c / 3) : c = d ∨ c = nxt d ∨ c = prv d := by unfold nxt prv; repeat' split
                                                                                            all_goals omega
theorem nxt_ne (d : Nat) : nxt d ≠ d ∧ prv d ≠ d ∧ prv d ≠ nxt d := by
  refine ⟨?_, ?_, ?_⟩
  · unfold nxt; split <;> omega
  · unfold prv; split <;> omega
  · unfold nxt prv; repeat' split
    all_goals omega
/-- Of each corner its place in what was picked. -/
theorem sC_vals {l : List Tr} {cs : List Nat} (hf : Firsts l cs) {i : Nat} (hi : i < cs.length) : sC cs (cs.getD i 0) = 3 * i ∧ sC cs (nxt (cs.getD i 0)) = 3 * i + 1 ∧ sC cs (prv (cs.getD i 0)) = 3 * i + 2 := by
  have w0 := whereC_at hf hi (c := cs.getD i 0) rfl
  have w1 := whereC_at hf hi (c := nxt (cs.getD i 0)) (nxt_div _)
  have w2 := whereC_at hf hi (c := prv (cs.getD i 0)) (prv_div _)
  obtain ⟨n1, n2, n3⟩ := nxt_ne (cs.getD i 0)
  unfold sC
  rw [w0, w1, w2]
  unfold stand
  exact ⟨if_pos rfl, by rw [if_neg n1, if_pos rfl], by rw [if_neg n2, if_neg n3]⟩
theorem sC_vtx {l : List Tr} {cs : List Nat} (hf : Firsts l cs) {c : Nat} (hc : c < 3 * l.length) : sC cs c < 3 * cs.length ∧ vtx (cs.map (pickN l)) (sC cs c) = vtx l c ∧ nxt (sC cs c) = sC cs (nxt c) := by
  obtain ⟨hi, hd⟩ := whereC_spec hf hc
  obtain ⟨s0, s1, s2⟩ := sC_vals hf hi
  obtain ⟨v0, v1, v2⟩ := pick_vtx (l := l) hi
  generalize whereC cs c = i at hi hd s0 s1 s2 v0 v1 v2
  rcases three_corners hd with e | e | e
  · rw [e, s0, s1]; exact ⟨by omega, v0, by unfold nxt; split <;> omega⟩
  · have : nxt (nxt (cs.getD i 0)) = prv (cs.getD i 0) := (prv_eq _).symm
    rw [e, s1, this, s2]; exact ⟨by omega, v1, by unfold nxt; split <;> omega⟩
  · rw [e, s2, nxt_prv, s0]; exact ⟨by omega, v2, by unfold nxt; split <;> omega⟩
theorem sC_edge {l : List Tr} {cs : List Nat} (hf : Firsts l cs) {c : Nat} (hc : c < 3 * l.length) : edgeC (cs.map (pickN l)) (sC cs c) = edgeC l c := by
  have h0 := sC_vtx hf hc
  have h1 := sC_vtx hf (nxt_lt hc)
  have h2 := sC_vtx hf (nxt_lt (nxt_lt hc))
  unfold edgeC
  rw [prv_eq, prv_eq, h0.2.2, h1.2.2, h1.2.1, h2.2.1]
theorem sC_onto {l : List Tr} {cs : List Nat} (hf : Firsts l cs) {d : Nat} (hd : d < 3 * cs.length) : ∃ c, c < 3 * l.length ∧ sC cs c = d := by
  have hi : d / 3 < cs.length := by omega
  obtain ⟨s0, s1, s2⟩ := sC_vals hf hi
  have hlt : cs.getD (d / 3) 0 < 3 * l.length := hf.lt _ (by rw [List.getD_eq_getElem?_getD, List.getElem?_eq_getElem hi]; exact List.getElem_mem hi)
  have hm : d % 3 = 0 ∨ d % 3 = 1 ∨ d % 3 = 2 := by omega
  rcases hm with m | m | m
  · exact ⟨_, hlt, s0.trans (by omega)⟩
  · exact ⟨_, nxt_lt hlt, s1.trans (by omega)⟩
  · exact ⟨_, prv_lt hlt, s2.trans (by omega)⟩
theorem opp_pick {N : Int} {l : List Tr} {cs : List Nat} (h : Surf N l) (hf : Firsts l cs) {c : Nat} (hc : c < 3 * l.length) : (oppC l c = -1 ∧ oppC (cs.map (pickN l)) (sC cs c) = -1) ∨ ∃ o : Nat, o < 3 * l.length ∧ oppC l c = (o : Int) ∧ oppC (cs.map (pickN l)) (sC cs c) = ((sC cs o : Nat) : Int) :=
  opp_map (p := fun e => e) (surf_pick h hf) (fun c hc => ⟨by rw [List.length_map]; exact (sC_vtx hf hc).1, sC_edge hf hc⟩) (fun d hd => sC_onto hf (by rwa [List.length_map] at hd)) (fun _ _ _ h => h) (fun _ => rfl) hc
end Go.Proofs.Ytmflacmgffpjoaa

/- Layer 10: pure words for its laws: surfaces fit; renaming by a list is renaming by a function; picking by corners. -/
namespace Go.Proofs.Ytmflacmgffpjoaa

theorem surf_fit {N : Int} {l : List Tr} (h : Surf N l) : Fit N l := ⟨h.n0, h.n1, h.t1, fun t ht => by
  obtain ⟨h0, h1, h2⟩ := h.inb t ht
  have hn := h.noloop t ht
  unfold loopT at hn
  exact ⟨h0, h1, h2, fun e => hn (by simp [e]), fun e => hn (by simp [e]), fun e => hn (by simp [e])⟩⟩
/-- A list of all numbers below N, as a function, and back. -/
def toF (N : Int) (to : List Int) (x : Int) : Int := if inN N x then to.getD x.toNat 0 else x
def toG (N : Int) (to : List Int) (x : Int) : Int := if inN N x then ((to.idxOf x : Nat) : Int) else x
theorem toF_in {N : Int} {to : List Int} (hp : IsPerm N to) (x : Int) : inN N (toF N to x) ↔ inN N x := by
  unfold toF
  by_cases h : inN N x
  · rw [if_pos h]
    exact ⟨fun _ => h, fun _ => hp.2.1 _ (getDi_mem (by have := hp.1; have := h.1; have := h.2; omega))⟩
  · rw [if_neg h]
theorem toG_toF {N : Int} {to : List Int} (hp : IsPerm N to) (x : Int) : toG N to (toF N to x) = x := by
  by_cases h : inN N x
  · have h2 := (toF_in hp x).2 h
    unfold toG
    rw [if_pos h2]
    unfold toF
    rw [if_pos h]
    have hl : x.toNat < to.length := by have := hp.1; have := h.1; have := h.2; omega
    rw [List.getD_eq_getElem?_getD, List.getElem?_eq_getElem hl, Option.getD_some, hp.2.2.idxOf_getElem]
    have := h.1
    omega
  · have e : toF N to x = x := by unfold toF; rw [if_neg h]
    rw [e]; unfold toG; rw [if_neg h]
theorem perm_all {N : Int} {to : List Int} (hp : IsPerm N to) {x : Int} (h : inN N x) : x ∈ to := by
  refine nodup_all hp.2.2 (b := (List.range to.length).map fun (n : Nat) => (n : Int)) (fun e he => ?_) (by simp) x ?_
  · obtain ⟨h1, h2⟩ := hp.2.1 e he
    exact List.mem_map.2 ⟨e.toNat, List.mem_range.2 (by have := hp.1; omega), by omega⟩
  · exact List.mem_map.2 ⟨x.toNat, List.mem_range.2 (by have := hp.1; have := h.1; have := h.2; omega), by have := h.1; omega⟩
theorem toF_toG {N : Int} {to : List Int} (hp : IsPerm N to) (x : Int) : toF N to (toG N to x) = x := by
  by_cases h : inN N x
  · have hm := perm_all hp h
    have hi := List.idxOf_lt_length_of_mem hm
    have e : toG N to x = ((to.idxOf x : Nat) : Int) := by unfold toG; rw [if_pos h]
    rw [e]
    unfold toF
    rw [if_pos ⟨by omega, by have := hp.1; omega⟩, Int.toNat_natCast, List.getD_eq_getElem?_getD, List.getElem?_eq_getElem hi, Option.getD_some, List.getElem_idxOf]
  · have e : toG N to x = x := by unfold toG; rw [if_neg h]
    rw [e]; unfold toF; rw [if_neg h]
theorem ren_map {N : Int} {to : List Int} {l : List Tr} (h : Surf N l) : l.map (renT to) = l.map (mapT (toF N to)) := List.map_congr_left fun t ht => by
  obtain ⟨h0, h1, h2⟩ := h.inb t ht
  unfold renT mapT toF
  rw [if_pos h0, if_pos h1, if_pos h2]
theorem surf_ren {N : Int} {to : List Int} {l : List Tr} (h : Surf N l) (hp : IsPerm N to) : Surf N (l.map (renT to)) := by
  rw [ren_map h]
  exact surf_numbered (toG_toF hp) (toF_toG hp) (toF_in hp) (List.Perm.refl _) h
theorem opp_ren {N : Int} {to : List Int} {l : List Tr} (h : Surf N l) (hp : IsPerm N to) {c : Nat} (hc : c < 3 * l.length) : oppC (l.map (renT to)) c = oppC l c := by
  have hs := surf_ren h hp
  rw [ren_map h] at hs ⊢
  exact opp_renamed (toG_toF hp) hs hc
theorem vtx_inN {N : Int} {l : List Tr} (h : Surf N l) {k : Nat} (hk : k < 3 * l.length) : inN N (vtx l k) := by
  obtain ⟨h0, h1, h2⟩ := h.inb _ (getD3_mem (show k / 3 < l.length by omega))
  unfold vtx cor3
  split
  · exact h0
  · split
    · exact h1
    · exact h2
theorem vtx_ren {N : Int} {to : List Int} {l : List Tr} (h : Surf N l) {c : Nat} (hc : c < 3 * l.length) : vtx (l.map (renT to)) c = to.getD (vtx l c).toNat 0 := by
  rw [ren_map h, vtx_map _ hc]
  unfold toF
  rw [if_pos (vtx_inN h hc)]
end Go.Proofs.Ytmflacmgffpjoaa

/- Layer 11: numbers in a ring or in a row: a step that is one-to-one leads from the first one through all that hang together. -/
namespace Go.Proofs.Ytmflacmgffpjoaa

/-- A row of numbers, each the step of the one before it. -/
structure Chain (T : Nat → Option Nat) (C : List Nat) (c0 : Nat) (L : List Nat) : Prop where
  ne : 0 < L.length
  hd : L.getD 0 0 = c0
  nd : L.Nodup
  sub : ∀ x ∈ L, x ∈ C
  st : ∀ i, i + 1 < L.length → T (L.getD i 0) = some (L.getD (i + 1) 0)
theorem getDn_mem {l : List Nat} {i : Nat} (h : i < l.length) : l.getD i 0 ∈ l := by
  rw [List.getD_eq_getElem?_getD, List.getElem?_eq_getElem h]; exact List.getElem_mem h
theorem memn_getD {l : List Nat} {x : Nat} (h : x ∈ l) : ∃ i, i < l.length ∧ l.getD i 0 = x := by
  obtain ⟨i, hi, rfl⟩ := List.mem_iff_getElem.1 h
  exact ⟨i, hi, by rw [List.getD_eq_getElem?_getD, List.getElem?_eq_getElem hi]; rfl⟩
theorem nodup_at {l : List Nat} (h : l.Nodup) {i j : Nat} (hi : i < l.length) (hj : j < l.length) (e : l.getD i 0 = l.getD j 0) : i = j := by
  rw [List.getD_eq_getElem?_getD, List.getD_eq_getElem?_getD, List.getElem?_eq_getElem hi, List.getElem?_eq_getElem hj] at e
  have e : l[i] = l[j] := e
  rw [← h.idxOf_getElem i hi, ← h.idxOf_getElem j hj, e]
theorem nodup_subN {a b : List Nat} (ha : a.Nodup) (h : ∀ e ∈ a, e ∈ b) : a.length ≤ b.length := by
  have inj : (a.map fun (n : Nat) => (n : Int)).Nodup := by
    rw [List.nodup_iff_pairwise_ne] at *
    rw [List.pairwise_map]
    exact ha.imp fun hne e => hne (by omega)
  have := nodup_sub inj (b := b.map fun (n : Nat) => (n : Int)) (fun e he => by
    obtain ⟨x, hx, rfl⟩ := List.mem_map.1 he
    exact List.mem_map.2 ⟨x, h x hx, rfl⟩)
  simpa using this
theorem nodup_allN {a b : List Nat} (ha : a.Nodup) (h : ∀ e ∈ a, e ∈ b) (hl : b.length ≤ a.length) : ∀ e ∈ b, e ∈ a := by
  intro e he
  refine Classical.byContradiction fun hn => ?_
  have := nodup_subN (a := e :: a) (b := b) (List.nodup_cons.2 ⟨hn, ha⟩) (fun x hx => by
    rcases List.mem_cons.1 hx with rfl | hx
    · exact he
    · exact h x hx)
  simp only [List.length_cons] at this
  omega
theorem Chain.more {T : Nat → Option Nat} {C : List Nat} {c0 : Nat} {L : List Nat} (h : Chain T C c0 L) {y : Nat} (hT : T (L.getD (L.length - 1) 0) = some y) (hy : y ∈ C) (hn : y ∉ L) : Chain T C c0 (L ++ [y]) := by
  have hne := h.ne
  have g1 : ∀ i, i < L.length → (L ++ [y]).getD i 0 = L.getD i 0 := fun i hi => by
    rw [List.getD_eq_getElem?_getD, List.getD_eq_getElem?_getD, List.getElem?_append_left hi]
  have g2 : (L ++ [y]).getD L.length 0 = y := by
    rw [List.getD_eq_getElem?_getD, List.getElem?_append_right (Nat.le_refl _), Nat.sub_self]; rfl
  refine ⟨by simp, by rw [g1 0 hne]; exact h.hd, ?_, fun x hx => ?_, fun i hi => ?_⟩
  · rw [List.nodup_append]
    refine ⟨h.nd, by simp, fun a ha b hb e => ?_⟩
    rw [List.mem_singleton.1 hb] at e
    exact hn (e ▸ ha)
  · rcases List.mem_append.1 hx with h1 | h1
    · exact h.sub x h1
    · rw [List.mem_singleton.1 h1]; exact hy
  · rw [List.length_append, List.length_singleton] at hi
    rw [g1 i (by omega)]
    by_cases hc : i + 1 < L.length
    · rw [g1 _ hc]; exact h.st i hc
    · obtain rfl : i = L.length - 1 := by omega
      rw [show L.length - 1 + 1 = L.length by omega, g2]
      exact hT
/-- A row that goes no further: its last one has no step, or one to the first. -/
theorem chain_full {T : Nat → Option Nat} {C : List Nat} {c0 : Nat} (hcl : ∀ x ∈ C, ∀ y, T x = some y → y ∈ C) (hinj : ∀ x ∈ C, ∀ x' ∈ C, ∀ y, T x = some y → T x' = some y → x = x') : ∀ (k : Nat) (L : List Nat), Chain T C c0 L → C.length - L.length = k → ∃ L', Chain T C c0 L' ∧ (T (L'.getD (L'.length - 1) 0) = none ∨ T (L'.getD (L'.length - 1) 0) = some c0) := by
  intro k
  induction k using Nat.strongRecOn with
  | _ k ih =>
    intro L h hk
    have hne := h.ne
    have hlast : L.getD (L.length - 1) 0 ∈ L := getDn_mem (by omega)
    cases hT : T (L.getD (L.length - 1) 0) with
    | none => exact ⟨L, h, .inl hT⟩
    | some y =>
      have hyC := hcl _ (h.sub _ hlast) y hT
      by_cases hyL : y ∈ L
      · obtain ⟨j, hj, rfl⟩ := memn_getD hyL
        refine ⟨L, h, .inr ?_⟩
        rcases Nat.eq_zero_or_pos j with rfl | h0
        · rw [hT, h.hd]
        · exfalso
          obtain ⟨i, rfl⟩ : ∃ i, j = i + 1 := ⟨j - 1, by omega⟩
          have := hinj _ (h.sub _ (getDn_mem (show i < L.length by omega))) _ (h.sub _ hlast) _ (h.st i hj) hT
          have := nodup_at h.nd (by omega) (by omega) this
          omega
      · have h' := h.more hT hyC hyL
        have hle := nodup_subN h'.nd h'.sub
        rw [List.length_append, List.length_singleton] at hle
        exact ih (C.length - (L ++ [y]).length) (by rw [List.length_append, List.length_singleton]; omega) _ h' rfl
/-- All in one row: where what hangs together is all, and the row begins where nothing leads to, if there is such a place. -/
theorem chain_all {T : Nat → Option Nat} {C : List Nat} {c0 : Nat} (hcl : ∀ x ∈ C, ∀ y, T x = some y → y ∈ C) (hinj : ∀ x ∈ C, ∀ x' ∈ C, ∀ y, T x = some y → T x' = some y → x = x') (hC : C.Nodup) (h0 : c0 ∈ C)
    (hcon : ∀ P : Nat → Prop, P c0 → (∀ x ∈ C, ∀ y, T x = some y → (P x ↔ P y)) → ∀ x ∈ C, P x) (hst : (∀ x ∈ C, T x ≠ some c0) ∨ ∀ y ∈ C, ∃ x ∈ C, T x = some y) :
    ∃ L, Chain T C c0 L ∧ (∀ x, x ∈ L ↔ x ∈ C) ∧ L.length = C.length ∧ ((∀ x ∈ C, T x ≠ some c0) → T (L.getD (L.length - 1) 0) = none) ∧ ((∀ y ∈ C, ∃ x ∈ C, T x = some y) → T (L.getD (L.length - 1) 0) = some c0) := by
  have hc1 : Chain T C c0 [c0] := ⟨by simp, rfl, by simp, fun x hx => by rw [List.mem_singleton.1 hx]; exact h0, fun i hi => by simp at hi⟩
  obtain ⟨L, hL, hend⟩ := chain_full (c0 := c0) hcl hinj _ [c0] hc1 rfl
  have hne := hL.ne
  have hlast : L.getD (L.length - 1) 0 ∈ L := getDn_mem (by omega)
  -- where each has one that leads to it, each leads to one
  have total : (∀ y ∈ C, ∃ x ∈ C, T x = some y) → T (L.getD (L.length - 1) 0) = some c0 := by
    intro hall
    rcases hend with h | h
    · exfalso
      obtain ⟨g, hg⟩ := Classical.axiomOfChoice (fun y : {y // y ∈ C} => hall y.1 y.2)
      have nd : (C.attach.map g).Nodup := by
        rw [List.nodup_iff_pairwise_ne, List.pairwise_map]
        have : C.attach.Nodup := by
          have : (C.attach.map Subtype.val).Nodup := by rw [List.attach_map_subtype_val]; exact hC
          rw [List.nodup_iff_pairwise_ne] at *
          rw [List.pairwise_map] at this
          exact this.imp fun hne e => hne (by rw [e])
        rw [List.nodup_iff_pairwise_ne] at this
        refine this.imp fun {a b} hne e => hne (Subtype.ext ?_)
        have h1 := (hg a).2
        have h2 := (hg b).2
        rw [e, h2] at h1
        exact (Option.some.inj h1).symm
      have := nodup_allN nd (b := C) (fun e he => by
        obtain ⟨y, _, rfl⟩ := List.mem_map.1 he
        exact (hg y).1) (by simp) _ (hL.sub _ hlast)
      obtain ⟨y, _, e⟩ := List.mem_map.1 this
      have h1 := (hg y).2
      rw [e, h] at h1
      cases h1
    · exact h
  have mem : ∀ x ∈ C, x ∈ L := by
    refine hcon (fun x => x ∈ L) (by have := getDn_mem hne; rwa [hL.hd] at this) fun x hx y hT => ?_
    constructor
    · intro hxL
      obtain ⟨i, hi, rfl⟩ := memn_getD hxL
      by_cases hc : i + 1 < L.length
      · rw [hL.st i hc] at hT
        rw [← Option.some.inj hT]
        exact getDn_mem hc
      · obtain rfl : i = L.length - 1 := by omega
        rcases hend with h | h
        · rw [h] at hT; cases hT
        · rw [h] at hT
          rw [← Option.some.inj hT]
          have := getDn_mem hne
          rwa [hL.hd] at this
    · intro hyL
      obtain ⟨i, hi, rfl⟩ := memn_getD hyL
      rcases Nat.eq_zero_or_pos i with rfl | hp
      · rw [hL.hd] at hT
        rcases hst with h | h
        · exact absurd hT (h x hx)
        · rw [hinj x hx _ (hL.sub _ hlast) _ hT (total h)]
          exact hlast
      · obtain ⟨j, rfl⟩ : ∃ j, i = j + 1 := ⟨i - 1, by omega⟩
        have hj := getDn_mem (show j < L.length by omega)
        rw [hinj x hx _ (hL.sub _ hj) _ hT (hL.st j hi)]
        exact hj
  have hmem : ∀ x, x ∈ L ↔ x ∈ C := fun x => ⟨hL.sub x, mem x⟩
  refine ⟨L, hL, hmem, Nat.le_antisymm (nodup_subN hL.nd hL.sub) (nodup_subN hC mem), fun hno => ?_, total⟩
  rcases hend with h | h
  · exact h
  · exact absurd h (hno _ (hL.sub _ hlast))
/-- There is but one such row. -/
theorem chain_one {T : Nat → Option Nat} {C : List Nat} {c0 : Nat} {L M : List Nat} (hL : Chain T C c0 L) (hM : Chain T C c0 M) (hl : L.length = M.length) : L = M := by
  have key : ∀ i, i < L.length → L.getD i 0 = M.getD i 0 := by
    intro i
    induction i with
    | zero => intro _; rw [hL.hd, hM.hd]
    | succ i ih =>
      intro hi
      have h1 := hL.st i hi
      have h2 := hM.st i (by omega)
      rw [ih (by omega), h2] at h1
      exact (Option.some.inj h1).symm
  exact ext_getD hl key
end Go.Proofs.Ytmflacmgffpjoaa

/- Layer 11: the corners around a vertex of a surface. -/
namespace Go.Proofs.Ytmflacmgffpjoaa

def cAt (l : List Tr) (v : Int) : List Nat := (List.range (3 * l.length)).filter fun c => decide (vtx l c = v)
theorem cAt_mem {l : List Tr} {v : Int} {c : Nat} : c ∈ cAt l v ↔ c < 3 * l.length ∧ vtx l c = v := by
  unfold cAt
  rw [List.mem_filter, List.mem_range, decide_eq_true_iff]
theorem cAt_nodup (l : List Tr) (v : Int) : (cAt l v).Nodup := by
  rw [List.nodup_iff_pairwise_ne]
  exact List.Pairwise.filter _ (List.pairwise_lt_range.imp fun h => by omega)
/-- The next corner around its vertex: over the edge to the vertex at Prev. -/
def turnC (l : List Tr) (c : Nat) : Option Nat := if oppC l (nxt c) < 0 then none else some (nxt (oppC l (nxt c)).toNat)
theorem edge_nxt (l : List Tr) (c : Nat) : edgeC l (nxt c) = (vtx l (prv c), vtx l c) := by
  unfold edgeC
  rw [prv_nxt, ← prv_eq]
theorem edge_prv (l : List Tr) (c : Nat) : edgeC l (prv c) = (vtx l c, vtx l (nxt c)) := by
  unfold edgeC
  rw [nxt_prv, prv_eq, prv_eq, nxt3]
theorem turn_iff {N : Int} {l : List Tr} (h : Surf N l) {c d : Nat} (_hc : c < 3 * l.length) : turnC l c = some d ↔ d < 3 * l.length ∧ vtx l d = vtx l c ∧ vtx l (nxt d) = vtx l (prv c) := by
  unfold turnC
  have hf : oppC l (nxt c) = facing l (vtx l c, vtx l (prv c)) := by unfold oppC; rw [edge_nxt]
  rw [hf]
  constructor
  · intro hT
    rcases facing_cases l (vtx l c, vtx l (prv c)) with e | ⟨o, e, ho, heo⟩
    · rw [e] at hT; cases hT
    · rw [e, if_neg (by omega), show ((o : Int)).toNat = o from rfl] at hT
      obtain rfl := Option.some.inj hT
      refine ⟨nxt_lt ho, ?_, ?_⟩
      · exact congrArg Prod.fst heo
      · have := congrArg Prod.snd heo
        unfold edgeC at this
        rw [prv_eq] at this
        exact this
  · rintro ⟨hd, h1, h2⟩
    have := facing_edge h (prv_lt hd)
    rw [edge_prv, h1, h2] at this
    rw [this, if_neg (by omega), show (((prv d : Nat) : Int)).toNat = prv d from rfl, nxt_prv]
theorem turn_none {l : List Tr} {c : Nat} : turnC l c = none ↔ oppC l (nxt c) = -1 := by
  unfold turnC
  have : oppC l (nxt c) = -1 ∨ 0 ≤ oppC l (nxt c) := by
    unfold oppC
    rcases facing_cases l ((edgeC l (nxt c)).2, (edgeC l (nxt c)).1) with e | ⟨o, e, _, _⟩
    · exact .inl e
    · right; rw [e]; omega
  rcases this with e | e
  · rw [e]; exact ⟨fun _ => rfl, fun _ => rfl⟩
  · rw [if_neg (by omega)]
    exact ⟨fun h => (by cases h), fun h => by omega⟩
/-- One leads to a corner just if there is a triangle over the edge to the vertex at Next. -/
theorem turn_from {N : Int} {l : List Tr} (h : Surf N l) {v : Int} {d : Nat} (hd : d ∈ cAt l v) : (∃ c ∈ cAt l v, turnC l c = some d) ↔ oppC l (prv d) ≠ -1 := by
  obtain ⟨hd1, hd2⟩ := cAt_mem.1 hd
  have hf : oppC l (prv d) = facing l (vtx l (nxt d), vtx l d) := by unfold oppC; rw [edge_prv]
  rw [hf]
  constructor
  · rintro ⟨c, hc, hT⟩
    obtain ⟨hc1, hc2⟩ := cAt_mem.1 hc
    obtain ⟨_, g1, g2⟩ := (turn_iff h hc1).1 hT
    have := facing_edge h (nxt_lt hc1)
    rw [edge_nxt, ← g1, ← g2] at this
    rw [this]
    omega
  · intro hne
    rcases facing_cases l (vtx l (nxt d), vtx l d) with e | ⟨o, e, ho, heo⟩
    · exact absurd e hne
    · have e2 : vtx l (prv o) = vtx l d := congrArg Prod.snd heo
      have e1 : vtx l (nxt o) = vtx l (nxt d) := congrArg Prod.fst heo
      refine ⟨prv o, cAt_mem.2 ⟨prv_lt ho, e2.trans hd2⟩, (turn_iff h (prv_lt ho)).2 ⟨hd1, e2.symm, ?_⟩⟩
      rw [prv_eq, prv_eq, nxt3]
      exact e1.symm
/-- In a surface a triangle has one corner at a vertex. -/
theorem corner_one {N : Int} {l : List Tr} (h : Surf N l) {c d : Nat} (hc : c < 3 * l.length) (he : c / 3 = d / 3) (hv : vtx l c = vtx l d) : c = d := by
  have hn := h.noloop _ (getD3_mem (show c / 3 < l.length by omega))
  unfold vtx at hv
  rw [← he] at hv
  generalize l.getD (c / 3) z3 = t at hn hv
  obtain ⟨x, y, z⟩ := t
  simp only [loopT] at hn
  have hcm : c % 3 = 0 ∨ c % 3 = 1 ∨ c % 3 = 2 := by omega
  have hdm : d % 3 = 0 ∨ d % 3 = 1 ∨ d % 3 = 2 := by omega
  rcases hcm with m | m | m <;> rcases hdm with k | k | k <;> rw [m, k] at hv <;> simp [cor3] at hv <;> omega
theorem hasV_corner {l : List Tr} {t : Nat} (ht : t < l.length) {v : Int} (h : hasV (l.getD t z3) v) : ∃ c ∈ cAt l v, c / 3 = t := by
  have d0 : (3 * t) / 3 = t := by omega
  have d1 : (3 * t + 1) / 3 = t := by omega
  have d2 : (3 * t + 2) / 3 = t := by omega
  have m0 : (3 * t) % 3 = 0 := by omega
  have m1 : (3 * t + 1) % 3 = 1 := by omega
  have m2 : (3 * t + 2) % 3 = 2 := by omega
  rcases h with h | h | h
  · exact ⟨3 * t, cAt_mem.2 ⟨by omega, by unfold vtx; rw [d0, m0]; exact h⟩, d0⟩
  · exact ⟨3 * t + 1, cAt_mem.2 ⟨by omega, by unfold vtx; rw [d1, m1]; exact h⟩, d1⟩
  · exact ⟨3 * t + 2, cAt_mem.2 ⟨by omega, by unfold vtx; rw [d2, m2]; exact h⟩, d2⟩
/-- All vertices of a corner's triangle. -/
theorem corner_tri {l : List Tr} (a : Nat) {v : Int} (hh : hasV (l.getD (a / 3) z3) v) : v = vtx l a ∨ v = vtx l (nxt a) ∨ v = vtx l (prv a) := by
  unfold vtx
  simp only [nxt_div, prv_div]
  generalize l.getD (a / 3) z3 = t at hh
  have hm : a % 3 = 0 ∨ a % 3 = 1 ∨ a % 3 = 2 := by omega
  have key : (a % 3 = 0 → nxt a % 3 = 1 ∧ prv a % 3 = 2) ∧ (a % 3 = 1 → nxt a % 3 = 2 ∧ prv a % 3 = 0) ∧ (a % 3 = 2 → nxt a % 3 = 0 ∧ prv a % 3 = 1) := by
    unfold nxt prv
    refine ⟨fun h => ?_, fun h => ?_, fun h => ?_⟩ <;> simp only [h] <;> constructor <;> simp <;> omega
  rcases hm with m | m | m
  · rw [m, (key.1 m).1, (key.1 m).2]; rcases hh with g | g | g <;> simp [cor3, g]
  · rw [m, (key.2.1 m).1, (key.2.1 m).2]; rcases hh with g | g | g <;> simp [cor3, g]
  · rw [m, (key.2.2 m).1, (key.2.2 m).2]; rcases hh with g | g | g <;> simp [cor3, g]
/-- All corners at a vertex hang together by turns. -/
theorem turn_conn {N : Int} {l : List Tr} (h : Surf N l) {v : Int} {c0 : Nat} (h0 : c0 ∈ cAt l v) (P : Nat → Prop) (hP0 : P c0) (hP : ∀ x ∈ cAt l v, ∀ y, turnC l x = some y → (P x ↔ P y)) : ∀ x ∈ cAt l v, P x := by
  intro x hx
  obtain ⟨h01, h02⟩ := cAt_mem.1 h0
  obtain ⟨hx1, hx2⟩ := cAt_mem.1 hx
  have mem3 : ∀ {c : Nat}, c < 3 * l.length → l.getD (c / 3) z3 ∈ l := fun hc => getD3_mem (by omega)
  have hasVc : ∀ c, hasV (l.getD (c / 3) z3) (vtx l c) := fun c => cor3_hasV _ _
  have hv : inN N v := by
    have := has_in h.inb (mem3 h01) (hasVc c0)
    rwa [h02] at this
  obtain ⟨c, hc, e, hPc⟩ := h.conn v hv (fun t => ∃ c ∈ cAt l v, l.getD (c / 3) z3 = t ∧ P c) ⟨_, mem3 h01, by have := hasVc c0; rwa [h02] at this, c0, h0, rfl, hP0⟩ (fun t ht u hu htv huv hQ hadj => by
    obtain ⟨c, hc, rfl, hPc⟩ := hQ
    obtain ⟨j, hj, rfl⟩ := mem3_getD hu
    obtain ⟨d, hd, rfl⟩ := hasV_corner hj huv
    obtain ⟨hc1, hc2⟩ := cAt_mem.1 hc
    obtain ⟨hd1, hd2⟩ := cAt_mem.1 hd
    refine ⟨d, hd, rfl, ?_⟩
    by_cases hcd : c / 3 = d / 3
    · rw [← corner_one h hc1 hcd (hc2.trans hd2.symm)]; exact hPc
    obtain ⟨w, hw, w1, w2⟩ := hadj
    have hnt := notwice_ne h.notwice (show c / 3 < l.length by omega) hj hcd
    have ec : hasE (l.getD (c / 3) z3) v (vtx l (nxt c)) ∧ hasE (l.getD (c / 3) z3) (vtx l (prv c)) v := by
      have g1 := edgeC_has l (prv c)
      have g2 := edgeC_has l (nxt c)
      rw [prv_div, edge_prv, hc2] at g1
      rw [nxt_div, edge_nxt, hc2] at g2
      exact ⟨g1, g2⟩
    have ed : hasE (l.getD (d / 3) z3) v (vtx l (nxt d)) ∧ hasE (l.getD (d / 3) z3) (vtx l (prv d)) v := by
      have g1 := edgeC_has l (prv d)
      have g2 := edgeC_has l (nxt d)
      rw [prv_div, edge_prv, hd2] at g1
      rw [nxt_div, edge_nxt, hd2] at g2
      exact ⟨g1, g2⟩
    rcases corner_tri c w1 with e1 | e1 | e1
    · exact absurd (e1.trans hc2) hw
    · rcases corner_tri d w2 with e2 | e2 | e2
      · exact absurd (e2.trans hd2) hw
      · exact absurd (twice_iff.2 ⟨v, w, by rw [e1]; exact ec.1, by rw [e2]; exact ed.1⟩) hnt
      · exact (hP d hd c ((turn_iff h hd1).2 ⟨hc1, hc2.trans hd2.symm, e1.symm.trans e2⟩)).2 hPc
    · rcases corner_tri d w2 with e2 | e2 | e2
      · exact absurd (e2.trans hd2) hw
      · exact (hP c hc d ((turn_iff h hc1).2 ⟨hd1, hd2.trans hc2.symm, e2.symm.trans e1⟩)).1 hPc
      · exact absurd (twice_iff.2 ⟨w, v, by rw [e1]; exact ec.2, by rw [e2]; exact ed.2⟩) hnt) _ (mem3 hx1) (by have := hasVc x; rwa [hx2] at this)
  obtain ⟨hc1, hc2⟩ := cAt_mem.1 hc
  have : c / 3 = x / 3 := Classical.byContradiction fun hne => notwice_ne h.notwice (show c / 3 < l.length by omega) (show x / 3 < l.length by omega) hne (by rw [e]; exact twice_self _)
  rw [← corner_one h hc1 this (hc2.trans hx2.symm)]
  exact hPc
/-- The first corner around a vertex: the one over whose edge to the vertex at Next there is nothing; else the least. -/
def IsFirst (l : List Tr) (v : Int) (c : Nat) : Prop := c ∈ cAt l v ∧ (oppC l (prv c) = -1 ∨ ((∀ d ∈ cAt l v, oppC l (prv d) ≠ -1) ∧ ∀ d ∈ cAt l v, c ≤ d))
/-- The corners around a vertex, in their order. -/
structure IsAround (l : List Tr) (v : Int) (c0 : Nat) (L : List Nat) : Prop where
  chain : Chain (turnC l) (cAt l v) c0 L
  all : ∀ x, x ∈ L ↔ x ∈ cAt l v
  len : L.length = (cAt l v).length
  out : oppC l (prv c0) = -1 → turnC l (L.getD (L.length - 1) 0) = none
  inn : oppC l (prv c0) ≠ -1 → turnC l (L.getD (L.length - 1) 0) = some c0
theorem around_exists {N : Int} {l : List Tr} (h : Surf N l) {v : Int} {c0 : Nat} (hf : IsFirst l v c0) : ∃ L, IsAround l v c0 L := by
  obtain ⟨h0, hb⟩ := hf
  have hcl : ∀ x ∈ cAt l v, ∀ y, turnC l x = some y → y ∈ cAt l v := fun x hx y hT => by
    obtain ⟨hx1, hx2⟩ := cAt_mem.1 hx
    obtain ⟨g1, g2, _⟩ := (turn_iff h hx1).1 hT
    exact cAt_mem.2 ⟨g1, g2.trans hx2⟩
  have hinj : ∀ x ∈ cAt l v, ∀ x' ∈ cAt l v, ∀ y, turnC l x = some y → turnC l x' = some y → x = x' := fun x hx x' hx' y hT hT' => by
    obtain ⟨hx1, hx2⟩ := cAt_mem.1 hx
    obtain ⟨hy1, hy2⟩ := cAt_mem.1 hx'
    obtain ⟨_, _, g⟩ := (turn_iff h hx1).1 hT
    obtain ⟨_, _, g'⟩ := (turn_iff h hy1).1 hT'
    have e : edgeC l (nxt x) = edgeC l (nxt x') := by rw [edge_nxt, edge_nxt, hx2, hy2, ← g, ← g']
    have := edgeC_inj h (nxt_lt hx1) (nxt_lt hy1) e
    rw [← prv_nxt x, this, prv_nxt]
  have hst : (∀ x ∈ cAt l v, turnC l x ≠ some c0) ∨ ∀ y ∈ cAt l v, ∃ x ∈ cAt l v, turnC l x = some y := by
    rcases hb with hb | ⟨hb, _⟩
    · exact .inl fun x hx hT => (turn_from h h0).1 ⟨x, hx, hT⟩ hb
    · exact .inr fun y hy => (turn_from h hy).2 (hb y hy)
  obtain ⟨L, h1, h2, h3, h4, h5⟩ := chain_all hcl hinj (cAt_nodup l v) h0 (turn_conn h h0) hst
  refine ⟨L, h1, h2, h3, fun hb' => h4 fun x hx hT => (turn_from h h0).1 ⟨x, hx, hT⟩ hb', fun hb' => ?_⟩
  rcases hb with hb | ⟨hb, _⟩
  · exact absurd hb hb'
  · exact h5 fun y hy => (turn_from h hy).2 (hb y hy)
theorem IsAround.one {l : List Tr} {v : Int} {c0 : Nat} {L M : List Nat} (h : IsAround l v c0 L) (h' : IsAround l v c0 M) : L = M := chain_one h.chain h'.chain (h.len.trans h'.len.symm)
end Go.Proofs.Ytmflacmgffpjoaa

/- Layer 11: the document's words for rings, as plain numbers: the triangle that has a directed edge, a vertex's corner in a triangle, the corners around a vertex. -/
namespace Go.Proofs.Ytmflacmgffpjoaa

/-- The triangle that has the directed edge from a to b, the first one; -1: none has. -/
def withC (l : List Tr) (a b : Int) : Int := if findC (3 * l.length) (fun j => decide (vtx l j = a ∧ vtx l (nxt j) = b)) < 0 then -1 else findC (3 * l.length) (fun j => decide (vtx l j = a ∧ vtx l (nxt j) = b)) / 3
/-- The corner of a vertex in a triangle. -/
def atC (l : List Tr) (t : Nat) (v : Int) : Int := if vtx l (3 * t) = v then ((3 * t : Nat) : Int) else if vtx l (3 * t + 1) = v then ((3 * t + 1 : Nat) : Int) else if vtx l (3 * t + 2) = v then ((3 * t + 2 : Nat) : Int) else -1
theorem withC_none {l : List Tr} {a b : Int} (h : ∀ j, j < 3 * l.length → ¬ (vtx l j = a ∧ vtx l (nxt j) = b)) : withC l a b = -1 := by
  unfold withC
  rw [findC_none.2 fun c hc => decide_eq_false (h c hc), if_pos (by omega)]
theorem withC_at {l : List Tr} {a b : Int} {j : Nat} (hj : j < 3 * l.length) (h : vtx l j = a ∧ vtx l (nxt j) = b) (hf : ∀ i, i < j → ¬ (vtx l i = a ∧ vtx l (nxt i) = b)) : withC l a b = ((j / 3 : Nat) : Int) := by
  unfold withC
  rw [findC_spec.2 ⟨hj, decide_eq_true h, fun i hi => decide_eq_false (hf i hi)⟩, if_neg (by omega)]
  omega
theorem withC_cases (l : List Tr) (a b : Int) : (withC l a b = -1 ∧ facing l (a, b) = -1) ∨ ∃ j : Nat, j < 3 * l.length ∧ vtx l j = a ∧ vtx l (nxt j) = b ∧ withC l a b = ((j / 3 : Nat) : Int) ∧ ∃ o : Nat, facing l (a, b) = (o : Int) := by
  rcases findC_cases (3 * l.length) (fun j => decide (vtx l j = a ∧ vtx l (nxt j) = b)) with h | ⟨j, h, hj, hp⟩
  · refine .inl ⟨by unfold withC; rw [h, if_pos (by omega)], ?_⟩
    rcases facing_cases l (a, b) with g | ⟨o, _, ho, heo⟩
    · exact g
    · exfalso
      have := findC_none.1 h (nxt o) (nxt_lt ho)
      rw [decide_eq_false_iff_not] at this
      refine this ⟨congrArg Prod.fst heo, ?_⟩
      rw [← prv_eq]; exact congrArg Prod.snd heo
  · have hp := of_decide_eq_true hp
    refine .inr ⟨j, hj, hp.1, hp.2, by unfold withC; rw [h, if_neg (by omega)]; omega, ?_⟩
    rcases facing_cases l (a, b) with g | ⟨o, g, _⟩
    · exfalso
      have := findC_none.1 g (prv j) (prv_lt hj)
      rw [decide_eq_false_iff_not] at this
      refine this ?_
      rw [edge_prv, hp.1, hp.2]
    · exact ⟨o, g⟩
theorem withC_neg {l : List Tr} {a b : Int} : withC l a b < 0 ↔ facing l (a, b) = -1 := by
  rcases withC_cases l a b with ⟨h1, h2⟩ | ⟨j, _, _, _, h1, o, h2⟩
  · rw [h1, h2]; exact ⟨fun _ => rfl, fun _ => by omega⟩
  · rw [h1, h2]; exact ⟨fun h => by omega, fun h => by omega⟩
theorem withC_nonneg {l : List Tr} {a b : Int} : 0 ≤ withC l a b ↔ facing l (a, b) ≠ -1 := by rw [← Int.not_lt, withC_neg]
theorem atC_at {N : Int} {l : List Tr} (h : Surf N l) {j : Nat} (hj : j < 3 * l.length) : atC l (j / 3) (vtx l j) = (j : Int) := by
  have one : ∀ i, i < 3 * l.length → i / 3 = j / 3 → vtx l i = vtx l j → i = j := fun i hi e hv => corner_one h hi e hv
  unfold atC
  rcases (show j = 3 * (j / 3) ∨ j = 3 * (j / 3) + 1 ∨ j = 3 * (j / 3) + 2 by omega) with e | e | e
  · rw [if_pos (by rw [← e])]; omega
  · rw [if_neg fun hv => by have := one _ (by omega) (by omega) hv; omega, if_pos (by rw [← e])]; omega
  · rw [if_neg fun hv => by have := one _ (by omega) (by omega) hv; omega, if_neg fun hv => by have := one _ (by omega) (by omega) hv; omega, if_pos (by rw [← e])]; omega
/-- The step around a vertex, by the document's words. -/
theorem turn_with {N : Int} {l : List Tr} (h : Surf N l) {v : Int} {c : Nat} (hc : c ∈ cAt l v) : (turnC l c = none ∧ withC l v (vtx l (prv c)) = -1) ∨ ∃ d t : Nat, turnC l c = some d ∧ d ∈ cAt l v ∧ t < l.length ∧ withC l v (vtx l (prv c)) = (t : Int) ∧ atC l t v = (d : Int) := by
  obtain ⟨hc1, hc2⟩ := cAt_mem.1 hc
  rcases withC_cases l v (vtx l (prv c)) with ⟨h1, h2⟩ | ⟨j, hj, hv, hn, h1, o, h2⟩
  · refine .inl ⟨turn_none.2 ?_, h1⟩
    unfold oppC
    rw [edge_nxt, hc2]
    exact h2
  · refine .inr ⟨j, j / 3, (turn_iff h hc1).2 ⟨hj, hv.trans hc2.symm, hn⟩, cAt_mem.2 ⟨hj, hv⟩, by omega, h1, ?_⟩
    rw [← hv]
    exact atC_at h hj
/-- Is there nothing over the edge to the vertex at Next? By the document's words. -/
theorem first_with {l : List Tr} {v : Int} {c : Nat} (hc : c ∈ cAt l v) : withC l (vtx l (nxt c)) v < 0 ↔ oppC l (prv c) = -1 := by
  obtain ⟨_, hc2⟩ := cAt_mem.1 hc
  rw [withC_neg]
  unfold oppC
  rw [edge_prv, hc2]
/-- The corners around v: none, where there is no such vertex. -/
def IsRing (l : List Tr) (v : Int) (L : List Nat) : Prop := (cAt l v = [] ∧ L = []) ∨ ∃ c0, IsFirst l v c0 ∧ IsAround l v c0 L
theorem first_one {N : Int} {l : List Tr} (h : Surf N l) {v : Int} {c d : Nat} (hc : IsFirst l v c) (hd : IsFirst l v d) : c = d := by
  obtain ⟨c1, c2⟩ := hc
  obtain ⟨d1, d2⟩ := hd
  rcases c2 with c2 | ⟨c2, c3⟩
  · rcases d2 with d2 | ⟨d2, _⟩
    · -- both are at the border: the same ring has one begin
      obtain ⟨L, hL⟩ := around_exists h ⟨c1, .inl c2⟩
      have hm := (hL.all d).2 d1
      obtain ⟨i, hi, rfl⟩ := memn_getD hm
      rcases Nat.eq_zero_or_pos i with rfl | h0
      · exact hL.chain.hd.symm
      · exfalso
        obtain ⟨k, rfl⟩ : ∃ k, i = k + 1 := ⟨i - 1, by omega⟩
        exact (turn_from h d1).1 ⟨_, hL.chain.sub _ (getDn_mem (show k < L.length by omega)), hL.chain.st k hi⟩ d2
    · exact absurd c2 (d2 c c1)
  · rcases d2 with d2 | ⟨_, d3⟩
    · exact absurd d2 (c2 d d1)
    · exact Nat.le_antisymm (c3 d d1) (d3 c c1)
theorem first_exists {l : List Tr} {v : Int} (hne : cAt l v ≠ []) : ∃ c, IsFirst l v c := by
  by_cases hb : ∃ c ∈ cAt l v, oppC l (prv c) = -1
  · obtain ⟨c, hc, h⟩ := hb
    exact ⟨c, hc, .inl h⟩
  · have hb' : ∀ d ∈ cAt l v, oppC l (prv d) ≠ -1 := fun d hd e => hb ⟨d, hd, e⟩
    have hex : ∃ n, ∃ c ∈ cAt l v, c = n := by
      cases hc : cAt l v with
      | nil => exact absurd hc hne
      | cons x r => exact ⟨x, x, List.mem_cons_self, rfl⟩
    have key : ∀ n c, c ∈ cAt l v → c = n → ∃ m ∈ cAt l v, ∀ d ∈ cAt l v, m ≤ d := fun n => by
      induction n using Nat.strongRecOn with
      | _ n ih =>
        intro c hc e
        by_cases hm : ∀ d ∈ cAt l v, c ≤ d
        · exact ⟨c, hc, hm⟩
        · have ⟨d, hd⟩ := Classical.not_forall.1 hm
          have ⟨hd1, hd2⟩ := Classical.not_imp.1 hd
          exact ih d (by omega) d hd1 rfl
    obtain ⟨n, c, hc, e⟩ := hex
    obtain ⟨m, hm, hl⟩ := key n c hc e
    exact ⟨m, hm, .inr ⟨hb', hl⟩⟩
theorem ring_exists {N : Int} {l : List Tr} (h : Surf N l) (v : Int) : ∃ L, IsRing l v L := by
  by_cases hne : cAt l v = []
  · exact ⟨[], .inl ⟨hne, rfl⟩⟩
  · obtain ⟨c, hc⟩ := first_exists hne
    obtain ⟨L, hL⟩ := around_exists h hc
    exact ⟨L, .inr ⟨c, hc, hL⟩⟩
theorem IsRing.one {N : Int} {l : List Tr} (h : Surf N l) {v : Int} {L M : List Nat} (hL : IsRing l v L) (hM : IsRing l v M) : M = L := by
  rcases hL with ⟨e1, rfl⟩ | ⟨c, hc, hL⟩
  · rcases hM with ⟨_, rfl⟩ | ⟨d, hd, _⟩
    · rfl
    · have := hd.1; rw [e1] at this; cases this
  · rcases hM with ⟨e2, rfl⟩ | ⟨d, hd, hM⟩
    · have := hc.1; rw [e2] at this; cases this
    · obtain rfl := first_one h hc hd
      exact hM.one hL
theorem IsRing.len {l : List Tr} {v : Int} {L : List Nat} (h : IsRing l v L) : L.length = (cAt l v).length := by
  rcases h with ⟨e, rfl⟩ | ⟨_, _, h⟩
  · rw [e]
  · exact h.len
theorem IsRing.mem {l : List Tr} {v : Int} {L : List Nat} (h : IsRing l v L) (c : Nat) : c ∈ L ↔ c ∈ cAt l v := by
  rcases h with ⟨e, rfl⟩ | ⟨_, _, h⟩
  · rw [e]
  · exact h.all c
/-- A triangle has one corner at a vertex: no more corners there than triangles. -/
theorem cAt_le {N : Int} {l : List Tr} (h : Surf N l) (v : Int) : (cAt l v).length ≤ l.length := by
  have hnd : ((cAt l v).map (· / 3)).Nodup := by
    have h1 := cAt_nodup l v
    rw [List.nodup_iff_pairwise_ne] at *
    rw [List.pairwise_map]
    refine List.Pairwise.imp_of_mem ?_ h1
    intro a b ha hb hne e
    obtain ⟨ha1, ha2⟩ := cAt_mem.1 ha
    obtain ⟨_, hb2⟩ := cAt_mem.1 hb
    exact hne (corner_one h ha1 e (ha2.trans hb2.symm))
  have := nodup_subN hnd (b := List.range l.length) (fun e he => by
    obtain ⟨c, hc, rfl⟩ := List.mem_map.1 he
    have := (cAt_mem.1 hc).1
    exact List.mem_range.2 (by omega))
  rwa [List.length_map, List.length_range] at this
theorem cAt_nil {l : List Tr} {v : Int} (h : ∀ d, d < 3 * l.length → vtx l d ≠ v) : cAt l v = [] := by
  unfold cAt
  rw [List.filter_eq_nil_iff]
  intro c hc
  simpa using h c (List.mem_range.1 hc)
def natsI (L : List Nat) : List Int := L.map fun (k : Nat) => (k : Int)
theorem natsI_len (L : List Nat) : (natsI L).length = L.length := by simp [natsI]
theorem natsI_at (L : List Nat) (i : Nat) : (natsI L).getD i 0 = ((L.getD i 0 : Nat) : Int) := by
  unfold natsI
  rw [List.getD_eq_getElem?_getD, List.getD_eq_getElem?_getD, List.getElem?_map]
  cases L[i]? <;> rfl
theorem natsI_snoc (L : List Nat) (x : Nat) : natsI (L ++ [x]) = natsI L ++ [(x : Int)] := by simp [natsI]
theorem take_snocN {L : List Nat} {k : Nat} (h : k < L.length) : L.take (k + 1) = L.take k ++ [L.getD k 0] := by
  rw [List.take_add_one, List.getD_eq_getElem?_getD, List.getElem?_eq_getElem h]; rfl
theorem natsI_inj {L M : List Nat} (h : natsI L = natsI M) : L = M := by
  have hl : L.length = M.length := by rw [← natsI_len L, h, natsI_len]
  refine ext_getD (z := 0) hl fun i _ => ?_
  have := natsI_at L i
  rw [h, natsI_at] at this
  omega
/-- What comes behind the k-th corner of the ring. -/
theorem ring_step {N : Int} {l : List Tr} (h : Surf N l) {v : Int} {c0 : Nat} {L : List Nat} (hL : IsAround l v c0 L) {k : Nat} (hk : k < L.length) :
    (k + 1 = L.length ∧ (withC l v (vtx l (prv (L.getD k 0))) < 0 ∨ ∃ t : Nat, t < l.length ∧ withC l v (vtx l (prv (L.getD k 0))) = (t : Int) ∧ atC l t v = (c0 : Int))) ∨
    (k + 1 < L.length ∧ ∃ t : Nat, t < l.length ∧ withC l v (vtx l (prv (L.getD k 0))) = (t : Int) ∧ atC l t v = ((L.getD (k + 1) 0 : Nat) : Int) ∧ L.getD (k + 1) 0 ≠ c0) := by
  have hm := hL.chain.sub _ (getDn_mem hk)
  rcases Nat.lt_or_ge (k + 1) L.length with hlt | hge
  · refine .inr ⟨hlt, ?_⟩
    have hs := hL.chain.st k hlt
    rcases turn_with h hm with ⟨h1, _⟩ | ⟨d, t, h1, _, ht, h2, h3⟩
    · rw [hs] at h1; cases h1
    · rw [hs] at h1
      obtain rfl := Option.some.inj h1
      refine ⟨t, ht, h2, h3, fun e => ?_⟩
      have := nodup_at hL.chain.nd hlt hL.chain.ne (e.trans hL.chain.hd.symm)
      omega
  · obtain rfl : k = L.length - 1 := by omega
    refine .inl ⟨by omega, ?_⟩
    by_cases hb : oppC l (prv c0) = -1
    · have hs := hL.out hb
      rcases turn_with h hm with ⟨_, h2⟩ | ⟨d, t, h1, _⟩
      · exact .inl (by rw [h2]; omega)
      · rw [hs] at h1; cases h1
    · have hs := hL.inn hb
      rcases turn_with h hm with ⟨h1, _⟩ | ⟨d, t, h1, _, ht, h2, h3⟩
      · rw [hs] at h1; cases h1
      · rw [hs] at h1
        obtain rfl := Option.some.inj h1
        exact .inr ⟨t, ht, h2, h3⟩
end Go.Proofs.Ytmflacmgffpjoaa

/- The sides of triangles, and edges in their order, as plain lists (out of SouEdgeP and SouSort). -/
namespace Go.Proofs.Ytmflacmgffpjoaa

def ltE (a b : Ed) : Prop := a.1 < b.1 ∨ (a.1 = b.1 ∧ a.2 < b.2)
def nrm (a b : Int) : Ed := (min a b, max a b)
def sides (t : Tr) : List Ed := [nrm t.1 t.2.1, nrm t.2.1 t.2.2, nrm t.2.2 t.1]
def allSides (l : List Tr) : List Ed := l.flatMap sides
theorem allSides_len (l : List Tr) : (allSides l).length = 3 * l.length := by
  induction l with
  | nil => rfl
  | cons t l ih => simp only [allSides, List.flatMap_cons, List.length_append, List.length_cons] at *; rw [ih]; simp [sides]; omega
theorem allSides_snoc (l : List Tr) (t : Tr) : allSides (l ++ [t]) = allSides l ++ sides t := by simp [allSides]
/-- The edges of triangles: ascending, each once. -/
def IsEdges (l : List Tr) (es : List Ed) : Prop := es.Pairwise ltE ∧ ∀ e, e ∈ es ↔ e ∈ allSides l
theorem ltE_irrefl (a : Ed) : ¬ ltE a a := by unfold ltE; omega
theorem ltE_trans {a b c : Ed} (h : ltE a b) (k : ltE b c) : ltE a c := by unfold ltE at *; omega
theorem ltE_total (a b : Ed) : ltE a b ∨ a = b ∨ ltE b a := by
  unfold ltE
  rcases Int.lt_trichotomy a.1 b.1 with h | h | h
  · exact .inl (.inl h)
  · rcases Int.lt_trichotomy a.2 b.2 with k | k | k
    · exact .inl (.inr ⟨h, k⟩)
    · exact .inr (.inl (Prod.ext h k))
    · exact .inr (.inr (.inr ⟨h.symm, k⟩))
  · exact .inr (.inr (.inl h))
/-- An ascending list is told by its members. -/
theorem asc_unique : ∀ {a b : List Ed}, a.Pairwise ltE → b.Pairwise ltE → (∀ e, e ∈ a ↔ e ∈ b) → a = b
  | [], [], _, _, _ => rfl
  | [], y :: b, _, _, h => absurd ((h y).2 (List.mem_cons_self ..)) (by simp)
  | x :: a, [], _, _, h => absurd ((h x).1 (List.mem_cons_self ..)) (by simp)
  | x :: a, y :: b, ha, hb, h => by
    rw [List.pairwise_cons] at ha hb
    have hxy : x = y := by
      rcases List.mem_cons.1 ((h x).1 (List.mem_cons_self ..)) with e | e
      · exact e
      · rcases List.mem_cons.1 ((h y).2 (List.mem_cons_self ..)) with e' | e'
        · exact e'.symm
        · exact absurd (ltE_trans (ha.1 y e') (hb.1 x e)) (ltE_irrefl x)
    subst hxy
    congr 1
    refine asc_unique ha.2 hb.2 fun e => ?_
    constructor
    · intro he
      rcases List.mem_cons.1 ((h e).1 (List.mem_cons_of_mem _ he)) with e1 | e1
      · subst e1; exact absurd (ha.1 _ he) (ltE_irrefl _)
      · exact e1
    · intro he
      rcases List.mem_cons.1 ((h e).2 (List.mem_cons_of_mem _ he)) with e1 | e1
      · subst e1; exact absurd (hb.1 _ he) (ltE_irrefl _)
      · exact e1
theorem IsEdges.one {l l' : List Tr} {a b : List Ed} (ha : IsEdges l a) (hb : IsEdges l' b) (h : ∀ e, e ∈ allSides l ↔ e ∈ allSides l') : a = b :=
  asc_unique ha.1 hb.1 fun e => by rw [ha.2, hb.2, h]
/-- What is sorted, and was each once, is ascending. -/
theorem sorted_isEdges {l : List Tr} {L' L : List Ed} (hp : L'.Perm L) (hs : L'.Pairwise (fun a b => ¬ ltE b a)) (hn : L.Nodup) (hm : ∀ e, e ∈ L ↔ e ∈ allSides l) : IsEdges l L' := by
  refine ⟨?_, fun e => by rw [hp.mem_iff, hm]⟩
  have hn' : L'.Nodup := hp.nodup_iff.2 hn
  have := hs.and hn'
  refine this.imp fun {a b} h => ?_
  rcases ltE_total a b with k | k | k
  · exact k
  · exact absurd k h.2
  · exact absurd k h.1
end Go.Proofs.Ytmflacmgffpjoaa

/- Layer 12: the border of a surface: each of its vertices has one before it and one behind it. -/
namespace Go.Proofs.Ytmflacmgffpjoaa

/-- A border edge from u to v. -/
def Bdry (l : List Tr) (u v : Int) : Prop := (∃ t ∈ l, hasE t u v) ∧ ∀ t ∈ l, ¬ hasE t v u
theorem bdry_corner {l : List Tr} {c : Nat} (hc : c < 3 * l.length) : Bdry l (edgeC l c).1 (edgeC l c).2 ↔ oppC l c = -1 := by
  unfold oppC
  rw [facing_none]
  exact ⟨fun h => h.2, fun h => ⟨⟨_, getD3_mem (show c / 3 < l.length by omega), edgeC_has l c⟩, h⟩⟩
theorem bdry_at {l : List Tr} {u v : Int} (h : Bdry l u v) : ∃ c, c < 3 * l.length ∧ edgeC l c = (u, v) ∧ oppC l c = -1 := by
  obtain ⟨⟨t, ht, hE⟩, h2⟩ := h
  obtain ⟨i, hi, rfl⟩ := mem3_getD ht
  obtain ⟨c, hc, hci, he⟩ := hasE_corner hi hE
  refine ⟨c, hc, he, (bdry_corner hc).1 ?_⟩
  rw [he]
  exact ⟨⟨_, ht, hE⟩, h2⟩
theorem bord_first {l : List Tr} {v : Int} (hne : cAt l v ≠ []) : ∃ c, IsFirst l v c := by
  by_cases hb : ∃ c ∈ cAt l v, oppC l (prv c) = -1
  · obtain ⟨c, hc, e⟩ := hb
    exact ⟨c, hc, .inl e⟩
  · have hb' : ∀ d ∈ cAt l v, oppC l (prv d) ≠ -1 := fun d hd e => hb ⟨d, hd, e⟩
    obtain ⟨c, r, e⟩ := List.exists_cons_of_ne_nil hne
    refine ⟨c, by rw [e]; simp, .inr ⟨hb', fun d hd => ?_⟩⟩
    have hp : (cAt l v).Pairwise (· < ·) := List.Pairwise.filter _ List.pairwise_lt_range
    rw [e, List.pairwise_cons] at hp
    rw [e] at hd
    rcases List.mem_cons.1 hd with rfl | h1
    · exact Nat.le_refl _
    · exact Nat.le_of_lt (hp.1 d h1)
/-- At a vertex: one corner from which no turn leads on, just if there is one to which none leads; each is the only one. -/
theorem border_ends {N : Int} {l : List Tr} (h : Surf N l) {v : Int} : (∀ c ∈ cAt l v, ∀ d ∈ cAt l v, turnC l c = none → turnC l d = none → c = d) ∧ (∀ c ∈ cAt l v, ∀ d ∈ cAt l v, oppC l (prv c) = -1 → oppC l (prv d) = -1 → c = d) ∧ ((∃ c ∈ cAt l v, turnC l c = none) ↔ ∃ c ∈ cAt l v, oppC l (prv c) = -1) := by
  by_cases hne : cAt l v = []
  · rw [hne]
    simp
  obtain ⟨c0, hf⟩ := bord_first hne
  obtain ⟨L, hL⟩ := around_exists h hf
  have hpos := hL.chain.ne
  have lastOf : ∀ c ∈ cAt l v, turnC l c = none → c = L.getD (L.length - 1) 0 := fun c hc hT => by
    obtain ⟨i, hi, rfl⟩ := memn_getD ((hL.all c).2 hc)
    by_cases g : i + 1 < L.length
    · rw [hL.chain.st i g] at hT; cases hT
    · rw [show i = L.length - 1 by omega]
  have firstOf : ∀ c ∈ cAt l v, oppC l (prv c) = -1 → c = c0 := fun c hc he => by
    obtain ⟨i, hi, rfl⟩ := memn_getD ((hL.all c).2 hc)
    rcases Nat.eq_zero_or_pos i with rfl | g
    · exact hL.chain.hd
    · exfalso
      obtain ⟨j, rfl⟩ : ∃ j, i = j + 1 := ⟨i - 1, by omega⟩
      exact (turn_from h hc).1 ⟨_, hL.chain.sub _ (getDn_mem (show j < L.length by omega)), hL.chain.st j hi⟩ he
  refine ⟨fun c hc d hd h1 h2 => (lastOf c hc h1).trans (lastOf d hd h2).symm, fun c hc d hd h1 h2 => (firstOf c hc h1).trans (firstOf d hd h2).symm, ?_⟩
  constructor
  · rintro ⟨c, hc, hT⟩
    refine ⟨c0, hf.1, Classical.byContradiction fun hne' => ?_⟩
    have := hL.inn hne'
    rw [← lastOf c hc hT, hT] at this
    cases this
  · rintro ⟨c, hc, he⟩
    rw [firstOf c hc he] at he
    exact ⟨_, hL.chain.sub _ (getDn_mem (by omega)), hL.out he⟩
theorem bdry_in_one {N : Int} {l : List Tr} (h : Surf N l) {u u' v : Int} (h1 : Bdry l u v) (h2 : Bdry l u' v) : u = u' := by
  obtain ⟨c, hc, he, ho⟩ := bdry_at h1
  obtain ⟨d, hd, he', ho'⟩ := bdry_at h2
  have e1 : vtx l (prv c) = v := congrArg Prod.snd he
  have e2 : vtx l (prv d) = v := congrArg Prod.snd he'
  have t1 : turnC l (prv c) = none := turn_none.2 (by rw [nxt_prv]; exact ho)
  have t2 : turnC l (prv d) = none := turn_none.2 (by rw [nxt_prv]; exact ho')
  have := (border_ends h).1 _ (cAt_mem.2 ⟨prv_lt hc, e1⟩) _ (cAt_mem.2 ⟨prv_lt hd, e2⟩) t1 t2
  have hcd : c = d := by rw [← nxt_prv c, this, nxt_prv]
  rw [hcd, he'] at he
  exact (congrArg Prod.fst he).symm
theorem bdry_out_one {N : Int} {l : List Tr} (h : Surf N l) {u v v' : Int} (h1 : Bdry l u v) (h2 : Bdry l u v') : v = v' := by
  obtain ⟨c, hc, he, ho⟩ := bdry_at h1
  obtain ⟨d, hd, he', ho'⟩ := bdry_at h2
  have e1 : vtx l (nxt c) = u := congrArg Prod.fst he
  have e2 : vtx l (nxt d) = u := congrArg Prod.fst he'
  have := (border_ends h).2.1 _ (cAt_mem.2 ⟨nxt_lt hc, e1⟩) _ (cAt_mem.2 ⟨nxt_lt hd, e2⟩) (by rw [prv_nxt]; exact ho) (by rw [prv_nxt]; exact ho')
  have hcd : c = d := by rw [← prv_nxt c, this, prv_nxt]
  rw [hcd, he'] at he
  exact (congrArg Prod.snd he).symm
/-- A vertex with a border edge to it has one from it, and the other way round. -/
theorem bdry_both {N : Int} {l : List Tr} (h : Surf N l) {v : Int} : (∃ u, Bdry l u v) ↔ ∃ w, Bdry l v w := by
  constructor
  · rintro ⟨u, hb⟩
    obtain ⟨c, hc, he, ho⟩ := bdry_at hb
    obtain ⟨d, hd, hd'⟩ := (border_ends h).2.2.1 ⟨prv c, cAt_mem.2 ⟨prv_lt hc, congrArg Prod.snd he⟩, turn_none.2 (by rw [nxt_prv]; exact ho)⟩
    obtain ⟨g1, g2⟩ := cAt_mem.1 hd
    have := (bdry_corner (prv_lt g1)).2 hd'
    rw [edge_prv, g2] at this
    exact ⟨_, this⟩
  · rintro ⟨w, hb⟩
    obtain ⟨c, hc, he, ho⟩ := bdry_at hb
    obtain ⟨d, hd, hd'⟩ := (border_ends h).2.2.2 ⟨nxt c, cAt_mem.2 ⟨nxt_lt hc, congrArg Prod.fst he⟩, by rw [prv_nxt]; exact ho⟩
    obtain ⟨g1, g2⟩ := cAt_mem.1 hd
    have := (bdry_corner (nxt_lt g1)).2 (turn_none.1 hd')
    rw [edge_nxt, g2] at this
    exact ⟨_, this⟩
theorem bdry_ne {l : List Tr} {u v : Int} (hb : Bdry l u v) : u ≠ v ∧ ¬ Bdry l v u := by
  obtain ⟨⟨t, ht, hE⟩, h2⟩ := hb
  refine ⟨fun e => ?_, fun hb' => ?_⟩
  · subst e; exact h2 t ht hE
  · obtain ⟨t', ht', hE'⟩ := hb'.1
    exact h2 t' ht' hE'

/-- The successor on the border, as a number that there may be none of. -/
def afterC (l : List Tr) (v : Int) : Option Nat := (List.range (3 * l.length)).find? fun c => decide (vtx l (prv c) = v ∧ oppC l c = -1)
def afterV (l : List Tr) (v : Int) : Int := match afterC l v with | some c => vtx l (nxt c) | none => -1
theorem after_iff {N : Int} {l : List Tr} (h : Surf N l) {u v : Int} (hu : 0 ≤ u) : afterV l v = u ↔ Bdry l u v := by
  unfold afterV afterC
  cases hc : (List.range (3 * l.length)).find? fun c => decide (vtx l (prv c) = v ∧ oppC l c = -1) with
  | none =>
    rw [List.find?_eq_none] at hc
    constructor
    · intro e; simp only at e; omega
    · intro hb
      obtain ⟨c, hc', he, ho⟩ := bdry_at hb
      exact absurd (decide_eq_true ⟨congrArg Prod.snd he, ho⟩) (hc c (List.mem_range.2 hc'))
  | some c =>
    have h1 := List.find?_some hc
    have h2 := List.mem_range.1 (List.mem_of_find?_eq_some hc)
    rw [decide_eq_true_iff] at h1
    have hb := (bdry_corner h2).2 h1.2
    unfold edgeC at hb
    rw [h1.1] at hb
    constructor
    · intro e; simp only at e; rw [← e]; exact hb
    · intro hb'; exact bdry_in_one h hb hb'
theorem after_none {l : List Tr} {v : Int} (hv : ∀ t ∈ l, ∀ x, hasV t x → 0 ≤ x) : afterV l v = -1 ↔ ∀ u, ¬ Bdry l u v := by
  unfold afterV afterC
  cases hc : (List.range (3 * l.length)).find? fun c => decide (vtx l (prv c) = v ∧ oppC l c = -1) with
  | none =>
    rw [List.find?_eq_none] at hc
    refine ⟨fun _ u hb => ?_, fun _ => rfl⟩
    obtain ⟨c, hc', he, ho⟩ := bdry_at hb
    exact hc c (List.mem_range.2 hc') (decide_eq_true ⟨congrArg Prod.snd he, ho⟩)
  | some c =>
    have h1 := List.find?_some hc
    have h2 := List.mem_range.1 (List.mem_of_find?_eq_some hc)
    rw [decide_eq_true_iff] at h1
    have hb := (bdry_corner h2).2 h1.2
    unfold edgeC at hb
    rw [h1.1] at hb
    constructor
    · intro e; simp only at e
      have := hv _ (getD3_mem (show nxt c / 3 < l.length by rw [nxt_div]; omega)) (vtx l (nxt c)) (cor3_hasV _ _)
      omega
    · intro hn; exact absurd hb (hn _)
end Go.Proofs.Ytmflacmgffpjoaa

/- Layer 12: the loops of the border. -/
namespace Go.Proofs.Ytmflacmgffpjoaa

def aT (l : List Tr) (x : Nat) : Option Nat := if afterV l (x : Int) < 0 then none else some (afterV l (x : Int)).toNat
/-- The vertices on the border. -/
def bV (N : Int) (l : List Tr) : List Nat := (List.range N.toNat).filter fun (x : Nat) => decide (0 ≤ afterV l (x : Int))
theorem surf_pos {N : Int} {l : List Tr} (h : Surf N l) : ∀ t ∈ l, ∀ x, hasV t x → 0 ≤ x := fun _ ht _ hx => (has_in h.inb ht hx).1
theorem bdry_in {N : Int} {l : List Tr} (h : Surf N l) {u v : Int} (hb : Bdry l u v) : inN N u ∧ inN N v := by
  obtain ⟨⟨t, ht, hE⟩, _⟩ := hb
  exact ⟨has_in h.inb ht (hasE_hasV hE).1, has_in h.inb ht (hasE_hasV hE).2⟩
theorem aT_iff {N : Int} {l : List Tr} (h : Surf N l) {x y : Nat} : aT l x = some y ↔ Bdry l (y : Int) (x : Int) := by
  unfold aT
  constructor
  · intro e
    by_cases hn : afterV l (x : Int) < 0
    · rw [if_pos hn] at e; cases e
    · rw [if_neg hn] at e
      have := Option.some.inj e
      exact (after_iff h (by omega)).1 (by omega)
  · intro hb
    have := (after_iff h (by omega)).2 hb
    rw [this, if_neg (by omega)]
    rfl
theorem bV_mem {N : Int} {l : List Tr} (h : Surf N l) {x : Nat} : x ∈ bV N l ↔ ∃ y : Nat, Bdry l (y : Int) (x : Int) := by
  unfold bV
  rw [List.mem_filter, List.mem_range, decide_eq_true_iff]
  constructor
  · rintro ⟨_, h2⟩
    exact ⟨(afterV l (x : Int)).toNat, (after_iff h (by omega)).1 (by omega)⟩
  · rintro ⟨y, hb⟩
    have := (bdry_in h hb).2
    have h1 := this.1
    have h2 := this.2
    exact ⟨by omega, by rw [(after_iff h (by omega)).2 hb]; omega⟩
theorem bV_nodup (N : Int) (l : List Tr) : (bV N l).Nodup := by
  rw [List.nodup_iff_pairwise_ne]
  exact List.Pairwise.filter _ (List.pairwise_lt_range.imp fun h => by omega)
theorem aT_in {N : Int} {l : List Tr} (h : Surf N l) {x y : Nat} (e : aT l x = some y) : y ∈ bV N l := by
  obtain ⟨u, hu⟩ := (bdry_both h).2 ⟨_, (aT_iff h).1 e⟩
  have := (bdry_in h hu).1.1
  exact (bV_mem h).2 ⟨u.toNat, by rw [show ((u.toNat : Nat) : Int) = u by omega]; exact hu⟩
theorem aT_total {N : Int} {l : List Tr} (h : Surf N l) {x : Nat} (hx : x ∈ bV N l) : ∃ y, aT l x = some y := by
  obtain ⟨y, hy⟩ := (bV_mem h).1 hx
  exact ⟨y, (aT_iff h).2 hy⟩
theorem aT_inj {N : Int} {l : List Tr} (h : Surf N l) {x x' y : Nat} (e : aT l x = some y) (e' : aT l x' = some y) : x = x' := by
  have := bdry_out_one h ((aT_iff h).1 e) ((aT_iff h).1 e')
  omega
/-- A loop of the border, from v on. -/
structure IsLoop (N : Int) (l : List Tr) (v : Nat) (L : List Nat) : Prop where
  chain : Chain (aT l) (bV N l) v L
  back : aT l (L.getD (L.length - 1) 0) = some v
theorem loop_exists {N : Int} {l : List Tr} (h : Surf N l) {v : Nat} (hv : v ∈ bV N l) : ∃ L, IsLoop N l v L := by
  have hc1 : Chain (aT l) (bV N l) v [v] := ⟨by simp, rfl, by simp, fun x hx => by rw [List.mem_singleton.1 hx]; exact hv, fun i hi => by simp at hi⟩
  obtain ⟨L, hL, hend⟩ := chain_full (c0 := v) (fun _ _ _ e => aT_in h e) (fun _ _ _ _ _ e e' => aT_inj h e e') _ [v] hc1 rfl
  refine ⟨L, hL, ?_⟩
  rcases hend with g | g
  · have hne := hL.ne
    obtain ⟨y, hy⟩ := aT_total h (hL.sub _ (getDn_mem (show L.length - 1 < L.length by omega)))
    rw [g] at hy; cases hy
  · exact g
theorem chain_same {T : Nat → Option Nat} {C : List Nat} {c0 : Nat} {L M : List Nat} (hL : Chain T C c0 L) (hM : Chain T C c0 M) : ∀ i, i < L.length → i < M.length → L.getD i 0 = M.getD i 0 := by
  intro i
  induction i with
  | zero => intro _ _; rw [hL.hd, hM.hd]
  | succ i ih =>
    intro h1 h2
    have e1 := hL.st i h1
    have e2 := hM.st i h2
    rw [ih (by omega) (by omega), e2] at e1
    exact (Option.some.inj e1).symm
theorem IsLoop.len_le {N : Int} {l : List Tr} {v : Nat} {L M : List Nat} (hL : IsLoop N l v L) (hM : IsLoop N l v M) : M.length ≤ L.length := by
  refine Classical.byContradiction fun hn => ?_
  have hne := hL.chain.ne
  have e1 := hM.chain.st (L.length - 1) (by omega)
  rw [← chain_same hL.chain hM.chain (L.length - 1) (by omega) (by omega), hL.back, show L.length - 1 + 1 = L.length by omega] at e1
  have := nodup_at hM.chain.nd (i := 0) (j := L.length) (by omega) (by omega) (by rw [hM.chain.hd]; exact Option.some.inj e1)
  omega
theorem IsLoop.one {N : Int} {l : List Tr} {v : Nat} {L M : List Nat} (hL : IsLoop N l v L) (hM : IsLoop N l v M) : L = M :=
  chain_one hL.chain hM.chain (Nat.le_antisymm (hM.len_le hL) (hL.len_le hM))
theorem IsLoop.step {N : Int} {l : List Tr} {v : Nat} {L : List Nat} (hL : IsLoop N l v L) {x y : Nat} (hx : x ∈ L) (e : aT l x = some y) : y ∈ L := by
  have hne := hL.chain.ne
  obtain ⟨i, hi, rfl⟩ := memn_getD hx
  by_cases hc : i + 1 < L.length
  · rw [hL.chain.st i hc] at e
    rw [← Option.some.inj e]
    exact getDn_mem hc
  · rw [show i = L.length - 1 by omega, hL.back] at e
    rw [← Option.some.inj e]
    have := getDn_mem hne
    rwa [hL.chain.hd] at this
theorem IsLoop.sub {N : Int} {l : List Tr} {v w : Nat} {L M : List Nat} (hL : IsLoop N l v L) (hM : IsLoop N l w M) (hw : w ∈ L) : ∀ x ∈ M, x ∈ L := by
  have key : ∀ i, i < M.length → M.getD i 0 ∈ L := by
    intro i
    induction i with
    | zero => intro _; rw [hM.chain.hd]; exact hw
    | succ i ih => intro hi; exact hL.step (ih (by omega)) (hM.chain.st i hi)
  intro x hx
  obtain ⟨i, hi, rfl⟩ := memn_getD hx
  exact key i hi
/-- A loop from another one of its vertices on has the same ones. -/
theorem IsLoop.same {N : Int} {l : List Tr} {v w : Nat} {L M : List Nat} (hL : IsLoop N l v L) (hM : IsLoop N l w M) (hw : w ∈ L) : ∀ x, x ∈ L ↔ x ∈ M := by
  have hne := hL.chain.ne
  obtain ⟨k, hk, e⟩ := memn_getD hw
  have up : ∀ j, k + j < L.length → L.getD (k + j) 0 ∈ M := by
    intro j
    induction j with
    | zero => intro _; rw [Nat.add_zero, e]; have := getDn_mem hM.chain.ne; rwa [hM.chain.hd] at this
    | succ j ih => intro hj; exact hM.step (ih (by omega)) (hL.chain.st (k + j) hj)
  have hlast := up (L.length - 1 - k) (by omega)
  rw [show k + (L.length - 1 - k) = L.length - 1 by omega] at hlast
  have hv := hM.step hlast hL.back
  exact fun x => ⟨hM.sub hL hv x, hL.sub hM hw x⟩
theorem IsLoop.three {N : Int} {l : List Tr} (h : Surf N l) {v : Nat} {L : List Nat} (hL : IsLoop N l v L) : 3 ≤ L.length := by
  have hne := hL.chain.ne
  have hb := (aT_iff h).1 hL.back
  refine Classical.byContradiction fun hn => ?_
  rcases (show L.length = 1 ∨ L.length = 2 by omega) with h1 | h1
  · rw [h1, show 1 - 1 = 0 from rfl, hL.chain.hd] at hb
    exact (bdry_ne hb).1 rfl
  · have h2 := (aT_iff h).1 (hL.chain.st 0 (by omega))
    rw [h1, show 2 - 1 = 1 from rfl] at hb
    rw [hL.chain.hd] at h2
    exact (bdry_ne hb).2 h2
/-- The least vertex of its loop. -/
def IsLeast (N : Int) (l : List Tr) (v : Nat) : Prop := ∃ L, IsLoop N l v L ∧ ∀ x ∈ L, v ≤ x
theorem least_of {L : List Nat} (h : L ≠ []) : ∃ m ∈ L, ∀ x ∈ L, m ≤ x := by
  induction L with
  | nil => exact absurd rfl h
  | cons a L ih =>
    by_cases hL : L = []
    · subst hL; exact ⟨a, by simp, fun x hx => by rw [List.mem_singleton.1 hx]; exact Nat.le_refl _⟩
    · obtain ⟨m, hm, hl⟩ := ih hL
      by_cases hc : a ≤ m
      · exact ⟨a, by simp, fun x hx => by
          rcases List.mem_cons.1 hx with rfl | hx
          · exact Nat.le_refl _
          · exact Nat.le_trans hc (hl x hx)⟩
      · exact ⟨m, by simp [hm], fun x hx => by
          rcases List.mem_cons.1 hx with rfl | hx
          · omega
          · exact hl x hx⟩
/-- Each vertex of the border is in the loop of just one least vertex. -/
theorem least_one {N : Int} {l : List Tr} (h : Surf N l) {x : Nat} (hx : x ∈ bV N l) : ∃ v, IsLeast N l v ∧ (∃ L, IsLoop N l v L ∧ x ∈ L) ∧ ∀ u, IsLeast N l u → (∃ M, IsLoop N l u M ∧ x ∈ M) → u = v := by
  obtain ⟨L, hL⟩ := loop_exists h hx
  have hne := hL.chain.ne
  obtain ⟨m, hm, hle⟩ := least_of (L := L) (fun e => by rw [e] at hne; simp at hne)
  obtain ⟨M, hM⟩ := loop_exists h (hL.chain.sub m hm)
  have hs := hL.same hM hm
  have hxL : x ∈ L := by have := getDn_mem hne; rwa [hL.chain.hd] at this
  refine ⟨m, ⟨M, hM, fun y hy => hle y ((hs y).2 hy)⟩, ⟨M, hM, (hs x).1 hxL⟩, ?_⟩
  rintro u ⟨K, hK, hKle⟩ ⟨K', hK', hxK⟩
  rw [hK'.one hK] at hxK
  have hs2 := hK.same hL hxK
  have humem : u ∈ L := (hs2 u).1 (by have := getDn_mem hK.chain.ne; rwa [hK.chain.hd] at this)
  exact Nat.le_antisymm (hKle m ((hs2 m).2 hm)) (hle u humem)
/-- As many border edges as border vertices. -/
def bEdges (l : List Tr) : List Nat := (List.range (3 * l.length)).filter fun c => decide (oppC l c = -1)
theorem bEdges_len {N : Int} {l : List Tr} (h : Surf N l) : (bEdges l).length = (bV N l).length := by
  have hm : ∀ c, c ∈ bEdges l ↔ c < 3 * l.length ∧ oppC l c = -1 := fun c => by unfold bEdges; rw [List.mem_filter, List.mem_range, decide_eq_true_iff]
  have hnd : (bEdges l).Nodup := by
    rw [List.nodup_iff_pairwise_ne]
    exact List.Pairwise.filter _ (List.pairwise_lt_range.imp fun h => by omega)
  have inV : ∀ c ∈ bEdges l, Bdry l (vtx l (nxt c)) (vtx l (prv c)) := fun c hc => (bdry_corner ((hm c).1 hc).1).2 ((hm c).1 hc).2
  have nd : ((bEdges l).map fun c => (vtx l (prv c)).toNat).Nodup := by
    rw [List.nodup_iff_pairwise_ne] at *
    rw [List.pairwise_map]
    refine hnd.imp_of_mem fun {a b} ha hb hne e => hne ?_
    have b1 := inV a ha
    have b2 := inV b hb
    have p1 := (bdry_in h b1).2.1
    have p2 := (bdry_in h b2).2.1
    have ev : vtx l (prv a) = vtx l (prv b) := by omega
    rw [ev] at b1
    have eu := bdry_in_one h b1 b2
    exact edgeC_inj h ((hm a).1 ha).1 ((hm b).1 hb).1 (Prod.ext eu ev)
  have sub1 : ∀ x ∈ (bEdges l).map fun c => (vtx l (prv c)).toNat, x ∈ bV N l := fun x hx => by
    obtain ⟨c, hc, rfl⟩ := List.mem_map.1 hx
    have b1 := inV c hc
    have p1 := (bdry_in h b1).1.1
    have p2 := (bdry_in h b1).2.1
    refine (bV_mem h).2 ⟨(vtx l (nxt c)).toNat, ?_⟩
    rw [show (((vtx l (nxt c)).toNat : Nat) : Int) = vtx l (nxt c) by omega, show (((vtx l (prv c)).toNat : Nat) : Int) = vtx l (prv c) by omega]
    exact b1
  have sub2 : ∀ x ∈ bV N l, x ∈ (bEdges l).map fun c => (vtx l (prv c)).toNat := fun x hx => by
    obtain ⟨y, hb⟩ := (bV_mem h).1 hx
    obtain ⟨c, hc, he, ho⟩ := bdry_at hb
    refine List.mem_map.2 ⟨c, (hm c).2 ⟨hc, ho⟩, ?_⟩
    have : vtx l (prv c) = (x : Int) := congrArg Prod.snd he
    rw [this]; rfl
  have h1 := nodup_subN nd sub1
  have h2 := nodup_subN (bV_nodup N l) sub2
  rw [List.length_map] at h1 h2
  omega
end Go.Proofs.Ytmflacmgffpjoaa

/- Layer 12: all loops of the border, in the order of their least vertices; each border vertex is in just one. -/
namespace Go.Proofs.Ytmflacmgffpjoaa

theorem IsLoop.self {N : Int} {l : List Tr} {v : Nat} {L : List Nat} (h : IsLoop N l v L) : v ∈ L := by
  have := getDn_mem h.chain.ne
  rwa [h.chain.hd] at this
theorem IsLeast.mem {N : Int} {l : List Tr} {v : Nat} (h : IsLeast N l v) : v ∈ bV N l := by
  obtain ⟨L, hL, _⟩ := h
  exact hL.chain.sub _ hL.self
theorem bV_lt {N : Int} {l : List Tr} {v : Nat} (h : v ∈ bV N l) : v < N.toNat := by
  unfold bV at h
  exact List.mem_range.1 (List.mem_filter.1 h).1
/-- The loops whose least vertex lies below k, in the order of these. -/
def IsLoopsK (N : Int) (l : List Tr) (k : Nat) (LL : List (List Nat)) : Prop :=
  ∃ vs : List Nat, vs.Pairwise (· < ·) ∧ (∀ v, v ∈ vs ↔ IsLeast N l v ∧ v < k) ∧ LL.length = vs.length ∧ ∀ i, i < vs.length → IsLoop N l (vs.getD i 0) (LL.getD i [])
theorem IsLoopsK.nil (N : Int) (l : List Tr) : IsLoopsK N l 0 [] := ⟨[], List.Pairwise.nil, fun v => Iff.intro (fun h => by cases h) (fun h => absurd h.2 (by omega)), rfl, fun i hi => absurd hi (by simp)⟩
theorem IsLoopsK.skip {N : Int} {l : List Tr} {k : Nat} {LL : List (List Nat)} (h : IsLoopsK N l k LL) (hk : ¬ IsLeast N l k) : IsLoopsK N l (k + 1) LL := by
  obtain ⟨vs, h1, h2, h3, h4⟩ := h
  refine ⟨vs, h1, fun v => ?_, h3, h4⟩
  rw [h2]
  constructor
  · exact fun h => ⟨h.1, by omega⟩
  · rintro ⟨h, hv⟩
    refine ⟨h, ?_⟩
    rcases Nat.lt_or_ge v k with g | g
    · exact g
    · exact absurd (show IsLeast N l k by rw [show k = v by omega]; exact h) hk
theorem IsLoopsK.add {N : Int} {l : List Tr} {k : Nat} {LL : List (List Nat)} (h : IsLoopsK N l k LL) {L : List Nat} (hL : IsLoop N l k L) (hl : ∀ x ∈ L, k ≤ x) : IsLoopsK N l (k + 1) (LL ++ [L]) := by
  obtain ⟨vs, h1, h2, h3, h4⟩ := h
  refine ⟨vs ++ [k], ?_, fun v => ?_, by simp [h3], fun i hi => ?_⟩
  · rw [List.pairwise_append]
    exact ⟨h1, List.pairwise_singleton _ _, fun a ha b hb => by rw [List.mem_singleton.1 hb]; exact ((h2 a).1 ha).2⟩
  · rw [List.mem_append, h2, List.mem_singleton]
    constructor
    · rintro (h | rfl)
      · exact ⟨h.1, by omega⟩
      · exact ⟨⟨L, hL, hl⟩, by omega⟩
    · rintro ⟨h, hv⟩
      rcases Nat.lt_or_ge v k with g | g
      · exact .inl ⟨h, g⟩
      · exact .inr (by omega)
  · rw [List.length_append, List.length_singleton] at hi
    rcases Nat.lt_or_ge i vs.length with g | g
    · have a1 : (vs ++ [k]).getD i 0 = vs.getD i 0 := by rw [List.getD_eq_getElem?_getD, List.getD_eq_getElem?_getD, List.getElem?_append_left g]
      have a2 : (LL ++ [L]).getD i [] = LL.getD i [] := by rw [List.getD_eq_getElem?_getD, List.getD_eq_getElem?_getD, List.getElem?_append_left (by omega)]
      rw [a1, a2]
      exact h4 i g
    · obtain rfl : i = vs.length := by omega
      have a1 : (vs ++ [k]).getD vs.length 0 = k := by rw [List.getD_eq_getElem?_getD, List.getElem?_append_right (Nat.le_refl _)]; simp
      have a2 : (LL ++ [L]).getD vs.length [] = L := by rw [List.getD_eq_getElem?_getD, List.getElem?_append_right (by omega)]; simp [h3]
      rw [a1, a2]
      exact hL
def IsLoops (N : Int) (l : List Tr) (LL : List (List Nat)) : Prop := IsLoopsK N l N.toNat LL
/-- A list in ascending order is known by its members. -/
theorem asc_one : ∀ {a b : List Nat}, a.Pairwise (· < ·) → b.Pairwise (· < ·) → (∀ x, x ∈ a ↔ x ∈ b) → a = b
  | [], [], _, _, _ => rfl
  | [], y :: b, _, _, h => absurd ((h y).2 List.mem_cons_self) (by simp)
  | x :: a, [], _, _, h => absurd ((h x).1 List.mem_cons_self) (by simp)
  | x :: a, y :: b, ha, hb, h => by
    rw [List.pairwise_cons] at ha hb
    have e : x = y := by
      rcases List.mem_cons.1 ((h x).1 List.mem_cons_self) with e | h1
      · exact e
      · rcases List.mem_cons.1 ((h y).2 List.mem_cons_self) with e | h2
        · exact e.symm
        · have := hb.1 x h1
          have := ha.1 y h2
          omega
    subst e
    rw [asc_one ha.2 hb.2 fun z => ?_]
    constructor
    · intro hz
      rcases List.mem_cons.1 ((h z).1 (List.mem_cons_of_mem _ hz)) with e | h1
      · have := ha.1 z hz; omega
      · exact h1
    · intro hz
      rcases List.mem_cons.1 ((h z).2 (List.mem_cons_of_mem _ hz)) with e | h1
      · have := hb.1 z hz; omega
      · exact h1
theorem IsLoopsK.one {N : Int} {l : List Tr} {k : Nat} {LL MM : List (List Nat)} (h : IsLoopsK N l k LL) (h' : IsLoopsK N l k MM) : LL = MM := by
  obtain ⟨vs, h1, h2, h3, h4⟩ := h
  obtain ⟨ws, g1, g2, g3, g4⟩ := h'
  obtain rfl := asc_one h1 g1 fun x => (h2 x).trans (g2 x).symm
  refine ext_getD (z := []) (h3.trans g3.symm) fun i hi => ?_
  exact (h4 i (by omega)).one (g4 i (by omega))
theorem loopsK_exists {N : Int} {l : List Tr} : ∀ k, ∃ LL, IsLoopsK N l k LL
  | 0 => ⟨[], .nil N l⟩
  | k + 1 => by
    obtain ⟨LL, h⟩ := loopsK_exists (N := N) (l := l) k
    by_cases hk : IsLeast N l k
    · obtain ⟨L, hL, hl⟩ := hk
      exact ⟨LL ++ [L], h.add hL hl⟩
    · exact ⟨LL, h.skip hk⟩
theorem IsLoops.one {N : Int} {l : List Tr} {LL MM : List (List Nat)} (h : IsLoops N l LL) (h' : IsLoops N l MM) : LL = MM := IsLoopsK.one h h'
theorem loops_exists (N : Int) (l : List Tr) : ∃ LL, IsLoops N l LL := loopsK_exists _
/-- Each loop of the list: a loop from its least vertex on. -/
theorem IsLoopsK.at {N : Int} {l : List Tr} {k : Nat} {LL : List (List Nat)} (h : IsLoopsK N l k LL) {i : Nat} (hi : i < LL.length) : ∃ v, IsLeast N l v ∧ v < k ∧ IsLoop N l v (LL.getD i []) ∧ ∀ x ∈ LL.getD i [], v ≤ x := by
  obtain ⟨vs, h1, h2, h3, h4⟩ := h
  have hv := (h2 _).1 (getDn_mem (show i < vs.length by omega))
  obtain ⟨L, hL, hl⟩ := hv.1
  have hi' := h4 i (by omega)
  exact ⟨_, hv.1, hv.2, hi', fun x hx => hl x (by rw [hL.one hi']; exact hx)⟩
theorem ll_mem {LL : List (List Nat)} {L : List Nat} (h : L ∈ LL) : ∃ i, i < LL.length ∧ LL.getD i [] = L := by
  obtain ⟨i, hi, rfl⟩ := List.mem_iff_getElem.1 h
  exact ⟨i, hi, by rw [List.getD_eq_getElem?_getD, List.getElem?_eq_getElem hi]; rfl⟩
theorem ll_at {LL : List (List Nat)} {i : Nat} (hi : i < LL.length) : LL.getD i [] ∈ LL := by
  rw [List.getD_eq_getElem?_getD, List.getElem?_eq_getElem hi]; exact List.getElem_mem hi
/-- The vertices of all loops together: each border vertex, once. -/
theorem IsLoops.flat {N : Int} {l : List Tr} (hs : Surf N l) {LL : List (List Nat)} (h : IsLoops N l LL) : LL.flatten.Nodup ∧ ∀ x, x ∈ LL.flatten ↔ x ∈ bV N l := by
  refine ⟨?_, fun x => ?_⟩
  · rw [List.nodup_iff_pairwise_ne, List.pairwise_flatten]
    refine ⟨fun L hL => ?_, ?_⟩
    · obtain ⟨i, hi, rfl⟩ := ll_mem hL
      obtain ⟨v, _, _, hl, _⟩ := h.at hi
      exact List.nodup_iff_pairwise_ne.1 hl.chain.nd
    · rw [List.pairwise_iff_getElem]
      intro i j hi hj hij x hx y hy e
      subst e
      obtain ⟨vs, h1, h2, h3, h4⟩ := h
      have gi := h4 i (by omega)
      have gj := h4 j (by omega)
      have ei : LL.getD i [] = LL[i] := by rw [List.getD_eq_getElem?_getD, List.getElem?_eq_getElem hi]; rfl
      have ej : LL.getD j [] = LL[j] := by rw [List.getD_eq_getElem?_getD, List.getElem?_eq_getElem hj]; rfl
      rw [ei] at gi
      rw [ej] at gj
      obtain ⟨v, _, _, hv⟩ := least_one hs (gi.chain.sub x hx)
      have a := hv _ ((h2 _).1 (getDn_mem (show i < vs.length by omega))).1 ⟨_, gi, hx⟩
      have b := hv _ ((h2 _).1 (getDn_mem (show j < vs.length by omega))).1 ⟨_, gj, hy⟩
      have := List.pairwise_iff_getElem.1 h1 i j (by omega) (by omega) hij
      rw [List.getD_eq_getElem?_getD, List.getElem?_eq_getElem (by omega)] at a b
      simp only [Option.getD_some] at a b
      omega
  · rw [List.mem_flatten]
    constructor
    · rintro ⟨L, hL, hx⟩
      obtain ⟨i, hi, rfl⟩ := ll_mem hL
      obtain ⟨v, _, _, hl, _⟩ := h.at hi
      exact hl.chain.sub x hx
    · intro hx
      obtain ⟨v, hv, ⟨L, hL, hxL⟩, _⟩ := least_one hs hx
      obtain ⟨vs, h1, h2, h3, h4⟩ := h
      obtain ⟨i, hi, rfl⟩ := memn_getD ((h2 v).2 ⟨hv, bV_lt hv.mem⟩)
      refine ⟨LL.getD i [], ll_at (by omega), ?_⟩
      rw [(h4 i hi).one hL]
      exact hxL
/-- As many in all loops together as there are border edges. -/
theorem IsLoops.total {N : Int} {l : List Tr} (hs : Surf N l) {LL : List (List Nat)} (h : IsLoops N l LL) : LL.flatten.length = (bEdges l).length := by
  obtain ⟨h1, h2⟩ := h.flat hs
  have a := nodup_subN h1 fun x hx => (h2 x).1 hx
  have b := nodup_subN (bV_nodup N l) fun x hx => (h2 x).2 hx
  rw [bEdges_len hs]
  omega
end Go.Proofs.Ytmflacmgffpjoaa

/- Layer 12: the border edges whose corners lie below a number; what a walk along the boundary tells. -/
namespace Go.Proofs.Ytmflacmgffpjoaa
open Go.RowKit

/-- The border edges whose corners lie below k. -/
def bUp (l : List Tr) (k : Nat) : List Ed := ((List.range k).filter fun c => decide (oppC l c = -1)).map (edgeC l)
def bE (l : List Tr) : List Ed := (bEdges l).map (edgeC l)
theorem bUp_succ (l : List Tr) (k : Nat) : bUp l (k + 1) = bUp l k ++ if oppC l k = -1 then [edgeC l k] else [] := by
  unfold bUp
  rw [List.range_succ, List.filter_append, List.map_append]
  by_cases h : oppC l k = -1
  · rw [if_pos h]; simp [h]
  · rw [if_neg h]; simp [h]
theorem bUp_le (l : List Tr) (k : Nat) : (bUp l k).length ≤ k := by
  unfold bUp
  rw [List.length_map]
  exact Nat.le_trans (List.length_filter_le _ _) (by simp)
theorem bUp_all (l : List Tr) : bUp l (3 * l.length) = bE l := rfl
/-- What a walk along the border tells. -/
def IsWalk (N : Int) (l : List Tr) (v : Int) (xs : List Int) : Prop := (afterV l v < 0 ∧ xs = []) ∨ (0 ≤ afterV l v ∧ ∃ L, IsLoop N l v.toNat L ∧ xs = natsI L)
theorem after_in {N : Int} {l : List Tr} (h : Surf N l) {v : Int} (h0 : 0 ≤ afterV l v) : inN N v ∧ v.toNat ∈ bV N l := by
  have hb := (after_iff h h0).1 rfl
  have hin := (bdry_in h hb).2
  have := hin.1
  refine ⟨hin, (bV_mem h).2 ⟨(afterV l v).toNat, ?_⟩⟩
  rw [show (((afterV l v).toNat : Nat) : Int) = afterV l v by omega, show ((v.toNat : Nat) : Int) = v by omega]
  exact hb
theorem walk_exists {N : Int} {l : List Tr} (h : Surf N l) (v : Int) : ∃ xs, IsWalk N l v xs := by
  by_cases h0 : afterV l v < 0
  · exact ⟨[], .inl ⟨h0, rfl⟩⟩
  · obtain ⟨L, hL⟩ := loop_exists h (after_in h (show 0 ≤ afterV l v by omega)).2
    exact ⟨_, .inr ⟨by omega, L, hL, rfl⟩⟩
theorem IsWalk.one {N : Int} {l : List Tr} {v : Int} {xs ys : List Int} (h : IsWalk N l v xs) (h' : IsWalk N l v ys) : xs = ys := by
  rcases h with ⟨a, rfl⟩ | ⟨a, L, hL, rfl⟩
  · rcases h' with ⟨_, rfl⟩ | ⟨b, _⟩
    · rfl
    · omega
  · rcases h' with ⟨b, _⟩ | ⟨_, M, hM, rfl⟩
    · omega
    · rw [hL.one hM]
theorem loop_after {N : Int} {l : List Tr} (h : Surf N l) {v : Nat} {L : List Nat} (hL : IsLoop N l v L) {k : Nat} (hk : k < L.length) : (k + 1 < L.length ∧ afterV l ((L.getD k 0 : Nat) : Int) = ((L.getD (k + 1) 0 : Nat) : Int)) ∨ (k + 1 = L.length ∧ afterV l ((L.getD k 0 : Nat) : Int) = (v : Int)) := by
  rcases Nat.lt_or_ge (k + 1) L.length with g | g
  · exact .inl ⟨g, (after_iff h (by omega)).2 ((aT_iff h).1 (hL.chain.st k g))⟩
  · obtain rfl : k = L.length - 1 := by omega
    exact .inr ⟨by omega, (after_iff h (by omega)).2 ((aT_iff h).1 hL.back)⟩
theorem loop_len {N : Int} {l : List Tr} (h : Surf N l) {v : Nat} {L : List Nat} (hL : IsLoop N l v L) : L.length ≤ 3 * l.length := by
  have a := nodup_subN hL.chain.nd hL.chain.sub
  rw [← bEdges_len h] at a
  refine Nat.le_trans a ?_
  unfold bEdges
  exact Nat.le_trans (List.length_filter_le _ _) (by simp)
end Go.Proofs.Ytmflacmgffpjoaa
