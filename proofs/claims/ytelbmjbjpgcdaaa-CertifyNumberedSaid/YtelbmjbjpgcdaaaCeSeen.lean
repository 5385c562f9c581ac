/- Layer 9: what an examiner sees, and what it has handed when it ends. -/
import Derived.Test.YtelbmjbjpgcdaaaCeTake
namespace Go.Proofs.Ytelbmjbjpgcdaaa
open Go.RowKit

/-- The list that is examined: its block g, its triangles; none of it lies in S. -/
structure Seen (S : Nat → Prop) (g : Nat) (N : Int) (A : Option Addr) (n c : Nat) (m : Option Nat) (tl : List Tr) (w : World) : Prop where
  lb : w.heap[g]? = some (.cells #[.int .i64 N, .slice A n c, .map m] 56 (0, 0))
  t3 : T3 w A n tl
  ng : ¬ S g
  nA : 0 < n → ∀ b off, A = some ⟨b, off, none⟩ → ¬ S b
theorem T3.chg {S : Nat → Prop} {w w' : World} {A : Option Addr} {n : Nat} {l : List Tr} (h : T3 w A n l) (hc : Chg S w w') (hA : 0 < n → ∀ b off, A = some ⟨b, off, none⟩ → ¬ S b) : T3 w' A n l := by
  refine ⟨h.1, fun hn => ?_⟩
  obtain ⟨b, off, e, hcl⟩ := h.2 hn
  have key : ∀ o v, w.cell? ⟨b, o, none⟩ = some v → w'.cell? ⟨b, o, none⟩ = some v := fun o v hv => by
    have e1 := hc.far b (World.block_lt_of_cell? w _ hv) (hA hn b off e)
    rw [← hv]
    simp only [World.cell?, e1]
  exact ⟨b, off, e, fun i hi => ⟨key _ _ (hcl i hi).1, key _ _ (hcl i hi).2.1, key _ _ (hcl i hi).2.2⟩⟩
theorem Seen.chg {S : Nat → Prop} {g : Nat} {N : Int} {A : Option Addr} {n c : Nat} {m : Option Nat} {tl : List Tr} {w w' : World} (h : Seen S g N A n c m tl w) (hc : Chg S w w') : Seen S g N A n c m tl w' :=
  ⟨(hc.far g (heap_lt h.lb) h.ng).trans h.lb, h.t3.chg hc h.nA, h.ng, h.nA⟩
theorem Seen.c0 {S : Nat → Prop} {g : Nat} {N : Int} {A : Option Addr} {n c : Nat} {m : Option Nat} {tl : List Tr} {w : World} (h : Seen S g N A n c m tl w) : w.cell? ⟨g, 0, none⟩ = some (.int .i64 N) := by rw [cell_in h.lb]; rfl
theorem Seen.c1 {S : Nat → Prop} {g : Nat} {N : Int} {A : Option Addr} {n c : Nat} {m : Option Nat} {tl : List Tr} {w : World} (h : Seen S g N A n c m tl w) : w.cell? ⟨g, 1, none⟩ = some (.slice A n c) := by rw [cell_in h.lb]; rfl
theorem Seen.c2 {S : Nat → Prop} {g : Nat} {N : Int} {A : Option Addr} {n c : Nat} {m : Option Nat} {tl : List Tr} {w : World} (h : Seen S g N A n c m tl w) : w.cell? ⟨g, 2, none⟩ = some (.map m) := by rw [cell_in h.lb]; rfl

/-- More was wanted behind each of these. -/
def AllGo (go : List Wt → Bool) (l : List Wt) : Prop := ∀ m, m <+: l → m ≠ [] → go m = true
theorem AllGo.nil (go : List Wt → Bool) : AllGo go [] := fun _ hm hn => absurd (List.prefix_nil.1 hm) hn
theorem AllGo.snoc {go : List Wt → Bool} {l : List Wt} {x : Wt} (h : AllGo go l) (hx : go (l ++ [x]) = true) : AllGo go (l ++ [x]) := by
  intro m hm hn
  rcases List.prefix_concat_iff.1 hm with rfl | h1
  · exact hx
  · exact h m h1 hn
/-- What has been handed when an examiner ends: all, or up to one behind which no more was wanted. -/
def Handed (ws : List Wt) (go : List Wt → Bool) (l : List Wt) : Prop := (l = ws ∧ AllGo go l) ∨ ∃ m x, l = m ++ [x] ∧ l <+: ws ∧ AllGo go m ∧ go l = false
theorem Handed.stop {ws m : List Wt} {go : List Wt → Bool} {x : Wt} (h : AllGo go m) (hp : m ++ [x] <+: ws) (hx : go (m ++ [x]) = false) : Handed ws go (m ++ [x]) := .inr ⟨m, x, rfl, hp, h, hx⟩
def Ended (ws : List Wt) (go : List Wt → Bool) (S : Nat → Prop) (Inv : List Wt → World → Prop) (w : World) (e : Ending) (w' : World) : Prop := e = .returned (.tuple #[]) ∧ ∃ l, Handed ws go l ∧ Inv l w' ∧ Chg S w w'

/-- Triangle by triangle: what is told of the first a. -/
def idxP (kd : Int) (q : Tr → Bool) (tl : List Tr) (a : Nat) : List Wt := ((List.range a).filter fun i => q (tl.getD i z3)).map fun i => (kd, ((i : Nat) : Int), 0)
theorem idxP_zero (kd : Int) (q : Tr → Bool) (tl : List Tr) : idxP kd q tl 0 = [] := rfl
theorem idxP_succ (kd : Int) (q : Tr → Bool) (tl : List Tr) (a : Nat) : idxP kd q tl (a + 1) = idxP kd q tl a ++ (if q (tl.getD a z3) = true then [(kd, (a : Int), 0)] else []) := by
  unfold idxP
  rw [List.range_succ, List.filter_append, List.map_append]
  congr 1
  rw [List.filter_cons]
  by_cases h : q (tl.getD a z3) = true
  · rw [if_pos h, if_pos h]; rfl
  · rw [if_neg h, if_neg h]; rfl
theorem idxP_yes {kd : Int} {q : Tr → Bool} {tl : List Tr} {a : Nat} (h : q (tl.getD a z3) = true) : idxP kd q tl (a + 1) = idxP kd q tl a ++ [(kd, (a : Int), 0)] := by rw [idxP_succ, if_pos h]
theorem idxP_no {kd : Int} {q : Tr → Bool} {tl : List Tr} {a : Nat} (h : q (tl.getD a z3) = false) : idxP kd q tl (a + 1) = idxP kd q tl a := by rw [idxP_succ, if_neg (by rw [h]; decide), List.append_nil]
theorem idxP_pre (kd : Int) (q : Tr → Bool) (tl : List Tr) {a b : Nat} (h : a ≤ b) : idxP kd q tl a <+: idxP kd q tl b := by
  induction h with
  | refl => exact List.prefix_refl _
  | step h ih => exact ih.trans (by rw [idxP_succ]; exact List.prefix_append _ _)
theorem idxP_all (kd : Int) (q : Tr → Bool) (tl : List Tr) : idxP kd q tl tl.length = idxW kd q tl := rfl
theorem Taker.at {f : FuncId} {caps : List Value} {ws : List Wt} {go : List Wt → Bool} {S : Nat → Prop} {Inv : List Wt → World → Prop} (H : Taker f caps ws go S Inv) {l l' : List Wt} {x : Wt} {w : World} (e : l' = l ++ [x]) (hp : l' <+: ws) (hi : Inv l w) :
    Calls Try.prog f (wv x :: caps).toArray w fun e w' => e = .returned (.bool (go l')) ∧ Inv l' w' ∧ Chg S w w' := by
  subst e; exact H.call l x w hp hi
theorem Handed.one {ws l l' : List Wt} {go : List Wt → Bool} {x : Wt} (h : AllGo go l) (e : l' = l ++ [x]) (hp : l' <+: ws) (hx : go l' = false) : Handed ws go l' := .inr ⟨l, x, e, hp, h, hx⟩
theorem AllGo.one {go : List Wt → Bool} {l l' : List Wt} {x : Wt} (h : AllGo go l) (e : l' = l ++ [x]) (hx : go l' = true) : AllGo go l' := by subst e; exact h.snoc hx
/-- A round of an examiner that looks at one thing after the other. -/
structure TriSt (S : Nat → Prop) (Inv : List Wt → World → Prop) (go : List Wt → Bool) (l : List Wt) (w wr : World) : Prop where
  inv : Inv l wr
  all : AllGo go l
  chg : Chg S w wr
def TriAt (S : Nat → Prop) (Inv : List Wt → World → Prop) (go : List Wt → Bool) (pre : Nat → List Wt) (n : Nat) (w : World) (i : Value) (wr : World) : Prop := ∃ k : Nat, k ≤ n ∧ i = .int .i64 (k : Int) ∧ TriSt S Inv go (pre k) w wr
theorem TriSt.below {f : FuncId} {caps : List Value} {ws : List Wt} {go : List Wt → Bool} {S : Nat → Prop} {Inv : List Wt → World → Prop} (H : Taker f caps ws go S Inv) {l : List Wt} {w wr w' : World} (h : TriSt S Inv go l w wr) (hb : Below wr.heap.size wr w') : TriSt S Inv go l w w' :=
  ⟨H.keep _ _ _ h.inv (Sam.of_below hb (H.lt _ _ h.inv)), h.all, h.chg.trans (.of_below hb)⟩
/-- .. whose closure was handed one more. -/
structure Gone (S : Nat → Prop) (Inv : List Wt → World → Prop) (go : List Wt → Bool) (ws l' : List Wt) (w wr : World) (b : Bool) (e : Ending) (w' : World) : Prop where
  ret : e = .returned (.bool b)
  yes : b = true → TriSt S Inv go l' w w'
  no : b = false → ∃ l, Handed ws go l ∧ Inv l w' ∧ Chg S w w'
  step : Chg S wr w'
theorem TriSt.hand {f : FuncId} {caps : List Value} {ws : List Wt} {go : List Wt → Bool} {S : Nat → Prop} {Inv : List Wt → World → Prop} (H : Taker f caps ws go S Inv) {l l' : List Wt} {x : Wt} {w wr : World} (h : TriSt S Inv go l w wr) (e : l' = l ++ [x]) (hp : l' <+: ws) :
    Calls Try.prog f (wv x :: caps).toArray wr (Gone S Inv go ws l' w wr (go l')) :=
  (H.at e hp h.inv).mono fun _ _ k => ⟨k.1, fun hb => ⟨k.2.1, h.all.one e hb, h.chg.trans k.2.2⟩, fun hb => ⟨l', Handed.one h.all e hp hb, k.2.1, h.chg.trans k.2.2⟩, k.2.2⟩
theorem TriSt.set {f : FuncId} {caps : List Value} {ws : List Wt} {go : List Wt → Bool} {S : Nat → Prop} {Inv : List Wt → World → Prop} (H : Taker f caps ws go S Inv) {l : List Wt} {w wr : World} (h : TriSt S Inv go l w wr) (p : Addr) (u : Value) (hq : w.heap.size ≤ p.block) (hS : ¬ S p.block) : TriSt S Inv go l w (wr.setCell p u) :=
  ⟨H.keep _ _ _ h.inv (Sam.of_set _ _ _ hS), h.all, h.chg.trans' (.of_set (S := fun b => b = p.block) wr p u rfl) fun b hb e => by omega⟩
theorem TriSt.grown {f : FuncId} {caps : List Value} {ws : List Wt} {go : List Wt → Bool} {S : Nat → Prop} {Inv : List Wt → World → Prop} (H : Taker f caps ws go S Inv) {l : List Wt} {w wr w' : World} {row : Option Nat} (h : TriSt S Inv go l w wr) (hg : wr.grownBy w' row) (hq : ∀ q, row = some q → w.heap.size ≤ q) (hS : ∀ b, S b → b < w.heap.size) : TriSt S Inv go l w w' :=
  ⟨H.keep _ _ _ h.inv fun b hb => hg.block b (H.lt _ _ h.inv b hb) fun e => by have := hq b e.symm; have := hS b hb; omega,
   h.all, h.chg.trans' (.of_grown (S := fun b => row = some b) hg fun b e => e) fun b hb e => by have := hq b e; omega⟩
end Go.Proofs.Ytelbmjbjpgcdaaa
