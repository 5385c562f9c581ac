/- Texts laid one behind the other: CeTake, CeRep1, CeSeen, CeLoop, CeIdx, CeEdge, SouKey, CeMap, CeEdges, CeGrp, CeTwP. -/
import Derived.Test.YtmflacmgffpjoaaGM
import Derived.Test.YtmflacmgffpjoaaGP
import Derived.BigQuiet
import Derived.Deep.DeepCutAuto
import Derived.Deep.RegionHeld3
import Derived.Laws.Cover1
import Derived.Handy
import Derived.StillTailTactics
import Derived.Maps.OwnOps
import Derived.Maps.OwnSet
import Derived.Maps.Views
import Derived.DeepKeys4
import Derived.WideKeyEntry
import Derived.Maps.AppendAt

/- Layer 9: closures that are handed witnesses one by one; certify's own. -/
namespace Go.Proofs.Ytmflacmgffpjoaa
open Go.RowKit

/-- A witness as a value. -/
abbrev wv (x : Wt) : Value := .agg #[.int .i64 x.1, .int .i64 x.2.1, .int .i64 x.2.2]
/-- The blocks of S are as they were. -/
def Sam (S : Nat → Prop) (w w' : World) : Prop := ∀ b, S b → w'.heap[b]? = w.heap[b]?
theorem Sam.trans {S : Nat → Prop} {w w1 w2 : World} (h : Sam S w w1) (k : Sam S w1 w2) : Sam S w w2 := fun b hb => (k b hb).trans (h b hb)
theorem Sam.of_below {S : Nat → Prop} {w w1 : World} (h : Below w.heap.size w w1) (hs : ∀ b, S b → b < w.heap.size) : Sam S w w1 := fun b hb => h.block b (hs b hb)
theorem Sam.of_set {S : Nat → Prop} (w : World) (p : Addr) (u : Value) (h : ¬ S p.block) : Sam S w (w.setCell p u) := fun b hb => Below.heap_setCell w p u b (fun e => h (e ▸ hb))
theorem Sam.mono {S T : Nat → Prop} {w w1 : World} (h : Sam S w w1) (hs : ∀ b, T b → S b) : Sam T w w1 := fun b hb => h b (hs b hb)
/-- A closure that takes the witnesses of ws one by one, in a state of its own; 'go' tells whether it wants more. -/
structure Taker (f : FuncId) (caps : List Value) (ws : List Wt) (go : List Wt → Bool) (S : Nat → Prop) (Inv : List Wt → World → Prop) : Prop where
  call : ∀ l x w, l ++ [x] <+: ws → Inv l w → Calls Try.prog f (wv x :: caps).toArray w fun e w' => e = .returned (.bool (go (l ++ [x]))) ∧ Inv (l ++ [x]) w' ∧ Chg S w w'
  keep : ∀ l w w', Inv l w → Sam S w w' → Inv l w'
  lt : ∀ l w, Inv l w → ∀ b, S b → b < w.heap.size
  enter : ∀ args w, (callFunc f args).run Try.prog w = .ok (.enter f args) w

theorem chg_set3 {S : Nat → Prop} {w w1 : World} {q : Nat} (h : Chg S w w1) (hq : S q) (a b c : Value) : Chg S w (((w1.setCell ⟨q, 0, none⟩ a).setCell ⟨q, 1, none⟩ b).setCell ⟨q, 2, none⟩ c) := ((h.set ⟨q, 0, none⟩ a hq).set ⟨q, 1, none⟩ b hq).set ⟨q, 2, none⟩ c hq
theorem fields_wit : (Try.prog.fieldsOf 61).toList.map (fun f => (f.name, f.type, f.offset)) = [("Kind", 3, 0), ("A", 3, 1), ("B", 3, 2)] := by kernel_rfl
theorem eqFields3 (w : World) (d : Nat) (fs : List Field) (hfs : fs.map (fun f => (f.name, f.type, f.offset)) = [("Kind", 3, 0), ("A", 3, 1), ("B", 3, 2)]) (x0 x1 x2 y0 y1 y2 : Int) :
    (Op.eqFields (d + 1) #[.int .i64 x0, .int .i64 x1, .int .i64 x2] #[.int .i64 y0, .int .i64 y1, .int .i64 y2] fs).run Try.prog w = .ok (x0 == y0 && (x1 == y1 && x2 == y2)) w := by
  obtain ⟨f0, f1, f2, rfl⟩ : ∃ f0 f1 f2, fs = [f0, f1, f2] := by
    rcases fs with _ | ⟨f0, _ | ⟨f1, _ | ⟨f2, _ | ⟨f3, r⟩⟩⟩⟩
    · simp at hfs
    · simp at hfs
    · simp at hfs
    · exact ⟨_, _, _, rfl⟩
    · simp at hfs
  have h := hfs
  simp only [List.map_cons, List.map_nil, List.cons.injEq, Prod.mk.injEq, and_true] at h
  obtain ⟨⟨n0, t0, o0⟩, ⟨n1, t1, o1⟩, n2, t2, o2⟩ := h
  have m0 : f0.name ≠ "_" := by rw [n0]; decide
  have m1 : f1.name ≠ "_" := by rw [n1]; decide
  have m2 : f2.name ≠ "_" := by rw [n2]; decide
  have u3 := Try.underlying3
  have p0 := part_int w #[.int .i64 x0, .int .i64 x1, .int .i64 x2] 0 x0 rfl
  have r0 := part_int w #[.int .i64 y0, .int .i64 y1, .int .i64 y2] 0 y0 rfl
  have s0 := run_equalIn_int (P := Try.prog) w d 3 .i64 .i64 x0 y0 u3
  have p1 := part_int w #[.int .i64 x0, .int .i64 x1, .int .i64 x2] 1 x1 rfl
  have r1 := part_int w #[.int .i64 y0, .int .i64 y1, .int .i64 y2] 1 y1 rfl
  have s1 := run_equalIn_int (P := Try.prog) w d 3 .i64 .i64 x1 y1 u3
  have p2 := part_int w #[.int .i64 x0, .int .i64 x1, .int .i64 x2] 2 x2 rfl
  have r2 := part_int w #[.int .i64 y0, .int .i64 y1, .int .i64 y2] 2 y2 rfl
  have s2 := run_equalIn_int (P := Try.prog) w d 3 .i64 .i64 x2 y2 u3
  simp only [Op.eqFields, Sem.run_bind, Sem.run_ite, ne_eq, m0, m1, m2, not_false_eq_true, if_true, t0, t1, t2, o0, o1, o2, p0, r0, s0, Result.andThen_ok]
  cases h0 : (x0 == y0) <;> cases h1 : (x1 == y1) <;> cases h2 : (x2 == y2) <;> simp [p1, r1, s1, h1, p2, r2, s2, h2]
theorem under_wit : Try.prog.underlying 61 = some (.struct (Try.prog.fieldsOf 61)) := by kernel_rfl
theorem stood_wit : Try.prog.stoodInHeld 61 = false := by kernel_rfl
theorem eqInW (w : World) (x y : Wt) : (Op.equalIn 10000 61 (wv x) (wv y)).run Try.prog w = .ok (x.1 == y.1 && (x.2.1 == y.2.1 && x.2.2 == y.2.2)) w := by
  rw [show (10000 : Nat) = 9998 + 1 + 1 from rfl, run_equalIn_struct w (9998 + 1) _ _ _ under_wit stood_wit, eqFields3 w 9998 _ fields_wit]
theorem eqlW (w : World) (x0 x1 x2 y0 y1 y2 : Int) : (binOp .eql 61 (.agg #[.int .i64 x0, .int .i64 x1, .int .i64 x2]) (.agg #[.int .i64 y0, .int .i64 y1, .int .i64 y2])).run Try.prog w = .ok (.bool (x0 == y0 && (x1 == y1 && x2 == y2))) w := by
  rw [run_eql_struct, eqInW w (x0, x1, x2) (y0, y1, y2)]; rfl

set_option maxRecDepth 100000 in
theorem cCheck1_any (w : World) (q : Nat) (x y : Wt) (h : w.heap[q]? = some (.cells #[.int .i64 y.1, .int .i64 y.2.1, .int .i64 y.2.2] 61 (0, 0))) :
    Calls Try.prog 67 #[wv x, .pointer (some ⟨q, 0, none⟩)] w fun e w' => e = .returned (.bool false) ∧ w'.heap[q]? = some (.cells #[.int .i64 x.1, .int .i64 x.2.1, .int .i64 x.2.2] 61 (0, 0)) ∧ Chg (fun b => b = q) w w' := by
  have b0 := (Below.refl _ w).alloc (Nat.le_refl _) (.cells #[.int .i64 x.1, .int .i64 x.2.1, .int .i64 x.2.2] 61)
  have h1 := (b0.block q (heap_lt h)).trans h
  have z0 : (w.alloc (.cells #[.int .i64 x.1, .int .i64 x.2.1, .int .i64 x.2.2] 61)).cell? ⟨q, 0, none⟩ = some (.int .i64 y.1) := by rw [cell_in h1]; rfl
  have z1 : (w.alloc (.cells #[.int .i64 x.1, .int .i64 x.2.1, .int .i64 x.2.2] 61)).cell? ⟨q, 1, none⟩ = some (.int .i64 y.2.1) := by rw [cell_in h1]; rfl
  have z2 : (w.alloc (.cells #[.int .i64 x.1, .int .i64 x.2.1, .int .i64 x.2.2] 61)).cell? ⟨q, 2, none⟩ = some (.int .i64 y.2.2) := by rw [cell_in h1]; rfl
  have f0 := frozen_in h1 0
  have f1 := frozen_in h1 1
  have f2 := frozen_in h1 2
  have H1 := Lib.hid h1
  have B0 := Lib.hid b0
  clear h1 b0 h
  go_enter Try.func67, Try.ntmps67
  go_wp2
  go_ret
  exact ⟨rfl, set3 H1.out, chg_set3 (S := fun b => b = q) (Chg.of_below B0.out) rfl _ _ _⟩

theorem enter_Check1 (args : Array Value) (w : World) : (callFunc 67 args).run Try.prog w = .ok (.enter 67 args) w := by kernel_rfl
/-- Check's closure keeps the last one that it is handed, and wants no more. -/
def CheckSt (q : Nat) (l : List Wt) (w : World) : Prop := w.heap[q]? = some (.cells #[.int .i64 (l.getLastD (0, 0, 0)).1, .int .i64 (l.getLastD (0, 0, 0)).2.1, .int .i64 (l.getLastD (0, 0, 0)).2.2] 61 (0, 0))
theorem check1_taker (q : Nat) (ws : List Wt) : Taker 67 [.pointer (some ⟨q, 0, none⟩)] ws (fun _ => false) (fun b => b = q) (CheckSt q) where
  call l x w hp hi := (cCheck1_any w q x _ hi).mono fun e w' h => ⟨h.1, by unfold CheckSt; rw [List.getLastD_concat]; exact h.2.1, h.2.2⟩
  keep l w w' hi hs := (hs q rfl).trans hi
  lt l w hi b hb := by subst hb; exact heap_lt hi
  enter := enter_Check1
end Go.Proofs.Ytmflacmgffpjoaa

/- Layer 9: the closure that report hands to an examiner. -/
namespace Go.Proofs.Ytmflacmgffpjoaa
open Go.RowKit

/-- The state of report's closure: that of the one that it hands on to, and whether anything came. -/
structure RepInv (Inv : List Wt → World → Prop) (f : FuncId) (caps : List Value) (sb fb : Nat) (l : List Wt) (w : World) : Prop where
  inv : Inv l w
  told : w.heap[sb]? = some (.cells #[.bool (!l.isEmpty)] 4 (0, 0))
  found : w.heap[fb]? = some (.cells #[.func (.func f) #[] caps.toArray] 85 (0, 0))

set_option maxHeartbeats 1000000 in
set_option maxRecDepth 100000 in
theorem creport1_any {f : FuncId} {caps : List Value} {ws : List Wt} {go : List Wt → Bool} {S : Nat → Prop} {Inv : List Wt → World → Prop} (H : Taker f caps ws go S Inv) {sb fb : Nat} (h1 : ¬ S sb) (h2 : ¬ S fb) (h3 : sb ≠ fb) (l : List Wt) (x : Wt) (w : World) (hp : l ++ [x] <+: ws) (hi : RepInv Inv f caps sb fb l w) :
    Calls Try.prog 72 #[wv x, .pointer (some ⟨sb, 0, none⟩), .pointer (some ⟨fb, 0, none⟩)] w fun e w' => e = .returned (.bool (go (l ++ [x]))) ∧ RepInv Inv f caps sb fb (l ++ [x]) w' ∧ Chg (fun b => S b ∨ b = sb) w w' := by
  have b0 := (Below.refl _ w).alloc (Nat.le_refl _) (.cells #[.int .i64 x.1, .int .i64 x.2.1, .int .i64 x.2.2] 61)
  have s1 := (b0.block sb (heap_lt hi.told)).trans hi.told
  have s2 := (b0.block fb (heap_lt hi.found)).trans hi.found
  have i1 := H.keep _ _ _ hi.inv (Sam.of_below b0 (H.lt _ _ hi.inv))
  have c0 : (w.alloc (.cells #[.int .i64 x.1, .int .i64 x.2.1, .int .i64 x.2.2] 61)).cell? ⟨sb, 0, none⟩ = some (.bool (!l.isEmpty)) := by rw [cell_in s1]; rfl
  have f0 := frozen_in s1 0
  have c1 : (w.alloc (.cells #[.int .i64 x.1, .int .i64 x.2.1, .int .i64 x.2.2] 61)).cell? ⟨fb, 0, none⟩ = some (.func (.func f) #[] caps.toArray) := by rw [cell_in s2]; rfl
  have n1 : (sb == fb) = false := by simpa using h3
  have n2 : (fb == sb) = false := by simpa using Ne.symm h3
  have s3 := heap_set s1 0 (.bool true)
  have s4 := heap_far s2 (p := ⟨sb, 0, none⟩) (Ne.symm h3) (.bool true)
  have i2 := H.keep _ _ _ i1 (Sam.of_set _ ⟨sb, 0, none⟩ (.bool true) h1)
  have ch : Chg (fun b => S b ∨ b = sb) w ((w.alloc (.cells #[.int .i64 x.1, .int .i64 x.2.1, .int .i64 x.2.2] 61)).setCell ⟨sb, 0, none⟩ (.bool true)) := (Chg.of_below b0).set _ _ (Or.inr rfl)
  have s5 := heap_far (heap_alloc_new w (.cells #[.int .i64 x.1, .int .i64 x.2.1, .int .i64 x.2.2] 61)) (p := ⟨sb, 0, none⟩) (Ne.symm (Nat.ne_of_lt (heap_lt hi.told))) (.bool true)
  have K := Lib.hid (H.call l x _ hp i2)
  have CH := Lib.hid ch
  have S3 := Lib.hid s3
  have S4 := Lib.hid s4
  have hen := H.enter
  clear i2 i1 ch s3 s1 s2 b0
  go_enter Try.func72, Try.ntmps72
  go_upto_region 2 with fail
  obtain ⟨W, hW⟩ : ∃ W, (w.alloc (.cells #[.int .i64 x.1, .int .i64 x.2.1, .int .i64 x.2.2] 61)).setCell ⟨sb, 0, none⟩ (.bool true) = W := ⟨_, rfl⟩
  obtain ⟨g, hg⟩ : ∃ g, w.heap.size = g := ⟨_, rfl⟩
  rw [hW, hg] at s5
  rw [hW] at K CH S3 s4 S4
  simp only [hW, hg]
  have z0 : W.cell? ⟨g, 0, none⟩ = some (.int .i64 x.1) := by rw [cell_in s5]; rfl
  have z1 : W.cell? ⟨g, 1, none⟩ = some (.int .i64 x.2.1) := by rw [cell_in s5]; rfl
  have z2 : W.cell? ⟨g, 2, none⟩ = some (.int .i64 x.2.2) := by rw [cell_in s5]; rfl
  have c2 : W.cell? ⟨fb, 0, none⟩ = some (.func (.func f) #[] caps.toArray) := by rw [cell_in s4]; rfl
  clear hW hg s4 s5 c0 c1 f0
  go_wp2_with fail
  refine K.out.mono ?_
  rintro e w1 ⟨rfl, i1, ch1⟩
  have I1 := Lib.hid i1
  have H1 := Lib.hid ch1
  clear i1 ch1
  go_wp2
  go_ret
  exact ⟨rfl, ⟨I1.out, (H1.out.far sb (heap_lt S3.out) h1).trans (by rw [S3.out]; simp), (H1.out.far fb (heap_lt S4.out) h2).trans S4.out⟩, CH.out.trans (H1.out.mono fun _ _ h => Or.inl h)⟩
theorem enter_rep1 (args : Array Value) (w : World) : (callFunc 72 args).run Try.prog w = .ok (.enter 72 args) w := by kernel_rfl
theorem rep_taker {f : FuncId} {caps : List Value} {ws : List Wt} {go : List Wt → Bool} {S : Nat → Prop} {Inv : List Wt → World → Prop} (H : Taker f caps ws go S Inv) {sb fb : Nat} (h1 : ¬ S sb) (h2 : ¬ S fb) (h3 : sb ≠ fb) :
    Taker 72 [.pointer (some ⟨sb, 0, none⟩), .pointer (some ⟨fb, 0, none⟩)] ws go (fun b => S b ∨ b = sb ∨ b = fb) (RepInv Inv f caps sb fb) where
  call l x w hp hi := (creport1_any H h1 h2 h3 l x w hp hi).mono fun e w' h => ⟨h.1, h.2.1, h.2.2.mono fun _ _ h => h.elim Or.inl fun h => Or.inr (Or.inl h)⟩
  keep l w w' hi hs := ⟨H.keep _ _ _ hi.inv (hs.mono fun _ h => Or.inl h), (hs sb (Or.inr (Or.inl rfl))).trans hi.told, (hs fb (Or.inr (Or.inr rfl))).trans hi.found⟩
  lt l w hi b hb := by
    rcases hb with h | rfl | rfl
    · exact H.lt _ _ hi.inv b h
    · exact heap_lt hi.told
    · exact heap_lt hi.found
  enter := enter_rep1
end Go.Proofs.Ytmflacmgffpjoaa

/- Layer 9: what an examiner sees, and what it has handed when it ends. -/
namespace Go.Proofs.Ytmflacmgffpjoaa
open Go.RowKit

/-- The list that is examined: its block g, its triangles; none of it lies in S. -/
structure Seen (S : Nat → Prop) (g : Nat) (N : Int) (A : Option Addr) (n c : Nat) (m : Option Nat) (tl : List Tr) (w : World) : Prop where
  lb : w.heap[g]? = some (.cells #[.int .i64 N, .slice A n c, .map m] 88 (0, 0))
  t3 : T3 w A n tl
  ng : ¬ S g
  nA : 0 < n → ∀ b off, A = some ⟨b, off, none⟩ → ¬ S b
theorem T3.chg {S : Nat → Prop} {w w' : World} {A : Option Addr} {n : Nat} {l : List Tr} (h : T3 w A n l) (hc : Chg S w w') (hA : 0 < n → ∀ b off, A = some ⟨b, off, none⟩ → ¬ S b) : T3 w' A n l := by
  refine ⟨h.1, fun hn => ?_⟩
  obtain ⟨b, off, e, hcl⟩ := h.2 hn
  have key : ∀ o v, w.cell? ⟨b, o, none⟩ = some v → w'.cell? ⟨b, o, none⟩ = some v := fun o v hv => by
    have e1 := hc.far b (World.block_lt_of_cell? w _ hv) (hA hn b off e)
    rw [← hv]
    simp only [World.cell?, e1]
  exact ⟨b, off, e, fun i hi => ⟨key _ _ (hcl i hi).1, key _ _ (hcl i hi).2.1, key _ _ (hcl i hi).2.2⟩⟩
theorem Seen.chg {S : Nat → Prop} {g : Nat} {N : Int} {A : Option Addr} {n c : Nat} {m : Option Nat} {tl : List Tr} {w w' : World} (h : Seen S g N A n c m tl w) (hc : Chg S w w') : Seen S g N A n c m tl w' :=
  ⟨(hc.far g (heap_lt h.lb) h.ng).trans h.lb, h.t3.chg hc h.nA, h.ng, h.nA⟩
theorem Seen.c0 {S : Nat → Prop} {g : Nat} {N : Int} {A : Option Addr} {n c : Nat} {m : Option Nat} {tl : List Tr} {w : World} (h : Seen S g N A n c m tl w) : w.cell? ⟨g, 0, none⟩ = some (.int .i64 N) := by rw [cell_in h.lb]; rfl
theorem Seen.c1 {S : Nat → Prop} {g : Nat} {N : Int} {A : Option Addr} {n c : Nat} {m : Option Nat} {tl : List Tr} {w : World} (h : Seen S g N A n c m tl w) : w.cell? ⟨g, 1, none⟩ = some (.slice A n c) := by rw [cell_in h.lb]; rfl
theorem Seen.c2 {S : Nat → Prop} {g : Nat} {N : Int} {A : Option Addr} {n c : Nat} {m : Option Nat} {tl : List Tr} {w : World} (h : Seen S g N A n c m tl w) : w.cell? ⟨g, 2, none⟩ = some (.map m) := by rw [cell_in h.lb]; rfl

/-- More was wanted behind each of these. -/
def AllGo (go : List Wt → Bool) (l : List Wt) : Prop := ∀ m, m <+: l → m ≠ [] → go m = true
theorem AllGo.nil (go : List Wt → Bool) : AllGo go [] := fun _ hm hn => absurd (List.prefix_nil.1 hm) hn
theorem AllGo.snoc {go : List Wt → Bool} {l : List Wt} {x : Wt} (h : AllGo go l) (hx : go (l ++ [x]) = true) : AllGo go (l ++ [x]) := by
  intro m hm hn
  rcases List.prefix_concat_iff.1 hm with rfl | h1
  · exact hx
  · exact h m h1 hn
/-- What has been handed when an examiner ends: all, or up to one behind which no more was wanted. -/
def Handed (ws : List Wt) (go : List Wt → Bool) (l : List Wt) : Prop := (l = ws ∧ AllGo go l) ∨ ∃ m x, l = m ++ [x] ∧ l <+: ws ∧ AllGo go m ∧ go l = false
theorem Handed.stop {ws m : List Wt} {go : List Wt → Bool} {x : Wt} (h : AllGo go m) (hp : m ++ [x] <+: ws) (hx : go (m ++ [x]) = false) : Handed ws go (m ++ [x]) := .inr ⟨m, x, rfl, hp, h, hx⟩
def Ended (ws : List Wt) (go : List Wt → Bool) (S : Nat → Prop) (Inv : List Wt → World → Prop) (w : World) (e : Ending) (w' : World) : Prop := e = .returned (.tuple #[]) ∧ ∃ l, Handed ws go l ∧ Inv l w' ∧ Chg S w w'

/-- Triangle by triangle: what is told of the first a. -/
def idxP (kd : Int) (q : Tr → Bool) (tl : List Tr) (a : Nat) : List Wt := ((List.range a).filter fun i => q (tl.getD i z3)).map fun i => (kd, ((i : Nat) : Int), 0)
theorem idxP_zero (kd : Int) (q : Tr → Bool) (tl : List Tr) : idxP kd q tl 0 = [] := rfl
theorem idxP_succ (kd : Int) (q : Tr → Bool) (tl : List Tr) (a : Nat) : idxP kd q tl (a + 1) = idxP kd q tl a ++ (if q (tl.getD a z3) = true then [(kd, (a : Int), 0)] else []) := by
  unfold idxP
  rw [List.range_succ, List.filter_append, List.map_append]
  congr 1
  rw [List.filter_cons]
  by_cases h : q (tl.getD a z3) = true
  · rw [if_pos h, if_pos h]; rfl
  · rw [if_neg h, if_neg h]; rfl
theorem idxP_yes {kd : Int} {q : Tr → Bool} {tl : List Tr} {a : Nat} (h : q (tl.getD a z3) = true) : idxP kd q tl (a + 1) = idxP kd q tl a ++ [(kd, (a : Int), 0)] := by rw [idxP_succ, if_pos h]
theorem idxP_no {kd : Int} {q : Tr → Bool} {tl : List Tr} {a : Nat} (h : q (tl.getD a z3) = false) : idxP kd q tl (a + 1) = idxP kd q tl a := by rw [idxP_succ, if_neg (by rw [h]; decide), List.append_nil]
theorem idxP_pre (kd : Int) (q : Tr → Bool) (tl : List Tr) {a b : Nat} (h : a ≤ b) : idxP kd q tl a <+: idxP kd q tl b := by
  induction h with
  | refl => exact List.prefix_refl _
  | step h ih => exact ih.trans (by rw [idxP_succ]; exact List.prefix_append _ _)
theorem idxP_all (kd : Int) (q : Tr → Bool) (tl : List Tr) : idxP kd q tl tl.length = idxW kd q tl := rfl
theorem Taker.at {f : FuncId} {caps : List Value} {ws : List Wt} {go : List Wt → Bool} {S : Nat → Prop} {Inv : List Wt → World → Prop} (H : Taker f caps ws go S Inv) {l l' : List Wt} {x : Wt} {w : World} (e : l' = l ++ [x]) (hp : l' <+: ws) (hi : Inv l w) :
    Calls Try.prog f (wv x :: caps).toArray w fun e w' => e = .returned (.bool (go l')) ∧ Inv l' w' ∧ Chg S w w' := by
  subst e; exact H.call l x w hp hi
theorem Handed.one {ws l l' : List Wt} {go : List Wt → Bool} {x : Wt} (h : AllGo go l) (e : l' = l ++ [x]) (hp : l' <+: ws) (hx : go l' = false) : Handed ws go l' := .inr ⟨l, x, e, hp, h, hx⟩
theorem AllGo.one {go : List Wt → Bool} {l l' : List Wt} {x : Wt} (h : AllGo go l) (e : l' = l ++ [x]) (hx : go l' = true) : AllGo go l' := by subst e; exact h.snoc hx
/-- A round of an examiner that looks at one thing after the other. -/
structure TriSt (S : Nat → Prop) (Inv : List Wt → World → Prop) (go : List Wt → Bool) (l : List Wt) (w wr : World) : Prop where
  inv : Inv l wr
  all : AllGo go l
  chg : Chg S w wr
def TriAt (S : Nat → Prop) (Inv : List Wt → World → Prop) (go : List Wt → Bool) (pre : Nat → List Wt) (n : Nat) (w : World) (i : Value) (wr : World) : Prop := ∃ k : Nat, k ≤ n ∧ i = .int .i64 (k : Int) ∧ TriSt S Inv go (pre k) w wr
theorem TriSt.below {f : FuncId} {caps : List Value} {ws : List Wt} {go : List Wt → Bool} {S : Nat → Prop} {Inv : List Wt → World → Prop} (H : Taker f caps ws go S Inv) {l : List Wt} {w wr w' : World} (h : TriSt S Inv go l w wr) (hb : Below wr.heap.size wr w') : TriSt S Inv go l w w' :=
  ⟨H.keep _ _ _ h.inv (Sam.of_below hb (H.lt _ _ h.inv)), h.all, h.chg.trans (.of_below hb)⟩
/-- .. whose closure was handed one more. -/
structure Gone (S : Nat → Prop) (Inv : List Wt → World → Prop) (go : List Wt → Bool) (ws l' : List Wt) (w wr : World) (b : Bool) (e : Ending) (w' : World) : Prop where
  ret : e = .returned (.bool b)
  yes : b = true → TriSt S Inv go l' w w'
  no : b = false → ∃ l, Handed ws go l ∧ Inv l w' ∧ Chg S w w'
  step : Chg S wr w'
theorem TriSt.hand {f : FuncId} {caps : List Value} {ws : List Wt} {go : List Wt → Bool} {S : Nat → Prop} {Inv : List Wt → World → Prop} (H : Taker f caps ws go S Inv) {l l' : List Wt} {x : Wt} {w wr : World} (h : TriSt S Inv go l w wr) (e : l' = l ++ [x]) (hp : l' <+: ws) :
    Calls Try.prog f (wv x :: caps).toArray wr (Gone S Inv go ws l' w wr (go l')) :=
  (H.at e hp h.inv).mono fun _ _ k => ⟨k.1, fun hb => ⟨k.2.1, h.all.one e hb, h.chg.trans k.2.2⟩, fun hb => ⟨l', Handed.one h.all e hp hb, k.2.1, h.chg.trans k.2.2⟩, k.2.2⟩
theorem TriSt.set {f : FuncId} {caps : List Value} {ws : List Wt} {go : List Wt → Bool} {S : Nat → Prop} {Inv : List Wt → World → Prop} (H : Taker f caps ws go S Inv) {l : List Wt} {w wr : World} (h : TriSt S Inv go l w wr) (p : Addr) (u : Value) (hq : w.heap.size ≤ p.block) (hS : ¬ S p.block) : TriSt S Inv go l w (wr.setCell p u) :=
  ⟨H.keep _ _ _ h.inv (Sam.of_set _ _ _ hS), h.all, h.chg.trans' (.of_set (S := fun b => b = p.block) wr p u rfl) fun b hb e => by omega⟩
theorem TriSt.grown {f : FuncId} {caps : List Value} {ws : List Wt} {go : List Wt → Bool} {S : Nat → Prop} {Inv : List Wt → World → Prop} (H : Taker f caps ws go S Inv) {l : List Wt} {w wr w' : World} {row : Option Nat} (h : TriSt S Inv go l w wr) (hg : wr.grownBy w' row) (hq : ∀ q, row = some q → w.heap.size ≤ q) (hS : ∀ b, S b → b < w.heap.size) : TriSt S Inv go l w w' :=
  ⟨H.keep _ _ _ h.inv fun b hb => hg.block b (H.lt _ _ h.inv b hb) fun e => by have := hq b e.symm; have := hS b hb; omega,
   h.all, h.chg.trans' (.of_grown (S := fun b => row = some b) hg fun b e => e) fun b hb e => by have := hq b e; omega⟩
end Go.Proofs.Ytmflacmgffpjoaa

/- Layer 9: the examiner of the kind Loop. -/
namespace Go.Proofs.Ytmflacmgffpjoaa
open Go.RowKit

set_option maxHeartbeats 4000000 in
set_option maxRecDepth 100000 in
theorem cloop_any {f : FuncId} {caps : List Value} {ws : List Wt} {go : List Wt → Bool} {S : Nat → Prop} {Inv : List Wt → World → Prop} (H : Taker f caps ws go S Inv) (w : World) (g : Nat) (N : Int) (A : Option Addr) (n c : Nat) (m : Option Nat) (tl : List Tr) (hs : Seen S g N A n c m tl w) (hi : Inv [] w)
    (hws : ws = idxW 2 (fun t => decide (loopT t)) tl) (hn : n ≤ 1000000) : Calls Try.prog 75 #[.pointer (some ⟨g, 0, none⟩), .func (.func f) #[] caps.toArray] w (Ended ws go S Inv w) := by
  have HS := Lib.hid hs
  have HI := Lib.hid hi
  have hl := hs.t3.1
  have HW := Lib.hid (show ws = idxP 2 (fun t => decide (loopT t)) tl n by rw [hws, ← hl, idxP_all])
  have c1 := hs.c1
  have hen := H.enter
  clear hs hi hws hl
  go_enter Try.func75, Try.ntmps75
  go_wp2_with fail
  go_loopw [13] (TriAt S Inv go (idxP 2 (fun t => decide (loopT t)) tl) n w) (fun i _ => n - (intOf i).toNat)
  case atStart => exact ⟨0, Nat.zero_le _, rfl, HI.out, AllGo.nil _, Chg.refl _ _⟩
  case round =>
    obtain ⟨k, hk, rfl, hst⟩ := hrel
    have HR := Lib.hid hst
    clear hst
    by_cases hlt : k < n
    · have b1 : (k : Int) < n := by omega
      obtain ⟨b, off, rfl, hat⟩ := (HS.out.chg HR.out.chg).t3.2 (by omega)
      obtain ⟨c0, c1', c2⟩ := hat k hlt
      clear hat
      obtain ⟨x, hx⟩ : ∃ x, tl.getD k z3 = x := ⟨_, rfl⟩
      rw [hx] at c0 c1' c2
      have HX := Lib.hid hx
      clear hx
      obtain ⟨x0, x1, x2⟩ := x
      obtain ⟨w1, hw1⟩ : ∃ w1, wr.alloc (.cells #[.int .i64 x0, .int .i64 x1, .int .i64 x2] 53) = w1 := ⟨_, rfl⟩
      have b1' : Below wr.heap.size wr w1 := by rw [← hw1]; exact (Below.refl _ wr).alloc (Nat.le_refl _) _
      obtain ⟨q, hq⟩ : ∃ q, wr.heap.size = q := ⟨_, rfl⟩
      have q0 : w1.heap[q]? = some (.cells #[.int .i64 x0, .int .i64 x1, .int .i64 x2] 53 (0, 0)) := by rw [← hw1, ← hq]; exact heap_alloc_new wr _
      have q1 := cell_in q0 0
      have q2 := cell_in q0 1
      have q3 := cell_in q0 2
      simp only [List.getElem?_toArray, List.getElem?_cons_zero, List.getElem?_cons_succ] at q1 q2 q3
      have R1 := Lib.hid (HR.out.below H b1')
      clear b1' q0
      by_cases h0 : x0 = x1
      · have HT := Lib.hid (show loopT (x0, x1, x2) from .inl h0)
        subst h0
        have e1 : idxP 2 (fun t => decide (loopT t)) tl (k + 1) = idxP 2 (fun t => decide (loopT t)) tl k ++ [(2, (k : Int), 0)] := idxP_yes (by rw [HX.out]; exact decide_eq_true HT.out)
        have hc := R1.out.hand H e1 (by rw [HW.out]; exact idxP_pre _ _ _ (by omega))
        obtain ⟨bb, hb⟩ : ∃ bb, go (idxP 2 (fun t => decide (loopT t)) tl (k + 1)) = bb := ⟨_, rfl⟩
        rw [hb] at hc
        have HC := Lib.hid hc
        clear hc hb e1
        go_wp2_with fail
        refine HC.out.mono ?_
        rintro e w2 ⟨rfl, hy, hn, _⟩
        have HY := Lib.hid (And.intro hy hn)
        clear hy hn
        cases bb
        · go_wp2_with fail
          refine bodyPost_ret (results_none rfl _ _ _) rfl ?_
          exact ⟨rfl, HY.out.2 (by trivial)⟩
        · go_wp2_with fail
          exact ⟨⟨k + 1, by omega, by go_num, HY.out.1 (by trivial)⟩, by simp [intOf]; omega⟩
      by_cases h1 : x1 = x2
      · have HT := Lib.hid (show loopT (x0, x1, x2) from .inr (.inl h1))
        subst h1
        have e1 : idxP 2 (fun t => decide (loopT t)) tl (k + 1) = idxP 2 (fun t => decide (loopT t)) tl k ++ [(2, (k : Int), 0)] := idxP_yes (by rw [HX.out]; exact decide_eq_true HT.out)
        have hc := R1.out.hand H e1 (by rw [HW.out]; exact idxP_pre _ _ _ (by omega))
        obtain ⟨bb, hb⟩ : ∃ bb, go (idxP 2 (fun t => decide (loopT t)) tl (k + 1)) = bb := ⟨_, rfl⟩
        rw [hb] at hc
        have HC := Lib.hid hc
        clear hc hb e1
        go_wp2_with fail
        refine HC.out.mono ?_
        rintro e w2 ⟨rfl, hy, hn, _⟩
        have HY := Lib.hid (And.intro hy hn)
        clear hy hn
        cases bb
        · go_wp2_with fail
          refine bodyPost_ret (results_none rfl _ _ _) rfl ?_
          exact ⟨rfl, HY.out.2 (by trivial)⟩
        · go_wp2_with fail
          exact ⟨⟨k + 1, by omega, by go_num, HY.out.1 (by trivial)⟩, by simp [intOf]; omega⟩
      by_cases h2 : x2 = x0
      · have HT := Lib.hid (show loopT (x0, x1, x2) from .inr (.inr h2))
        subst h2
        have e1 : idxP 2 (fun t => decide (loopT t)) tl (k + 1) = idxP 2 (fun t => decide (loopT t)) tl k ++ [(2, (k : Int), 0)] := idxP_yes (by rw [HX.out]; exact decide_eq_true HT.out)
        have hc := R1.out.hand H e1 (by rw [HW.out]; exact idxP_pre _ _ _ (by omega))
        obtain ⟨bb, hb⟩ : ∃ bb, go (idxP 2 (fun t => decide (loopT t)) tl (k + 1)) = bb := ⟨_, rfl⟩
        rw [hb] at hc
        have HC := Lib.hid hc
        clear hc hb e1
        go_wp2_with fail
        refine HC.out.mono ?_
        rintro e w2 ⟨rfl, hy, hn, _⟩
        have HY := Lib.hid (And.intro hy hn)
        clear hy hn
        cases bb
        · go_wp2_with fail
          refine bodyPost_ret (results_none rfl _ _ _) rfl ?_
          exact ⟨rfl, HY.out.2 (by trivial)⟩
        · go_wp2_with fail
          exact ⟨⟨k + 1, by omega, by go_num, HY.out.1 (by trivial)⟩, by simp [intOf]; omega⟩
      have HT := Lib.hid (show ¬ loopT (x0, x1, x2) from fun h => h.elim h0 fun h => h.elim h1 h2)
      go_wp2_with fail
      refine ⟨⟨k + 1, by omega, by go_num, ?_⟩, by simp [intOf]; omega⟩
      rw [idxP_no (by rw [HX.out]; exact decide_eq_false HT.out)]
      exact R1.out
    · obtain rfl : k = n := by omega
      have b1 : ¬ (k : Int) < k := by omega
      go_wp2
      refine bodyPost_ret (results_none rfl _ _ _) rfl ?_
      exact ⟨rfl, _, .inl ⟨HW.out.symm, HR.out.all⟩, HR.out.inv, HR.out.chg⟩
end Go.Proofs.Ytmflacmgffpjoaa

/- Layer 9: the examiner of the kind Index. -/
namespace Go.Proofs.Ytmflacmgffpjoaa
open Go.RowKit

/-- What is told of the kind Index. -/
def indexW (N : Int) (tl : List Tr) : List Wt := if N < 0 ∨ 4096 < N ∨ 8192 < tl.length then [(1, -1, 0)] else idxW 1 (fun t => decide (badT N t)) tl
theorem bad_cases {N x0 x1 x2 : Int} : badT N (x0, x1, x2) ↔ (x0 < 0 ∨ x1 < 0 ∨ x2 < 0) ∨ N ≤ x0 ∨ N ≤ x1 ∨ N ≤ x2 := by
  unfold badT inN
  simp only
  omega
set_option maxHeartbeats 4000000 in
set_option maxRecDepth 100000 in
theorem cindex_any {f : FuncId} {caps : List Value} {ws : List Wt} {go : List Wt → Bool} {S : Nat → Prop} {Inv : List Wt → World → Prop} (H : Taker f caps ws go S Inv) (w : World) (g : Nat) (N : Int) (A : Option Addr) (n c : Nat) (m : Option Nat) (tl : List Tr) (hs : Seen S g N A n c m tl w) (hi : Inv [] w)
    (hws : ws = indexW N tl) (hn : n ≤ 1000000) : Calls Try.prog 74 #[.pointer (some ⟨g, 0, none⟩), .func (.func f) #[] caps.toArray] w (Ended ws go S Inv w) := by
  have HS := Lib.hid hs
  have HI := Lib.hid hi
  have hl := hs.t3.1
  have c1 := hs.c1
  have c0 := hs.c0
  have hen := H.enter
  by_cases hr : N < 0 ∨ 4096 < N ∨ 8192 < n
  · have hw : ws = [(1, -1, 0)] := by rw [hws, indexW, if_pos (by rw [hl]; exact hr)]
    have hc := (TriSt.mk hi (AllGo.nil go) (Chg.refl S w)).hand H (l' := [(1, -1, 0)]) (x := (1, -1, 0)) rfl (by rw [hw]; exact List.prefix_refl _)
    obtain ⟨bb, hb⟩ : ∃ bb, go [(1, -1, 0)] = bb := ⟨_, rfl⟩
    rw [hb] at hc
    have HC := Lib.hid hc
    have HW := Lib.hid hw
    clear hc hb hw hs hi hws hl
    by_cases h1 : N < 0
    · go_enter Try.func74, Try.ntmps74
      go_wp2_with fail
      refine HC.out.mono ?_
      rintro e w2 ⟨rfl, hy, hn, _⟩
      have HY := Lib.hid (And.intro hy hn)
      clear hy hn
      go_wp2
      refine bodyPost_ret (results_none rfl _ _ _) rfl ?_
      cases bb
      · exact ⟨rfl, HY.out.2 rfl⟩
      · have := HY.out.1 rfl
        exact ⟨rfl, _, .inl ⟨HW.out.symm, this.all⟩, this.inv, this.chg⟩
    by_cases h2 : 4096 < N
    · go_enter Try.func74, Try.ntmps74
      go_wp2_with fail
      refine HC.out.mono ?_
      rintro e w2 ⟨rfl, hy, hn, _⟩
      have HY := Lib.hid (And.intro hy hn)
      clear hy hn
      go_wp2
      refine bodyPost_ret (results_none rfl _ _ _) rfl ?_
      cases bb
      · exact ⟨rfl, HY.out.2 rfl⟩
      · have := HY.out.1 rfl
        exact ⟨rfl, _, .inl ⟨HW.out.symm, this.all⟩, this.inv, this.chg⟩
    have h3 : (8192 : Int) < n := by omega
    go_enter Try.func74, Try.ntmps74
    go_wp2_with fail
    refine HC.out.mono ?_
    rintro e w2 ⟨rfl, hy, hn, _⟩
    have HY := Lib.hid (And.intro hy hn)
    clear hy hn
    go_wp2
    refine bodyPost_ret (results_none rfl _ _ _) rfl ?_
    cases bb
    · exact ⟨rfl, HY.out.2 rfl⟩
    · have := HY.out.1 rfl
      exact ⟨rfl, _, .inl ⟨HW.out.symm, this.all⟩, this.inv, this.chg⟩
  have HW := Lib.hid (show ws = idxP 1 (fun t => decide (badT N t)) tl n by rw [hws, indexW, if_neg (by rw [hl]; exact hr), ← hl, idxP_all])
  have r0 : ¬ N < 0 := by omega
  have r1 : ¬ 4096 < N := by omega
  have r2 : ¬ (8192 : Int) < n := by omega
  clear hs hi hws hl hr
  go_enter Try.func74, Try.ntmps74
  go_wp2_with fail
  go_loopw [39] (TriAt S Inv go (idxP 1 (fun t => decide (badT N t)) tl) n w) (fun i _ => n - (intOf i).toNat)
  case atStart => exact ⟨0, Nat.zero_le _, rfl, HI.out, AllGo.nil _, Chg.refl _ _⟩
  case round =>
    obtain ⟨k, hk, rfl, hst⟩ := hrel
    have HR := Lib.hid hst
    clear hst
    by_cases hlt : k < n
    · have b1 : (k : Int) < n := by omega
      obtain ⟨b, off, rfl, hat⟩ := (HS.out.chg HR.out.chg).t3.2 (by omega)
      obtain ⟨c0, c1', c2⟩ := hat k hlt
      clear hat
      obtain ⟨x, hx⟩ : ∃ x, tl.getD k z3 = x := ⟨_, rfl⟩
      rw [hx] at c0 c1' c2
      have HX := Lib.hid hx
      clear hx
      obtain ⟨x0, x1, x2⟩ := x
      obtain ⟨w1, hw1⟩ : ∃ w1, wr.alloc (.cells #[.int .i64 x0, .int .i64 x1, .int .i64 x2] 53) = w1 := ⟨_, rfl⟩
      have b1' : Below wr.heap.size wr w1 := by rw [← hw1]; exact (Below.refl _ wr).alloc (Nat.le_refl _) _
      obtain ⟨q, hq⟩ : ∃ q, wr.heap.size = q := ⟨_, rfl⟩
      have q0 : w1.heap[q]? = some (.cells #[.int .i64 x0, .int .i64 x1, .int .i64 x2] 53 (0, 0)) := by rw [← hw1, ← hq]; exact heap_alloc_new wr _
      have q1 := cell_in q0 0
      have q2 := cell_in q0 1
      have q3 := cell_in q0 2
      simp only [List.getElem?_toArray, List.getElem?_cons_zero, List.getElem?_cons_succ] at q1 q2 q3
      have R1 := Lib.hid (HR.out.below H b1')
      clear b1' q0
      have e0 := (HS.out.chg R1.out.chg).c0
      obtain ⟨mn, hmn⟩ : ∃ mn, (if x2 < (if x1 < x0 then x1 else x0) then x2 else (if x1 < x0 then x1 else x0)) = mn := ⟨_, rfl⟩
      obtain ⟨mx, hmx⟩ : ∃ mx, (if x2 > (if x1 > x0 then x1 else x0) then x2 else (if x1 > x0 then x1 else x0)) = mx := ⟨_, rfl⟩
      have rmn := fun W => run_min_int3 (P := Try.prog) W #[3, 3, 3] 3 .i64 .i64 .i64 x0 x1 x2
      have rmx := fun W => run_max_int3 (P := Try.prog) W #[3, 3, 3] 3 .i64 .i64 .i64 x0 x1 x2
      rw [hmn] at rmn
      rw [hmx] at rmx
      have m0 : mn < 0 ↔ x0 < 0 ∨ x1 < 0 ∨ x2 < 0 := by rw [← hmn]; split <;> split at * <;> omega
      have m1 : N ≤ mx ↔ N ≤ x0 ∨ N ≤ x1 ∨ N ≤ x2 := by rw [← hmx]; split <;> split at * <;> omega
      have M := Lib.hid (And.intro m0 m1)
      clear hmn hmx m0 m1
      by_cases h0 : mn < 0
      · have HT := Lib.hid (show badT N (x0, x1, x2) from bad_cases.2 (.inl (M.out.1.1 h0)))
        have d1 : decide (mn < 0) = true := by simp [h0]
        have e1 : idxP 1 (fun t => decide (badT N t)) tl (k + 1) = idxP 1 (fun t => decide (badT N t)) tl k ++ [(1, (k : Int), 0)] := idxP_yes (by rw [HX.out]; exact decide_eq_true HT.out)
        have hc := fun (W : World) (hW : Reading w1 W) => (R1.out.below H hW.below).hand H e1 (by rw [HW.out]; exact idxP_pre _ _ _ (by omega))
        obtain ⟨bb, hb⟩ : ∃ bb, go (idxP 1 (fun t => decide (badT N t)) tl (k + 1)) = bb := ⟨_, rfl⟩
        simp only [hb] at hc
        have HC := Lib.hid hc
        clear hc hb e1
        go_wp2_with fail
        go_quiet (fail)
        go_wp2_with fail
        refine (HC.out _ ⟨_, rfl⟩).mono ?_
        rintro e w2 ⟨rfl, hy, hn, _⟩
        have HY := Lib.hid (And.intro hy hn)
        clear hy hn
        cases bb
        · go_wp2_with fail
          refine bodyPost_ret (results_none rfl _ _ _) rfl ?_
          exact ⟨rfl, HY.out.2 (by trivial)⟩
        · go_wp2_with fail
          exact ⟨⟨k + 1, by omega, by go_num, HY.out.1 (by trivial)⟩, by simp [intOf]; omega⟩
      have d1 : decide (mn < 0) = false := by simp; omega
      by_cases h1 : N ≤ mx
      · have HT := Lib.hid (show badT N (x0, x1, x2) from bad_cases.2 (.inr (M.out.2.1 h1)))
        have d2 : decide (mx ≥ N) = true := by simp [h1]
        have e1 : idxP 1 (fun t => decide (badT N t)) tl (k + 1) = idxP 1 (fun t => decide (badT N t)) tl k ++ [(1, (k : Int), 0)] := idxP_yes (by rw [HX.out]; exact decide_eq_true HT.out)
        have hc := fun (W : World) (hW : Reading w1 W) => (R1.out.below H hW.below).hand H e1 (by rw [HW.out]; exact idxP_pre _ _ _ (by omega))
        obtain ⟨bb, hb⟩ : ∃ bb, go (idxP 1 (fun t => decide (badT N t)) tl (k + 1)) = bb := ⟨_, rfl⟩
        simp only [hb] at hc
        have HC := Lib.hid hc
        clear hc hb e1
        go_wp2_with fail
        go_quiet (fail)
        go_wp2_with fail
        refine (HC.out _ ⟨_, rfl⟩).mono ?_
        rintro e w2 ⟨rfl, hy, hn, _⟩
        have HY := Lib.hid (And.intro hy hn)
        clear hy hn
        cases bb
        · go_wp2_with fail
          refine bodyPost_ret (results_none rfl _ _ _) rfl ?_
          exact ⟨rfl, HY.out.2 (by trivial)⟩
        · go_wp2_with fail
          exact ⟨⟨k + 1, by omega, by go_num, HY.out.1 (by trivial)⟩, by simp [intOf]; omega⟩
      have HT := Lib.hid (show ¬ badT N (x0, x1, x2) from fun h => (bad_cases.1 h).elim (fun h => h0 (M.out.1.2 h)) (fun h => h1 (M.out.2.2 h)))
      have d2 : decide (mx ≥ N) = false := by simp; omega
      go_wp2_with fail
      go_quiet (fail)
      go_wp2_with fail
      refine ⟨⟨k + 1, by omega, by go_num, ?_⟩, by simp [intOf]; omega⟩
      rw [idxP_no (by rw [HX.out]; exact decide_eq_false HT.out)]
      exact R1.out.below H (Reading.below ⟨_, rfl⟩)
    · obtain rfl : k = n := by omega
      have b1 : ¬ (k : Int) < k := by omega
      go_wp2
      refine bodyPost_ret (results_none rfl _ _ _) rfl ?_
      exact ⟨rfl, _, .inl ⟨HW.out.symm, HR.out.all⟩, HR.out.inv, HR.out.chg⟩
end Go.Proofs.Ytmflacmgffpjoaa

/- Layer 9: a directed edge of a triangle; the map of directed edges. -/
namespace Go.Proofs.Ytmflacmgffpjoaa
open Go.RowKit

/-- The directed edge that begins at the vertex k. -/
def edE (x : Tr) (k : Nat) : Ed := if k = 0 then (x.1, x.2.1) else if k = 1 then (x.2.1, x.2.2) else (x.2.2, x.1)
def EdgeTold (w : World) (d : Ed) (e : Ending) (w' : World) : Prop := e = .returned (.agg #[.int .i64 d.1, .int .i64 d.2]) ∧ Below w.heap.size w w'

set_option maxHeartbeats 2000000 in
set_option maxRecDepth 100000 in
theorem cedge_0 (w : World) (x0 x1 x2 : Int) : Calls Try.prog 81 #[.agg #[.int .i64 x0, .int .i64 x1, .int .i64 x2], .int .i64 0] w (EdgeTold w (x0, x1)) := by
  obtain ⟨w1, hw1⟩ : ∃ w1, w.alloc (.cells #[.int .i64 x0, .int .i64 x1, .int .i64 x2] 53) = w1 := ⟨_, rfl⟩
  have b1 : Below w.heap.size w w1 := by rw [← hw1]; exact (Below.refl _ w).alloc (Nat.le_refl _) _
  obtain ⟨q, hq⟩ : ∃ q, w.heap.size = q := ⟨_, rfl⟩
  have q0 : w1.heap[q]? = some (.cells #[.int .i64 x0, .int .i64 x1, .int .i64 x2] 53 (0, 0)) := by rw [← hw1, ← hq]; exact heap_alloc_new w _
  obtain ⟨w2, hw2⟩ : ∃ w2, w1.alloc (.cells #[.int .i64 0, .int .i64 0] 59) = w2 := ⟨_, rfl⟩
  obtain ⟨r, hr⟩ : ∃ r, w1.heap.size = r := ⟨_, rfl⟩
  have b2 : Below w1.heap.size w1 w2 := by rw [← hw2]; exact (Below.refl _ w1).alloc (Nat.le_refl _) _
  have r0 : w2.heap[r]? = some (.cells #[.int .i64 0, .int .i64 0] 59 (0, 0)) := by rw [← hw2, ← hr]; exact heap_alloc_new w1 _
  have q2 := (b2.block q (heap_lt q0)).trans q0
  have hrq : q < r := by rw [← hr]; exact heap_lt q0
  have c0 : w2.cell? ⟨q, 0, none⟩ = some (.int .i64 x0) := by rw [cell_in q2]; rfl
  have c1 : w2.cell? ⟨q, 1, none⟩ = some (.int .i64 x1) := by rw [cell_in q2]; rfl
  have c2 : w2.cell? ⟨q, 2, none⟩ = some (.int .i64 x2) := by rw [cell_in q2]; rfl
  have d0 : w2.cell? ⟨r, 0, none⟩ = some (.int .i64 0) := by rw [cell_in r0]; rfl
  have d1 : w2.cell? ⟨r, 1, none⟩ = some (.int .i64 0) := by rw [cell_in r0]; rfl
  have f0 := frozen_in r0 0
  have f1 := frozen_in r0 1
  have B := Lib.hid (b1.trans (b2.mono b1.size))
  have R0 := Lib.hid r0
  have HQ := Lib.hid (show w.heap.size ≤ r by rw [hq]; omega)
  clear b1 b2 q0 q2 r0
  have e1 : IntKind.i64.wrap 1 = 1 := by decide
  have e2 : IntKind.i64.wrap 2 = 2 := by decide
  have e3 : IntKind.i64.wrap 3 = 3 := by decide
  have m1 : (1 : Int).tmod 3 = 1 := by decide
  have m2 : (2 : Int).tmod 3 = 2 := by decide
  have m3 : (3 : Int).tmod 3 = 0 := by decide
  go_enter Try.func81, Try.ntmps81
  go_wp2_with fail
  go_still_tail 9, (by kernel_rfl)
  change wpList _ _ _ _ _ w2.drew
  go_wp2
  refine bodyPost_ret (results_cell_row rfl _ _ r 59 #[.int .i64 x0, .int .i64 x1] (0, 0) _ rfl (set2 (w := w2) R0.out) Try.underlying59 rfl (by kernel_rfl)) rfl ?_
  exact ⟨rfl, (below_set2 B.out HQ.out _ _).trans (Reading.below ⟨1, rfl⟩)⟩

set_option maxHeartbeats 2000000 in
set_option maxRecDepth 100000 in
theorem cedge_1 (w : World) (x0 x1 x2 : Int) : Calls Try.prog 81 #[.agg #[.int .i64 x0, .int .i64 x1, .int .i64 x2], .int .i64 1] w (EdgeTold w (x1, x2)) := by
  obtain ⟨w1, hw1⟩ : ∃ w1, w.alloc (.cells #[.int .i64 x0, .int .i64 x1, .int .i64 x2] 53) = w1 := ⟨_, rfl⟩
  have b1 : Below w.heap.size w w1 := by rw [← hw1]; exact (Below.refl _ w).alloc (Nat.le_refl _) _
  obtain ⟨q, hq⟩ : ∃ q, w.heap.size = q := ⟨_, rfl⟩
  have q0 : w1.heap[q]? = some (.cells #[.int .i64 x0, .int .i64 x1, .int .i64 x2] 53 (0, 0)) := by rw [← hw1, ← hq]; exact heap_alloc_new w _
  obtain ⟨w2, hw2⟩ : ∃ w2, w1.alloc (.cells #[.int .i64 0, .int .i64 0] 59) = w2 := ⟨_, rfl⟩
  obtain ⟨r, hr⟩ : ∃ r, w1.heap.size = r := ⟨_, rfl⟩
  have b2 : Below w1.heap.size w1 w2 := by rw [← hw2]; exact (Below.refl _ w1).alloc (Nat.le_refl _) _
  have r0 : w2.heap[r]? = some (.cells #[.int .i64 0, .int .i64 0] 59 (0, 0)) := by rw [← hw2, ← hr]; exact heap_alloc_new w1 _
  have q2 := (b2.block q (heap_lt q0)).trans q0
  have hrq : q < r := by rw [← hr]; exact heap_lt q0
  have c0 : w2.cell? ⟨q, 0, none⟩ = some (.int .i64 x0) := by rw [cell_in q2]; rfl
  have c1 : w2.cell? ⟨q, 1, none⟩ = some (.int .i64 x1) := by rw [cell_in q2]; rfl
  have c2 : w2.cell? ⟨q, 2, none⟩ = some (.int .i64 x2) := by rw [cell_in q2]; rfl
  have d0 : w2.cell? ⟨r, 0, none⟩ = some (.int .i64 0) := by rw [cell_in r0]; rfl
  have d1 : w2.cell? ⟨r, 1, none⟩ = some (.int .i64 0) := by rw [cell_in r0]; rfl
  have f0 := frozen_in r0 0
  have f1 := frozen_in r0 1
  have B := Lib.hid (b1.trans (b2.mono b1.size))
  have R0 := Lib.hid r0
  have HQ := Lib.hid (show w.heap.size ≤ r by rw [hq]; omega)
  clear b1 b2 q0 q2 r0
  have e1 : IntKind.i64.wrap 1 = 1 := by decide
  have e2 : IntKind.i64.wrap 2 = 2 := by decide
  have e3 : IntKind.i64.wrap 3 = 3 := by decide
  have m1 : (1 : Int).tmod 3 = 1 := by decide
  have m2 : (2 : Int).tmod 3 = 2 := by decide
  have m3 : (3 : Int).tmod 3 = 0 := by decide
  go_enter Try.func81, Try.ntmps81
  go_wp2_with fail
  go_still_tail 9, (by kernel_rfl)
  change wpList _ _ _ _ _ w2.drew
  go_wp2
  refine bodyPost_ret (results_cell_row rfl _ _ r 59 #[.int .i64 x1, .int .i64 x2] (0, 0) _ rfl (set2 (w := w2) R0.out) Try.underlying59 rfl (by kernel_rfl)) rfl ?_
  exact ⟨rfl, (below_set2 B.out HQ.out _ _).trans (Reading.below ⟨1, rfl⟩)⟩

set_option maxHeartbeats 2000000 in
set_option maxRecDepth 100000 in
theorem cedge_2 (w : World) (x0 x1 x2 : Int) : Calls Try.prog 81 #[.agg #[.int .i64 x0, .int .i64 x1, .int .i64 x2], .int .i64 2] w (EdgeTold w (x2, x0)) := by
  obtain ⟨w1, hw1⟩ : ∃ w1, w.alloc (.cells #[.int .i64 x0, .int .i64 x1, .int .i64 x2] 53) = w1 := ⟨_, rfl⟩
  have b1 : Below w.heap.size w w1 := by rw [← hw1]; exact (Below.refl _ w).alloc (Nat.le_refl _) _
  obtain ⟨q, hq⟩ : ∃ q, w.heap.size = q := ⟨_, rfl⟩
  have q0 : w1.heap[q]? = some (.cells #[.int .i64 x0, .int .i64 x1, .int .i64 x2] 53 (0, 0)) := by rw [← hw1, ← hq]; exact heap_alloc_new w _
  obtain ⟨w2, hw2⟩ : ∃ w2, w1.alloc (.cells #[.int .i64 0, .int .i64 0] 59) = w2 := ⟨_, rfl⟩
  obtain ⟨r, hr⟩ : ∃ r, w1.heap.size = r := ⟨_, rfl⟩
  have b2 : Below w1.heap.size w1 w2 := by rw [← hw2]; exact (Below.refl _ w1).alloc (Nat.le_refl _) _
  have r0 : w2.heap[r]? = some (.cells #[.int .i64 0, .int .i64 0] 59 (0, 0)) := by rw [← hw2, ← hr]; exact heap_alloc_new w1 _
  have q2 := (b2.block q (heap_lt q0)).trans q0
  have hrq : q < r := by rw [← hr]; exact heap_lt q0
  have c0 : w2.cell? ⟨q, 0, none⟩ = some (.int .i64 x0) := by rw [cell_in q2]; rfl
  have c1 : w2.cell? ⟨q, 1, none⟩ = some (.int .i64 x1) := by rw [cell_in q2]; rfl
  have c2 : w2.cell? ⟨q, 2, none⟩ = some (.int .i64 x2) := by rw [cell_in q2]; rfl
  have d0 : w2.cell? ⟨r, 0, none⟩ = some (.int .i64 0) := by rw [cell_in r0]; rfl
  have d1 : w2.cell? ⟨r, 1, none⟩ = some (.int .i64 0) := by rw [cell_in r0]; rfl
  have f0 := frozen_in r0 0
  have f1 := frozen_in r0 1
  have B := Lib.hid (b1.trans (b2.mono b1.size))
  have R0 := Lib.hid r0
  have HQ := Lib.hid (show w.heap.size ≤ r by rw [hq]; omega)
  clear b1 b2 q0 q2 r0
  have e1 : IntKind.i64.wrap 1 = 1 := by decide
  have e2 : IntKind.i64.wrap 2 = 2 := by decide
  have e3 : IntKind.i64.wrap 3 = 3 := by decide
  have m1 : (1 : Int).tmod 3 = 1 := by decide
  have m2 : (2 : Int).tmod 3 = 2 := by decide
  have m3 : (3 : Int).tmod 3 = 0 := by decide
  go_enter Try.func81, Try.ntmps81
  go_wp2_with fail
  go_still_tail 9, (by kernel_rfl)
  change wpList _ _ _ _ _ w2.drew
  go_wp2
  refine bodyPost_ret (results_cell_row rfl _ _ r 59 #[.int .i64 x2, .int .i64 x0] (0, 0) _ rfl (set2 (w := w2) R0.out) Try.underlying59 rfl (by kernel_rfl)) rfl ?_
  exact ⟨rfl, (below_set2 B.out HQ.out _ _).trans (Reading.below ⟨1, rfl⟩)⟩

theorem cedge_any (w : World) (x0 x1 x2 : Int) (k : Nat) (hk : k < 3) : Calls Try.prog 81 #[.agg #[.int .i64 x0, .int .i64 x1, .int .i64 x2], .int .i64 (k : Int)] w (EdgeTold w (edE (x0, x1, x2) k)) := by
  match k, hk with
  | 0, _ => exact cedge_0 w x0 x1 x2
  | 1, _ => exact cedge_1 w x0 x1 x2
  | 2, _ => exact cedge_2 w x0 x1 x2
end Go.Proofs.Ytmflacmgffpjoaa

/- Layer 8: edges as the keys of a map. -/
namespace Go.Proofs.Ytmflacmgffpjoaa
open Go.RowKit Go.Maps

theorem lawE : Keyed Try.prog 59 := Keyed.of_law (deep_law_laid laid_out (m := 2) (by omega) (of_decide_eq_true (by kernel_rfl)) (by kernel_rfl) (by rw [Try.underlying59]))
def klE (e : Ed) : Lit := .string (keyBytes [.int .i64 e.1, .int .i64 e.2])
def wfE (e : Ed) : Prop := (Lit.int .i64 e.1).wf = true ∧ (Lit.int .i64 e.2).wf = true
theorem cells_edge : Try.prog.cellsOf 59 = 2 := by kernel_rfl
theorem cells_int8 : Try.prog.cellsOf 3 = 1 := by kernel_rfl
theorem keyE (e : Ed) (h : wfE e) : keyOf Try.prog 59 (.agg #[.int .i64 e.1, .int .i64 e.2]) = some (klE e) := by
  have hk : Try.prog.keyType 59 = true := by kernel_rfl
  have hf : (Value.agg #[.int .i64 e.1, .int .i64 e.2]).formed Try.prog 59 = true := by simp [Value.formed, Try.underlying59, cells_edge]
  have h0 : Try.prog.types.size ≠ 0 := by
    have : 0 < Try.prog.types.size := of_decide_eq_true (by kernel_rfl)
    omega
  obtain ⟨d, hd⟩ := Nat.exists_eq_succ_of_ne_zero h0
  have u1 := Try.underlying59
  have u2 := Try.underlying3
  have w1 := h.1
  have w2 := h.2
  have : Try.prog.keyLits (Try.prog.types.size + 1) 59 [.int .i64 e.1, .int .i64 e.2] = some [.int .i64 e.1, .int .i64 e.2] := by
    rw [hd]
    simp only [Program.keyLits, u1, cells_edge, cells_int8]
    rw [show List.range 2 = [0, 1] from rfl]
    have a1 : ((Value.int .i64 e.1 :: [.int .i64 e.2]).drop (0 * 1)).take 1 = [.int .i64 e.1] := rfl
    have a2 : ((Value.int .i64 e.1 :: [.int .i64 e.2]).drop (1 * 1)).take 1 = [.int .i64 e.2] := rfl
    simp only [List.mapM_cons, List.mapM_nil, a1, a2, u2, w1, w2, and_self, if_true]
    rfl
  unfold keyOf
  simp only [u1, hk, hf, Bool.and_self, if_true]
  show (Try.prog.keyLits (Try.prog.types.size + 1) 59 [.int .i64 e.1, .int .i64 e.2]).map _ = _
  rw [this]
  rfl
theorem klE_inj {a b : Ed} (ha : wfE a) (hb : wfE b) (h : klE a = klE b) : a = b := by
  have := lawE.inj (keyE a ha) (by rw [h]; exact keyE b hb)
  simp at this
  exact Prod.ext this.1 this.2
end Go.Proofs.Ytmflacmgffpjoaa

/- Layer 9: a map from directed edges to triangles, told by the pairs that were put into it. -/
namespace Go.Proofs.Ytmflacmgffpjoaa
open Go.RowKit Go.Maps

theorem snoc_ind {α : Type} {P : List α → Prop} (h0 : P []) (h1 : ∀ L x, P L → P (L ++ [x])) (L : List α) : P L := by
  have h : ∀ M : List α, P M.reverse := fun M => by
    induction M with
    | nil => exact h0
    | cons x M ih => rw [List.reverse_cons]; exact h1 _ _ ih
  have := h L.reverse
  rwa [List.reverse_reverse] at this
/-- What was put last for a key. -/
def lastV (L : List (Ed × Int)) (e : Ed) : Option Int := L.foldl (fun r p => if p.1 = e then some p.2 else r) none
theorem lastV_snoc (L : List (Ed × Int)) (p : Ed × Int) (e : Ed) : lastV (L ++ [p]) e = if p.1 = e then some p.2 else lastV L e := by simp [lastV, List.foldl_append]
theorem lastV_some {L : List (Ed × Int)} {e : Ed} {v : Int} (h : lastV L e = some v) : (e, v) ∈ L := by
  induction L using snoc_ind with
  | h0 => cases h
  | h1 L p ih =>
    rw [lastV_snoc] at h
    by_cases hp : p.1 = e
    · rw [if_pos hp] at h
      injection h with h
      subst hp h
      simp
    · rw [if_neg hp] at h
      exact List.mem_append_left _ (ih h)
theorem lastV_none {L : List (Ed × Int)} {e : Ed} (h : lastV L e = none) : ∀ p ∈ L, p.1 ≠ e := by
  induction L using snoc_ind with
  | h0 => intro p hp; cases hp
  | h1 L q ih =>
    rw [lastV_snoc] at h
    by_cases hq : q.1 = e
    · rw [if_pos hq] at h; cases h
    · rw [if_neg hq] at h
      intro p hp
      rcases List.mem_append.1 hp with h1 | h1
      · exact ih h p h1
      · rw [List.mem_singleton.1 h1]; exact hq
/-- The keys. -/
def keysL (L : List (Ed × Int)) : List Ed := L.foldl (fun (r : List Ed) p => if p.1 ∈ r then r else r ++ [p.1]) []
theorem keysL_snoc (L : List (Ed × Int)) (p : Ed × Int) : keysL (L ++ [p]) = if p.1 ∈ keysL L then keysL L else keysL L ++ [p.1] := by unfold keysL; rw [List.foldl_append]; rfl
theorem mem_keysL {L : List (Ed × Int)} {e : Ed} : e ∈ keysL L ↔ (lastV L e).isSome = true := by
  induction L using snoc_ind with
  | h0 => simp [keysL, lastV]
  | h1 L p ih =>
    rw [keysL_snoc, lastV_snoc]
    by_cases hp : p.1 = e
    · subst hp
      by_cases hm : p.1 ∈ keysL L
      · simp [hm]
      · simp [hm]
    · rw [if_neg hp, ← ih]
      by_cases hm : p.1 ∈ keysL L
      · rw [if_pos hm]
      · rw [if_neg hm, List.mem_append, List.mem_singleton]
        constructor
        · rintro (h | h)
          · exact h
          · exact absurd h.symm hp
        · exact .inl
theorem keysL_le (L : List (Ed × Int)) : (keysL L).length ≤ L.length := by
  induction L using snoc_ind with
  | h0 => simp [keysL]
  | h1 L p ih =>
    rw [keysL_snoc, List.length_append, List.length_singleton]
    split
    · omega
    · rw [List.length_append, List.length_singleton]; omega
/-- All keys are unlike just if there are as many as pairs. -/
theorem keysL_full {L : List (Ed × Int)} : (keysL L).length = L.length ↔ (L.map Prod.fst).Nodup := by
  induction L using snoc_ind with
  | h0 => simp [keysL]
  | h1 L p ih =>
    have hle := keysL_le L
    rw [keysL_snoc, List.length_append, List.length_singleton, List.map_append, List.map_singleton, List.nodup_append]
    have hm : p.1 ∈ keysL L ↔ p.1 ∈ L.map Prod.fst := by
      rw [mem_keysL]
      cases hv : lastV L p.1 with
      | none =>
        have := lastV_none hv
        simp only [Option.isSome_none, Bool.false_eq_true, false_iff, List.mem_map]
        rintro ⟨q, hq, e⟩
        exact this q hq e
      | some v =>
        simp only [Option.isSome_some, true_iff, List.mem_map]
        exact ⟨_, lastV_some hv, rfl⟩
    by_cases hp : p.1 ∈ keysL L
    · rw [if_pos hp]
      constructor
      · intro h; omega
      · rintro ⟨_, _, h3⟩
        exact absurd rfl (h3 _ (hm.1 hp) _ (List.mem_singleton.2 rfl))
    · rw [if_neg hp, List.length_append, List.length_singleton]
      constructor
      · intro h
        refine ⟨ih.1 (by omega), by simp, fun a ha b hb e => ?_⟩
        rw [List.mem_singleton] at hb
        subst hb e
        exact hp (hm.2 ha)
      · rintro ⟨h1, _, _⟩
        have := ih.2 h1
        omega

theorem zeroInt9 (w : World) : (zeroValue 3).run Try.prog w = .ok (.int .i64 0) w := by kernel_rfl
/-- Block b is the map of the pairs that were put into it. -/
def MapL (w : World) (b : Nat) (L : List (Ed × Int)) : Prop := ∃ D, w.ownsMap Try.prog 59 (plainElem (H := Unit) Try.prog 3) b L.length D ∧ (∀ e, wfE e → has D (klE e) = (lastV L e).isSome) ∧ (∀ e, wfE e → D.atKey (klE e) (.lit (.int .i64 0)) = .lit (.int .i64 ((lastV L e).getD 0))) ∧ Maps.size D = (keysL L).length
theorem MapL.lt {w : World} {b : Nat} {L : List (Ed × Int)} (h : MapL w b L) : b < w.heap.size := by
  obtain ⟨D, ho, _⟩ := h
  exact ho.lt
theorem MapL.kept {w w' : World} {b : Nat} {L : List (Ed × Int)} (h : MapL w b L) (hg : w'.heap[b]? = w.heap[b]?) : MapL w' b L := by
  obtain ⟨D, ⟨es, clock, hb, h2⟩, h3⟩ := h
  exact ⟨D, ⟨es, clock, hg.trans hb, h2⟩, h3⟩
theorem MapL.made (w : World) : MapL (w.alloc (.map #[] 0)) w.heap.size [] :=
  ⟨.map [], World.ownsMap_made w _ _ _, fun _ _ => rfl, fun _ _ => rfl, rfl⟩
set_option maxRecDepth 100000 in
theorem MapL.look {w : World} {b : Nat} {L : List (Ed × Int)} (h : MapL w b L) (e : Ed) (he : wfE e) : (Instr.lookup 72 (.map (some b)) (.agg #[.int .i64 e.1, .int .i64 e.2]) true).run Try.prog w = .ok (.tuple #[.int .i64 ((lastV L e).getD 0), .bool (lastV L e).isSome]) w := by
  obtain ⟨D, ho, hh, ha, _⟩ := h
  obtain ⟨v, ps, hrun, hv⟩ := ho.look_ok lawE Try.underlying72 (zeroInt9 w) (plainElem_int Try.underlying3 (by decide)) (keyE e he)
  obtain ⟨c, rfl, hc, hwc⟩ := plainElem_int_inv Try.underlying3 hv
  injection hc with hc _
  rw [ha e he] at hc
  injection hc with hc
  injection hc with _ hc
  rw [hrun, hh e he, hc]
set_option maxRecDepth 100000 in
theorem MapL.len {w : World} {b : Nat} {L : List (Ed × Int)} (h : MapL w b L) (ty : TypeId) : (Builtin.len_ #[72] ty #[.map (some b)]).run Try.prog w = .ok (.int .i64 ((keysL L).length : Int)) w := by
  obtain ⟨D, ho, _, _, hs⟩ := h
  rw [ho.len Try.underlying72 ty, hs]
set_option maxRecDepth 100000 in
theorem MapL.put {w : World} {b : Nat} {L : List (Ed × Int)} (h : MapL w b L) (e : Ed) (he : wfE e) (v : Int) (hv : (Lit.int .i64 v).wf = true) (hl : L.length < maxLen) :
    ∃ w', (Instr.mapUpdate 72 (.map (some b)) (.agg #[.int .i64 e.1, .int .i64 e.2]) (.int .i64 v)).run Try.prog w = .ok () w' ∧ MapL w' b (L ++ [(e, v)]) ∧ w.grownBy w' (some b) := by
  obtain ⟨D, ho, hh, ha, hs⟩ := h
  obtain ⟨w', hrun, ho', hg⟩ := ho.update lawE Try.underlying72 hl (keyE e he) (plainElem_int Try.underlying3 hv)
  refine ⟨w', hrun, ⟨_, by rw [List.length_append, List.length_singleton]; exact ho', fun f hf => ?_, fun f hf => ?_, ?_⟩, hg⟩
  · rw [lastV_snoc]
    by_cases hef : e = f
    · subst hef
      rw [if_pos rfl, has_put_same ho.isMap (lawE.key (keyE e hf))]; rfl
    · rw [if_neg hef, has_put_other (fun hk => hef (klE_inj he hf hk.symm)), hh f hf]
  · rw [lastV_snoc]
    by_cases hef : e = f
    · subst hef
      rw [if_pos rfl, atKey_put_same ho.isMap (lawE.key (keyE e hf))]; rfl
    · rw [if_neg hef, atKey_put_other (fun hk => hef (klE_inj he hf hk.symm)), ha f hf]
  · rw [size_put (ho.tidy lawE), hh e he, hs, keysL_snoc]
    by_cases hm : e ∈ keysL L
    · rw [if_pos (mem_keysL.1 hm), if_pos hm]
    · rw [if_neg (fun hx => hm (mem_keysL.2 hx)), if_neg hm, List.length_append]; rfl
end Go.Proofs.Ytmflacmgffpjoaa

/- Layer 9: the map of directed edges, made once. -/
namespace Go.Proofs.Ytmflacmgffpjoaa
open Go.RowKit

/-- The directed edges of the triangles, one by one, each with its triangle: the first m. -/
def edL (tl : List Tr) (m : Nat) : List (Ed × Int) := (List.range m).map fun j => (edE (tl.getD (j / 3) z3) (j % 3), ((j / 3 : Nat) : Int))
theorem edL_succ (tl : List Tr) (a k : Nat) (hk : k < 3) : edL tl (3 * a + k + 1) = edL tl (3 * a + k) ++ [(edE (tl.getD a z3) k, (a : Int))] := by
  unfold edL
  rw [List.range_succ, List.map_append, List.map_singleton, show (3 * a + k) / 3 = a by omega, show (3 * a + k) % 3 = k by omega]
theorem edL_len (tl : List Tr) (m : Nat) : (edL tl m).length = m := by simp [edL]

/-- The state while the map is filled. -/
structure EdSt (w wr : World) (g b : Nat) (N : Int) (A : Option Addr) (n c : Nat) (L : List (Ed × Int)) : Prop where
  lb : wr.heap[g]? = some (.cells #[.int .i64 N, .slice A n c, .map (some b)] 88 (0, 0))
  mp : MapL wr b L
  bw : w.heap.size ≤ b
  gb : g < w.heap.size
  chg : Chg (fun x => x = g) w wr
theorem EdSt.below {w wr w' : World} {g b : Nat} {N : Int} {A : Option Addr} {n c : Nat} {L : List (Ed × Int)} (h : EdSt w wr g b N A n c L) (hb : Below wr.heap.size wr w') : EdSt w w' g b N A n c L :=
  ⟨(hb.block g (heap_lt h.lb)).trans h.lb, h.mp.kept (hb.block b h.mp.lt), h.bw, h.gb, h.chg.trans (.of_below hb)⟩
theorem EdSt.put {w wr w' : World} {g b : Nat} {N : Int} {A : Option Addr} {n c : Nat} {L L' : List (Ed × Int)} (h : EdSt w wr g b N A n c L) (hg : wr.grownBy w' (some b)) (hm : MapL w' b L') : EdSt w w' g b N A n c L' :=
  ⟨(hg.block g (heap_lt h.lb) (fun e => by have := Option.some.inj e; have := h.bw; have := h.gb; omega)).trans h.lb, hm, h.bw, h.gb,
   h.chg.trans' (.of_grown (S := fun x => x = b) hg fun x hx => (Option.some.inj hx).symm) fun x hx e => by have := h.bw; omega⟩
theorem grown_cell {w w' : World} {b q o : Nat} {v : Value} (hg : w.grownBy w' (some b)) (hq : q ≠ b) (h : w.cell? ⟨q, o, none⟩ = some v) : w'.cell? ⟨q, o, none⟩ = some v := by
  have e := hg.block q (World.block_lt_of_cell? w _ h) (fun e => hq (Option.some.inj e))
  rw [← h]
  simp only [World.cell?, e]
def EdOut (w : World) (g b : Nat) (N : Int) (A : Option Addr) (n c : Nat) (tl : List Tr) (i : Value) (wr : World) : Prop := ∃ k : Nat, k ≤ n ∧ i = .int .i64 (k : Int) ∧ EdSt w wr g b N A n c (edL tl (3 * k))
def EdIn (w : World) (g b r : Nat) (N : Int) (A : Option Addr) (n c : Nat) (tl : List Tr) (k : Nat) (x : Tr) (j : Value) (wr : World) : Prop := ∃ m : Nat, m ≤ 3 ∧ j = .int .i64 (m : Int) ∧ EdSt w wr g b N A n c (edL tl (3 * k + m)) ∧ wr.heap[r]? = some (.cells #[.int .i64 x.1, .int .i64 x.2.1, .int .i64 x.2.2] 53 (0, 0)) ∧ r ≠ b
def EdgesMade (w : World) (g : Nat) (N : Int) (A : Option Addr) (n c : Nat) (tl : List Tr) (e : Ending) (w' : World) : Prop := ∃ b, e = .returned (.map (some b)) ∧ EdSt w w' g b N A n c (edL tl (3 * n))

theorem eqlIn_nilmap (d : Nat) (w : World) (m : Option Nat) : (Op.equalIn (d + 1) 72 (.map m) (.map none)).run Try.prog w = .ok m.isNone w := by
  cases m <;> simp [Op.equalIn, run_underlying Try.underlying72]
theorem eql_nilmap (w : World) (m : Option Nat) : (binOp .eql 72 (.map m) (.map none)).run Try.prog w = .ok (.bool m.isNone) w := by
  have h : (Op.equal 72 (.map m) (.map none)).run Try.prog w = .ok m.isNone w := eqlIn_nilmap 9999 w m
  simp [binOp, h]
theorem make_sized (w : World) (k : Int) : (Instr.makeMap 72 (some (.int .i64 k))).run Try.prog w = .ok (.map (some w.heap.size)) (w.alloc (.map #[] 0)) := by
  simp [Instr.makeMap, run_underlying Try.underlying72, asInt, asIntOf]
set_option maxHeartbeats 400000 in
set_option maxRecDepth 100000 in
theorem cedges_set (w : World) (g b : Nat) (N : Int) (A : Option Addr) (n c : Nat) (h : w.heap[g]? = some (.cells #[.int .i64 N, .slice A n c, .map (some b)] 88 (0, 0))) :
    Calls Try.prog 80 #[.pointer (some ⟨g, 0, none⟩)] w fun e w' => e = .returned (.map (some b)) ∧ w' = w := by
  have c2 : w.cell? ⟨g, 2, none⟩ = some (.map (some b)) := by rw [cell_in h]; rfl
  have q := eql_nilmap w (some b)
  clear h
  go_enter Try.func80, Try.ntmps80
  go_wp2
  go_ret
  exact ⟨rfl, rfl⟩

theorem wf_in {x N : Int} (h : inN N x) (hN : N ≤ 4096) : (Lit.int .i64 x).wf = true := WalkArith.wf_i64 (by have := h.1; have := h.2; omega)
theorem edE_wf {N : Int} {x : Tr} (h : inN N x.1 ∧ inN N x.2.1 ∧ inN N x.2.2) (hN : N ≤ 4096) (k : Nat) : wfE (edE x k) := by
  obtain ⟨h0, h1, h2⟩ := h
  unfold edE
  split
  · exact ⟨wf_in h0 hN, wf_in h1 hN⟩
  · split
    · exact ⟨wf_in h1 hN, wf_in h2 hN⟩
    · exact ⟨wf_in h2 hN, wf_in h0 hN⟩
set_option maxHeartbeats 8000000 in
set_option maxRecDepth 100000 in
theorem cedges_make (w : World) (g : Nat) (N : Int) (A : Option Addr) (n c : Nat) (tl : List Tr) (h : w.heap[g]? = some (.cells #[.int .i64 N, .slice A n c, .map none] 88 (0, 0))) (ht : T3 w A n tl) (hn : n ≤ 8192) (hN : N ≤ 4096)
    (hin : ∀ t ∈ tl, inN N t.1 ∧ inN N t.2.1 ∧ inN N t.2.2) (hA : 0 < n → ∀ b off, A = some ⟨b, off, none⟩ → b ≠ g) : Calls Try.prog 80 #[.pointer (some ⟨g, 0, none⟩)] w (EdgesMade w g N A n c tl) := by
  have c1 : w.cell? ⟨g, 1, none⟩ = some (.slice A n c) := by rw [cell_in h]; rfl
  have c2 : w.cell? ⟨g, 2, none⟩ = some (.map none) := by rw [cell_in h]; rfl
  have f2 := frozen_in h 2
  have qn := eql_nilmap w none
  have hmk := fun W => make_sized W (3 * (n : Int))
  have e3 : IntKind.i64.wrap (3 * (n : Int)) = 3 * (n : Int) := IntWalk.i64_in _ (by omega)
  have b0 := (Below.refl _ w).alloc (Nat.le_refl _) (.map #[] 0)
  obtain ⟨b, hb⟩ : ∃ b, w.heap.size = b := ⟨_, rfl⟩
  obtain ⟨w1, hw1⟩ : ∃ w1, w.alloc (.map #[] 0) = w1 := ⟨_, rfl⟩
  have m0 := MapL.made w
  have hgb := heap_lt h
  have h1 := (b0.block g hgb).trans h
  have f1 := frozen_in h1 2
  have c3 : (w.alloc (.map #[] 0)).cell? ⟨g, 2, none⟩ = some (.map none) := by rw [cell_in h1]; rfl
  have h2 := heap_set h1 2 (.map (some w.heap.size))
  have m1 : MapL ((w.alloc (.map #[] 0)).setCell ⟨g, 2, none⟩ (.map (some w.heap.size))) w.heap.size [] := m0.kept (Below.heap_setCell _ _ _ _ (Ne.symm (Nat.ne_of_lt hgb)))
  have st0 : EdSt w ((w.alloc (.map #[] 0)).setCell ⟨g, 2, none⟩ (.map (some w.heap.size))) g w.heap.size N A n c (edL tl (3 * 0)) :=
    ⟨by rw [h2]; simp, m1, Nat.le_refl _, hgb, (Chg.of_below b0).set _ _ rfl⟩
  rw [hw1, hb] at st0
  rw [hw1] at f1 c3
  obtain ⟨w2, hw2⟩ : ∃ w2, w1.setCell ⟨g, 2, none⟩ (.map (some b)) = w2 := ⟨_, rfl⟩
  rw [hw2] at st0
  have c4 : w2.cell? ⟨g, 1, none⟩ = some (.slice A n c) := by rw [cell_in st0.lb]; rfl
  have ST := Lib.hid st0
  have HT := Lib.hid ht
  have HI := Lib.hid hin
  have HA := Lib.hid (show 0 < n → ∀ bk off, A = some ⟨bk, off, none⟩ → ¬ bk = g from hA)
  clear ht hin hA h m0 m1 h1 h2 st0 b0 hgb
  go_enter Try.func80, Try.ntmps80
  go_wp2_with fail
  clear hw2 hw1 hb c1 c2 c3 c4 f1 f2 qn hmk e3
  go_loopw [28] (EdOut w g b N A n c tl) (fun i _ => n - (intOf i).toNat)
  case atStart => exact ⟨0, Nat.zero_le _, rfl, ST.out⟩
  case round =>
    obtain ⟨k, hk, rfl, hst⟩ := hrel
    by_cases hlt : k < n
    · have b1 : (k : Int) < n := by omega
      obtain ⟨bA, off, rfl, hat⟩ := (HT.out.chg hst.chg HA.out).2 (by omega)
      obtain ⟨c0, c1, c2⟩ := hat k hlt
      clear hat
      obtain ⟨x, hx⟩ : ∃ x, tl.getD k z3 = x := ⟨_, rfl⟩
      rw [hx] at c0 c1 c2
      have hin := HI.out _ (show x ∈ tl by rw [← hx]; exact getD3_mem (by rw [HT.out.1]; exact hlt))
      have HX := Lib.hid (And.intro hx hin)
      clear hx hin
      obtain ⟨x0, x1, x2⟩ := x
      obtain ⟨w3, hw3⟩ : ∃ w3, wr.alloc (.cells #[.int .i64 x0, .int .i64 x1, .int .i64 x2] 53) = w3 := ⟨_, rfl⟩
      have b3 : Below wr.heap.size wr w3 := by rw [← hw3]; exact (Below.refl _ wr).alloc (Nat.le_refl _) _
      obtain ⟨r, hr⟩ : ∃ r, wr.heap.size = r := ⟨_, rfl⟩
      have r0 : w3.heap[r]? = some (.cells #[.int .i64 x0, .int .i64 x1, .int .i64 x2] 53 (0, 0)) := by rw [← hw3, ← hr]; exact heap_alloc_new wr _
      have hrb : r ≠ b := by have := hst.mp.lt; omega
      have S3 := Lib.hid (And.intro (hst.below b3) (And.intro r0 hrb))
      clear hst b3 r0 hrb
      go_wp2_with fail
      clear hw3 hr c0 c1 c2
      go_loopw [33] (EdIn w g b r N (some ⟨bA, off, none⟩) n c tl k (x0, x1, x2)) (fun i _ => 3 - (intOf i).toNat)
      case atStart => exact ⟨0, by omega, rfl, S3.out⟩
      case round =>
        obtain ⟨m, hm, rfl, hst, r0, hrb⟩ := hrel
        by_cases hm3 : m < 3
        · have m1 : (m : Int) < 3 := by omega
          have hkm : (k : Int) ≤ 8192 := by omega
          have g2 : wr.cell? ⟨g, 2, none⟩ = some (.map (some b)) := by rw [cell_in hst.lb]; rfl
          have q0 : wr.cell? ⟨r, 0, none⟩ = some (.int .i64 x0) := by rw [cell_in r0]; rfl
          have q1 : wr.cell? ⟨r, 1, none⟩ = some (.int .i64 x1) := by rw [cell_in r0]; rfl
          have q2 : wr.cell? ⟨r, 2, none⟩ = some (.int .i64 x2) := by rw [cell_in r0]; rfl
          have hwf := edE_wf (x := (x0, x1, x2)) HX.out.2 hN m
          obtain ⟨d, hd⟩ : ∃ d, edE (x0, x1, x2) m = d := ⟨_, rfl⟩
          have K := Lib.hid (fun W => cedge_any W x0 x1 x2 m hm3)
          have HD := Lib.hid hd
          rw [hd] at hwf K
          have HW := Lib.hid hwf
          have HS := Lib.hid (And.intro hst (And.intro r0 hrb))
          have HG := Lib.hid (show g ≠ b by have := hst.gb; have := hst.bw; omega)
          have HKn := Lib.hid (show (edL tl (3 * k + m)).length < maxLen by rw [edL_len]; unfold maxLen; omega)
          have HF := Lib.hid (fun W (b' : Below wr.heap.size wr W) => show W.cell? ⟨g, 2, none⟩ = some (.map (some b)) ∧ W.cell? ⟨r, 0, none⟩ = some (.int .i64 x0) ∧ W.cell? ⟨r, 1, none⟩ = some (.int .i64 x1) ∧ W.cell? ⟨r, 2, none⟩ = some (.int .i64 x2) from
            ⟨(b'.cell (p := ⟨g, 2, none⟩) (heap_lt hst.lb)).trans g2, (b'.cell (p := ⟨r, 0, none⟩) (heap_lt r0)).trans q0, (b'.cell (p := ⟨r, 1, none⟩) (heap_lt r0)).trans q1, (b'.cell (p := ⟨r, 2, none⟩) (heap_lt r0)).trans q2⟩)
          clear hst r0 hrb hd hwf
          go_wp2_with fail
          go_region_held3 (fun w' => w'.cell? ⟨g, 2, none⟩ = some (.map (some b)) ∧ w'.cell? ⟨r, 0, none⟩ = some (.int .i64 x0) ∧ w'.cell? ⟨r, 1, none⟩ = some (.int .i64 x1) ∧ w'.cell? ⟨r, 2, none⟩ = some (.int .i64 x2))
            (first | exact ⟨g2, q0, q1, q2⟩ | exact HF.out _ (upd (Below.refl _ wr)) | exact HF.out _ b6 | exact z6 | fail)
            (first | (go_at_call 81; refine (K.out _).mono ?_; rintro e w5 ⟨rfl, b5⟩; have b6 := up2 (upd (Below.refl _ wr)) b5; have s5 := HS.out.1.below (upd (Below.refl _ wr)) |>.below b5; obtain ⟨w6, hrun, hM6, hg6⟩ := s5.mp.put d HW.out (k : Int) (WalkArith.wf_i64 (by omega)) HKn.out; have z5 := HF.out _ b6; have z6 := And.intro (grown_cell hg6 HG.out z5.1) (And.intro (grown_cell hg6 HS.out.2.2 z5.2.1) (And.intro (grown_cell hg6 HS.out.2.2 z5.2.2.1) (grown_cell hg6 HS.out.2.2 z5.2.2.2)))) | fail)
          have S6 := Lib.hid (s5.put hg6 hM6)
          have R6 := Lib.hid ((hg6.block r (heap_lt ((b6.block r (heap_lt HS.out.2.1)).trans HS.out.2.1)) (fun e => HS.out.2.2 (Option.some.inj e))).trans ((b6.block r (heap_lt HS.out.2.1)).trans HS.out.2.1))
          clear z5 z6 s5 b5 b6 hg6 hM6 hrun
          go_wp2_with fail
          refine ⟨⟨m + 1, by omega, by go_num, ?_, R6.out, HS.out.2.2⟩, by simp [intOf]; omega⟩
          rw [← Nat.add_assoc, edL_succ tl k m hm3, HX.out.1, HD.out]
          exact S6.out
        · obtain rfl : m = 3 := by omega
          have HS := Lib.hid hst
          clear hst r0 hrb
          go_wp2_with fail
          refine ⟨⟨k + 1, by omega, by go_num, ?_⟩, by simp [intOf]; omega⟩
          rw [Nat.mul_add]
          exact HS.out
    · obtain rfl : k = n := by omega
      have b1 : ¬ (k : Int) < k := by omega
      have c2 : wr.cell? ⟨g, 2, none⟩ = some (.map (some b)) := by rw [cell_in hst.lb]; rfl
      have HS := Lib.hid hst
      clear hst
      go_wp2
      go_ret
      exact ⟨b, rfl, HS.out⟩
end Go.Proofs.Ytmflacmgffpjoaa

/- Layer 9: a map from directed edges to lists of triangles, each list in a row of its own. -/
namespace Go.Proofs.Ytmflacmgffpjoaa
open Go.RowKit Go.Maps Go.ChangeMaps Go.MapKept

/-- A value that stands for itself. -/
def rawE : Value → Option (DataW Value × List MemPlace) := fun v => some (.held v, [])
theorem law9 : WideMaps.KeyLaw Try.prog 59 := deep_law_laid laid_out (m := 2) (by omega) (of_decide_eq_true (by kernel_rfl)) (by kernel_rfl) (by rw [Try.underlying59])
theorem zeroInts9 (w : World) : (zeroValue 40).run Try.prog w = .ok (.slice none 0 0) w := by kernel_rfl
/-- Block b is a map whose values are F's. -/
def MapV (w : World) (b n : Nat) (F : Ed → Value) : Prop := ∃ D, w.ownsMap Try.prog 59 rawE b n D ∧ ∀ e, wfE e → D.atKey (klE e) (.held (.slice none 0 0)) = .held (F e)
theorem MapV.lt {w : World} {b n : Nat} {F : Ed → Value} (h : MapV w b n F) : b < w.heap.size := by
  obtain ⟨D, ho, _⟩ := h
  exact ho.lt
theorem MapV.kept {w w' : World} {b n : Nat} {F : Ed → Value} (h : MapV w b n F) (hg : w'.heap[b]? = w.heap[b]?) : MapV w' b n F := by
  obtain ⟨D, ⟨es, clock, hb, h2⟩, h3⟩ := h
  exact ⟨D, ⟨es, clock, hg.trans hb, h2⟩, h3⟩
theorem MapV.made (w : World) : MapV (w.alloc (.map #[] 0)) w.heap.size 0 (fun _ => .slice none 0 0) := ⟨.map [], World.ownsMap_made w _ _ _, fun _ _ => rfl⟩
theorem MapV.obj {w : World} {b n : Nat} {F : Ed → Value} (h : MapV w b n F) : ∃ es clock, w.heap[b]? = some (.map es clock) := by
  obtain ⟨D, ⟨es, clock, hb, _⟩, _⟩ := h
  exact ⟨es, clock, hb⟩
theorem MapV.look {w : World} {b n : Nat} {F : Ed → Value} (h : MapV w b n F) (e : Ed) (he : wfE e) : (Instr.lookup 96 (.map (some b)) (.agg #[.int .i64 e.1, .int .i64 e.2]) false).run Try.prog w = .ok (F e) w := by
  obtain ⟨D, ho, ha⟩ := h
  obtain ⟨v, ps, hrun, hv⟩ := ho.lookup lawE Try.underlying96 (zeroInts9 w) (show rawE _ = some (.held (.slice none 0 0), []) from rfl) (keyE e he)
  rw [ha e he] at hv
  simp only [rawE, Option.some.injEq, Prod.mk.injEq, DataW.held.injEq] at hv
  rw [hrun, hv.1]
set_option maxRecDepth 100000 in
/-- m[e] = append(m[e], ..): what is found, and what is stored. -/
theorem MapV.entry {w : World} {b n : Nat} {F : Ed → Value} (h : MapV w b n F) (e : Ed) (he : wfE e) (hn : n < maxLen) :
    ∃ (st : Nat) (w1 : World), (Instr.mapEntry 96 (.map (some b)) (.agg #[.int .i64 e.1, .int .i64 e.2])).run Try.prog w = .ok (.tuple #[F e, goInt st]) w1 ∧ w.grownBy w1 (some b) ∧ w1.heap.size = w.heap.size ∧ (∃ es clock, w1.heap[b]? = some (.map es clock)) ∧
      ∀ (w2 : World) (val : Value), w2.heap[b]? = w1.heap[b]? → ∃ w3, (Instr.entryStore 96 (.map (some b)) (goInt st) val).run Try.prog w2 = .ok () w3 ∧ w2.grownBy w3 (some b) ∧ w3.heap.size = w2.heap.size ∧ MapV w3 b (n + 1) (fun f => if f = e then val else F f) := by
  obtain ⟨D, ⟨es, clock, hb, FF, hs, rfl⟩, ha⟩ := h
  have hkey := keyE e he
  obtain ⟨v0, st, es1, clock1, hrun, hv0, hst⟩ := WideElems.entry_then_store law9 Try.underlying96 (z := .slice none 0 0) (fun u => zeroInts9 u) hb FF hkey
  have hF : v0 = F e := by
    have hae := ha e he
    rcases Maps.fit_look false lawE Try.underlying96 (zeroInts9 w) hb FF hkey with ⟨_, hno, hat⟩ | ⟨e0, y, hm, hk, _, hR, hat, _⟩
    · rcases hv0 with ⟨e1, hm1, hk1, _⟩ | ⟨_, hz⟩
      · exact absurd hk1 (hno e1 hm1)
      · rw [hat] at hae
        injection hae with hae
        rw [hz, hae]
    · rcases hv0 with ⟨e1, hm1, hk1, hv1⟩ | ⟨hno, _⟩
      · have hone : e1 = e0 := by
          obtain ⟨i, hi, rfl⟩ := List.mem_iff_getElem.1 hm1
          obtain ⟨j, hj, rfl⟩ := List.mem_iff_getElem.1 hm
          have hnd := FF.stamped.2.2
          have : i = j := (List.getElem_inj (h₀ := by simpa using hi) (h₁ := by simpa using hj) hnd).1 (by simp only [List.getElem_map]; rw [hk1, hk])
          subst this
          rfl
        subst hone
        rw [hat] at hae
        simp only [rawE, Option.some.injEq] at hR
        subst hR
        injection hae with hae
        rw [hv1, hae]
      · exact absurd hk (hno e0 hm)
  subst hF
  refine ⟨st, _, hrun, ⟨rfl, rfl, rfl, by simp [setBlock], fun i _ hi => heap_setBlock_other hb _ (fun e => hi (by rw [e]))⟩, by simp [setBlock], ⟨_, _, heap_setBlock_same hb _⟩, fun w2 val hw2 => ?_⟩
  rw [heap_setBlock_same hb] at hw2
  obtain ⟨es', clock', hrun2, hup⟩ := hst w2 val hw2
  obtain ⟨es2, clock2, hrun3, F', hput, _⟩ := Maps.fit_store (R' := rawE) lawE Try.underlying96 hb FF (Nat.lt_of_le_of_lt hs hn) (fun _ _ _ _ hz => hz) hkey (show rawE val = some (.held val, []) from rfl)
  rw [hup] at hrun3
  have hsame : Obj.map es' clock' = Obj.map es2 clock2 := by
    have h1 := (Result.ok.inj hrun3).2
    have h2 := congrArg (fun u : World => u.heap[b]?) h1
    simp only [heap_setBlock_same hb] at h2
    exact Option.some.inj h2
  injection hsame with e1 e2
  subst e1 e2
  refine ⟨_, hrun2, ⟨rfl, rfl, rfl, by simp [setBlock], fun i _ hi => heap_setBlock_other hw2 _ (fun e => hi (by rw [e]))⟩, by simp [setBlock], ⟨_, ⟨es', clock', heap_setBlock_same hw2 _, F', ?_, rfl⟩, fun f hf => ?_⟩⟩
  · have e1 : es'.size = ((es'.toList.map (WideElems.rg Try.prog 59 rawE)).foldr DataW.insert []).length := by rw [length_sorted]; simp
    rw [e1, hput]
    unfold putKey
    rw [length_insert]
    have e2 := List.length_filter_le (notKey (klE e)) ((es.toList.map (WideElems.rg Try.prog 59 rawE)).foldr DataW.insert [])
    rw [length_sorted] at e2
    simp at e2
    omega
  · rw [hput, ← DataW.put_eq]
    show _ = DataW.held (if f = e then val else F f)
    by_cases hfe : f = e
    · subst hfe
      rw [if_pos rfl, atKey_put_same ⟨_, rfl⟩ (lawE.key hkey)]
    · rw [if_neg hfe, atKey_put_other (fun hk => hfe (klE_inj hf he hk)), ha f hf]

/-- The triangles that were put in for a directed edge, in order. -/
def vals (L : List (Ed × Int)) (e : Ed) : List Int := (L.filter fun p => decide (p.1 = e)).map (·.2)
theorem vals_snoc (L : List (Ed × Int)) (p : Ed × Int) (e : Ed) : vals (L ++ [p]) e = if p.1 = e then vals L e ++ [p.2] else vals L e := by
  unfold vals
  rw [List.filter_append, List.map_append]
  by_cases h : p.1 = e
  · rw [if_pos h, List.filter_cons_of_pos (by simpa using h)]; rfl
  · rw [if_neg h, List.filter_cons_of_neg (by simpa using h)]; simp
theorem mem_vals {L : List (Ed × Int)} {e : Ed} {v : Int} : v ∈ vals L e ↔ (e, v) ∈ L := by
  unfold vals
  rw [List.mem_map]
  constructor
  · rintro ⟨⟨a, b⟩, hm, rfl⟩
    have := List.mem_filter.1 hm
    have h2 : a = e := by simpa using this.2
    subst h2
    exact this.1
  · intro h
    exact ⟨_, List.mem_filter.2 ⟨h, by simp⟩, rfl⟩
theorem vals_le (L : List (Ed × Int)) (e : Ed) : (vals L e).length ≤ L.length := by
  unfold vals
  rw [List.length_map]
  exact List.length_filter_le _ _
/-- The map of the lists: block mb, and rows from B on, each list its own. -/
structure Grp (w : World) (mb B : Nat) (L : List (Ed × Int)) (F : Ed → Value) : Prop where
  mp : MapV w mb L.length F
  own : ∀ e, wfE e → w.ownsRow B 3 1 (F e) (vals L e).length (ints (vals L e))
  far : ∀ e e', wfE e → wfE e' → e ≠ e' → ∀ q, (F e).ownBlock = some q → (F e').ownBlock ≠ some q
theorem Grp.made (w : World) (B : Nat) : Grp (w.alloc (.map #[] 0)) w.heap.size B [] (fun _ => .slice none 0 0) :=
  ⟨MapV.made w, fun _ _ => World.ownsRow_nil _ _ _ _, fun _ _ _ _ _ _ hq => nomatch hq⟩
/-- The blocks of a map and of its rows are as they were. -/
theorem Grp.kept {w w' : World} {mb B : Nat} {L : List (Ed × Int)} {F : Ed → Value} {S : Nat → Prop} (h : Grp w mb B L F) (hc : Chg S w w') (hB : ∀ b, S b → b < B) (hm : ¬ S mb) : Grp w' mb B L F :=
  ⟨h.mp.kept (hc.far mb h.mp.lt hm), fun e he => own_keep (h.own e he) hc fun q hq hs => by have := (own_lt (h.own e he) q hq).1; have := hB q hs; omega, h.far⟩
theorem Grp.below {w w' : World} {mb B : Nat} {L : List (Ed × Int)} {F : Ed → Value} (h : Grp w mb B L F) (hb : Below w.heap.size w w') : Grp w' mb B L F :=
  h.kept (S := fun _ => False) (.of_below hb) (fun _ h => h.elim) (fun h => h)
theorem Grp.form {w : World} {mb B : Nat} {L : List (Ed × Int)} {F : Ed → Value} (h : Grp w mb B L F) (e : Ed) (he : wfE e) : ∃ A c, F e = .slice A (vals L e).length c ∧ (A = none → c = 0) ∧ Reads w A (vals L e).length (ints (vals L e)) := Reads.of_own (h.own e he)
/-- m[e] = append(m[e], v), whole. -/
theorem Grp.put {w w1 w3 w4 : World} {mb B : Nat} {L : List (Ed × Int)} {F : Ed → Value} (h : Grp w mb B L F) (e : Ed) (he : wfE e) (v : Int) {v' : Value}
    (g1 : w.grownBy w1 (some mb)) (s1 : w1.heap.size = w.heap.size) (o3 : w3.ownsRow B 3 1 v' ((vals L e).length + 1) (ints (vals L e) ++ [.int .i64 v])) (g3 : w1.grownBy w3 (F e).ownBlock) (l3 : v'.ownBlock = (F e).ownBlock ∨ v'.ownBlock = some w1.heap.size)
    (g4 : w3.grownBy w4 (some mb)) (m4 : MapV w4 mb (L.length + 1) (fun f => if f = e then v' else F f)) (hmo : ∃ es clock, w3.heap[mb]? = some (.map es clock)) : Grp w4 mb B (L ++ [(e, v)]) (fun f => if f = e then v' else F f) := by
  have notmb : ∀ {W : World} {vv : Value} {n : Nat} {xs : List Value}, W.ownsRow B 3 1 vv n xs → (∃ es clock, W.heap[mb]? = some (.map es clock)) → vv.ownBlock ≠ some mb := fun ho ⟨es, clock, hm⟩ hq => by
    obtain ⟨_, _, cur, hc⟩ := own_lt ho mb hq
    rw [hm] at hc
    cases hc
  refine ⟨by rw [List.length_append, List.length_singleton]; exact m4, fun f hf => ?_, fun f f' hf hf' hne q hq => ?_⟩
  · rw [vals_snoc]
    by_cases hfe : f = e
    · subst hfe
      rw [if_pos rfl, if_pos rfl, List.length_append, List.length_singleton, ints_append]
      exact o3.kept g4 (.inr (notmb o3 hmo))
    · rw [if_neg hfe, if_neg (Ne.symm hfe)]
      have h0 := h.own f hf
      have h1 := h0.kept g1 (.inr (notmb h0 h.mp.obj))
      have hn : (F f).ownBlock = none ∨ (F f).ownBlock ≠ (F e).ownBlock := by
        cases hq : (F f).ownBlock with
        | none => exact .inl rfl
        | some q => exact .inr fun hx => h.far f e hf he hfe q hq hx.symm
      have h3 := h1.kept g3 hn
      exact h3.kept g4 (.inr (notmb h3 hmo))
  · have new : ∀ f, wfE f → f ≠ e → ∀ q, (F f).ownBlock = some q → v'.ownBlock ≠ some q := fun f hf hfe q hq hv => by
      rcases l3 with hl | hl
      · exact h.far f e hf he hfe q hq (hl.symm.trans hv)
      · have := (own_lt (h.own f hf) q hq).2.1
        rw [hl] at hv
        have := Option.some.inj hv
        omega
    by_cases h1 : f = e
    · subst h1
      rw [if_pos rfl] at hq
      rw [if_neg (Ne.symm hne)]
      intro hx
      exact new f' hf' (Ne.symm hne) q hx hq
    · rw [if_neg h1] at hq
      by_cases h2 : f' = e
      · subst h2
        rw [if_pos rfl]
        exact new f hf h1 q hq
      · rw [if_neg h2]
        exact h.far f f' hf hf' hne q hq
end Go.Proofs.Ytmflacmgffpjoaa

/- Layer 9: pairs of triangles, one by one; which pairs have a directed edge in common. -/
namespace Go.Proofs.Ytmflacmgffpjoaa
open Go.RowKit

def rowP (kd : Int) (q : Tr → Tr → Bool) (tl : List Tr) (b a : Nat) : List Wt := ((List.range a).filter fun i => q (tl.getD i z3) (tl.getD b z3)).map fun i => (kd, ((i : Nat) : Int), ((b : Nat) : Int))
/-- What is told of the triangles below b, and of b and those below a. -/
def pairP (kd : Int) (q : Tr → Tr → Bool) (tl : List Tr) (b a : Nat) : List Wt := (List.range b).flatMap (fun b' => rowP kd q tl b' b') ++ rowP kd q tl b a
theorem rowP_succ (kd : Int) (q : Tr → Tr → Bool) (tl : List Tr) (b a : Nat) : rowP kd q tl b (a + 1) = rowP kd q tl b a ++ (if q (tl.getD a z3) (tl.getD b z3) = true then [(kd, (a : Int), (b : Int))] else []) := by
  unfold rowP
  rw [List.range_succ, List.filter_append, List.map_append]
  congr 1
  rw [List.filter_cons]
  by_cases h : q (tl.getD a z3) (tl.getD b z3) = true
  · rw [if_pos h, if_pos h]; rfl
  · rw [if_neg h, if_neg h]; rfl
theorem pairP_yes {kd : Int} {q : Tr → Tr → Bool} {tl : List Tr} {b a : Nat} (h : q (tl.getD a z3) (tl.getD b z3) = true) : pairP kd q tl b (a + 1) = pairP kd q tl b a ++ [(kd, (a : Int), (b : Int))] := by
  unfold pairP; rw [rowP_succ, if_pos h, List.append_assoc]
theorem pairP_no {kd : Int} {q : Tr → Tr → Bool} {tl : List Tr} {b a : Nat} (h : q (tl.getD a z3) (tl.getD b z3) = false) : pairP kd q tl b (a + 1) = pairP kd q tl b a := by
  unfold pairP; rw [rowP_succ, if_neg (by rw [h]; decide), List.append_nil]
theorem pairP_next (kd : Int) (q : Tr → Tr → Bool) (tl : List Tr) (b : Nat) : pairP kd q tl (b + 1) 0 = pairP kd q tl b b := by
  unfold pairP
  rw [List.range_succ, List.flatMap_append, List.flatMap_singleton]
  exact List.append_nil _
theorem pairP_zero (kd : Int) (q : Tr → Tr → Bool) (tl : List Tr) : pairP kd q tl 0 0 = [] := rfl
theorem pairP_all (kd : Int) (q : Tr → Tr → Bool) (tl : List Tr) : pairP kd q tl tl.length 0 = pairW kd q tl := by
  unfold pairP pairW rowP
  exact List.append_nil _
theorem pairP_skip {kd : Int} {q : Tr → Tr → Bool} {tl : List Tr} {b a : Nat} (h : ∀ i, i < a → q (tl.getD i z3) (tl.getD b z3) = false) : pairP kd q tl b a = pairP kd q tl b 0 := by
  induction a with
  | zero => rfl
  | succ a ih => rw [pairP_no (h a (by omega)), ih fun i hi => h i (by omega)]
theorem pairP_step (kd : Int) (q : Tr → Tr → Bool) (tl : List Tr) (b a : Nat) : pairP kd q tl b a <+: pairP kd q tl b (a + 1) := by
  unfold pairP
  rw [rowP_succ, ← List.append_assoc]
  exact List.prefix_append _ _
theorem pairP_pre (kd : Int) (q : Tr → Tr → Bool) (tl : List Tr) (b : Nat) {a a' : Nat} (h : a ≤ a') : pairP kd q tl b a <+: pairP kd q tl b a' := by
  induction h with
  | refl => exact List.prefix_refl _
  | step h ih => exact ih.trans (pairP_step _ _ _ _ _)
theorem pairP_up (kd : Int) (q : Tr → Tr → Bool) (tl : List Tr) {b n : Nat} (h : b ≤ n) : pairP kd q tl b 0 <+: pairP kd q tl n 0 := by
  induction h with
  | refl => exact List.prefix_refl _
  | step h ih => rw [pairP_next]; exact ih.trans (pairP_pre _ _ _ _ (Nat.zero_le _))
theorem pairP_in {kd : Int} {q : Tr → Tr → Bool} {tl : List Tr} {b a : Nat} (ha : a ≤ b) (hb : b < tl.length) : pairP kd q tl b a <+: pairW kd q tl := by
  refine (pairP_pre kd q tl b ha).trans ?_
  rw [← pairP_next, ← pairP_all]
  exact pairP_up _ _ _ hb

abbrev q9 : Tr → Tr → Bool := fun t u => decide (twice t u)
theorem edL_mem {tl : List Tr} {m : Nat} {e : Ed} {v : Int} : (e, v) ∈ edL tl m ↔ ∃ a k, k < 3 ∧ 3 * a + k < m ∧ edE (tl.getD a z3) k = e ∧ v = (a : Int) := by
  unfold edL
  rw [List.mem_map]
  constructor
  · rintro ⟨j, hj, h⟩
    injection h with h1 h2
    exact ⟨j / 3, j % 3, by omega, by have := List.mem_range.1 hj; omega, h1, h2.symm⟩
  · rintro ⟨a, k, hk, hm, h1, h2⟩
    refine ⟨3 * a + k, List.mem_range.2 hm, ?_⟩
    rw [show (3 * a + k) / 3 = a by omega, show (3 * a + k) % 3 = k by omega, h1, h2]
theorem edE_has {t : Tr} {a b : Int} : hasE t a b ↔ ∃ k, k < 3 ∧ edE t k = (a, b) := by
  constructor
  · rintro (⟨h1, h2⟩ | ⟨h1, h2⟩ | ⟨h1, h2⟩)
    · exact ⟨0, by omega, by simp [edE, h1, h2]⟩
    · exact ⟨1, by omega, by simp [edE, h1, h2]⟩
    · exact ⟨2, by omega, by simp [edE, h1, h2]⟩
  · rintro ⟨k, hk, h⟩
    match k, hk with
    | 0, _ => simp [edE] at h; exact .inl h
    | 1, _ => simp [edE] at h; exact .inr (.inl h)
    | 2, _ => simp [edE] at h; exact .inr (.inr h)
theorem twice_edE {t u : Tr} : twice t u ↔ ∃ k, k < 3 ∧ ∃ k', k' < 3 ∧ edE t k' = edE u k := by
  rw [twice_iff]
  constructor
  · rintro ⟨a, b, h1, h2⟩
    obtain ⟨k', hk', e'⟩ := edE_has.1 h1
    obtain ⟨k, hk, e⟩ := edE_has.1 h2
    exact ⟨k, hk, k', hk', e'.trans e.symm⟩
  · rintro ⟨k, hk, k', hk', e⟩
    exact ⟨_, _, edE_has.2 ⟨k', hk', rfl⟩, edE_has.2 ⟨k, hk, e.symm⟩⟩
/-- The triangles that have an edge in common with the first k of b's. -/
def meets (tl : List Tr) (b : Nat) : Nat → List Int
  | 0 => []
  | k + 1 => meets tl b k ++ vals (edL tl (3 * b + k)) (edE (tl.getD b z3) k)
theorem mem_meets {tl : List Tr} {b : Nat} {v : Int} : ∀ {k : Nat}, k ≤ 3 → (v ∈ meets tl b k ↔ ∃ k', k' < k ∧ (edE (tl.getD b z3) k', v) ∈ edL tl (3 * b + k'))
  | 0, _ => by simp [meets]
  | k + 1, hk => by
    unfold meets
    rw [List.mem_append, mem_meets (k := k) (by omega), mem_vals]
    constructor
    · rintro (⟨k', h1, h2⟩ | h)
      · exact ⟨k', by omega, h2⟩
      · exact ⟨k, by omega, h⟩
    · rintro ⟨k', h1, h2⟩
      by_cases h : k' = k
      · subst h; exact .inr h2
      · exact .inl ⟨k', by omega, h2⟩
theorem meets_twice {tl : List Tr} {b a : Nat} (hab : a < b) : (a : Int) ∈ meets tl b 3 ↔ twice (tl.getD a z3) (tl.getD b z3) := by
  rw [mem_meets (Nat.le_refl _), twice_edE]
  constructor
  · rintro ⟨k, hk, h⟩
    obtain ⟨a', k', hk', _, h1, h2⟩ := edL_mem.1 h
    obtain rfl : a' = a := by omega
    exact ⟨k, hk, k', hk', h1⟩
  · rintro ⟨k, hk, k', hk', h⟩
    exact ⟨k, hk, edL_mem.2 ⟨a, k', hk', by omega, h, rfl⟩⟩
theorem meets_le {tl : List Tr} {b k : Nat} (hk : k ≤ 3) {v : Int} (h : v ∈ meets tl b k) : 0 ≤ v ∧ v ≤ (b : Int) := by
  obtain ⟨k', h1, h2⟩ := (mem_meets hk).1 h
  obtain ⟨a, k2, hk2, hm, _, rfl⟩ := edL_mem.1 h2
  omega
/-- As many directed edges as three for each triangle: no two have one in common. -/
theorem full_none {tl : List Tr} (h : (keysL (edL tl (3 * tl.length))).length = 3 * tl.length) : pairW 3 (fun t u => decide (twice t u)) tl = [] := by
  have hn := keysL_full.1 (h.trans (edL_len tl _).symm)
  refine pairW_nil.2 (List.pairwise_iff_getElem.2 fun i j hi hj hij => decide_eq_false fun ht => ?_)
  obtain ⟨k, hk, k', hk', e⟩ := twice_edE.1 ht
  unfold edL at hn
  rw [List.map_map] at hn
  have hp := List.pairwise_map.1 hn
  have := List.pairwise_iff_getElem.1 hp (3 * i + k') (3 * j + k) (by simp; omega) (by simp; omega) (by omega)
  simp only [List.getElem_range, Function.comp] at this
  rw [show (3 * i + k') / 3 = i by omega, show (3 * i + k') % 3 = k' by omega, show (3 * j + k) / 3 = j by omega, show (3 * j + k) % 3 = k by omega] at this
  apply this
  rw [List.getD_eq_getElem?_getD, List.getD_eq_getElem?_getD, List.getElem?_eq_getElem hi, List.getElem?_eq_getElem hj]
  exact e

/-- Which triangles are marked: those of X, up to b. -/
structure Marks (wl : List Int) (n b : Nat) (X : List Int) : Prop where
  len : wl.length = n
  le : ∀ a, a < n → wl.getD a 0 ≤ (b : Int)
  iff : ∀ a, a < b → a < n → (wl.getD a 0 = (b : Int) ↔ (a : Int) ∈ X)
theorem Marks.start (n : Nat) : Marks (List.replicate n 0) n 0 [] := ⟨List.length_replicate, fun a ha => by rw [List.getD_eq_getElem?_getD, List.getElem?_replicate, if_pos ha]; exact Int.le_refl _, fun a h _ => absurd h (by omega)⟩
theorem Marks.next {wl : List Int} {n b : Nat} {X : List Int} (h : Marks wl n b X) : Marks wl n (b + 1) [] :=
  ⟨h.len, fun a ha => by have := h.le a ha; omega, fun a _ ha => by have := h.le a ha; constructor <;> intro hx; omega; cases hx⟩
theorem Marks.set {wl : List Int} {n b : Nat} {X : List Int} (h : Marks wl n b X) {x : Nat} (hx : x < n) : Marks (wl.set x (b : Int)) n b (X ++ [(x : Int)]) := by
  have gd : ∀ a, a < n → (wl.set x (b : Int)).getD a 0 = if x = a then (b : Int) else wl.getD a 0 := fun a ha => by
    rw [List.getD_eq_getElem?_getD, List.getElem?_set, List.getD_eq_getElem?_getD]
    by_cases e : x = a
    · rw [if_pos e, if_pos e, if_pos (by rw [h.len]; exact hx)]; rfl
    · rw [if_neg e, if_neg e]
  refine ⟨by rw [List.length_set]; exact h.len, fun a ha => ?_, fun a hab ha => ?_⟩
  · rw [gd a ha]
    split
    · exact Int.le_refl _
    · exact h.le a ha
  · rw [gd a ha, List.mem_append, List.mem_singleton]
    by_cases e : x = a
    · subst e; simp
    · rw [if_neg e, h.iff a hab ha]
      constructor
      · exact .inl
      · rintro (h1 | h1)
        · exact h1
        · omega
end Go.Proofs.Ytmflacmgffpjoaa
