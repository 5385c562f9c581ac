/- Texts laid one behind the other: Yield, RgWord, SeqW, RdRound. -/
import Derived.Test.YtmflacmgffpjoaaGM
import Derived.RangeFuncNested
import Derived.RangeFuncBound
import Derived.RangeFuncCalls
import Derived.RangeFuncLeaves
import Derived.RangeFuncBox
import Derived.Shelf.Abstract
import Derived.Shelf.RegionOpen
import Derived.WalkKit
import Derived.OwnWalkIn
import Derived.TacticsInMore
import Derived.LoopNIn
import Derived.LoopIn
import Derived.Maps.AppendAt
import Derived.Test.YtmflacmgffpjoaaGP
import Derived.Deep.RegionHeld3

/- Loops over functions: what a round keeps: all blocks below a number but a few. -/
namespace Go.Proofs.Ytmflacmgffpjoaa
open Go.RowKit

/-- All blocks below m but those of X lie as they lay. -/
structure KeepX (X : Nat → Prop) (m : Nat) (W W' : World) : Prop where
  os : W'.os = W.os
  tape : W'.tape = W.tape
  output : W'.output = W.output
  size : W.heap.size ≤ W'.heap.size
  far : ∀ b, b < m → b < W.heap.size → ¬ X b → W'.heap[b]? = W.heap[b]?
theorem KeepX.refl (X : Nat → Prop) (m : Nat) (W : World) : KeepX X m W W := ⟨rfl, rfl, rfl, Nat.le_refl _, fun _ _ _ _ => rfl⟩
theorem KeepX.trans {X : Nat → Prop} {m : Nat} {A B C : World} (h : KeepX X m A B) (k : KeepX X m B C) : KeepX X m A C :=
  ⟨k.os.trans h.os, k.tape.trans h.tape, k.output.trans h.output, Nat.le_trans h.size k.size, fun b h1 h2 h3 => (k.far b h1 (Nat.lt_of_lt_of_le h2 h.size) h3).trans (h.far b h1 h2 h3)⟩
theorem keepX_b {X : Nat → Prop} {m : Nat} {w : World} (hm : m ≤ w.heap.size) (W : World) (l : Nat) (o o' : Obj) (hl : w.heap.size ≤ l) (_ : W.heap[l]? = some o) (_ : o.isCells = false) (_ : o.isWalk = false) : KeepX X m W (W.putObj l o') :=
  have hg := grownBy_putObj' W l o'
  ⟨hg.os, hg.tape, hg.output, hg.size, fun b h1 h2 _ => hg.block b h2 fun e => by injection e with e; omega⟩
theorem KeepX.below {X : Nat → Prop} {m n : Nat} {W W' : World} (h : KeepX X m W W') (hn : n ≤ m) (hs : n ≤ W.heap.size) (hX : ∀ b, X b → n ≤ b) : Below n W W' :=
  ⟨h.os, h.tape, h.output, h.size, fun b hb => h.far b (by omega) (by omega) fun hx => by have := hX b hx; omega⟩
theorem KeepX.cell {X : Nat → Prop} {m : Nat} {W W' : World} (h : KeepX X m W W') {b i : Nat} {v : Value} (hb : b < m) (hx : ¬ X b) (hc : W.cell? ⟨b, i, none⟩ = some v) : W'.cell? ⟨b, i, none⟩ = some v := by
  have e := h.far b hb (World.block_lt_of_cell? W _ hc) hx
  rw [← hc]
  simp only [World.cell?, e]
theorem KeepX.of_below {X : Nat → Prop} {m : Nat} {W W' : World} (h : Below W.heap.size W W') : KeepX X m W W' := ⟨h.os, h.tape, h.output, h.size, fun b _ h2 _ => h.block b h2⟩
/-- out = append(out, ..), out a box of X, its row beyond m. -/
theorem keepX_append {X : Nat → Prop} {m B k : Nat} {W w1 : World} {t e : TypeId} {v v' : Value} {xs : List Value} {tmp : Obj} (hX : X B) (hrow : W.ownsRow m e 1 v k xs) (hgrow : (W.alloc tmp).grownBy w1 v.ownBlock) (_ : Boxed W B t v) : KeepX X m W (w1.setCell ⟨B, 0, none⟩ v') := by
  have h1 : KeepX X m W (W.alloc tmp) := .of_below ((Below.refl _ W).alloc (Nat.le_refl _) tmp)
  have h2 : KeepX X m (W.alloc tmp) w1 := ⟨hgrow.os, hgrow.tape, hgrow.output, hgrow.size, fun b hb hs _ => hgrow.block b hs fun e => by have := (hrow.lt b e.symm).1; omega⟩
  have hg := grownBy_setCell' w1 B v'
  have h3 : KeepX X m w1 (w1.setCell ⟨B, 0, none⟩ v') := ⟨hg.os, hg.tape, hg.output, hg.size, fun b _ hs hx => hg.block b hs fun e => by injection e with e; subst e; exact hx hX⟩
  exact (h1.trans h2).trans h3
/-- out = append(out, ..), whole: what a round then owes. -/
theorem collected {X : Nat → Prop} {m B k n : Nat} {W w1 : World} {t e : TypeId} {v v' : Value} {xs ys : List Value} {tmp : Obj} (hX : X B) (hte : t ≠ e) (hv : Boxed W B t v) (hrow : W.ownsRow m e 1 v k xs) (hown : w1.ownsRow m e 1 v' n ys) (hgrow : (W.alloc tmp).grownBy w1 v.ownBlock) :
    KeepsOthers W (w1.setCell ⟨B, 0, none⟩ v') ∧ KeepX X m W (w1.setCell ⟨B, 0, none⟩ v') ∧ Boxed (w1.setCell ⟨B, 0, none⟩ v') B t v' ∧ (w1.setCell ⟨B, 0, none⟩ v').ownsRow m e 1 v' n ys := by
  have hv1 : Boxed w1 B t v := (hv.alloc tmp).kept hgrow (hv.not_row hte hrow)
  refine ⟨?_, keepX_append hX hrow hgrow hv, hv1.set v', hown.kept (grownBy_setCell' w1 B v') (.inr (hv1.not_row hte hown).symm)⟩
  refine ((KeepsOthers.alloc W tmp).trans (KeepsOthers.of_grownBy hgrow fun j o ej hj => ?_)).trans (KeepsOthers.setCell _ _ _)
  rcases (hrow.alloc tmp).2 with ⟨rfl, _⟩ | ⟨g, cap, cur, rfl, _, hgb, _⟩
  · simp [Value.ownBlock] at ej
  · obtain rfl : g = j := by simpa [Value.ownBlock] using ej
    rw [hgb] at hj; cases hj; rfl
theorem ownFrom_keepX {β : Type} {X : Nat → Prop} {m B : Nat} {w₀ : World} (hm : m ≤ B) : OwnFrom B (fun (_ : β) W => KeepX X m w₀ W) :=
  fun _ P Q row hs hg hr => hs.trans ⟨hg.os, hg.tape, hg.output, hg.size, fun b hb hlt _ => hg.block b hlt fun e => by have := (hr b e.symm).1; omega⟩
theorem keepX_set {X : Nat → Prop} {m B : Nat} {W : World} (hX : X B) (v' : Value) : KeepX X m W (W.setCell ⟨B, 0, none⟩ v') := by
  have hg := grownBy_setCell' W B v'
  exact ⟨hg.os, hg.tape, hg.output, hg.size, fun b _ hs hx => hg.block b hs fun e => by injection e with e; subst e; exact hx hX⟩
/-- What an iterator tells: a function (of number f) over which one ranges, which yields xs; what lies below M it needs, and what it made. -/
def SeqF (f : Nat) (M : Nat) (w : World) (xs : List Int) (e : Ending) (w' : World) : Prop :=
  ∃ lb, e = .returned (.func (.func f) #[] lb) ∧ Below w.heap.size w w' ∧ ∀ (X : Nat → Prop) (m n : Nat), (∀ b, X b → M ≤ b ∧ b < w.heap.size) → w'.heap.size ≤ m → 1 ≤ n →
    SeqStopsK Fence.wide n Try.prog f lb (fun x : Int => #[.int .i64 x]) (KeepX X m) (fun ys => ys = xs) (fun pre => pre <+: xs) xs.length w'
theorem eqlIn_nilF (d : Nat) (W : World) (f : Nat) (lb : Array Value) : (Op.equalIn (d + 1) 45 (.func (.func f) #[] lb) .nilFunc).run Try.prog W = .ok false W := by
  simp [Op.equalIn, run_underlying Try.underlying45]
theorem eql_nilF (W : World) (f : Nat) (lb : Array Value) : (binOp .eql 45 (.func (.func f) #[] lb) .nilFunc).run Try.prog W = .ok (.bool false) W := by
  have h : (Op.equal 45 (.func (.func f) #[] lb) .nilFunc).run Try.prog W = .ok false W := eqlIn_nilF 9999 W f lb
  simp [binOp, h]
end Go.Proofs.Ytmflacmgffpjoaa

/- Layer 11: words for rings: inner vertices, links, near ones; a triangle's vertex in memory. -/
namespace Go.Proofs.Ytmflacmgffpjoaa
open Go.RowKit

def NearC (l : List Tr) (a b : Int) : Prop := facing l (a, b) ≠ -1 ∨ facing l (b, a) ≠ -1
instance (l : List Tr) (a b : Int) : Decidable (NearC l a b) := inferInstanceAs (Decidable (_ ∨ _))
def InnerL (l : List Tr) (L : List Nat) : Prop := 0 < L.length ∧ oppC l (prv (L.getD 0 0)) ≠ -1
instance (l : List Tr) (L : List Nat) : Decidable (InnerL l L) := inferInstanceAs (Decidable (_ ∧ _))
def linkL (l : List Tr) (L : List Nat) : List Int := L.map (fun c => vtx l (nxt c)) ++ if 0 < L.length ∧ ¬ InnerL l L then [vtx l (prv (L.getD (L.length - 1) 0))] else []
theorem T3.vtx {w : World} {b off n : Nat} {l : List Tr} (h : T3 w (some ⟨b, off, none⟩) n l) {k : Nat} (hk : k < 3 * n) : w.cell? ⟨b, off + k / 3 * 3 + k % 3, none⟩ = some (.int .i64 (vtx l k)) := by
  obtain ⟨b', off', e, hc⟩ := h.2 (by omega)
  injection e with e
  injection e with e1 e2
  subst e1 e2
  obtain ⟨c0, c1, c2⟩ := hc (k / 3) (by omega)
  unfold Go.Proofs.Ytmflacmgffpjoaa.vtx cor3
  rcases (show k % 3 = 0 ∨ k % 3 = 1 ∨ k % 3 = 2 by omega) with e | e | e <;> rw [e]
  · exact c0
  · exact c1
  · exact c2
end Go.Proofs.Ytmflacmgffpjoaa

/- What an iterator tells, as a word of its own. -/
namespace Go.Proofs.Ytmflacmgffpjoaa
open Go.RowKit Go.Shelf

/-- What Around tells. -/
abbrev SeqTold (M : Nat) (w : World) (xs : List Int) (e : Ending) (w' : World) : Prop := SeqF 65 M w xs e w'
end Go.Proofs.Ytmflacmgffpjoaa

/- A region that draws its order in the body of a loop over a function: walked as a plain one (wpAnyH). -/
namespace Go.Proofs.Ytmflacmgffpjoaa
open Go.RowKit

section
variable {l n : Nat} {P : Program} {ops : Array Oper} {Q : Exit → Act → World → Prop}
theorem rows_inRound {row : String} {args : Array Value} {w : World} {R : Value → World → Prop} (h : Rows P row args w R) : RowsIn (Fence.wide.inRound l) n P row args w R :=
  fun c cs _ => let ⟨v, w', r, s⟩ := h c cs; ⟨v, w', r, stepsIn_wide.2 s⟩
theorem upon_inRound {o : Oper} {a : Act} {K : Act → World → Prop} {r : Result Next} (h : o.upon P a K Q r) : o.uponIn (Fence.wide.inRound l) n P a K Q r := by
  cases r with
  | ok x w' =>
    cases x with
    | value v => exact h
    | skip => exact h
    | defer d => exact h
    | enter f args => exact ⟨fun h => by simp [Fence.wide] at h, CallsIn.inRound l (callsIn_wide.2 h)⟩
    | row r args => exact ⟨fun h => by simp [Fence.wide] at h, rows_inRound h⟩
    | _ => exact h.elim
  | halt x w' =>
    cases x with
    | panic v => exact h
    | _ => exact h.elim
theorem wpOp_inRound (hd : ∀ (j : Nat) (o : Oper) c, ops[j]? = some o → o.op ≠ Op.defer c) (hQ : ¬ LetsOut Q) {i : Nat} {K : Act → World → Prop} {a : Act} {w : World} (h : wpOp P ops Q i K a w) : wpOpIn (Fence.wide.inRound l) n P ops Q i K a w := by
  unfold wpOp at h
  unfold wpOpIn
  cases ho : ops[i]? with
  | none => simpa [ho] using h
  | some o =>
    simp only [ho] at h ⊢
    split at h
    · next hw =>
      rw [if_pos hw]
      rcases h with h | ⟨_, h⟩
      · refine ⟨fun _ _ => trivial, ?_⟩
        rw [Oper.semAt_eq _ _ _ fun c => hd i o c ho]
        exact upon_inRound h
      · exact absurd h hQ
    · next hw =>
      rw [if_neg hw]
      exact ⟨fun _ _ => trivial, h⟩
theorem wpAny_inRound {md : Region.Mode} (hd : ∀ (j : Nat) (o : Oper) c, ops[j]? = some o → o.op ≠ Op.defer c) (hQ : ¬ LetsOut Q) : ∀ (fuel : Nat) (listed : Array Bool) (a : Act) (w : World), wpAny P md ops Q fuel listed a w → wpAnyIn (Fence.wide.inRound l) n P md ops Q fuel listed a w
  | 0, _, _, _, h => h
  | fuel + 1, _, _, _, h => ⟨h.1, fun i hi => wpOpIn_mono (fun a' w' h' => wpAny_inRound hd hQ fuel _ a' w' h') (wpOp_inRound hd hQ (h.2 i hi))⟩
def noDefer (ops : Array Oper) : Bool := ops.all fun o => match o.op with | .defer _ => false | _ => true
theorem noDefer_spec (h : noDefer ops = true) : ∀ (j : Nat) (o : Oper) c, ops[j]? = some o → o.op ≠ Op.defer c := fun j o c hj e => by
  unfold noDefer at h
  rw [Array.all_eq_true'] at h
  have := h o (Array.mem_of_getElem? hj)
  rw [e] at this
  cases this
/-- It ends as it should, and so. -/
def Only (R : Act → World → Prop) (e : Exit) (a : Act) (w : World) : Prop := e = .normal ∧ R a w
theorem only_lets {R : Act → World → Prop} : ¬ LetsOut (NoPanic (Only R)) := fun ⟨_, _, h⟩ => by cases (show Exit.outgrown = .normal from h.1)
theorem only_out {R : Act → World → Prop} {e : Exit} {a : Act} {w : World} (h : NoPanic (Only R) e a w) : e = .normal ∧ R a w := NoPanic.imp e a w h
/-- The beginning: the region's world behind the draw meets S. -/
theorem wpIn_region_round {R : Act → World → Prop} {S : World → Prop} {id : Nat} {a : Act} {w : World} (hm : P.follows .mixedOrders = true) (hd : noDefer ops = true) (hS : S w.drew)
    (h : S w.drew → wpAnyH P .any ops (NoPanic (Only R)) S ops.size (Array.replicate ops.size false) a w.drew) : (Code.region id ops true).wpIn (Fence.wide.inRound l) n P (NoPanic (Only R)) a w :=
  wpIn_region_any hm (wpAny_inRound (noDefer_spec hd) only_lets _ _ _ _ (wpAny_of_held _ _ _ _ (h hS)))
end
theorem step_snocG {w : World} {B n q : Nat} {v : Value} {xs : List Int} (x : Int) (own : w.ownsRow B 3 1 v n (ints xs)) (hB : B ≤ w.heap.size) (hn : n ≤ 1000000) (hq : w.heap[q]? = some (.cells #[.int .i64 x] 3 (0, 0))) {ops : Array Oper} {o : Oper} {a : Act} {K : Act → World → Prop} {Q : Exit → Act → World → Prop} {E : Prop} (hgd : o.guard = none) (s y : Operand)
    (ho : o.op = .call { callee := .builtin .append, args := #[s, y], argTypes := #[40, 40] }) (hs : a.eval s = v) (hy : a.eval y = .slice (some ⟨q, 0, none⟩) 1 1)
    (cont : ∀ A' c' w9, w.grownBy w9 v.ownBlock → w9.ownsRow B 3 1 (.slice A' (n + 1) c') (n + 1) (ints (xs ++ [x])) → K (a.put o.dst (.slice A' (n + 1) c')) w9) :
    if Region.wanted o (yielded ops a.tmps) = true then Oper.wp Try.prog o a w K Q else E := by
  obtain ⟨i0, hi, hz0, hz1, hz2⟩ := info_parts Try.infoInt
  refine step_append_lies w hgd s y 40 ho B 3 i0 (.int .i64 0) 1 8 Try.underlying40 hi hz0 hz1 hz2 rfl (by decide) v n (ints xs) hs own ⟨q, 0, none⟩ 1 1 (ints [x]) hy rfl (fun j u hj => ?_) (ints_one _) (by decide) (by unfold maxLen; omega) (by omega) hB _ rfl ?_
  · rw [add_zero_addr, cell_in hq, List.getElem?_toArray]; exact hj
  · intro g9 cap9 w9 own9 gr9 _ _
    refine cont _ cap9 w9 gr9 ?_
    rw [ints_append]
    exact own9
end Go.Proofs.Ytmflacmgffpjoaa
