/- Texts laid one behind the other: Yield, RgList. -/
import Derived.Test.YtoianhaocjiffaaGM
import Derived.RangeFuncNested
import Derived.RangeFuncBound
import Derived.RangeFuncCalls
import Derived.RangeFuncLeaves
import Derived.RangeFuncBox
import Derived.Shelf.Abstract
import Derived.Shelf.RegionOpen
import Derived.WalkKit
import Derived.OwnWalkIn
import Derived.TacticsInMore
import Derived.LoopNIn
import Derived.LoopIn
import Derived.Maps.AppendAt
import Derived.Test.YtoianhaocjiffaaGP

/- Loops over functions: what a round keeps: all blocks below a number but a few. -/
namespace Go.Proofs.Ytoianhaocjiffaa
open Go.RowKit

/-- All blocks below m but those of X lie as they lay. -/
structure KeepX (X : Nat → Prop) (m : Nat) (W W' : World) : Prop where
  os : W'.os = W.os
  tape : W'.tape = W.tape
  output : W'.output = W.output
  size : W.heap.size ≤ W'.heap.size
  far : ∀ b, b < m → b < W.heap.size → ¬ X b → W'.heap[b]? = W.heap[b]?
theorem KeepX.refl (X : Nat → Prop) (m : Nat) (W : World) : KeepX X m W W := ⟨rfl, rfl, rfl, Nat.le_refl _, fun _ _ _ _ => rfl⟩
theorem KeepX.trans {X : Nat → Prop} {m : Nat} {A B C : World} (h : KeepX X m A B) (k : KeepX X m B C) : KeepX X m A C :=
  ⟨k.os.trans h.os, k.tape.trans h.tape, k.output.trans h.output, Nat.le_trans h.size k.size, fun b h1 h2 h3 => (k.far b h1 (Nat.lt_of_lt_of_le h2 h.size) h3).trans (h.far b h1 h2 h3)⟩
theorem keepX_b {X : Nat → Prop} {m : Nat} {w : World} (hm : m ≤ w.heap.size) (W : World) (l : Nat) (o o' : Obj) (hl : w.heap.size ≤ l) (_ : W.heap[l]? = some o) (_ : o.isCells = false) (_ : o.isWalk = false) : KeepX X m W (W.putObj l o') :=
  have hg := grownBy_putObj' W l o'
  ⟨hg.os, hg.tape, hg.output, hg.size, fun b h1 h2 _ => hg.block b h2 fun e => by injection e with e; omega⟩
theorem KeepX.below {X : Nat → Prop} {m n : Nat} {W W' : World} (h : KeepX X m W W') (hn : n ≤ m) (hs : n ≤ W.heap.size) (hX : ∀ b, X b → n ≤ b) : Below n W W' :=
  ⟨h.os, h.tape, h.output, h.size, fun b hb => h.far b (by omega) (by omega) fun hx => by have := hX b hx; omega⟩
theorem KeepX.cell {X : Nat → Prop} {m : Nat} {W W' : World} (h : KeepX X m W W') {b i : Nat} {v : Value} (hb : b < m) (hx : ¬ X b) (hc : W.cell? ⟨b, i, none⟩ = some v) : W'.cell? ⟨b, i, none⟩ = some v := by
  have e := h.far b hb (World.block_lt_of_cell? W _ hc) hx
  rw [← hc]
  simp only [World.cell?, e]
theorem KeepX.of_below {X : Nat → Prop} {m : Nat} {W W' : World} (h : Below W.heap.size W W') : KeepX X m W W' := ⟨h.os, h.tape, h.output, h.size, fun b _ h2 _ => h.block b h2⟩
/-- out = append(out, ..), out a box of X, its row beyond m. -/
theorem keepX_append {X : Nat → Prop} {m B k : Nat} {W w1 : World} {t e : TypeId} {v v' : Value} {xs : List Value} {tmp : Obj} (hX : X B) (hrow : W.ownsRow m e 1 v k xs) (hgrow : (W.alloc tmp).grownBy w1 v.ownBlock) (_ : Boxed W B t v) : KeepX X m W (w1.setCell ⟨B, 0, none⟩ v') := by
  have h1 : KeepX X m W (W.alloc tmp) := .of_below ((Below.refl _ W).alloc (Nat.le_refl _) tmp)
  have h2 : KeepX X m (W.alloc tmp) w1 := ⟨hgrow.os, hgrow.tape, hgrow.output, hgrow.size, fun b hb hs _ => hgrow.block b hs fun e => by have := (hrow.lt b e.symm).1; omega⟩
  have hg := grownBy_setCell' w1 B v'
  have h3 : KeepX X m w1 (w1.setCell ⟨B, 0, none⟩ v') := ⟨hg.os, hg.tape, hg.output, hg.size, fun b _ hs hx => hg.block b hs fun e => by injection e with e; subst e; exact hx hX⟩
  exact (h1.trans h2).trans h3
/-- out = append(out, ..), whole: what a round then owes. -/
theorem collected {X : Nat → Prop} {m B k n : Nat} {W w1 : World} {t e : TypeId} {v v' : Value} {xs ys : List Value} {tmp : Obj} (hX : X B) (hte : t ≠ e) (hv : Boxed W B t v) (hrow : W.ownsRow m e 1 v k xs) (hown : w1.ownsRow m e 1 v' n ys) (hgrow : (W.alloc tmp).grownBy w1 v.ownBlock) :
    KeepsOthers W (w1.setCell ⟨B, 0, none⟩ v') ∧ KeepX X m W (w1.setCell ⟨B, 0, none⟩ v') ∧ Boxed (w1.setCell ⟨B, 0, none⟩ v') B t v' ∧ (w1.setCell ⟨B, 0, none⟩ v').ownsRow m e 1 v' n ys := by
  have hv1 : Boxed w1 B t v := (hv.alloc tmp).kept hgrow (hv.not_row hte hrow)
  refine ⟨?_, keepX_append hX hrow hgrow hv, hv1.set v', hown.kept (grownBy_setCell' w1 B v') (.inr (hv1.not_row hte hown).symm)⟩
  refine ((KeepsOthers.alloc W tmp).trans (KeepsOthers.of_grownBy hgrow fun j o ej hj => ?_)).trans (KeepsOthers.setCell _ _ _)
  rcases (hrow.alloc tmp).2 with ⟨rfl, _⟩ | ⟨g, cap, cur, rfl, _, hgb, _⟩
  · simp [Value.ownBlock] at ej
  · obtain rfl : g = j := by simpa [Value.ownBlock] using ej
    rw [hgb] at hj; cases hj; rfl
theorem ownFrom_keepX {β : Type} {X : Nat → Prop} {m B : Nat} {w₀ : World} (hm : m ≤ B) : OwnFrom B (fun (_ : β) W => KeepX X m w₀ W) :=
  fun _ P Q row hs hg hr => hs.trans ⟨hg.os, hg.tape, hg.output, hg.size, fun b hb hlt _ => hg.block b hlt fun e => by have := (hr b e.symm).1; omega⟩
end Go.Proofs.Ytoianhaocjiffaa

/- Layer 11: the law's own list: the corners around a vertex, as far as so many. -/
namespace Go.Proofs.Ytoianhaocjiffaa
open Go.RowKit Go.Shelf

attribute [local go_sem] Oper.semAt_some

/-- What Around tells: a function over which one ranges, which yields xs; what lies below M it needs, and what it made. -/
def SeqTold (M : Nat) (w : World) (xs : List Int) (e : Ending) (w' : World) : Prop :=
  ∃ lb, e = .returned (.func (.func 47) #[] lb) ∧ Below w.heap.size w w' ∧ ∀ (X : Nat → Prop) (m n : Nat), (∀ b, X b → M ≤ b ∧ b < w.heap.size) → w'.heap.size ≤ m → 1 ≤ n →
    SeqStopsK Fence.wide n Try.prog 47 lb (fun x : Int => #[.int .i64 x]) (KeepX X m) (fun ys => ys = xs) (fun pre => pre <+: xs) xs.length w'
theorem eqlIn_nilF (d : Nat) (W : World) (f : Nat) (lb : Array Value) : (Op.equalIn (d + 1) 54 (.func (.func f) #[] lb) .nilFunc).run Try.prog W = .ok false W := by
  simp [Op.equalIn, run_underlying Try.underlying54]
theorem eql_nilF (W : World) (f : Nat) (lb : Array Value) : (binOp .eql 54 (.func (.func f) #[] lb) .nilFunc).run Try.prog W = .ok (.bool false) W := by
  have h : (Op.equal 54 (.func (.func f) #[] lb) .nilFunc).run Try.prog W = .ok false W := eqlIn_nilF 9999 W f lb
  simp [binOp, h]
set_option maxHeartbeats 4000000 in
set_option maxRecDepth 100000 in
theorem list11_any (w : World) (p : Value) (v : Int) (most : Nat) (h1 : 1 ≤ most) (xs : List Int) (hxs : xs.length ≤ 1000000) (M : Nat) (hM : M ≤ w.heap.size)
    (HA : ∀ W, Below w.heap.size w W → Calls Try.prog 29 #[p, .int .i64 v] W (SeqTold M W xs)) :
    Calls Try.prog 12 #[p, .int .i64 v, .int .i64 (most : Int)] w (RowTold w (xs.take most)) := by
  refine (callsIn_wide (n := 7)).1 ?_
  obtain ⟨i0, hi, hz0, hz1, hz2⟩ := info_parts Try.infoInt
  obtain ⟨w1, hw1⟩ : ∃ w1, w.alloc (.cells #[.int .i64 (most : Int)] 3) = w1 := ⟨_, rfl⟩
  obtain ⟨bm, hbm⟩ : ∃ bm, w.heap.size = bm := ⟨_, rfl⟩
  obtain ⟨w2, hw2⟩ : ∃ w2, w1.alloc (.cells #[.slice none 0 0] 28) = w2 := ⟨_, rfl⟩
  obtain ⟨bo, hbo⟩ : ∃ bo, w1.heap.size = bo := ⟨_, rfl⟩
  have b1 : Below w.heap.size w w1 := by rw [← hw1]; exact (Below.refl _ w).alloc (Nat.le_refl _) _
  have b2 : Below w1.heap.size w1 w2 := by rw [← hw2]; exact (Below.refl _ w1).alloc (Nat.le_refl _) _
  have q1 : Boxed w1 bm 3 (.int .i64 (most : Int)) := by rw [← hw1, ← hbm]; exact Boxed.new w _ _
  have o2 : Boxed w2 bo 28 (.slice none 0 0) := by rw [← hw2, ← hbo]; exact Boxed.new w1 _ _
  have K := Lib.hid (HA w2 (up2 b1 b2))
  have B2 := Lib.hid (And.intro (up2 b1 b2) (And.intro ((b2.block bm q1.lt).trans q1) (And.intro o2 (show bm < bo by rw [← hbo]; exact q1.lt))))
  clear b1 b2 q1 o2 HA
  have nf := eql_nilF
  refine callsIn_of_wp_marks Try.func12 rfl trivial ?_ rfl
  simp only [Try.ntmps12, List.size_toArray, List.length_cons, List.length_nil, Nat.reduceAdd, Nat.reduceSub, Array.replicate_succ, Array.replicate_zero, List.push_toArray, List.append_toArray, List.nil_append, List.cons_append]
  gi_wp2_with (refine ⟨trivial, ?_⟩; gi_at_call 29; refine (callsIn_wide.2 K.out).mono ?_; rintro e w3 ⟨lb, rfl, b3, hseq⟩)
  have hbo3 := B2.out.2.2.1
  have o3 : Boxed w3 bo 28 (.slice none 0 0) := (b3.block bo hbo3.lt).trans hbo3
  have q3 : Boxed w3 bm 3 (.int .i64 (most : Int)) := (b3.block bm (heap_lt B2.out.2.1)).trans B2.out.2.1
  have hbw : w.heap.size ≤ bo := by rw [← hbo]; have := B2.out.2.2.2; omega
  have hbo2 : bo < w2.heap.size := hbo3.lt
  have hbm2 : bm < w3.heap.size := q3.lt
  have hne : bm ≠ bo := Nat.ne_of_lt B2.out.2.2.2
  have h27 : w2.heap.size ≤ w3.heap.size := b3.size
  have B3 := Lib.hid (up2 B2.out.1 b3)
  clear nf
  refine wpIn_rangeFunc_ownG (F := Fence.wide) (n := 7) rfl (by decide) (gf := 47) (lb := lb) rfl trivial (enters_of Try.func47 (by kernel_rfl) rfl)
    (hseq (fun b => b = bo) w3.heap.size 6 (fun b hb => by subst hb; exact ⟨by omega, hbo2⟩) (Nat.le_refl _) (by decide)) (fun h k => h.trans k) (keepX_b (Nat.le_refl _)) (Below.refl _ _) (fun _ => rfl)
    (fun pre W => (∃ vo, Boxed W bo 28 vo ∧ W.ownsRow w3.heap.size 3 1 vo pre.length (ints pre) ∧ True) ∧ (Boxed W bm 3 (.int .i64 (most : Int)) ∧ (KeepX (fun b => b = bo) w3.heap.size w3 W ∧ pre.length < most)))
    (fun c pre W => (∃ vo, Boxed W bo 28 vo ∧ W.ownsRow w3.heap.size 3 1 vo pre.length (ints pre) ∧ True) ∧ (KeepX (fun b => b = bo) w3.heap.size w3 W ∧ (c = .exit 0 ∧ pre.length = most)))
    (OwnFrom.and (Own.from (holdsRow_own w3.heap.size bo 28 3 1 (fun pre : List Int => pre.length) (fun pre => ints pre) (fun _ _ => True)) _) (OwnFrom.and (Own.from (boxed_own bm 3 (fun _ => .int .i64 (most : Int))) _) (OwnFrom.and (ownFrom_keepX (Nat.le_refl _)) (ownFrom_pure _ (fun pre : List Int => pre.length < most)))))
    (fun c => OwnFrom.and (Own.from (holdsRow_own w3.heap.size bo 28 3 1 (fun pre : List Int => pre.length) (fun pre => ints pre) (fun _ _ => True)) _) (OwnFrom.and (ownFrom_keepX (Nat.le_refl _)) (ownFrom_pure _ (fun pre : List Int => c = .exit 0 ∧ pre.length = most))))
    ⟨⟨_, o3, World.ownsRow_nil _ _ _ _, trivial⟩, q3, KeepX.refl _ _ _, h1⟩
    (fun x => { tmps := #[p, .int .i64 v, .int .i64 (most : Int), undef, undef, .pointer (some ⟨bm, 0, none⟩), .slice none 0 0, .pointer (some ⟨bo, 0, none⟩), .func (.func 47) #[] lb, .int .i64 x, p, .int .i64 v, .func (.func 47) #[] lb, .func (.func 47) #[] lb, .bool false, undef, .func (.func 47) #[] lb, .int .i64 x, undef, undef, undef, undef, undef, undef, undef, undef, undef], defers := [] }) ?assign ?body ?done ?stop
  case assign =>
    intro l x W K hK
    gi_wp2
    exact hK
  case body =>
    rintro l pre x W ⟨⟨vo, hv, hrow, _⟩, hbm3, hkx, hlt⟩ hN
    have hc := hv.cell
    have hcm := hbm3.cell
    obtain ⟨k, hk⟩ : ∃ k, pre.length = k := ⟨_, rfl⟩
    rw [hk] at hrow hlt hN
    have hsz : w3.heap.size ≤ W.heap.size := hkx.size
    by_cases hge : most ≤ k + 1
    · have d1 : decide (((k : Int) + 1) ≥ (most : Int)) = true := decide_eq_true (by omega)
      have d2 : decide ((((k + 1 : Nat)) : Int) ≥ (most : Int)) = true := decide_eq_true (by omega)
      have HP := Lib.hid (show (pre ++ [x]).length = k + 1 ∧ ints (pre ++ [x]) = ints pre ++ [.int .i64 x] from ⟨by simp [hk], by simp [ints]⟩)
      clear hk
      gi_wp2_with (gi_at_builtin; refine wpListIn_append_own _ rfl _ _ 28 rfl w3.heap.size 3 i0 (.int .i64 0) 1 8 Try.underlying28 hi hz0 hz1 hz2 rfl (by decide) _ _ _ rfl (hrow.alloc _) ⟨W.heap.size, 0, none⟩ 1 1 [.int .i64 x] rfl rfl (cell_one_new _ _ _) (by simp [Value.oneCell']) (by unfold maxLen; omega) (by omega) (by simp; omega) ?_; intro v' w9 hown' hgrow _; obtain ⟨g', cap', rfl⟩ := ownsRow_succ hown'; have hv1 : Boxed w9 bo 28 vo := (hv.alloc _).kept hgrow (hv.not_row (by decide) hrow); have hc1 := hv1.cell; have hf1 := hv1.frozen; have CO := Lib.hid (collected (X := fun b => b = bo) (t := 28) rfl (by decide) hv hrow hown' hgrow); have hc2 := CO.out.2.2.1.cell; have hm9 : Boxed w9 bm 3 (.int .i64 (most : Int)) := (hbm3.alloc _).kept hgrow (fun e => by have := (hrow.lt bm e.symm).1; omega); have HM10 := Lib.hid (show Boxed (w9.setCell ⟨bo, 0, none⟩ (.slice (some ⟨g', 0, none⟩) (k + 1) cap')) bm 3 (.int .i64 (most : Int)) from heap_far hm9 hne _); have hcm9 := HM10.out.cell)
      exact ⟨CO.out.1.from _, ⟨_, CO.out.2.2.1, by rw [HP.out.1, HP.out.2]; exact CO.out.2.2.2, trivial⟩, hkx.trans CO.out.2.1, rfl, by rw [HP.out.1]; omega⟩
    · have d1 : decide (((k : Int) + 1) ≥ (most : Int)) = false := decide_eq_false (by omega)
      have d2 : decide ((((k + 1 : Nat)) : Int) ≥ (most : Int)) = false := decide_eq_false (by omega)
      have HP := Lib.hid (show (pre ++ [x]).length = k + 1 ∧ ints (pre ++ [x]) = ints pre ++ [.int .i64 x] from ⟨by simp [hk], by simp [ints]⟩)
      clear hk
      gi_wp2_with (gi_at_builtin; refine wpListIn_append_own _ rfl _ _ 28 rfl w3.heap.size 3 i0 (.int .i64 0) 1 8 Try.underlying28 hi hz0 hz1 hz2 rfl (by decide) _ _ _ rfl (hrow.alloc _) ⟨W.heap.size, 0, none⟩ 1 1 [.int .i64 x] rfl rfl (cell_one_new _ _ _) (by simp [Value.oneCell']) (by unfold maxLen; omega) (by omega) (by simp; omega) ?_; intro v' w9 hown' hgrow _; obtain ⟨g', cap', rfl⟩ := ownsRow_succ hown'; have hv1 : Boxed w9 bo 28 vo := (hv.alloc _).kept hgrow (hv.not_row (by decide) hrow); have hc1 := hv1.cell; have hf1 := hv1.frozen; have CO := Lib.hid (collected (X := fun b => b = bo) (t := 28) rfl (by decide) hv hrow hown' hgrow); have hc2 := CO.out.2.2.1.cell; have hm9 : Boxed w9 bm 3 (.int .i64 (most : Int)) := (hbm3.alloc _).kept hgrow (fun e => by have := (hrow.lt bm e.symm).1; omega); have HM10 := Lib.hid (show Boxed (w9.setCell ⟨bo, 0, none⟩ (.slice (some ⟨g', 0, none⟩) (k + 1) cap')) bm 3 (.int .i64 (most : Int)) from heap_far hm9 hne _); have hcm9 := HM10.out.cell)
      exact ⟨CO.out.1.from _, CO.out.2.1, ⟨_, CO.out.2.2.1, by rw [HP.out.1, HP.out.2]; exact CO.out.2.2.2, trivial⟩, HM10.out, hkx.trans CO.out.2.1, by rw [HP.out.1]; omega⟩
  case done =>
    rintro D ys W hD rfl ⟨⟨vo, hv, hrow, _⟩, _, hkx, hlt⟩ hK
    have hc := hv.cell
    gi_wp2
    refine ⟨by simp, .inl ⟨_, _, rfl, run_takeDeferred hK, ?_⟩⟩
    obtain ⟨A', c', rfl⟩ := ownK_form hrow
    refine ⟨_, results_tmp rfl _ _ _, A', _, c', rfl, ?_, ?_⟩
    · rw [List.take_of_length_le (by omega)]
      exact ownK_base (ownsRow_putObj hrow _ hK rfl) B3.out.size
    · exact (B3.out.trans (hkx.below (n := w.heap.size) B3.out.size B3.out.size (fun b hb => by subst hb; exact hbw))).trans (belowK_b (w := w3) B3.out.size W D _ _ hD hK rfl rfl)
  case stop =>
    rintro D c pre W hD hpre ⟨⟨vo, hv, hrow, _⟩, hkx, rfl, hlen⟩ hK
    have hc := hv.cell
    gi_wp2
    refine ⟨by simp, .inl ⟨_, _, rfl, run_takeDeferred hK, ?_⟩⟩
    obtain ⟨A', c', rfl⟩ := ownK_form hrow
    refine ⟨_, results_tmp rfl _ _ _, A', _, c', rfl, ?_, ?_⟩
    · have e : xs.take most = pre := by rw [← hlen]; exact (List.prefix_iff_eq_take.1 hpre).symm
      rw [e]
      exact ownK_base (ownsRow_putObj hrow _ hK rfl) B3.out.size
    · exact (B3.out.trans (hkx.below (n := w.heap.size) B3.out.size B3.out.size (fun b hb => by subst hb; exact hbw))).trans (belowK_b (w := w3) B3.out.size W D _ _ hD hK rfl rfl)
end Go.Proofs.Ytoianhaocjiffaa
