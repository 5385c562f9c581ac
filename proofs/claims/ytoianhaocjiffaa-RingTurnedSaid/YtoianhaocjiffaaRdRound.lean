/- A region that draws its order in the body of a loop over a function: walked as a plain one (wpAnyH). -/
import Derived.Test.YtoianhaocjiffaaGY
import Derived.Deep.RegionHeld3
namespace Go.Proofs.Ytoianhaocjiffaa
open Go.RowKit

section
variable {l n : Nat} {P : Program} {ops : Array Oper} {Q : Exit → Act → World → Prop}
theorem rows_inRound {row : String} {args : Array Value} {w : World} {R : Value → World → Prop} (h : Rows P row args w R) : RowsIn (Fence.wide.inRound l) n P row args w R :=
  fun c cs _ => let ⟨v, w', r, s⟩ := h c cs; ⟨v, w', r, stepsIn_wide.2 s⟩
theorem upon_inRound {o : Oper} {a : Act} {K : Act → World → Prop} {r : Result Next} (h : o.upon P a K Q r) : o.uponIn (Fence.wide.inRound l) n P a K Q r := by
  cases r with
  | ok x w' =>
    cases x with
    | value v => exact h
    | skip => exact h
    | defer d => exact h
    | enter f args => exact ⟨fun h => by simp [Fence.wide] at h, CallsIn.inRound l (callsIn_wide.2 h)⟩
    | row r args => exact ⟨fun h => by simp [Fence.wide] at h, rows_inRound h⟩
    | _ => exact h.elim
  | halt x w' =>
    cases x with
    | panic v => exact h
    | _ => exact h.elim
theorem wpOp_inRound (hd : ∀ (j : Nat) (o : Oper) c, ops[j]? = some o → o.op ≠ Op.defer c) (hQ : ¬ LetsOut Q) {i : Nat} {K : Act → World → Prop} {a : Act} {w : World} (h : wpOp P ops Q i K a w) : wpOpIn (Fence.wide.inRound l) n P ops Q i K a w := by
  unfold wpOp at h
  unfold wpOpIn
  cases ho : ops[i]? with
  | none => simpa [ho] using h
  | some o =>
    simp only [ho] at h ⊢
    split at h
    · next hw =>
      rw [if_pos hw]
      rcases h with h | ⟨_, h⟩
      · refine ⟨fun _ _ => trivial, ?_⟩
        rw [Oper.semAt_eq _ _ _ fun c => hd i o c ho]
        exact upon_inRound h
      · exact absurd h hQ
    · next hw =>
      rw [if_neg hw]
      exact ⟨fun _ _ => trivial, h⟩
theorem wpAny_inRound {md : Region.Mode} (hd : ∀ (j : Nat) (o : Oper) c, ops[j]? = some o → o.op ≠ Op.defer c) (hQ : ¬ LetsOut Q) : ∀ (fuel : Nat) (listed : Array Bool) (a : Act) (w : World), wpAny P md ops Q fuel listed a w → wpAnyIn (Fence.wide.inRound l) n P md ops Q fuel listed a w
  | 0, _, _, _, h => h
  | fuel + 1, _, _, _, h => ⟨h.1, fun i hi => wpOpIn_mono (fun a' w' h' => wpAny_inRound hd hQ fuel _ a' w' h') (wpOp_inRound hd hQ (h.2 i hi))⟩
def noDefer (ops : Array Oper) : Bool := ops.all fun o => match o.op with | .defer _ => false | _ => true
theorem noDefer_spec (h : noDefer ops = true) : ∀ (j : Nat) (o : Oper) c, ops[j]? = some o → o.op ≠ Op.defer c := fun j o c hj e => by
  unfold noDefer at h
  rw [Array.all_eq_true'] at h
  have := h o (Array.mem_of_getElem? hj)
  rw [e] at this
  cases this
/-- It ends as it should, and so. -/
def Only (R : Act → World → Prop) (e : Exit) (a : Act) (w : World) : Prop := e = .normal ∧ R a w
theorem only_lets {R : Act → World → Prop} : ¬ LetsOut (NoPanic (Only R)) := fun ⟨_, _, h⟩ => by cases (show Exit.outgrown = .normal from h.1)
theorem only_out {R : Act → World → Prop} {e : Exit} {a : Act} {w : World} (h : NoPanic (Only R) e a w) : e = .normal ∧ R a w := NoPanic.imp e a w h
/-- The beginning: the region's world behind the draw meets S. -/
theorem wpIn_region_round {R : Act → World → Prop} {S : World → Prop} {id : Nat} {a : Act} {w : World} (hm : P.follows .mixedOrders = true) (hd : noDefer ops = true) (hS : S w.drew)
    (h : S w.drew → wpAnyH P .any ops (NoPanic (Only R)) S ops.size (Array.replicate ops.size false) a w.drew) : (Code.region id ops true).wpIn (Fence.wide.inRound l) n P (NoPanic (Only R)) a w :=
  wpIn_region_any hm (wpAny_inRound (noDefer_spec hd) only_lets _ _ _ _ (wpAny_of_held _ _ _ _ (h hS)))
end
theorem step_snocG {w : World} {B n q : Nat} {v : Value} {xs : List Int} (x : Int) (own : w.ownsRow B 3 1 v n (ints xs)) (hB : B ≤ w.heap.size) (hn : n ≤ 1000000) (hq : w.heap[q]? = some (.cells #[.int .i64 x] 3 (0, 0))) {ops : Array Oper} {o : Oper} {a : Act} {K : Act → World → Prop} {Q : Exit → Act → World → Prop} {E : Prop} (hgd : o.guard = none) (s y : Operand)
    (ho : o.op = .call { callee := .builtin .append, args := #[s, y], argTypes := #[28, 28] }) (hs : a.eval s = v) (hy : a.eval y = .slice (some ⟨q, 0, none⟩) 1 1)
    (cont : ∀ A' c' w9, w.grownBy w9 v.ownBlock → w9.ownsRow B 3 1 (.slice A' (n + 1) c') (n + 1) (ints (xs ++ [x])) → K (a.put o.dst (.slice A' (n + 1) c')) w9) :
    if Region.wanted o (yielded ops a.tmps) = true then Oper.wp Try.prog o a w K Q else E := by
  obtain ⟨i0, hi, hz0, hz1, hz2⟩ := info_parts Try.infoInt
  refine step_append_lies w hgd s y 28 ho B 3 i0 (.int .i64 0) 1 8 Try.underlying28 hi hz0 hz1 hz2 rfl (by decide) v n (ints xs) hs own ⟨q, 0, none⟩ 1 1 (ints [x]) hy rfl (fun j u hj => ?_) (ints_one _) (by decide) (by unfold maxLen; omega) (by omega) hB _ rfl ?_
  · rw [add_zero_addr, cell_in hq, List.getElem?_toArray]; exact hj
  · intro g9 cap9 w9 own9 gr9 _ _
    refine cont _ cap9 w9 gr9 ?_
    rw [ints_append]
    exact own9
end Go.Proofs.Ytoianhaocjiffaa
