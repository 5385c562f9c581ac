/- Layer 12: a map from numbers to truth values, told by the numbers that were put into it as true. -/
import Derived.Test.YtmflacmgffpjoaaGM
import Derived.Maps.OwnOps
import Derived.Maps.OwnSet
import Derived.Maps.OwnIn
import Derived.Maps.Views
namespace Go.Proofs.Ytmflacmgffpjoaa
open Go.RowKit Go.Maps

theorem lawI : Keyed Try.prog 3 := int_keyed Try.underlying3
theorem plainB_inv {v : Value} {z : DataW Unit × List MemPlace} (h : plainElem (H := Unit) Try.prog 4 v = some z) : ∃ x, v = .bool x ∧ z = (.lit (.bool x), []) := by
  unfold plainElem at h
  rw [Try.underlying4] at h
  cases v <;> simp at h
  exact ⟨_, rfl, h.symm⟩
theorem zeroBool12 (w : World) : (zeroValue 4).run Try.prog w = .ok (.bool false) w := by kernel_rfl
/-- Block b is the map of the numbers that were put into it as true. -/
def MapB (w : World) (b : Nat) (S : List Int) : Prop := ∃ D, w.ownsMap Try.prog 3 (plainElem (H := Unit) Try.prog 4) b S.length D ∧ ∀ x : Int, (Lit.int .i64 x).wf = true → D.atKey (.int .i64 x) (.lit (.bool false)) = .lit (.bool (decide (x ∈ S)))
theorem MapB.lt {w : World} {b : Nat} {S : List Int} (h : MapB w b S) : b < w.heap.size := by
  obtain ⟨D, ho, _⟩ := h
  exact ho.lt
theorem MapB.kept {w w' : World} {b : Nat} {S : List Int} (h : MapB w b S) (hg : w'.heap[b]? = w.heap[b]?) : MapB w' b S := by
  obtain ⟨D, ⟨es, clock, hb, h2⟩, h3⟩ := h
  exact ⟨D, ⟨es, clock, hg.trans hb, h2⟩, h3⟩
theorem MapB.made (w : World) : MapB (w.alloc (.map #[] 0)) w.heap.size [] := ⟨.map [], World.ownsMap_made w _ _ _, fun _ _ => rfl⟩
set_option maxRecDepth 100000 in
theorem MapB.look {w : World} {b : Nat} {S : List Int} (h : MapB w b S) (x : Int) (hx : (Lit.int .i64 x).wf = true) : (Instr.lookup 69 (.map (some b)) (.int .i64 x) false).run Try.prog w = .ok (.bool (decide (x ∈ S))) w := by
  obtain ⟨D, ho, ha⟩ := h
  obtain ⟨v, ps, hrun, hv⟩ := ho.lookup lawI Try.underlying69 (zeroBool12 w) (plainElem_bool Try.underlying4 false) (keyOf_int_mk Try.underlying3 hx)
  obtain ⟨c, rfl, hc⟩ := plainB_inv hv
  injection hc with hc _
  rw [ha x hx] at hc
  injection hc with hc
  injection hc with hc
  rw [hrun, hc]
set_option maxRecDepth 100000 in
theorem MapB.put {w : World} {b : Nat} {S : List Int} (h : MapB w b S) (x : Int) (hx : (Lit.int .i64 x).wf = true) (hl : S.length < maxLen) :
    ∃ w', (Instr.mapUpdate 69 (.map (some b)) (.int .i64 x) (.bool true)).run Try.prog w = .ok () w' ∧ MapB w' b (S ++ [x]) ∧ w.grownBy w' (some b) := by
  obtain ⟨D, ho, ha⟩ := h
  obtain ⟨w', hrun, ho', hg⟩ := ho.update lawI Try.underlying69 hl (keyOf_int_mk Try.underlying3 hx) (plainElem_bool Try.underlying4 true)
  refine ⟨w', hrun, ⟨_, by rw [List.length_append, List.length_singleton]; exact ho', fun y hy => ?_⟩, hg⟩
  by_cases hxy : x = y
  · subst hxy
    rw [atKey_put_same ho.isMap (lawI.key (keyOf_int_mk Try.underlying3 hx))]; simp
  · rw [atKey_put_other (fun hk => hxy (by injection hk with _ hk; exact hk.symm)), ha y hy]
    simp [Ne.symm hxy]
end Go.Proofs.Ytmflacmgffpjoaa
