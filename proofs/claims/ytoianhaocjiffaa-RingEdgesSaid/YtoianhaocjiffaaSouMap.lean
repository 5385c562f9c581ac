/- Layer 8: a set of edges as a map that is made and asked. -/
import Derived.Test.YtoianhaocjiffaaGC
namespace Go.Proofs.Ytoianhaocjiffaa
open Go.RowKit Go.Maps

theorem zeroBool (w : World) : (zeroValue 4).run Try.prog w = .ok (.bool false) w := by kernel_rfl
theorem plain_bool_inv {v : Value} {z : DataW Unit × List MemPlace} (h : plainElem Try.prog 4 v = some z) : ∃ x, v = .bool x ∧ z = (.lit (.bool x), []) := by
  unfold plainElem at h
  have u := Try.underlying4
  cases v <;> simp_all
/-- Block b is a map that has just the edges of S, each with true. -/
def MapE (w : World) (b : Nat) (S : List Ed) : Prop := ∃ n D, w.ownsMap Try.prog 45 (plainElem (H := Unit) Try.prog 4) b n D ∧ n ≤ S.length ∧ ∀ e, wfE e → D.atKey (klE e) (.lit (.bool false)) = .lit (.bool (S.contains e))
theorem MapE.lt {w : World} {b : Nat} {S : List Ed} (h : MapE w b S) : b < w.heap.size := by
  obtain ⟨n, D, ho, _⟩ := h
  exact ho.lt
theorem MapE.kept {w w' : World} {b : Nat} {S : List Ed} (h : MapE w b S) {row : Option Nat} (hg : w.grownBy w' row) (hne : some b ≠ row) : MapE w' b S := by
  obtain ⟨n, D, ho, h2⟩ := h
  exact ⟨n, D, ho.kept hg hne, h2⟩
theorem MapE.made (w : World) : MapE (w.alloc (.map #[] 0)) w.heap.size [] :=
  ⟨0, .map [], World.ownsMap_made w _ _ _, Nat.le_refl _, fun _ _ => rfl⟩
set_option maxRecDepth 100000 in
theorem MapE.look {w : World} {b : Nat} {S : List Ed} (h : MapE w b S) (e : Ed) (he : wfE e) : (Instr.lookup 63 (.map (some b)) (.agg #[.int .i64 e.1, .int .i64 e.2]) false).run Try.prog w = .ok (.bool (S.contains e)) w := by
  obtain ⟨n, D, ho, _, hd⟩ := h
  obtain ⟨v, ps, hrun, hv⟩ := ho.lookup lawE Try.underlying63 (zeroBool w) (plainElem_bool Try.underlying4 false) (keyE e he)
  obtain ⟨x, rfl, hx⟩ := plain_bool_inv hv
  rw [hd e he] at hx
  injection hx with hx _
  injection hx with hx
  injection hx with hx
  rw [hrun, hx]
set_option maxRecDepth 100000 in
theorem MapE.put {w : World} {b : Nat} {S : List Ed} (h : MapE w b S) (e : Ed) (he : wfE e) (hl : S.length < maxLen) :
    ∃ w', (Instr.mapUpdate 63 (.map (some b)) (.agg #[.int .i64 e.1, .int .i64 e.2]) (.bool true)).run Try.prog w = .ok () w' ∧ MapE w' b (S ++ [e]) ∧ w.grownBy w' (some b) := by
  obtain ⟨n, D, ho, hn, hd⟩ := h
  obtain ⟨w', hrun, ho', hg⟩ := ho.update lawE Try.underlying63 (by omega) (keyE e he) (plainElem_bool Try.underlying4 true)
  refine ⟨w', hrun, ⟨n + 1, _, ho', by simp; omega, fun f hf => ?_⟩, hg⟩
  by_cases hef : f = e
  · subst hef
    rw [atKey_put_same ho.isMap (lawE.key (keyE f hf))]
    simp
  · rw [atKey_put_other (fun hk => hef (klE_inj hf he hk)), hd f hf]
    simp [hef]
end Go.Proofs.Ytoianhaocjiffaa
