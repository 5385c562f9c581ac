/- Layer 9: the kinds in their order: the first that has something. -/
import Derived.Test.YtelbmjbjpgcdaaaCePinch
import Derived.Test.YtelbmjbjpgcdaaaCeIdx
import Derived.Test.YtelbmjbjpgcdaaaCeLoop
namespace Go.Proofs.Ytelbmjbjpgcdaaa
open Go.RowKit

/-- What is told of each kind. -/
def stgs (p : Int → Bool) (N : Int) (tl : List Tr) : List (List Wt) := [indexW N tl, idxW 2 (fun t => decide (loopT t)) tl, pairW 3 q9 tl, pairW 4 m9 tl, vertW 5 (lonely tl) N, vertW 6 p N]
theorem wits_stgs (p : Int → Bool) (N : Int) (tl : List Tr) : wits p N tl = firstL (stgs p N tl) := by
  unfold wits stgs indexW
  by_cases h : N < 0 ∨ 4096 < N ∨ 8192 < tl.length
  · rw [if_pos h, if_pos h]; rfl
  · rw [if_neg h, if_neg h]; rfl
theorem firstL_at : ∀ (L : List (List Wt)) (k : Nat), (∀ j, j < k → L.getD j [] = []) → L.getD k [] = [] ∨ L.getD k [] = firstL L
  | [], k, _ => .inl (by simp)
  | [] :: r, 0, _ => .inl rfl
  | (x :: a) :: r, 0, _ => .inr rfl
  | [] :: r, k + 1, h => firstL_at r k fun j hj => h (j + 1) (by omega)
  | (x :: a) :: r, k + 1, h => by have := h 0 (by omega); cases this
theorem stage_at {p : Int → Bool} {N : Int} {tl : List Tr} {k : Nat} (h : ∀ j, j < k → (stgs p N tl).getD j [] = []) : (stgs p N tl).getD k [] = [] ∨ (stgs p N tl).getD k [] = wits p N tl := by
  rw [wits_stgs]; exact firstL_at _ _ h
theorem stage_none {p : Int → Bool} {N : Int} {tl : List Tr} (h : ∀ j, j < 6 → (stgs p N tl).getD j [] = []) : wits p N tl = [] := by
  rw [wits_stgs, firstL_nil]
  intro a ha
  simp only [stgs, List.mem_cons, List.not_mem_nil, or_false] at ha
  rcases ha with rfl | rfl | rfl | rfl | rfl | rfl
  · exact h 0 (by omega)
  · exact h 1 (by omega)
  · exact h 2 (by omega)
  · exact h 3 (by omega)
  · exact h 4 (by omega)
  · exact h 5 (by omega)
theorem stage0 {N : Int} {tl : List Tr} (h : indexW N tl = []) : 0 ≤ N ∧ N ≤ 4096 ∧ tl.length ≤ 8192 ∧ ∀ t ∈ tl, inN N t.1 ∧ inN N t.2.1 ∧ inN N t.2.2 := by
  unfold indexW at h
  by_cases hr : N < 0 ∨ 4096 < N ∨ 8192 < tl.length
  · rw [if_pos hr] at h; cases h
  · rw [if_neg hr] at h
    exact ⟨by omega, by omega, by omega, fun t ht => by have := idxW_nil.1 h t ht; simpa [badT] using this⟩
theorem stage1 {tl : List Tr} (h : idxW 2 (fun t => decide (loopT t)) tl = []) : ∀ t ∈ tl, ¬ loopT t := fun t ht => by have := idxW_nil.1 h t ht; simpa using this
theorem stage2 {tl : List Tr} (h : pairW 3 q9 tl = []) : tl.Pairwise fun t u => ¬ twice t u := (pairW_nil.1 h).imp fun h => by simpa using h
theorem stage4 {N : Int} {tl : List Tr} (h : vertW 5 (lonely tl) N = []) : ∀ v : Int, inN N v → ∃ t ∈ tl, hasV t v := fun v hv => lonely_false.1 (vertW_nil.1 h v hv)
theorem Taker.stage {f : FuncId} {caps : List Value} {ws ws' : List Wt} {go : List Wt → Bool} {S : Nat → Prop} {Inv : List Wt → World → Prop} (H : Taker f caps ws go S Inv) (h : ws' = [] ∨ ws' = ws) : Taker f caps ws' go S Inv := by
  rcases h with rfl | rfl
  · exact ⟨fun l x w hp _ => by have := hp.length_le; simp at this, H.keep, H.lt, H.enter⟩
  · exact H
theorem Handed.none {ws : List Wt} {go : List Wt → Bool} (h : Handed ws go []) : ws = [] := by
  rcases h with ⟨h, _⟩ | ⟨m, x, h, _⟩
  · exact h.symm
  · cases m <;> cases h
end Go.Proofs.Ytelbmjbjpgcdaaa
