/- Layer 8: a set of edges as a map that is made and asked. -/
import Derived.Test.YtfdoemebongdbaaSouMem
import Derived.Maps.OwnOps
import Derived.Maps.OwnSet
import Derived.Maps.Views
import Derived.DeepKeys4
namespace Go.Proofs.Ytfdoemebongdbaa
open Go.RowKit Go.Maps

theorem lawE : Keyed Try.prog 54 := Keyed.of_law (deep_law_laid laid_out (m := 2) (by omega) (of_decide_eq_true (by kernel_rfl)) (by kernel_rfl) (by rw [Try.underlying54]))
def klE (e : Ed) : Lit := .string (keyBytes [.int .i64 e.1, .int .i64 e.2])
def wfE (e : Ed) : Prop := (Lit.int .i64 e.1).wf = true ∧ (Lit.int .i64 e.2).wf = true
theorem cells_edge : Try.prog.cellsOf 54 = 2 := by kernel_rfl
theorem cells_int8 : Try.prog.cellsOf 3 = 1 := by kernel_rfl
theorem keyE (e : Ed) (h : wfE e) : keyOf Try.prog 54 (.agg #[.int .i64 e.1, .int .i64 e.2]) = some (klE e) := by
  have hk : Try.prog.keyType 54 = true := by kernel_rfl
  have hf : (Value.agg #[.int .i64 e.1, .int .i64 e.2]).formed Try.prog 54 = true := by simp [Value.formed, Try.underlying54, cells_edge]
  have h0 : Try.prog.types.size ≠ 0 := by
    have : 0 < Try.prog.types.size := of_decide_eq_true (by kernel_rfl)
    omega
  obtain ⟨d, hd⟩ := Nat.exists_eq_succ_of_ne_zero h0
  have u1 := Try.underlying54
  have u2 := Try.underlying3
  have w1 := h.1
  have w2 := h.2
  have : Try.prog.keyLits (Try.prog.types.size + 1) 54 [.int .i64 e.1, .int .i64 e.2] = some [.int .i64 e.1, .int .i64 e.2] := by
    rw [hd]
    simp only [Program.keyLits, u1, cells_edge, cells_int8]
    rw [show List.range 2 = [0, 1] from rfl]
    have a1 : ((Value.int .i64 e.1 :: [.int .i64 e.2]).drop (0 * 1)).take 1 = [.int .i64 e.1] := rfl
    have a2 : ((Value.int .i64 e.1 :: [.int .i64 e.2]).drop (1 * 1)).take 1 = [.int .i64 e.2] := rfl
    simp only [List.mapM_cons, List.mapM_nil, a1, a2, u2, w1, w2, and_self, if_true]
    rfl
  unfold keyOf
  simp only [u1, hk, hf, Bool.and_self, if_true]
  show (Try.prog.keyLits (Try.prog.types.size + 1) 54 [.int .i64 e.1, .int .i64 e.2]).map _ = _
  rw [this]
  rfl
theorem klE_inj {a b : Ed} (ha : wfE a) (hb : wfE b) (h : klE a = klE b) : a = b := by
  have := lawE.inj (keyE a ha) (by rw [h]; exact keyE b hb)
  simp at this
  exact Prod.ext this.1 this.2
theorem zeroBool (w : World) : (zeroValue 4).run Try.prog w = .ok (.bool false) w := by kernel_rfl
theorem plain_bool_inv {v : Value} {z : DataW Unit × List MemPlace} (h : plainElem Try.prog 4 v = some z) : ∃ x, v = .bool x ∧ z = (.lit (.bool x), []) := by
  unfold plainElem at h
  have u := Try.underlying4
  cases v <;> simp_all
/-- Block b is a map that has just the edges of S, each with true. -/
def MapE (w : World) (b : Nat) (S : List Ed) : Prop := ∃ n D, w.ownsMap Try.prog 54 (plainElem (H := Unit) Try.prog 4) b n D ∧ n ≤ S.length ∧ ∀ e, wfE e → D.atKey (klE e) (.lit (.bool false)) = .lit (.bool (S.contains e))
theorem MapE.lt {w : World} {b : Nat} {S : List Ed} (h : MapE w b S) : b < w.heap.size := by
  obtain ⟨n, D, ho, _⟩ := h
  exact ho.lt
theorem MapE.kept {w w' : World} {b : Nat} {S : List Ed} (h : MapE w b S) {row : Option Nat} (hg : w.grownBy w' row) (hne : some b ≠ row) : MapE w' b S := by
  obtain ⟨n, D, ho, h2⟩ := h
  exact ⟨n, D, ho.kept hg hne, h2⟩
theorem MapE.made (w : World) : MapE (w.alloc (.map #[] 0)) w.heap.size [] :=
  ⟨0, .map [], World.ownsMap_made w _ _ _, Nat.le_refl _, fun _ _ => rfl⟩
theorem MapE.look {w : World} {b : Nat} {S : List Ed} (h : MapE w b S) (e : Ed) (he : wfE e) : (Instr.lookup 60 (.map (some b)) (.agg #[.int .i64 e.1, .int .i64 e.2]) false).run Try.prog w = .ok (.bool (S.contains e)) w := by
  obtain ⟨n, D, ho, _, hd⟩ := h
  obtain ⟨v, ps, hrun, hv⟩ := ho.lookup lawE Try.underlying60 (zeroBool w) (plainElem_bool Try.underlying4 false) (keyE e he)
  obtain ⟨x, rfl, hx⟩ := plain_bool_inv hv
  rw [hd e he] at hx
  injection hx with hx _
  injection hx with hx
  injection hx with hx
  rw [hrun, hx]
theorem MapE.put {w : World} {b : Nat} {S : List Ed} (h : MapE w b S) (e : Ed) (he : wfE e) (hl : S.length < maxLen) :
    ∃ w', (Instr.mapUpdate 60 (.map (some b)) (.agg #[.int .i64 e.1, .int .i64 e.2]) (.bool true)).run Try.prog w = .ok () w' ∧ MapE w' b (S ++ [e]) ∧ w.grownBy w' (some b) := by
  obtain ⟨n, D, ho, hn, hd⟩ := h
  obtain ⟨w', hrun, ho', hg⟩ := ho.update lawE Try.underlying60 (by omega) (keyE e he) (plainElem_bool Try.underlying4 true)
  refine ⟨w', hrun, ⟨n + 1, _, ho', by simp; omega, fun f hf => ?_⟩, hg⟩
  by_cases hef : f = e
  · subst hef
    rw [atKey_put_same ho.isMap (lawE.key (keyE f hf))]
    simp
  · rw [atKey_put_other (fun hk => hef (klE_inj hf he hk)), hd f hf]
    simp [hef]
end Go.Proofs.Ytfdoemebongdbaa
