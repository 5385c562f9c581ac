/- Layer 8: edges as the keys of a map. -/
import Derived.Test.YtelbmjbjpgcdaaaSouMem
import Derived.Maps.OwnOps
import Derived.Maps.OwnSet
import Derived.Maps.Views
import Derived.DeepKeys4
namespace Go.Proofs.Ytelbmjbjpgcdaaa
open Go.RowKit Go.Maps

theorem lawE : Keyed Try.prog 66 := Keyed.of_law (deep_law_laid laid_out (m := 2) (by omega) (of_decide_eq_true (by kernel_rfl)) (by kernel_rfl) (by rw [Try.underlying66]))
def klE (e : Ed) : Lit := .string (keyBytes [.int .i64 e.1, .int .i64 e.2])
def wfE (e : Ed) : Prop := (Lit.int .i64 e.1).wf = true ∧ (Lit.int .i64 e.2).wf = true
theorem cells_edge : Try.prog.cellsOf 66 = 2 := by kernel_rfl
theorem cells_int8 : Try.prog.cellsOf 3 = 1 := by kernel_rfl
theorem keyE (e : Ed) (h : wfE e) : keyOf Try.prog 66 (.agg #[.int .i64 e.1, .int .i64 e.2]) = some (klE e) := by
  have hk : Try.prog.keyType 66 = true := by kernel_rfl
  have hf : (Value.agg #[.int .i64 e.1, .int .i64 e.2]).formed Try.prog 66 = true := by simp [Value.formed, Try.underlying66, cells_edge]
  have h0 : Try.prog.types.size ≠ 0 := by
    have : 0 < Try.prog.types.size := of_decide_eq_true (by kernel_rfl)
    omega
  obtain ⟨d, hd⟩ := Nat.exists_eq_succ_of_ne_zero h0
  have u1 := Try.underlying66
  have u2 := Try.underlying3
  have w1 := h.1
  have w2 := h.2
  have : Try.prog.keyLits (Try.prog.types.size + 1) 66 [.int .i64 e.1, .int .i64 e.2] = some [.int .i64 e.1, .int .i64 e.2] := by
    rw [hd]
    simp only [Program.keyLits, u1, cells_edge, cells_int8]
    rw [show List.range 2 = [0, 1] from rfl]
    have a1 : ((Value.int .i64 e.1 :: [.int .i64 e.2]).drop (0 * 1)).take 1 = [.int .i64 e.1] := rfl
    have a2 : ((Value.int .i64 e.1 :: [.int .i64 e.2]).drop (1 * 1)).take 1 = [.int .i64 e.2] := rfl
    simp only [List.mapM_cons, List.mapM_nil, a1, a2, u2, w1, w2, and_self, if_true]
    rfl
  unfold keyOf
  simp only [u1, hk, hf, Bool.and_self, if_true]
  show (Try.prog.keyLits (Try.prog.types.size + 1) 66 [.int .i64 e.1, .int .i64 e.2]).map _ = _
  rw [this]
  rfl
theorem klE_inj {a b : Ed} (ha : wfE a) (hb : wfE b) (h : klE a = klE b) : a = b := by
  have := lawE.inj (keyE a ha) (by rw [h]; exact keyE b hb)
  simp at this
  exact Prod.ext this.1 this.2
end Go.Proofs.Ytelbmjbjpgcdaaa
