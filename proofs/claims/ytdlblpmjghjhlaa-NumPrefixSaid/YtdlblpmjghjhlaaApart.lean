/- Writers side by side: a call on one leaves the other as it was. -/
import Derived.Test.YtdlblpmjghjhlaaTell
namespace Go.Proofs.Ytdlblpmjghjhlaa
open Go.RowKit

structure Apart (g1 : Nat) (v1 : Value) (g2 : Nat) (v2 : Value) : Prop where
  gg : g1 ≠ g2
  vg : v1.ownBlock ≠ some g2
  gv : v2.ownBlock ≠ some g1
  vv : ∀ q, v1.ownBlock = some q → v2.ownBlock ≠ some q
section
variable {w w' : World} {B g1 g2 : Nat} {v1 v2 v2' : Value} {cs : List Bool}
theorem Apart.symm (h : Apart g1 v1 g2 v2) : Apart g2 v2 g1 v1 := ⟨h.gg.symm, h.gv, h.vg, fun q e e' => h.vv q e' e⟩
theorem WIs.aside (h : WIs w B g1 v1 cs) (ap : Apart g1 v1 g2 v2) (hk : Kept w w' g2 v2) : WIs w' B g1 v1 cs :=
  h.keep (hk.block g1 h.lt ap.gg (fun e => ap.gv e.symm)) (fun q e => hk.block q (h.row.lt q e).2 (fun e' => ap.vg (by rw [e, e'])) (fun e' => ap.vv q e e'.symm))
theorem Apart.moved (ap : Apart g1 v1 g2 v2) (h : WIs w B g1 v1 cs) (m : Moved w v2 v2') : Apart g1 v1 g2 v2' := by
  have hg := h.lt
  refine ⟨ap.gg, ap.vg, fun e => ?_, fun q e e' => ?_⟩
  · rcases m with m | ⟨i, m, hi⟩
    · exact ap.gv (m.symm.trans e)
    · rw [m] at e; injection e with e; omega
  · rcases m with m | ⟨i, m, hi⟩
    · exact ap.vv q e (m.symm.trans e')
    · have := (h.row.lt q e).2
      rw [m] at e'; injection e' with e'; omega
theorem Apart.nil {g1 g2 : Nat} (h : g1 ≠ g2) : Apart g1 (.slice none 0 0) g2 (.slice none 0 0) := ⟨h, by simp [Value.ownBlock], by simp [Value.ownBlock], fun q e => by simp [Value.ownBlock] at e⟩
end
theorem bit_test (v k : Nat) (hv : v < 18446744073709551616) : (bits BinOp.and IntKind.u64 ((v : Int) / 2 ^ k) 1 == 1) = v.testBit k := by
  have hq : v / 2 ^ k < 18446744073709551616 := Nat.lt_of_le_of_lt (Nat.div_le_self _ _) hv
  rw [div_cast, show (1 : Int) = ((1 : Nat) : Int) from rfl, u64_and_nat (v / 2 ^ k) 1 hq (by omega), nat_mask1, ← Nat.toNat_testBit]
  cases v.testBit k <;> rfl
end Go.Proofs.Ytdlblpmjghjhlaa
