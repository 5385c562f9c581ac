/- A row of bytes of a call's own (out of the texts of layer 4). -/
import Derived.Test.YtngambkbpdjddaaBts
namespace Go.Proofs.Ytngambkbpdjddaa
open Go.RowKit

theorem empty_bytes (w : World) : (w.alloc (.cells #[] 5)).ownsRow w.heap.size 5 1 (.slice (some ⟨w.heap.size, 0, none⟩) 0 0) 0 [] :=
  World.ownsRow_made w #[] 0 (Nat.le_refl _) (by unfold maxLen; omega) (by simp)
theorem eqlB_nilIn (d : Nat) (w : World) (a : Option Addr) (n c : Nat) : (Op.equalIn (d + 1) 25 (.slice a n c) (.slice none 0 0)).run Try.prog w = .ok a.isNone w := by
  cases a <;> simp [Op.equalIn, run_underlying Try.underlying25]
theorem eqlB_nil (w : World) (a : Option Addr) (n c : Nat) : (binOp .eql 25 (.slice a n c) (.slice none 0 0)).run Try.prog w = .ok (.bool a.isNone) w := by
  have h : (Op.equal 25 (.slice a n c) (.slice none 0 0)).run Try.prog w = .ok a.isNone w := eqlB_nilIn 9999 w a n c
  simp [binOp, h]

/-- A row of its own with these bytes. -/
def OwnB (w : World) (n : Nat) (l : List Nat) (e : Ending) (w' : World) : Prop := ∃ v, e = .returned v ∧ w'.ownsRow w.heap.size 5 1 v n (bts l) ∧ Below w.heap.size w w'
end Go.Proofs.Ytngambkbpdjddaa
