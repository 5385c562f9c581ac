/- Bytes as strings: string(b), and bytes.Equal (layer 5). -/
import Derived.Test.YtngambkbpdjddaaBstr
import Derived.Laws.BytesArg
namespace Go.Proofs.Ytngambkbpdjddaa
open Go.RowKit

theorem bequal_any (w : World) (A A' : Option Addr) (n n' c c' : Nat) (a b : List Nat) (h : Reads w A n (bts a)) (h' : Reads w A' n' (bts b)) (ha : ∀ d ∈ a, d < 256) (hb : ∀ d ∈ b, d < 256) :
    Calls Try.prog 26 #[.slice A n c, .slice A' n' c'] w fun e w' => e = .returned (.bool (decide (a = b))) ∧ w = w' := by
  have r1 := run_bstr w A n c a h
  have r2 := run_bstr w A' n' c' b h'
  have e1 := bstr_beq ha hb
  clear h h' ha hb
  generalize bstr a = sa at *
  generalize bstr b = sb at *
  generalize decide (a = b) = r at *
  go_enter Try.func26, Try.ntmps26
  go_wp2
  go_ret
  exact ⟨rfl, rfl⟩
end Go.Proofs.Ytngambkbpdjddaa
