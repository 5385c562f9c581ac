/- New in two words: a table of counts that are in order, or none and why. -/
import Derived.Test.YtjacjgchbpghiaaTabNew
import Derived.Test.YtjacjgchbpghiaaTabRef
namespace Go.Proofs.Ytjacjgchbpghiaa
open Go.RowKit

def Good (w : World) (l : List Int) (e : Ending) (w' : World) : Prop :=
  ∃ g q cap, e = .returned (.tuple #[.pointer (some ⟨g, 0, none⟩), .int .i64 0]) ∧ TIs w' g q cap l ∧ w.heap.size ≤ g ∧ w.heap.size ≤ q ∧ Below w.heap.size w w'

theorem new_good (w : World) (A : Option Addr) (n c : Nat) (l : List Int) (h : Reads w A n (ints l)) (ok : Ok l) :
    Calls Try.prog 12 #[.slice A n c] w (Good w l) := by
  have hl := h.len
  refine (new_any w A n c l h (by have := ok.pos; omega) (by have := ok.few; omega) ok.one).mono fun e w' h => ?_
  unfold Newly at h
  rwa [if_pos ok.total] at h
theorem new_fail (w : World) (A : Option Addr) (n c : Nat) (l : List Int) (f : Int) (h : Reads w A n (ints l)) (hf : Chk l f) (h0 : f ≠ 0) :
    Calls Try.prog 12 #[.slice A n c] w fun e w' => e = .returned (.tuple #[.pointer none, .int .i64 f]) ∧ Below w.heap.size w w' := by
  have hl := h.len
  rcases hf with ⟨rfl, h1⟩ | ⟨rfl, h1, j, hj, hx⟩ | ⟨rfl, h1, h2, h3⟩ | ⟨rfl, _⟩
  · exact (new_arg w A n c (by omega)).mono fun e w' ⟨h, hw⟩ => ⟨h, by rw [hw]; exact Below.refl _ _⟩
  · exact (new_range w A n c l h (by omega) (by omega) j (by omega) hx).mono fun e w' ⟨h, hw⟩ => ⟨h, by rw [hw]; exact Below.refl _ _⟩
  · refine (new_any w A n c l h (by omega) (by omega) h2).mono fun e w' h => ?_
    unfold Newly at h
    rwa [if_neg (by omega)] at h
  · exact absurd rfl h0
theorem Chk.good {l : List Int} (h : Chk l 0) : Ok l := by
  rcases h with ⟨h, _⟩ | ⟨h, _⟩ | ⟨h, _⟩ | ⟨_, h⟩
  · cases h
  · cases h
  · cases h
  · exact h
end Go.Proofs.Ytjacjgchbpghiaa
