/- Layer 8: a row of edges of its own reads so. -/
import Derived.Test.YtmflacmgffpjoaaGM
namespace Go.Proofs.Ytmflacmgffpjoaa
open Go.RowKit

theorem E2.of_own {w : World} {B n c : Nat} {A : Option Addr} {l : List Ed} (h : w.ownsRow B 59 2 (.slice A n c) n (ints (flat2 l))) : E2 w A n l := by
  have hl : l.length = n := by have := h.1; rw [length_ints, length_flat2] at this; omega
  refine ⟨hl, fun hn => ?_⟩
  rcases h.2 with ⟨h1, h2⟩ | ⟨q, cap, cur, h1, hq, hh, hc, hm, hs, ht⟩
  · omega
  · injection h1 with h1 _ h3
    subst h1 h3
    refine ⟨q, 0, rfl, fun i hi => ?_⟩
    obtain ⟨a0, a1⟩ := flat2_at l i (by omega)
    have hc := fun j (hj : j < n * 2) => h.cellAt j hj
    rw [hc _ (by omega), hc _ (by omega)]
    simp only [ints_at, Nat.zero_add, Nat.mul_comm i 2, a0, a1, Option.map_some, and_self]
end Go.Proofs.Ytmflacmgffpjoaa
