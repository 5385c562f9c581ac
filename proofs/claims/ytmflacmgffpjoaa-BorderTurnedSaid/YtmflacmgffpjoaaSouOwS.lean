/- Layer 8: a row of one's own where something else is stored; cells far away. -/
import Derived.Test.YtmflacmgffpjoaaGM
namespace Go.Proofs.Ytmflacmgffpjoaa
open Go.RowKit

theorem ownK_set {W : World} {B n s r : Nat} {t t' : TypeId} {v : Value} {xs : List Value} {cs : Array Value} {fr : Nat × Nat} (h : W.ownsRow B t s v n xs) (hr : W.heap[r]? = some (.cells cs t' fr)) (ht : t ≠ t') (i : Nat) (u : Value) : (W.setCell ⟨r, i, none⟩ u).ownsRow B t s v n xs := by
  refine ⟨h.1, ?_⟩
  rcases h.2 with h2 | ⟨q, cap, cur, h1, hq, hh, hx⟩
  · exact .inl h2
  · refine .inr ⟨q, cap, cur, h1, hq, heap_far hh ?_ u, hx⟩
    intro e
    have e : q = r := e
    subst e
    rw [hh] at hr
    injection hr with hr
    injection hr with _ hr _
    exact ht hr
theorem far3 {w : World} {q : Nat} {p : Addr} (hp : p.block ≠ q) (i j k : Nat) (a b c : Value) : (((w.setCell ⟨q, i, none⟩ a).setCell ⟨q, j, none⟩ b).setCell ⟨q, k, none⟩ c).cell? p = w.cell? p := by
  have key : ∀ (w : World) (i : Nat) (a : Value), (w.setCell ⟨q, i, none⟩ a).cell? p = w.cell? p := fun w i a => by
    have := Below.heap_setCell w ⟨q, i, none⟩ a p.block hp
    simp only [World.cell?, this]
  rw [key, key, key]
end Go.Proofs.Ytmflacmgffpjoaa
