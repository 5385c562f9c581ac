/- Rows of their own, whatever the size of an element. -/
import Derived.Test.YtfdoemebongdbaaSouRep
namespace Go.Proofs.Ytfdoemebongdbaa
open Go.RowKit

theorem ownK_up {W W' : World} {B n s : Nat} {t : TypeId} {v : Value} {xs : List Value} (h : W.ownsRow B t s v n xs) (b : Below W.heap.size W W') : W'.ownsRow B t s v n xs := by
  refine ⟨h.1, ?_⟩
  rcases h.2 with h2 | ⟨q, cap, cur, h1, hq, hh, hr⟩
  · exact .inl h2
  · exact .inr ⟨q, cap, cur, h1, hq, (b.block q (heap_lt hh)).trans hh, hr⟩
theorem ownK_form {W : World} {B n s : Nat} {t : TypeId} {v : Value} {xs : List Value} (h : W.ownsRow B t s v n xs) : ∃ A c, v = .slice A n c := by
  rcases h.2 with ⟨h1, h2⟩ | ⟨q, cap, cur, h1, _⟩
  · exact ⟨none, 0, by rw [h1, h2]⟩
  · exact ⟨_, _, h1⟩
theorem ownK_lt {W : World} {B n s : Nat} {t : TypeId} {v : Value} {xs : List Value} (h : W.ownsRow B t s v n xs) (q : Nat) (hq : v.ownBlock = some q) : B ≤ q := (h.lt q hq).1
theorem ownK_up' {W W' : World} {B C n s : Nat} {t : TypeId} {v : Value} {xs : List Value} (h : W.ownsRow B t s v n xs) (b : Below C W W') (hC : W.heap.size ≤ C) : W'.ownsRow B t s v n xs := ownK_up h (b.mono hC)
theorem ownK_base {W : World} {B B' n s : Nat} {t : TypeId} {v : Value} {xs : List Value} (h : W.ownsRow B t s v n xs) (hb : B' ≤ B) : W.ownsRow B' t s v n xs := by
  refine ⟨h.1, ?_⟩
  rcases h.2 with h2 | ⟨q, cap, cur, h1, hq, hr⟩
  · exact .inl h2
  · exact .inr ⟨q, cap, cur, h1, Nat.le_trans hb hq, hr⟩
theorem cells_of8 {w : World} {q n : Nat} {xs : List Value} (h : Reads w (some ⟨q, 0, none⟩) n xs) (hn : 0 < n) : ∀ j u, xs[j]? = some u → w.cell? ((⟨q, 0, none⟩ : Addr).add j) = some u := by
  obtain ⟨ad, he, hc⟩ := h.2 hn
  injection he with he
  subst he
  exact hc
end Go.Proofs.Ytfdoemebongdbaa
