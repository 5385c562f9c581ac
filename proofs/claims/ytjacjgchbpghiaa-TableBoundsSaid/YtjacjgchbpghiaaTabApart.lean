/- A slice of integers beside a table: kept by a bump; beside two tables. -/
import Derived.Test.YtjacjgchbpghiaaTabMade
import Derived.Test.YtjacjgchbpghiaaTabRefD
import Derived.Test.YtjacjgchbpghiaaTabSame
import Derived.Test.YtjacjgchbpghiaaTabAwake
namespace Go.Proofs.Ytjacjgchbpghiaa
open Go.RowKit

theorem add_block (ad : Addr) (j : Nat) : (ad.add j).block = ad.block := by unfold Addr.add; split <;> simp_all
theorem Reads.lt {w : World} {A : Option Addr} {n : Nat} {xs : List Int} (h : Reads w A n (ints xs)) (h0 : 0 < n) : ∀ ad, A = some ad → ad.block < w.heap.size := by
  intro ad e
  obtain ⟨ad', he, hc⟩ := h.int 0 h0
  rw [e] at he
  injection he with he
  subst he
  have := World.block_lt_of_cell? w _ hc
  rwa [add_block] at this
theorem Reads.grown {w w' : World} {A : Option Addr} {n q : Nat} {xs : List Value} (h : Reads w A n xs) (hg : w.grownBy w' (some q)) (hq : ∀ ad, A = some ad → ad.block ≠ q) : Reads w' A n xs :=
  ⟨h.1, fun hn => by
    obtain ⟨ad, hA, hc⟩ := h.2 hn
    refine ⟨ad, hA, fun j u hj => ?_⟩
    rw [hg.cell_far _ (World.block_lt_of_cell? w _ (hc j u hj)) (fun e => hq ad hA (by injection e with e; rw [← e, add_block]))]
    exact hc j u hj⟩
theorem TIs.grown {w w' : World} {g q cap p : Nat} {c : List Int} (h : TIs w g q cap c) (hg : w.grownBy w' (some p)) (h1 : g ≠ p) (h2 : q ≠ p) : TIs w' g q cap c :=
  h.keep (hg.block g h.lt (fun e => h1 (by injection e))) (hg.block q h.lt' (fun e => h2 (by injection e)))

/-- Any symbol, bumped: what the table answers, and what it holds then. -/
def after (c : List Int) (x : Int) : List Int := if 0 ≤ x ∧ x < c.length then bumped c x.toNat else c
theorem after_in (c : List Int) (s : Nat) (h : s < c.length) : after c (s : Int) = bumped c s := by rw [after, if_pos (by omega)]; simp
theorem after_out (c : List Int) (x : Int) (h : ¬ (0 ≤ x ∧ x < c.length)) : after c x = c := by rw [after, if_neg h]
theorem length_after (c : List Int) (x : Int) : (after c x).length = c.length := by
  unfold after; split
  · exact length_bumped _ _
  · rfl
theorem Ok.after {c : List Int} (h : Ok c) (x : Int) : Ok (after c x) := by
  unfold Ytjacjgchbpghiaa.after; split
  · exact h.bumped _ (by omega)
  · exact h
theorem bump_any (w : World) (g q cap : Nat) (c : List Int) (x : Int) (h : TIs w g q cap c) (ok : Ok c) :
    Calls Try.prog 21 #[.pointer (some ⟨g, 0, none⟩), .int .i64 x] w fun e w' => e = .returned (.int .i64 (if 0 ≤ x ∧ x < c.length then 0 else 2)) ∧ TIs w' g q cap (after c x) ∧ w.grownBy w' (some q) := by
  by_cases hx : 0 ≤ x ∧ x < c.length
  · obtain ⟨s, rfl⟩ : ∃ s : Nat, x = (s : Int) := ⟨x.toNat, by omega⟩
    rw [if_pos hx, after_in c s (by omega)]
    exact bump_ok w g q cap c s h ok (by omega)
  · rw [if_neg hx, after_out c x hx]
    exact (bump_range w g q cap c x h hx).mono fun e w' ⟨h1, h2⟩ => ⟨h1, h.read h2, grown_read (World.grownBy.refl w _) h2⟩
end Go.Proofs.Ytjacjgchbpghiaa
