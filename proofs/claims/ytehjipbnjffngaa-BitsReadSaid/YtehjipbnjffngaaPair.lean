/- A reader and a writer side by side. -/
import Derived.Test.YtehjipbnjffngaaTell
namespace Go.Proofs.Ytehjipbnjffngaa
open Go.RowKit

structure RW (w : World) (B r p : Nat) (bs : List Bool) (k g : Nat) (v : Value) (cs : List Bool) : Prop where
  rd : RIs w r p bs k
  wr : WIs w B g v cs
  n1 : g ≠ r
  n2 : g ≠ p
  n3 : v.ownBlock ≠ some r
  n4 : v.ownBlock ≠ some p
  b1 : B ≤ r
  b2 : B ≤ g
  b3 : B ≤ w.heap.size

section
variable {w w' : World} {B g : Nat} {v : Value} {bs cs ds : List Bool} {r p k j : Nat}
theorem RW.read (h : RW w B r p bs k g v cs) (hr : RIs w' r p bs j) (hg : w.grownBy w' (some r)) : RW w' B r p bs j g v cs ∧ Below B w w' :=
  ⟨⟨hr, h.wr.grown hg h.n1 h.n3, h.n1, h.n2, h.n3, h.n4, h.b1, h.b2, Nat.le_trans h.b3 hg.size⟩, grown_below hg h.b3 h.b1⟩
theorem RW.same (h : RW w B r p bs k g v cs) (hs : Same w w w') : RW w' B r p bs k g v cs ∧ Below B w w' :=
  ⟨⟨h.rd.same hs, h.wr.same hs, h.n1, h.n2, h.n3, h.n4, h.b1, h.b2, by rw [hs.heap]; exact h.b3⟩, hs.below⟩
theorem RW.write (h : RW w B r p bs k g v cs) (hw : Wrote w w' B g v ds) : ∃ v', RW w' B r p bs k g v' ds ∧ Below B w w' := by
  obtain ⟨v', h1, h2, h3⟩ := hw
  have far : ∀ q, q < w.heap.size → v.ownBlock ≠ some q → v'.ownBlock ≠ some q := by
    intro q hq hv e
    rcases h3 with h3 | ⟨i, h3, hi⟩
    · exact hv (h3.symm.trans e)
    · rw [h3] at e; injection e with e; omega
  exact ⟨v', ⟨h.rd.kept h2 (fun e => h.n1 e.symm) (fun e => h.n2 e.symm) h.n3 h.n4, h1, h.n1, h.n2, far r h.rd.lt h.n3, far p h.rd.lt' h.n4, h.b1, h.b2, Nat.le_trans h.b3 h2.size⟩, h2.below h.b2 h.b3 h.wr.own_ge⟩
/-- A new writer beside a reader. -/
theorem RW.new (w : World) (hr : RIs w r p bs k) (h1 : B ≤ r) (h3 : B ≤ w.heap.size) : RW (w.alloc (.cells #[.slice none 0 0, .int .i64 0] 26)) B r p bs k w.heap.size (.slice none 0 0) [] :=
  ⟨hr.below ((Below.refl _ _).alloc (Nat.le_refl _) _), WIs.new w B, by have := hr.lt; omega, by have := hr.lt'; omega, by simp [Value.ownBlock], by simp [Value.ownBlock], h1, h3, by simp; omega⟩
end
end Go.Proofs.Ytehjipbnjffngaa
