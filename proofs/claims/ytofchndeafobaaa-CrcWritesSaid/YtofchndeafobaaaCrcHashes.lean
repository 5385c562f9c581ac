/- Two Hashes and a row of bytes side by side (CrcWrites). -/
import Derived.Test.YtofchndeafobaaaCrcHash
import Derived.Test.YtofchndeafobaaaCrcLaw
namespace Go.Proofs.Ytofchndeafobaaa
open Go.RowKit

structure HSt (w : World) (gh go sh so : Nat) (v : Value) (fl : List Nat) (x : World) : Prop where
  h : HIs x gh sh
  o : HIs x go so
  r : x.ownsRow w.heap.size 5 1 v fl.length (bts fl)
  b : Below w.heap.size w x
  lh : w.heap.size ≤ gh
  lo : w.heap.size ≤ go
  ne : gh ≠ go
theorem HIs.keep {S : Nat → Prop} {w w' : World} {g s : Nat} (h : HIs w g s) (hc : Chg S w w') (hs : ¬ S g) : HIs w' g s := (hc.far g (heap_lt h) hs).trans h
theorem HIs.apart {w : World} {g s B n : Nat} {v : Value} {xs : List Value} (h : HIs w g s) (k : w.ownsRow B 5 1 v n xs) : v.ownBlock ≠ some g := own_neT k h (by decide)
theorem HSt.below {w x y : World} {gh go sh so : Nat} {v : Value} {fl : List Nat} (k : HSt w gh go sh so v fl x) (hb : Below x.heap.size x y) : HSt w gh go sh so v fl y :=
  ⟨k.h.below hb, k.o.below hb, own_keep (S := fun _ => False) k.r (.of_below hb) (fun _ _ => id), up2 k.b hb, k.lh, k.lo, k.ne⟩
theorem HSt.writeH {w x y : World} {gh go sh so s : Nat} {v : Value} {fl : List Nat} (k : HSt w gh go sh so v fl x) (hs : HIs y gh s) (hc : Chg (· = gh) x y) : HSt w gh go s so v fl y :=
  ⟨hs, k.o.keep hc (fun e => k.ne e.symm), own_keep k.r hc (fun q hq e => k.h.apart k.r (by rw [hq, e])), k.b.trans (hc.below k.b.size (fun b e => by subst e; exact k.lh)), k.lh, k.lo, k.ne⟩
theorem HSt.writeO {w x y : World} {gh go sh so s : Nat} {v : Value} {fl : List Nat} (k : HSt w gh go sh so v fl x) (hs : HIs y go s) (hc : Chg (· = go) x y) : HSt w gh go sh s v fl y :=
  ⟨k.h.keep hc (fun e => k.ne e), hs, own_keep k.r hc (fun q hq e => k.o.apart k.r (by rw [hq, e])), k.b.trans (hc.below k.b.size (fun b e => by subst e; exact k.lo)), k.lh, k.lo, k.ne⟩
theorem HSt.set {w x : World} {gh go sh so q j : Nat} {v : Value} {fl : List Nat} (k : HSt w gh go sh so v fl x) (hq : w.heap.size ≤ q) (h1 : gh ≠ q) (h2 : go ≠ q) (h3 : v.ownBlock ≠ some q) (u : Value) : HSt w gh go sh so v fl (x.setCell ⟨q, j, none⟩ u) :=
  have hc : Chg (· = q) x (x.setCell ⟨q, j, none⟩ u) := (Chg.refl _ x).set _ _ rfl
  ⟨k.h.keep hc h1, k.o.keep hc h2, own_keep k.r hc (fun p hp e => h3 (by rw [hp, e])), k.b.trans (hc.below k.b.size (fun b e => by subst e; exact hq)), k.lh, k.lo, k.ne⟩
theorem HSt.append {w x y : World} {gh go sh so : Nat} {v v' : Value} {fl gl : List Nat} (k : HSt w gh go sh so v fl x) (ho : y.ownsRow w.heap.size 5 1 v' gl.length (bts gl)) (hg : x.grownBy y v.ownBlock) : HSt w gh go sh so v' gl y :=
  have hc : Chg (fun b => v.ownBlock = some b) x y := .of_grown hg (fun _ e => e)
  ⟨k.h.keep hc (k.h.apart k.r), k.o.keep hc (k.o.apart k.r), ho, k.b.trans (hc.below k.b.size (fun b e => (own_lt k.r b e).1)), k.lh, k.lo, k.ne⟩

/-- The text of the first k parts. -/
def flat (rs : List (List Nat)) (k : Nat) : List Nat := (rs.take k).flatten
theorem flat_zero (rs : List (List Nat)) : flat rs 0 = [] := by simp [flat]
theorem flat_succ (rs : List (List Nat)) (k : Nat) (h : k < rs.length) : flat rs (k + 1) = flat rs k ++ rs.getD k [] := by
  unfold flat
  rw [List.take_succ_eq_append_getElem h, List.flatten_append, List.getD_eq_getElem?_getD, List.getElem?_eq_getElem h]
  simp
theorem flat_first (rs : List (List Nat)) (k : Nat) (h0 : 0 < k) : (rs.getD 0 []).length ≤ (flat rs k).length := by
  cases rs with
  | nil => exact Nat.zero_le _
  | cons r rs =>
    cases k with
    | zero => omega
    | succ k => simp [flat]
theorem dig_flat {rs : List (List Nat)} (h : ∀ r ∈ rs, Dig r) (k : Nat) : Dig (flat rs k) := by
  intro d hd
  unfold flat at hd
  obtain ⟨r, hr, hd⟩ := List.mem_flatten.1 hd
  exact h r (List.mem_of_mem_take hr) d hd
theorem dig_getD {rs : List (List Nat)} (h : ∀ r ∈ rs, Dig r) (k : Nat) : Dig (rs.getD k []) := by
  rw [List.getD_eq_getElem?_getD]
  cases e : rs[k]? with
  | none => intro d hd; cases hd
  | some r => exact h r (List.mem_of_getElem? e)
/-- The sum of the other Hash behind k parts. -/
def soAt (rs : List (List Nat)) (k : Nat) : Nat := if k = 0 then 0 else crcSum (rs.getD 0 [])
end Go.Proofs.Ytofchndeafobaaa
