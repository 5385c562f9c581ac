/- Arguments, opened: a soup by value, a slice of soups. -/
import Derived.Test.YtelbmjbjpgcdaaaSouMem
import Derived.Test.YtelbmjbjpgcdaaaArgInts
import Derived.Deep.SlicePairs
import Derived.Laws.IdiomArrays
import Derived.ChangeSame
import Derived.ProofKit
import Derived.OpenShut
import Derived.ShutString
import Derived.ChangeOld
namespace Go.Proofs.Ytelbmjbjpgcdaaa
open Go.ChangeShapes Go.WideShapes Go.ChangeAt Go.RowKit

theorem cells_tris {H : Type} {enc : TypeId × Value → H} {W : World} {fuel : Nat} {v : Value} {x : DataW H × List MemPlace}
    (hf : DataW.trod enc Try.prog W 0 (fun _ => true) true fuel 22 [v] = some x) : ∃ a n c, v = .slice a n c ∧ (a = none → c = 0) ∧ ∃ l : List Tr, T3 W a n l := by
  rcases Deep.open_slice Try.underlying22 hf with ⟨hcs, _⟩ | ⟨a, len, cap, m, fu, D, Pl, hcs, _, hl, hm, hmm, _, hx⟩
  · simp at hcs
    subst hcs
    exact ⟨_, _, _, rfl, fun _ => rfl, [], T3.nil _ _⟩
  · simp at hcs
    subst hcs
    have hmn : len ≤ m := by rw [hmm]; simp; exact hl
    have hce : Try.prog.cellsOf 41 = 3 := by kernel_rfl
    have hci : Try.prog.cellsOf 3 = 1 := by kernel_rfl
    have key : ∀ i, i < len → ∃ t : Tr, W.cell? (a.add (i * 3)) = some (.int .i64 t.1) ∧ W.cell? (a.add (i * 3 + 1)) = some (.int .i64 t.2.1) ∧ W.cell? (a.add (i * 3 + 2)) = some (.int .i64 t.2.2) := by
      intro i hi
      obtain ⟨cs', h1, h2⟩ := hx i (by omega)
      rw [hce] at h1
      obtain ⟨_, hlen, hcell⟩ := World.cells?_some h1
      match cs', hlen with
      | [u0, u1, u2], _ =>
        obtain ⟨y0, y1, y2, k, _, g0, g1, g2⟩ := trod_array3 Try.underlying41 hci h2
        obtain ⟨z0, e0, _, _⟩ := DataW.trod_int Try.underlying3 g0
        obtain ⟨z1, e1, _, _⟩ := DataW.trod_int Try.underlying3 g1
        obtain ⟨z2, e2, _, _⟩ := DataW.trod_int Try.underlying3 g2
        simp at e0 e1 e2
        subst e0 e1 e2
        have k0 := hcell 0 (by omega)
        have k1 := hcell 1 (by omega)
        have k2 := hcell 2 (by omega)
        rw [Deep.add_add] at k0 k1 k2
        exact ⟨(z0, z1, z2), by simpa using k0, by simpa using k1, by simpa using k2⟩
    refine ⟨_, _, _, rfl, fun e => (nomatch e), ?_⟩
    obtain ⟨q, hq⟩ := Classical.axiomOfChoice (fun i : Fin len => key i.1 i.2)
    have gd : ∀ i (hi : i < len), (List.ofFn q).getD i z3 = q ⟨i, hi⟩ := fun i hi => by simp [List.getD_eq_getElem?_getD, hi]
    refine ⟨List.ofFn q, by simp, fun hn => ?_⟩
    obtain ⟨b, off, spot⟩ := a
    have c00 := (hq ⟨0, hn⟩).1
    have hspot : spot = none := by simpa [Addr.add] using World.cell?_spot c00
    subst hspot
    have ea : ∀ j, (⟨b, off, none⟩ : Addr).add j = ⟨b, off + j, none⟩ := fun j => by unfold Addr.add; split <;> simp_all
    refine ⟨b, off, rfl, fun i hi => ?_⟩
    rw [gd i hi]
    obtain ⟨c0, c1, c2⟩ := hq ⟨i, hi⟩
    rw [ea] at c0 c1 c2
    exact ⟨c0, by rw [Nat.add_assoc]; exact c1, by rw [Nat.add_assoc]; exact c2⟩

theorem arg_soup {H : Type} {enc : TypeId × Value → H} {W : World} {v : Value} {d : DataW H} {p : List MemPlace} {base : Nat} (hv : Value.okWide Try.prog W .any base 24 v)
    (h : DataW.Trod enc Try.prog W 0 (fun _ => true) true 24 v d p) : ∃ N A n c, ∃ l : List Tr, v = .agg #[.int .i64 N, .slice A n c] ∧ (-9223372036854775808 ≤ N ∧ N ≤ 9223372036854775807) ∧ T3 W A n l := by
  obtain ⟨cs, rfl, hsz⟩ := okWide_struct Try.underlying24 hv
  obtain ⟨fuel, hf⟩ := h
  obtain ⟨y0, y1, m, _, hl, h0, h1⟩ := trod_struct2 Try.underlying24 hf
  have hc2 : Try.prog.cellsOf 24 = 2 := by kernel_rfl
  have hc0 : Try.prog.cellsOf 3 = 1 := by kernel_rfl
  have hc1 : Try.prog.cellsOf 22 = 1 := by kernel_rfl
  rw [hc2] at hsz
  obtain ⟨cs⟩ := cs
  match cs, hsz with
  | [u0, u1], _ =>
    have h0' : DataW.trod enc Try.prog W 0 (fun _ => true) true m 3 [u0] = some y0 := by
      have h := h0
      simp only [Value.cells, hc0] at h
      exact h
    have h1' : DataW.trod enc Try.prog W 0 (fun _ => true) true m 22 [u1] = some y1 := by
      have h := h1
      simp only [Value.cells, hc1] at h
      exact h
    obtain ⟨A, n, c, hA, _, l, hr⟩ := cells_tris h1'
    obtain ⟨z, hz, _, hb⟩ := DataW.trod_int Try.underlying3 h0'
    simp at hz
    have hbd := bounds_i64 hb
    subst hA hz
    exact ⟨z, A, n, c, l, rfl, hbd, hr⟩
end Go.Proofs.Ytelbmjbjpgcdaaa
