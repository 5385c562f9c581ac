/- Arguments, opened: a slice of chunks that came in. -/
import Derived.Test.YtngambkbpdjddaaBoxMem
import Derived.Deep.SlicePairs
import Derived.ProofKit
import Derived.OpenShut
import Derived.ShutString
import Derived.ChangeOld
namespace Go.Proofs.Ytngambkbpdjddaa
open Go.ChangeShapes Go.WideShapes Go.ChangeAt Go.RowKit

theorem cells_bytes {H : Type} {enc : TypeId × Value → H} {W : World} {fuel : Nat} {v : Value} {x : DataW H × List MemPlace}
    (hf : DataW.trod enc Try.prog W 0 (fun _ => true) true fuel 25 [v] = some x) : ∃ a n c, v = .slice a n c ∧ (a = none → c = 0) ∧ ∃ xs : List Nat, Dig xs ∧ Reads W a n (bts xs) := by
  rcases open_ints Try.underlying25 Try.underlying5 (by kernel_rfl) hf with ⟨hcs, _⟩ | ⟨x, l, c', zs, hcs, _, hl, _, hz, _, hcell, hwz⟩
  · simp at hcs
    subst hcs
    exact ⟨_, _, _, rfl, fun _ => rfl, [], by simp [Dig], rfl, fun h => absurd h (by omega)⟩
  · simp at hcs
    subst hcs
    have hzl : zs.length = c' := by simpa using hz
    have hb : ∀ z ∈ zs, 0 ≤ z ∧ z ≤ 255 := fun z hz' => bounds_u8 (hwz z hz')
    have hlen : ((zs.take l).map Int.toNat).length = l := by simp; omega
    refine ⟨_, _, _, rfl, fun e => by simp at e, (zs.take l).map Int.toNat, ?_, by rw [length_bts]; exact hlen, fun _ => ⟨x, rfl, ?_⟩⟩
    · intro y hy
      simp only [List.mem_map] at hy
      obtain ⟨z, hz', rfl⟩ := hy
      have := hb z (List.mem_of_mem_take hz')
      omega
    · intro j u hu
      have hj : j < l := by
        have := (List.getElem?_eq_some_iff.1 hu).1
        rw [length_bts, hlen] at this; exact this
      have hjz : j < zs.length := by omega
      have hz0 := hb zs[j] (List.getElem_mem hjz)
      rw [hcell j hjz]
      simp only [bts, List.getElem?_map, List.getElem?_take, if_pos hj, List.getElem?_eq_getElem hjz, Option.map_some, Option.some.injEq] at hu
      rw [← hu]
      simp [List.getElem?_eq_getElem hjz]
      omega

theorem arg_chunks {H : Type} {enc : TypeId × Value → H} {W : World} {a : Option Addr} {n c : Nat} {d : DataW H} {p : List MemPlace}
    (h : DataW.Trod enc Try.prog W 0 (fun _ => true) true 22 (.slice a n c) d p) : ∃ l : List (Nat × List Nat), DigC l ∧ Chunks0 W a n l := by
  obtain ⟨fuel, hf⟩ := h
  rcases Deep.open_slice_pairs Try.underlying22 Try.underlying40 (by kernel_rfl) rfl rfl (by kernel_rfl) (by kernel_rfl) hf with ⟨hcs, _⟩ | ⟨x, len, cap, m, fu, V0, V1, D0, D1, P0, P1, hcs, _, hl, hm, hmm, _, hx⟩
  · simp [Value.cells] at hcs
    obtain ⟨rfl, rfl, rfl⟩ := hcs
    exact ⟨[], fun x hx => (by cases hx), rfl, fun h => absurd h (by omega)⟩
  · simp [Value.cells] at hcs
    obtain ⟨rfl, rfl, rfl⟩ := hcs
    have hmn : n ≤ m := by rw [hmm]; simp; exact hl
    have key : ∀ i, i < n → ∃ q : Nat × List Nat, (q.1 < 256 ∧ Dig q.2) ∧ ∃ Ai ci, W.cell? (x.add (i * 2)) = some (.int .u8 ((q.1 : Nat) : Int)) ∧ W.cell? (x.add (i * 2 + 1)) = some (.slice Ai q.2.length ci) ∧ (Ai = none → ci = 0) ∧ Reads W Ai q.2.length (bts q.2) := by
      intro i hi
      obtain ⟨c0, c1, t0, t1⟩ := hx i (by omega)
      obtain ⟨z1, e1, _, hw1⟩ := DataW.trod_int Try.underlying5 t0
      simp at e1
      have hb1 := bounds_u8 hw1
      obtain ⟨Ai, ni, ci, hv, hA, xs, hd, hr⟩ := cells_bytes t1
      rw [e1] at c0
      rw [hv] at c1
      have hln := hr.lenB
      subst hln
      exact ⟨(z1.toNat, xs), ⟨by show z1.toNat < 256; omega, hd⟩, Ai, ci, by rw [c0]; show _ = some (Value.int .u8 ((z1.toNat : Nat) : Int)); rw [show ((z1.toNat : Nat) : Int) = z1 by omega], c1, hA, hr⟩
    obtain ⟨q, hq⟩ := Classical.axiomOfChoice (fun i : Fin n => key i.1 i.2)
    have gd : ∀ i (hi : i < n), (List.ofFn q).getD i (0, []) = q ⟨i, hi⟩ := fun i hi => by simp [List.getD_eq_getElem?_getD, hi]
    refine ⟨List.ofFn q, fun y hy => ?_, by simp, fun hn => ?_⟩
    · obtain ⟨i, hi, rfl⟩ := getD_of_mem hy
      have hi' : i < n := by simpa using hi
      rw [gd i hi']
      exact (hq ⟨i, hi'⟩).1
    · obtain ⟨b, off, spot⟩ := x
      obtain ⟨_, _, _, c00, _⟩ := hq ⟨0, hn⟩
      have hspot : spot = none := by simpa [Addr.add] using World.cell?_spot c00
      subst hspot
      have ea : ∀ j, (⟨b, off, none⟩ : Addr).add j = ⟨b, off + j, none⟩ := fun j => by unfold Addr.add; split <;> simp_all
      refine ⟨b, off, rfl, fun i hi => ?_⟩
      rw [gd i hi]
      obtain ⟨_, Ai, ci, c0, c1, h2, hr⟩ := hq ⟨i, hi⟩
      rw [ea] at c0 c1
      exact ⟨Ai, ci, c0, by rw [Nat.add_assoc]; exact c1, h2, hr⟩
end Go.Proofs.Ytngambkbpdjddaa
