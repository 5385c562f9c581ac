/- Arguments, opened: a slice of int that came in reads as a list of integers. -/
import Derived.Test.YtelbmjbjpgcdaaaBase
namespace Go.Proofs.Ytelbmjbjpgcdaaa
open Go.RowKit Go.ChangeShapes Go.WideShapes Go.ChangeAt

theorem arg_ints {H : Type} {enc : TypeId × Value → H} {W : World} {a : Option Addr} {n c : Nat} {d : DataW H} {p : List MemPlace}
    (h : DataW.Trod enc Try.prog W 0 (fun _ => true) true 43 (.slice a n c) d p) : ((a = none → c = 0) ∧ n ≤ c) ∧ ∃ xs : List Int, (∀ x ∈ xs, -9223372036854775808 ≤ x ∧ x ≤ 9223372036854775807) ∧ Reads W a n (ints xs) := by
  obtain ⟨fuel, hf⟩ := h
  rcases open_ints Try.underlying43 Try.underlying3 (by kernel_rfl) hf with ⟨hcs, _⟩ | ⟨x, l, c', zs, hcs, _, hl, _, hz, _, hcell, hwz⟩
  · simp [Value.cells] at hcs
    obtain ⟨rfl, rfl, rfl⟩ := hcs
    exact ⟨⟨fun _ => rfl, Nat.le_refl _⟩, [], by simp, rfl, fun h => absurd h (by omega)⟩
  · simp [Value.cells] at hcs
    obtain ⟨rfl, rfl, rfl⟩ := hcs
    have hzl : zs.length = c := by simpa using hz
    refine ⟨⟨fun e => by simp at e, hl⟩, zs.take n, fun z hz' => bounds_i64 (hwz z (List.mem_of_mem_take hz')), by simp [ints]; omega, fun _ => ⟨x, rfl, fun j u hu => ?_⟩⟩
    have hj : j < n := by
      have := (List.getElem?_eq_some_iff.1 hu).1
      simp [ints] at this; omega
    have hjz : j < zs.length := by omega
    rw [hcell j hjz, ← hu]
    simp [ints, hj, List.getElem?_eq_getElem hjz]
end Go.Proofs.Ytelbmjbjpgcdaaa
