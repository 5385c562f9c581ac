/- Arguments, opened: a slice of bytes that came in. -/
import Derived.Test.YtngambkbpdjddaaBase
import Derived.Test.YtngambkbpdjddaaBts
namespace Go.Proofs.Ytngambkbpdjddaa
open Go.RowKit Go.ChangeShapes Go.WideShapes Go.ChangeAt

theorem arg_bytes4 {H : Type} {enc : TypeId × Value → H} {W : World} {a : Option Addr} {n c : Nat} {d : DataW H} {p : List MemPlace}
    (h : DataW.Trod enc Try.prog W 0 (fun _ => true) true 25 (.slice a n c) d p) : ((a = none → c = 0) ∧ n ≤ c) ∧ ∃ xs : List Nat, Dig xs ∧ Reads W a n (bts xs) := by
  obtain ⟨fuel, hf⟩ := h
  rcases open_ints Try.underlying25 Try.underlying5 (by kernel_rfl) hf with ⟨hcs, _⟩ | ⟨x, l, c', zs, hcs, _, hl, _, hz, _, hcell, hwz⟩
  · simp [Value.cells] at hcs
    obtain ⟨rfl, rfl, rfl⟩ := hcs
    exact ⟨⟨fun _ => rfl, Nat.le_refl _⟩, [], by simp [Dig], rfl, fun h => absurd h (by omega)⟩
  · simp [Value.cells] at hcs
    obtain ⟨rfl, rfl, rfl⟩ := hcs
    have hzl : zs.length = c := by simpa using hz
    have hb : ∀ z ∈ zs, 0 ≤ z ∧ z ≤ 255 := fun z hz' => bounds_u8 (hwz z hz')
    have hlen : ((zs.take n).map Int.toNat).length = n := by simp; omega
    refine ⟨⟨fun e => by simp at e, hl⟩, (zs.take n).map Int.toNat, ?_, by rw [length_bts]; exact hlen, fun _ => ⟨x, rfl, ?_⟩⟩
    · intro y hy
      simp only [List.mem_map] at hy
      obtain ⟨z, hz', rfl⟩ := hy
      have := hb z (List.mem_of_mem_take hz')
      omega
    · intro j u hu
      have hj : j < n := by
        have := (List.getElem?_eq_some_iff.1 hu).1
        rw [length_bts, hlen] at this; exact this
      have hjz : j < zs.length := by omega
      have hz0 := hb zs[j] (List.getElem_mem hjz)
      rw [hcell j hjz]
      simp only [bts, List.getElem?_map, List.getElem?_take, if_pos hj, List.getElem?_eq_getElem hjz, Option.map_some, Option.some.injEq] at hu
      rw [← hu]
      simp [List.getElem?_eq_getElem hjz]
      omega
end Go.Proofs.Ytngambkbpdjddaa
