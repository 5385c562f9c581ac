/- Arguments, opened: slices of uint32 and of uint16. -/
import Derived.Test.YtdlblpmjghjhlaaArgsB
namespace Go.Proofs.Ytdlblpmjghjhlaa
open Go.ChangeShapes Go.WideShapes Go.ChangeAt Go.RowKit

def nums (k : IntKind) (xs : List Nat) : List Value := xs.map fun (n : Nat) => Value.int k (n : Int)
theorem length_nums (k : IntKind) (xs : List Nat) : (nums k xs).length = xs.length := by simp [nums]

theorem arg_u32s {H : Type} {enc : TypeId × Value → H} {W : World} {a : Option Addr} {n c : Nat} {d : DataW H} {p : List MemPlace}
    (h : DataW.Trod enc Try.prog W 0 (fun _ => true) true 51 (.slice a n c) d p) : (a = none → c = 0) ∧ ∃ xs : List Nat, (∀ x ∈ xs, x ≤ 4294967295) ∧ Reads W a n (nums .u32 xs) := by
  obtain ⟨fuel, hf⟩ := h
  rcases open_ints Try.underlying51 Try.underlying53 (by kernel_rfl) hf with ⟨hcs, _⟩ | ⟨x, l, c', zs, hcs, _, hl, _, hz, _, hcell, hwz⟩
  · simp [Value.cells] at hcs
    obtain ⟨rfl, rfl, rfl⟩ := hcs
    exact ⟨fun _ => rfl, [], by simp, rfl, fun h => absurd h (by omega)⟩
  · simp [Value.cells] at hcs
    obtain ⟨rfl, rfl, rfl⟩ := hcs
    have hzl : zs.length = c := by simpa using hz
    have hb : ∀ z ∈ zs, 0 ≤ z ∧ z ≤ 4294967295 := fun z hz' => bounds_u32 (hwz z hz')
    have hlen : ((zs.take n).map Int.toNat).length = n := by simp; omega
    refine ⟨fun e => by simp at e, (zs.take n).map Int.toNat, ?_, by rw [length_nums]; exact hlen, fun _ => ⟨x, rfl, ?_⟩⟩
    · intro y hy
      simp only [List.mem_map] at hy
      obtain ⟨z, hz', rfl⟩ := hy
      have := hb z (List.mem_of_mem_take hz')
      omega
    · intro j u hu
      have hj : j < n := by
        have := (List.getElem?_eq_some_iff.1 hu).1
        rw [length_nums, hlen] at this; exact this
      have hjz : j < zs.length := by omega
      have hz0 := hb zs[j] (List.getElem_mem hjz)
      rw [hcell j hjz]
      simp only [nums, List.getElem?_map, List.getElem?_take, if_pos hj, List.getElem?_eq_getElem hjz, Option.map_some, Option.some.injEq] at hu
      rw [← hu]
      simp [List.getElem?_eq_getElem hjz]
      omega

theorem arg_u16s {H : Type} {enc : TypeId × Value → H} {W : World} {a : Option Addr} {n c : Nat} {d : DataW H} {p : List MemPlace}
    (h : DataW.Trod enc Try.prog W 0 (fun _ => true) true 52 (.slice a n c) d p) : (a = none → c = 0) ∧ ∃ xs : List Nat, (∀ x ∈ xs, x ≤ 65535) ∧ Reads W a n (nums .u16 xs) := by
  obtain ⟨fuel, hf⟩ := h
  rcases open_ints Try.underlying52 Try.underlying54 (by kernel_rfl) hf with ⟨hcs, _⟩ | ⟨x, l, c', zs, hcs, _, hl, _, hz, _, hcell, hwz⟩
  · simp [Value.cells] at hcs
    obtain ⟨rfl, rfl, rfl⟩ := hcs
    exact ⟨fun _ => rfl, [], by simp, rfl, fun h => absurd h (by omega)⟩
  · simp [Value.cells] at hcs
    obtain ⟨rfl, rfl, rfl⟩ := hcs
    have hzl : zs.length = c := by simpa using hz
    have hb : ∀ z ∈ zs, 0 ≤ z ∧ z ≤ 65535 := fun z hz' => bounds_u16 (hwz z hz')
    have hlen : ((zs.take n).map Int.toNat).length = n := by simp; omega
    refine ⟨fun e => by simp at e, (zs.take n).map Int.toNat, ?_, by rw [length_nums]; exact hlen, fun _ => ⟨x, rfl, ?_⟩⟩
    · intro y hy
      simp only [List.mem_map] at hy
      obtain ⟨z, hz', rfl⟩ := hy
      have := hb z (List.mem_of_mem_take hz')
      omega
    · intro j u hu
      have hj : j < n := by
        have := (List.getElem?_eq_some_iff.1 hu).1
        rw [length_nums, hlen] at this; exact this
      have hjz : j < zs.length := by omega
      have hz0 := hb zs[j] (List.getElem_mem hjz)
      rw [hcell j hjz]
      simp only [nums, List.getElem?_map, List.getElem?_take, if_pos hj, List.getElem?_eq_getElem hjz, Option.map_some, Option.some.injEq] at hu
      rw [← hu]
      simp [List.getElem?_eq_getElem hjz]
      omega
end Go.Proofs.Ytdlblpmjghjhlaa
