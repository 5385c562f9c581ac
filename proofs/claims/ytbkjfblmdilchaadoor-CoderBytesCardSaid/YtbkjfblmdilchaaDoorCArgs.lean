/- Arguments, opened: bytes, bools, steps. -/
import Derived.Test.YtbkjfblmdilchaaDoorCRight
import Derived.Test.YtbkjfblmdilchaaDoorArgInts
import Derived.Deep.SlicePairs
import Derived.Deep.Grids
import Derived.ProofKit
import Derived.OpenShut
import Derived.ShutString
import Derived.ChangeOld
namespace Go.Proofs.YtbkjfblmdilchaaDoor
open Go.ChangeShapes Go.WideShapes Go.ChangeAt Go.RowKit

theorem arg_bytes4 {H : Type} {enc : TypeId × Value → H} {W : World} {a : Option Addr} {n c : Nat} {d : DataW H} {p : List MemPlace}
    (h : DataW.Trod enc Tryd.prog W 0 (fun _ => true) true 39 (.slice a n c) d p) : ((a = none → c = 0) ∧ n ≤ c) ∧ ∃ xs : List Nat, Dig xs ∧ Reads W a n (bts xs) := by
  obtain ⟨fuel, hf⟩ := h
  rcases open_ints Tryd.underlying39 Tryd.underlying5 (by kernel_rfl) hf with ⟨hcs, _⟩ | ⟨x, l, c', zs, hcs, _, hl, _, hz, _, hcell, hwz⟩
  · simp [Value.cells] at hcs
    obtain ⟨rfl, rfl, rfl⟩ := hcs
    exact ⟨⟨fun _ => rfl, Nat.le_refl _⟩, [], by simp [Dig], rfl, fun h => absurd h (by omega)⟩
  · simp [Value.cells] at hcs
    obtain ⟨rfl, rfl, rfl⟩ := hcs
    have hzl : zs.length = c := by simpa using hz
    have hb : ∀ z ∈ zs, 0 ≤ z ∧ z ≤ 255 := fun z hz' => bounds_u8 (hwz z hz')
    have hlen : ((zs.take n).map Int.toNat).length = n := by simp; omega
    refine ⟨⟨fun e => by simp at e, hl⟩, (zs.take n).map Int.toNat, ?_, by rw [length_bts]; exact hlen, fun _ => ⟨x, rfl, ?_⟩⟩
    · intro y hy
      simp only [List.mem_map] at hy
      obtain ⟨z, hz', rfl⟩ := hy
      have := hb z (List.mem_of_mem_take hz')
      omega
    · intro j u hu
      have hj : j < n := by
        have := (List.getElem?_eq_some_iff.1 hu).1
        rw [length_bts, hlen] at this; exact this
      have hjz : j < zs.length := by omega
      have hz0 := hb zs[j] (List.getElem_mem hjz)
      rw [hcell j hjz]
      simp only [bts, List.getElem?_map, List.getElem?_take, if_pos hj, List.getElem?_eq_getElem hjz, Option.map_some, Option.some.injEq] at hu
      rw [← hu]
      simp [List.getElem?_eq_getElem hjz]
      omega

theorem cells_ints {H : Type} {enc : TypeId × Value → H} {W : World} {fuel : Nat} {v : Value} {x : DataW H × List MemPlace}
    (hf : DataW.trod enc Tryd.prog W 0 (fun _ => true) true fuel 27 [v] = some x) : ∃ a n c, v = .slice a n c ∧ ((a = none → c = 0) ∧ n ≤ c) ∧ ∃ xs : List Int, Reads W a n (ints xs) := by
  rcases open_ints Tryd.underlying27 Tryd.underlying3 (by kernel_rfl) hf with ⟨hcs, _⟩ | ⟨x, l, c', zs, hcs, _, hl, _, hz, _, hcell, hwz⟩
  · simp at hcs
    subst hcs
    exact ⟨_, _, _, rfl, ⟨fun _ => rfl, Nat.le_refl _⟩, [], rfl, fun h => absurd h (by omega)⟩
  · simp at hcs
    subst hcs
    have hzl : zs.length = c' := by simpa using hz
    refine ⟨_, _, _, rfl, ⟨fun e => by simp at e, hl⟩, zs.take l, by simp [ints]; omega, fun _ => ⟨x, rfl, fun j u hu => ?_⟩⟩
    have hj : j < l := by
      have := (List.getElem?_eq_some_iff.1 hu).1
      simp [ints] at this; omega
    have hjz : j < zs.length := by omega
    rw [hcell j hjz, ← hu]
    simp [ints, hj, List.getElem?_eq_getElem hjz]

theorem arg_steps {H : Type} {enc : TypeId × Value → H} {W : World} {a : Option Addr} {n c : Nat} {d : DataW H} {p : List MemPlace}
    (h : DataW.Trod enc Tryd.prog W 0 (fun _ => true) true 22 (.slice a n c) d p) : ∃ l : List (List Int × Int), Steps W a n l := by
  obtain ⟨fuel, hf⟩ := h
  rcases Deep.open_slice_pairs Tryd.underlying22 Tryd.underlying36 (by kernel_rfl) rfl rfl (by kernel_rfl) (by kernel_rfl) hf with ⟨hcs, _⟩ | ⟨x, len, cap, m, fu, V0, V1, D0, D1, P0, P1, hcs, _, hl, hm, hmm, _, hx⟩
  · simp [Value.cells] at hcs
    obtain ⟨rfl, rfl, rfl⟩ := hcs
    exact ⟨[], rfl, fun h => absurd h (by omega)⟩
  · simp [Value.cells] at hcs
    obtain ⟨rfl, rfl, rfl⟩ := hcs
    have hmn : n ≤ m := by rw [hmm]; simp; exact hl
    have key : ∀ i, i < n → ∃ q : List Int × Int, ∃ Ai ni ci, W.cell? (x.add (i * 2)) = some (.slice Ai ni ci) ∧ W.cell? (x.add (i * 2 + 1)) = some (.int .i64 q.2) ∧ Reads W Ai ni (ints q.1) := by
      intro i hi
      obtain ⟨c0, c1, t0, t1⟩ := hx i (by omega)
      obtain ⟨z1, e1, _, _⟩ := DataW.trod_int Tryd.underlying3 t1
      simp at e1
      obtain ⟨Ai, ni, ci, hv, _, xs, hr⟩ := cells_ints t0
      rw [e1] at c1
      rw [hv] at c0
      exact ⟨(xs, z1), Ai, ni, ci, c0, c1, hr⟩
    obtain ⟨q, hq⟩ := Classical.axiomOfChoice (fun i : Fin n => key i.1 i.2)
    refine ⟨List.ofFn q, by simp, fun hn => ?_⟩
    obtain ⟨b, off, spot⟩ := x
    obtain ⟨_, _, _, c00, _⟩ := hq ⟨0, hn⟩
    have hspot : spot = none := by simpa [Addr.add] using World.cell?_spot c00
    subst hspot
    have ea : ∀ j, (⟨b, off, none⟩ : Addr).add j = ⟨b, off + j, none⟩ := fun j => by unfold Addr.add; split <;> simp_all
    refine ⟨b, off, rfl, fun i y hy => ?_⟩
    have hi : i < n := by
      have := (List.getElem?_eq_some_iff.1 hy).1
      simpa using this
    have hy2 : q ⟨i, hi⟩ = y := by
      rw [List.getElem?_ofFn] at hy
      simpa [hi] using hy
    obtain ⟨Ai, ni, ci, c0, c1, hr⟩ := hq ⟨i, hi⟩
    rw [hy2] at c1 hr
    rw [ea] at c0 c1
    exact ⟨Ai, ni, ci, c0, by rw [Nat.add_assoc]; exact c1, hr⟩

/-- A slice of bools that reads so. -/
def Bools (w : World) (A : Option Addr) (n : Nat) (f : Nat → Bool) : Prop := 0 < n → ∃ ad, A = some ad ∧ ∀ i, i < n → w.cell? (ad.add i) = some (.bool (f i))
theorem Bools.below {w w' : World} {A : Option Addr} {n : Nat} {f : Nat → Bool} (h : Bools w A n f) (hb : Below w.heap.size w w') : Bools w' A n f := fun hn => by
  obtain ⟨ad, hA, hc⟩ := h hn
  exact ⟨ad, hA, fun i hi => (hb.cell (World.block_lt_of_cell? w _ (hc i hi))).trans (hc i hi)⟩
theorem arg_bools {H : Type} {enc : TypeId × Value → H} {W : World} {a : Option Addr} {n c : Nat} {d : DataW H} {p : List MemPlace}
    (h : DataW.Trod enc Tryd.prog W 0 (fun _ => true) true 52 (.slice a n c) d p) : ∃ f : Nat → Bool, Bools W a n f := by
  obtain ⟨fuel, hf⟩ := h
  rcases Deep.open_bools Tryd.underlying52 Tryd.underlying4 (by kernel_rfl) hf with ⟨hcs, _⟩ | ⟨x, l, c', B, hcs, _, hl, _, _, hcell⟩
  · simp [Value.cells] at hcs
    obtain ⟨rfl, rfl, rfl⟩ := hcs
    exact ⟨fun _ => false, fun h => absurd h (by omega)⟩
  · simp [Value.cells] at hcs
    obtain ⟨rfl, rfl, rfl⟩ := hcs
    exact ⟨B, fun _ => ⟨x, rfl, fun i hi => hcell i (by omega)⟩⟩
set_option maxRecDepth 100000 in
theorem arg_step {H : Type} {enc : TypeId × Value → H} {W : World} {v : Value} {d : DataW H} {p : List MemPlace} {base : Nat} (hv : Value.okWide Tryd.prog W .any base 36 v)
    (h : DataW.Trod enc Tryd.prog W 0 (fun _ => true) true 36 v d p) : ∃ A n c s, ∃ l : List Int, v = .agg #[.slice A n c, .int .i64 s] ∧ -9223372036854775808 ≤ s ∧ s ≤ 9223372036854775807 ∧ Reads W A n (ints l) := by
  obtain ⟨cs, rfl, hsz⟩ := okWide_struct Tryd.underlying36 hv
  obtain ⟨fuel, hf⟩ := h
  obtain ⟨y0, y1, m, _, hl, h0, h1⟩ := trod_struct2 Tryd.underlying36 hf
  have hc2 : Tryd.prog.cellsOf 36 = 2 := by kernel_rfl
  have hc0 : Tryd.prog.cellsOf 27 = 1 := by kernel_rfl
  have hc1 : Tryd.prog.cellsOf 3 = 1 := by kernel_rfl
  rw [hc2] at hsz
  obtain ⟨cs⟩ := cs
  match cs, hsz with
  | [u0, u1], _ =>
    have h0' : DataW.trod enc Tryd.prog W 0 (fun _ => true) true m 27 [u0] = some y0 := by
      have h := h0
      simp only [Value.cells, hc0] at h
      exact h
    have h1' : DataW.trod enc Tryd.prog W 0 (fun _ => true) true m 3 [u1] = some y1 := by
      have h := h1
      simp only [Value.cells, hc1] at h
      exact h
    obtain ⟨A, n, c, hA, _, l, hr⟩ := cells_ints h0'
    obtain ⟨z, hz, _, hb⟩ := DataW.trod_int Tryd.underlying3 h1'
    simp at hz
    have hbd := bounds_i64 hb
    subst hA hz
    exact ⟨A, n, c, z, l, rfl, hbd.1, hbd.2, hr⟩
end Go.Proofs.YtbkjfblmdilchaaDoor
