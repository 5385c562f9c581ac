/- Arguments, opened: a slice of slices of bytes that came in. -/
import Derived.Test.YtofchndeafobaaaBts
import Derived.Deep.Matrix
import Derived.SizedLaws
namespace Go.Proofs.Ytofchndeafobaaa
open Go.RowKit Go.ChangeShapes Go.WideShapes Go.ChangeAt

/-- A slice of slices of bytes that reads so (nil let in, outside and inside). -/
def BRows (w : World) (A : Option Addr) (n : Nat) (rs : List (List Nat)) : Prop :=
  rs.length = n ∧ (0 < n → ∃ ad, A = some ad ∧ ∀ i, i < n → ∃ Ai ci, w.cell? (ad.add i) = some (.slice Ai (rs.getD i []).length ci) ∧ (Ai = none → ci = 0) ∧ (rs.getD i []).length ≤ 140737488351232 ∧ Reads w Ai (rs.getD i []).length (bts (rs.getD i [])))
theorem BRows.below {w w' : World} {A : Option Addr} {n : Nat} {rs : List (List Nat)} (h : BRows w A n rs) (hb : Below w.heap.size w w') : BRows w' A n rs :=
  ⟨h.1, fun hn => by
    obtain ⟨ad, hA, hc⟩ := h.2 hn
    refine ⟨ad, hA, fun i hi => ?_⟩
    obtain ⟨Ai, ci, h1, h2, h3, h4⟩ := hc i hi
    exact ⟨Ai, ci, (hb.cell (World.block_lt_of_cell? w _ h1)).trans h1, h2, h3, h4.below hb⟩⟩

theorem weights_all {H : Type} {P : Program} {e : TypeId} {d : DataW H} : ∀ {l : List (DataW H)}, d ∈ l → ∀ x ∈ d.weights P e, x ∈ DataW.weightsAll P e l
  | d0 :: l, h, x, hx => by
    rw [DataW.weightsAll, List.mem_append]
    rcases List.mem_cons.1 h with h | h
    · subst h; exact .inl hx
    · exact .inr (weights_all h x hx)
theorem arg_rows {H : Type} {enc : TypeId × Value → H} {W : World} {a : Option Addr} {n c : Nat} {d : DataW H} {p : List MemPlace}
    (h : DataW.Trod enc Try.prog W 0 (fun _ => true) true 29 (.slice a n c) d p) (hz : ∀ x ∈ d.weights Try.prog 29, x ≤ reachBytes) : ((a = none → c = 0) ∧ n ≤ c) ∧ ∃ rs : List (List Nat), (∀ r ∈ rs, Dig r) ∧ BRows W a n rs := by
  obtain ⟨fuel, hf⟩ := h
  rcases Deep.open_int_rows Try.underlying29 Try.underlying22 Try.underlying5 (by kernel_rfl) (by kernel_rfl) hf with ⟨hcs, _⟩ | ⟨x, len, cap, Ad, L, C, Z, hcs, _, hl, _, hdp, hx⟩
  · simp [Value.cells] at hcs
    obtain ⟨rfl, rfl, rfl⟩ := hcs
    exact ⟨⟨fun _ => rfl, Nat.le_refl _⟩, [], by simp, rfl, fun h => absurd h (by omega)⟩
  · simp [Value.cells] at hcs
    obtain ⟨rfl, rfl, rfl⟩ := hcs
    have hd : d = _ := congrArg Prod.fst hdp
    have hbb : Try.prog.bytesOf 5 = 1 := by kernel_rfl
    have hw : ∀ i, i < n → L i ≤ 140737488351232 := fun i hi => by
      obtain ⟨_, h2, _, h4, _, h6, _⟩ := hx i (by omega)
      cases hA : Ad i with
      | none => have := h6 hA; omega
      | some a' =>
        have h0 : (Z i).length * 1 ∈ (Deep.intRow (H := H) .u8 (Ad i) (L i) (Z i)).weights Try.prog 22 := by
          rw [hA]
          simp only [Deep.intRow, DataW.weights, Try.underlying22, hbb]
          refine List.mem_cons.2 (.inl ?_)
          simp [lits]
          omega
        have h1 : (Z i).length * 1 ∈ d.weights Try.prog 29 := by
          rw [hd]
          simp only [DataW.weights, Try.underlying29]
          refine List.mem_cons.2 (.inr (List.mem_append.2 (.inl (weights_all (List.mem_map.2 ⟨i, List.mem_range.2 hi, rfl⟩) _ h0))))
        have := hz _ h1
        unfold reachBytes at this
        omega
    have gd : ∀ i, i < n → ((List.range n).map fun r => ((Z r).take (L r)).map Int.toNat).getD i [] = ((Z i).take (L i)).map Int.toNat := fun i hi => by
      simp [List.getD_eq_getElem?_getD, hi]
    have ll : ∀ i, i < n → (((Z i).take (L i)).map Int.toNat).length = L i := fun i hi => by
      obtain ⟨_, h2, _, h4, _⟩ := hx i (by omega)
      simp; omega
    have hb : ∀ i, i < n → ∀ z ∈ Z i, 0 ≤ z ∧ z ≤ 255 := fun i hi z hz => bounds_u8 ((hx i (by omega)).2.2.2.2.1 z hz)
    refine ⟨⟨fun e => by simp at e, hl⟩, (List.range n).map fun r => ((Z r).take (L r)).map Int.toNat, ?_, by simp, fun _ => ⟨x, rfl, fun i hi => ?_⟩⟩
    · intro r hr y hy
      simp only [List.mem_map, List.mem_range] at hr
      obtain ⟨i, hi, rfl⟩ := hr
      simp only [List.mem_map] at hy
      obtain ⟨z, hz, rfl⟩ := hy
      have := hb i hi z (List.mem_of_mem_take hz)
      omega
    · rw [gd i hi, ll i hi]
      obtain ⟨h1, h2, _, h4, _, h6, h7⟩ := hx i (by omega)
      refine ⟨Ad i, C i, h1, h6, hw i hi, by rw [length_bts, ll i hi], fun h0 => ?_⟩
      cases hA : Ad i with
      | none => exact absurd (h6 hA) (by omega)
      | some a' =>
        refine ⟨a', rfl, fun j u hu => ?_⟩
        have hj : j < L i := by
          have := (List.getElem?_eq_some_iff.1 hu).1
          rw [length_bts, ll i hi] at this; exact this
        have hjz : j < (Z i).length := by omega
        have hz0 := hb i hi (Z i)[j] (List.getElem_mem hjz)
        rw [(h7 a' hA).2 j (by omega)]
        simp only [bts, List.getElem?_map, List.getElem?_take, if_pos hj, List.getElem?_eq_getElem hjz, Option.map_some, Option.some.injEq] at hu
        rw [← hu]
        simp [List.getElem?_eq_getElem hjz]
        omega
end Go.Proofs.Ytofchndeafobaaa
