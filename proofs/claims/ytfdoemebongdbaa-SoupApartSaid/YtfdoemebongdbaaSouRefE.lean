/- The document's answer for layer 8: edges, one put between the others. -/
import Derived.Test.YtfdoemebongdbaaSouEdge
import Derived.Test.YtfdoemebongdbaaSouRFit
import Derived.Test.YtfdoemebongdbaaSouEq
import Derived.Test.YtfdoemebongdbaaSouRefA
import Derived.Deep.RegionHeld3
import Derived.Deep.RegionLaw
namespace Go.Proofs.Ytfdoemebongdbaa
open Go.RowKit

/-- A slice cut behind its first p elements of two cells: where it begins. -/
def cutE (A : Option Addr) (c p : Nat) : Option Addr := if c = p then A else A.map (·.add (p * 2))
theorem size_elemE (W : World) : (Go.sizeOf (Try.prog.elem 48)).run Try.prog W = .ok 2 W := by kernel_rfl
theorem run_tailE (A : Option Addr) (N c p m : Nat) (hN : N = p + m) (W : World) :
    (Instr.slice 48 (.slice A N c) (some (.int .i64 (p : Int))) none none).run Try.prog W = .ok (.slice (cutE A c p) m (c - p)) W := by
  rw [run_slice_l (P := Try.prog) W 48 A N c (by kernel_rfl) .i64 (p : Int) (by omega) (by omega), size_elemE]
  have e2 : N - p = m := by omega
  simp [sliced, cutE, e2]
theorem run_headE (A : Option Addr) (N c m : Nat) (h2 : m ≤ c) (W : World) :
    (Instr.slice 48 (.slice A N c) none (some (.int .i64 (m : Int))) none).run Try.prog W = .ok (.slice A m c) W := by
  rw [run_slice_h (P := Try.prog) W 48 A N c (by kernel_rfl) .i64 (m : Int) (by omega) (by omega), size_elemE]
  cases A <;> simp [sliced, Addr.add]
/-- The cells of a slice of edges, flat (nil let in). -/
def FE (w : World) (A : Option Addr) (m c : Nat) (L : List Ed) : Prop := L.length = m ∧ (A = none → c = 0) ∧ (0 < m → ∃ ad, A = some ad ∧ ∀ j u, (ints (flat2 L))[j]? = some u → w.cell? (ad.add j) = some u)
theorem FE.below {w w' : World} {A : Option Addr} {m c : Nat} {L : List Ed} (h : FE w A m c L) (b : Below w.heap.size w w') : FE w' A m c L :=
  ⟨h.1, h.2.1, fun hm => by
    obtain ⟨ad, hA, hc⟩ := h.2.2 hm
    exact ⟨ad, hA, fun j u hj => (b.cell (World.block_lt_of_cell? w _ (hc j u hj))).trans (hc j u hj)⟩⟩
theorem FE.of_own {w : World} {B n c : Nat} {A : Option Addr} {L : List Ed} (h : w.ownsRow B 54 2 (.slice A n c) n (ints (flat2 L))) : FE w A n c L ∧ n ≤ c := by
  have hl : L.length = n := by have := h.1; rw [length_ints, length_flat2] at this; omega
  rcases h.2 with ⟨h1, h2⟩ | ⟨q, cap, cur, h1, hq, hh, hc, hm, hs, ht⟩
  · injection h1 with h1 h3 h4
    subst h1 h3 h4
    exact ⟨⟨hl, fun _ => rfl, fun h => absurd h (by omega)⟩, Nat.le_refl _⟩
  · injection h1 with h1 _ h3
    subst h1 h3
    exact ⟨⟨hl, fun e => (nomatch e), fun _ => ⟨_, rfl, h.cells rfl⟩⟩, hc⟩
theorem FE.head {w : World} {A : Option Addr} {n c : Nat} {L : List Ed} (h : FE w A n c L) (m : Nat) (hm : m ≤ n) : FE w A m c (L.take m) := by
  refine ⟨by rw [List.length_take, h.1]; omega, h.2.1, fun h0 => ?_⟩
  obtain ⟨ad, hA, hc⟩ := h.2.2 (by omega)
  refine ⟨ad, hA, fun j u hj => hc j u ?_⟩
  have e : flat2 L = flat2 (L.take m) ++ flat2 (L.drop m) := by rw [← flat2_append, List.take_append_drop]
  rw [e, ints_append, List.getElem?_append_left (List.getElem?_eq_some_iff.1 hj).1]
  exact hj
theorem FE.tail {w : World} {A : Option Addr} {n c : Nat} {L : List Ed} (h : FE w A n c L) (hc : n ≤ c) (p m : Nat) (hm : n = p + m) : FE w (cutE A c p) m (c - p) (L.drop p) := by
  refine ⟨by rw [List.length_drop, h.1]; omega, fun e => ?_, fun h0 => ?_⟩
  · unfold cutE at e
    by_cases hcp : c = p
    · omega
    · rw [if_neg hcp] at e
      cases A with
      | none => have := h.2.1 rfl; omega
      | some a => cases e
  · obtain ⟨ad, rfl, hcell⟩ := h.2.2 (by omega)
    refine ⟨ad.add (p * 2), by unfold cutE; rw [if_neg (by omega)]; rfl, fun j u hj => ?_⟩
    have e : (ad.add (p * 2)).add j = ad.add (p * 2 + j) := by unfold Addr.add; by_cases h1 : p * 2 = 0 <;> by_cases h2 : j = 0 <;> simp [h1, h2, Nat.add_assoc]
    rw [e]
    refine hcell _ u ?_
    have e : flat2 L = flat2 (L.take p) ++ flat2 (L.drop p) := by rw [← flat2_append, List.take_append_drop]
    have hl : (ints (flat2 (L.take p))).length = p * 2 := by rw [length_ints, length_flat2, List.length_take, h.1]; omega
    rw [e, ints_append, List.getElem?_append_right (by omega), hl]
    rw [show p * 2 + j - p * 2 = j by omega]
    exact hj
theorem own_emptyE (w : World) : (w.alloc (.cells #[] 54)).ownsRow w.heap.size 54 2 (.slice (some ⟨w.heap.size, 0, none⟩) 0 0) 0 (ints (flat2 [])) :=
  ⟨rfl, .inr ⟨w.heap.size, 0, #[], rfl, Nat.le_refl _, heap_alloc_new w _, Nat.le_refl _, by unfold maxLen; omega, rfl, rfl⟩⟩
/-- append of a slice of edges (perhaps of none), at a step of a region that draws its order. -/
theorem stepE {w : World} {B n : Nat} {v : Value} {X : List Ed} (hown : w.ownsRow B 54 2 v n (ints (flat2 X))) {A : Option Addr} {m c : Nat} {Y : List Ed} (hr : FE w A m c Y) {ops : Array Oper} {o : Oper} {a : Act} {K : Act → World → Prop} {Q : Exit → Act → World → Prop} {E : Prop} (hgd : o.guard = none) (s x : Operand)
    (ho : o.op = .call { callee := .builtin .append, args := #[s, x], argTypes := #[48, 48] }) (hs : a.eval s = v) (hx : a.eval x = .slice A m c) (hl : n + m ≤ 1000000) (hB : B ≤ w.heap.size)
    (cont : ∀ A' c' w9, w9.ownsRow B 54 2 (.slice A' (n + m) c') (n + m) (ints (flat2 (X ++ Y))) → w.grownBy w9 v.ownBlock → K (a.put o.dst (.slice A' (n + m) c')) w9) :
    if Region.wanted o (yielded ops a.tmps) = true then Oper.wp Try.prog o a w K Q else E := by
  obtain ⟨i0, hi, hz0, hz1, hz2⟩ := info_parts Try.infoEdge
  have hw : Region.wanted o (yielded ops a.tmps) = true := by simp [Region.wanted, hgd]
  rw [if_pos hw]
  rw [flat2_append, ints_append] at cont
  rcases A with _ | ad
  · have hc : c = 0 := hr.2.1 rfl
    have hm : m = 0 := by
      rcases Nat.eq_zero_or_pos m with h0 | h0
      · exact h0
      · obtain ⟨ad, he, _⟩ := hr.2.2 h0; cases he
    subst hc hm
    have hnil : Y = [] := List.eq_nil_of_length_eq_zero hr.1
    subst hnil
    obtain ⟨A', c', rfl⟩ := ownK_form hown
    have hrun := run_append_owned_none (P := Try.prog) w B 48 o.type 54 i0 2 Try.underlying48 hi (.slice A' n c') n (ints (flat2 X)) hown
    unfold Oper.wp execOp
    simp only [ho, resolve, invoke, builtin, Sem.run_bind, Sem.run_pure, Result.andThen_ok, List.map_toArray, List.map_cons, List.map_nil, hs, hx, hrun]
    exact cont A' c' w (by rw [show ints (flat2 []) = [] from rfl, List.append_nil]; exact hown) (World.grownBy.refl w _)
  · have hcells : ∀ j u, (ints (flat2 Y))[j]? = some u → w.cell? (ad.add j) = some u := by
      intro j u hu
      have hj : j < (ints (flat2 Y)).length := (List.getElem?_eq_some_iff.1 hu).1
      rw [length_ints, length_flat2, hr.1] at hj
      obtain ⟨ad', he, hc⟩ := hr.2.2 (by omega)
      injection he with he
      subst he
      exact hc j u hu
    refine wp_append_own w s x 48 ho B 54 i0 (.agg #[.int .i64 0, .int .i64 0]) 2 16 Try.underlying48 hi hz0 hz1 hz2 rfl (by decide) v n (ints (flat2 X)) hs hown ad m c (ints (flat2 Y)) hx (by rw [length_ints, length_flat2, hr.1]; omega) hcells (ints_one _) (by unfold maxLen; omega) (by omega) hB fun v' w' h2 h3 _ => ?_
    obtain ⟨A', c', rfl⟩ := ownK_form h2
    exact cont A' c' w' h2 h3
/-- One edge in a block of its own. -/
theorem FE.one (w : World) (e : Ed) : FE (w.alloc (.cells #[.int .i64 e.1, .int .i64 e.2] 54)) (some ⟨w.heap.size, 0, none⟩) 1 1 [e] :=
  ⟨rfl, fun h => (nomatch h), fun _ => ⟨_, rfl, cells_of8 (Reads.of_block (xs := [.int .i64 e.1, .int .i64 e.2]) (heap_alloc_new w (.cells #[.int .i64 e.1, .int .i64 e.2] 54))) (by simp)⟩⟩
theorem FE.grown {w w' : World} {q m c : Nat} {L : List Ed} {row : Option Nat} (h : FE w (some ⟨q, 0, none⟩) m c L) (hg : w.grownBy w' row) (hq : some q ≠ row) : FE w' (some ⟨q, 0, none⟩) m c L :=
  ⟨h.1, h.2.1, fun hm => by
    obtain ⟨ad, hA, hc⟩ := h.2.2 hm
    refine ⟨ad, hA, fun j u hj => ?_⟩
    have h1 := hc j u hj
    injection hA with hA
    subst hA
    have hbl : ((⟨q, 0, none⟩ : Addr).add j).block = q := by rw [add_zero_addr]
    have hlt := World.block_lt_of_cell? w _ h1
    rw [hbl] at hlt
    have hh : w'.heap[((⟨q, 0, none⟩ : Addr).add j).block]? = w.heap[((⟨q, 0, none⟩ : Addr).add j).block]? := by rw [hbl]; exact hg.block q hlt hq
    exact (World.cell?_of_block hh).trans h1⟩
/-- The cells of an owned row of edges. -/
theorem edge_at {w : World} {B cv Ln : Nat} {Av : Option Addr} {L : List Ed} (h : w.ownsRow B 54 2 (.slice Av L.length cv) L.length (ints (flat2 L))) (hl : L.length = Ln) (h0 : 0 < Ln) :
    ∃ q, Av = some ⟨q, 0, none⟩ ∧ ∀ p, p < Ln → w.cell? ⟨q, p * 2, none⟩ = some (.int .i64 (L.getD p z2).1) ∧ w.cell? ⟨q, p * 2 + 1, none⟩ = some (.int .i64 (L.getD p z2).2) := by
  subst hl
  rcases h.2 with ⟨_, h2⟩ | ⟨q, cap, cur, h1, _⟩
  · omega
  · injection h1 with h1 _ h3
    subst h1 h3
    refine ⟨q, rfl, fun p hp => ?_⟩
    obtain ⟨a0, a1⟩ := flat2_at L p hp
    rw [h.cellAt _ (by omega), h.cellAt _ (by omega), ints_at, ints_at, Nat.mul_comm p 2, a0, a1]
    exact ⟨rfl, rfl⟩
/-- A side of a triangle, by its number. -/
theorem side_at {w : World} {b off k j j' : Nat} {x0 x1 x2 : Int} (hj : j < 3) (hj' : (j + 1) % 3 = j') (c0 : w.cell? ⟨b, off + k * 3, none⟩ = some (.int .i64 x0)) (c1 : w.cell? ⟨b, off + k * 3 + 1, none⟩ = some (.int .i64 x1)) (c2 : w.cell? ⟨b, off + k * 3 + 2, none⟩ = some (.int .i64 x2)) :
    ∃ xa xb, w.cell? ⟨b, off + k * 3 + j, none⟩ = some (.int .i64 xa) ∧ w.cell? ⟨b, off + k * 3 + j', none⟩ = some (.int .i64 xb) ∧ (sides (x0, x1, x2)).take (j + 1) = (sides (x0, x1, x2)).take j ++ [nrm xa xb] := by
  rcases (show j = 0 ∨ j = 1 ∨ j = 2 by omega) with rfl | rfl | rfl
  · obtain rfl : j' = 1 := by omega
    exact ⟨x0, x1, c0, c1, rfl⟩
  · obtain rfl : j' = 2 := by omega
    exact ⟨x1, x2, c1, c2, rfl⟩
  · obtain rfl : j' = 0 := by omega
    exact ⟨x2, x0, c2, c0, rfl⟩
/-- What is put in between. -/
theorem ins_asc {L : List Ed} {e : Ed} {p : Nat} (h : L.Pairwise ltE) (hp : p ≤ L.length) (hb : ∀ j, j < p → ltE (L.getD j z2) e) (ha : p < L.length → ltE e (L.getD p z2)) : (L.take p ++ e :: L.drop p).Pairwise ltE := by
  have hL := h
  rw [← List.take_append_drop p L, List.pairwise_append] at hL
  have hbe : ∀ x ∈ L.take p, ltE x e := by
    intro x hx
    obtain ⟨i, hi, rfl⟩ := List.mem_iff_getElem.1 hx
    rw [List.length_take] at hi
    have := hb i (by omega)
    rw [List.getD_eq_getElem?_getD, List.getElem?_eq_getElem (by omega)] at this
    simpa using this
  have hea : ∀ x ∈ L.drop p, ltE e x := by
    intro x hx
    obtain ⟨i, hi, rfl⟩ := List.mem_iff_getElem.1 hx
    rw [List.length_drop] at hi
    have h1 := ha (by omega)
    rw [List.getD_eq_getElem?_getD, List.getElem?_eq_getElem (show p < L.length by omega)] at h1
    simp only [Option.getD_some] at h1
    rw [List.getElem_drop]
    rcases Nat.eq_zero_or_pos i with rfl | h0
    · simpa using h1
    · exact ltE_trans h1 (List.pairwise_iff_getElem.1 h p (p + i) (by omega) (by omega) (by omega))
  rw [List.pairwise_append]
  refine ⟨hL.1, List.pairwise_cons.2 ⟨hea, hL.2.1⟩, fun a ha' b hb' => ?_⟩
  rcases List.mem_cons.1 hb' with rfl | hb'
  · exact hbe a ha'
  · exact hL.2.2 a ha' b hb'
theorem ins_mem (L : List Ed) (e x : Ed) (p : Nat) : x ∈ L.take p ++ e :: L.drop p ↔ x ∈ L ∨ x = e := by
  have : x ∈ L ↔ x ∈ L.take p ∨ x ∈ L.drop p := by rw [← List.mem_append, List.take_append_drop]
  rw [this, List.mem_append, List.mem_cons]
  constructor
  · rintro (h | h | h)
    · exact .inl (.inl h)
    · exact .inr h
    · exact .inl (.inr h)
  · rintro ((h | h) | h)
    · exact .inl h
    · exact .inr (.inr h)
    · exact .inr (.inl h)
end Go.Proofs.Ytfdoemebongdbaa
