/- Layer 12: rows of rows of numbers in memory: read, and put together by append; edges told; a row of edges put together. -/
import Derived.Test.YtmflacmgffpjoaaGM
import Derived.Test.YtmflacmgffpjoaaE2Own
import Derived.Deep.RegionHeld3
namespace Go.Proofs.Ytmflacmgffpjoaa
open Go.RowKit

/-- A slice of slices of numbers that reads so. -/
def RowsI (w : World) (A : Option Addr) (n : Nat) (LL : List (List Int)) : Prop :=
  LL.length = n ∧ (0 < n → ∃ ad, A = some ad ∧ ∀ i, i < n → ∃ Ai ci, w.cell? (ad.add i) = some (.slice Ai (LL.getD i []).length ci) ∧ Reads w Ai (LL.getD i []).length (ints (LL.getD i [])))
theorem RowsI.below {w w' : World} {A : Option Addr} {n : Nat} {LL : List (List Int)} (h : RowsI w A n LL) (hb : Below w.heap.size w w') : RowsI w' A n LL := by
  refine ⟨h.1, fun hn => ?_⟩
  obtain ⟨ad, hA, hc⟩ := h.2 hn
  refine ⟨ad, hA, fun i hi => ?_⟩
  obtain ⟨Ai, ci, h1, h2⟩ := hc i hi
  exact ⟨Ai, ci, (hb.cell (World.block_lt_of_cell? _ _ h1)).trans h1, h2.below hb⟩
theorem RowsI.nil (w : World) (A : Option Addr) : RowsI w A 0 [] := ⟨rfl, fun h => absurd h (by omega)⟩
/-- A row of rows of its own: being filled by append. -/
def RowsOwn (w : World) (B : Nat) (v : Value) (LL : List (List Int)) : Prop :=
  ∃ vs : List Value, vs.length = LL.length ∧ w.ownsRow B 40 1 v LL.length vs ∧ ∀ i, i < LL.length → w.ownsRow B 3 1 (vs.getD i (.slice none 0 0)) (LL.getD i []).length (ints (LL.getD i []))
theorem RowsOwn.nil (w : World) (B : Nat) : RowsOwn w B (.slice none 0 0) [] := ⟨[], rfl, World.ownsRow_nil _ _ _ _, fun i hi => absurd hi (by simp)⟩
theorem RowsOwn.up {w w' : World} {B : Nat} {v : Value} {LL : List (List Int)} (h : RowsOwn w B v LL) (b : Below w.heap.size w w') : RowsOwn w' B v LL := by
  obtain ⟨vs, h1, h2, h3⟩ := h
  exact ⟨vs, h1, ownK_up h2 b, fun i hi => ownK_up (h3 i hi) b⟩
theorem RowsOwn.base {w : World} {B C : Nat} {v : Value} {LL : List (List Int)} (h : RowsOwn w B v LL) (hC : C ≤ B) : RowsOwn w C v LL := by
  obtain ⟨vs, h1, h2, h3⟩ := h
  exact ⟨vs, h1, ownK_base h2 hC, fun i hi => ownK_base (h3 i hi) hC⟩
theorem RowsOwn.form {w : World} {B : Nat} {v : Value} {LL : List (List Int)} (h : RowsOwn w B v LL) : ∃ A c, v = .slice A LL.length c := by
  obtain ⟨vs, h1, h2, h3⟩ := h
  exact ownK_form h2
theorem getDv_app {vs : List Value} {x z : Value} {i : Nat} : (vs ++ [x]).getD i z = if i < vs.length then vs.getD i z else if i = vs.length then x else z := by
  rw [List.getD_eq_getElem?_getD, List.getD_eq_getElem?_getD]
  by_cases h : i < vs.length
  · rw [if_pos h, List.getElem?_append_left h]
  · rw [if_neg h, List.getElem?_append_right (by omega)]
    by_cases e : i = vs.length
    · rw [if_pos e, e]; simp
    · rw [if_neg e, List.getElem?_eq_none (by simp; omega)]; rfl
theorem getDl_app {vs : List (List Int)} {x : List Int} {i : Nat} : (vs ++ [x]).getD i [] = if i < vs.length then vs.getD i [] else if i = vs.length then x else [] := by
  rw [List.getD_eq_getElem?_getD, List.getD_eq_getElem?_getD]
  by_cases h : i < vs.length
  · rw [if_pos h, List.getElem?_append_left h]
  · rw [if_neg h, List.getElem?_append_right (by omega)]
    by_cases e : i = vs.length
    · rw [if_pos e, e]; simp
    · rw [if_neg e, List.getElem?_eq_none (by simp; omega)]; rfl
theorem own_neS {w : World} {B C n m s r : Nat} {v u : Value} {xs ys : List Value} {t t' : TypeId} (h : w.ownsRow B t s v n xs) (k : w.ownsRow C t' r u m ys) (ht : t ≠ t') : v.ownBlock = none ∨ v.ownBlock ≠ u.ownBlock := by
  rcases h.2 with ⟨h1, _⟩ | ⟨q, cap, cur, rfl, _, hq, _⟩
  · exact .inl (by rw [h1]; rfl)
  · rcases k.2 with ⟨k1, _⟩ | ⟨p, cap', cur', rfl, _, hp, _⟩
    · exact .inr (by rw [k1]; simp [Value.ownBlock])
    · refine .inr fun e => ?_
      have e' : q = p := by simpa [Value.ownBlock] using e
      subst e'
      rw [hq] at hp
      injection hp with hp
      injection hp with _ hp _
      exact ht hp
theorem rows_add {w w9 : World} {B : Nat} {v v' x : Value} {LL : List (List Int)} {vs : List Value} {xs : List Int} (hl : vs.length = LL.length) (ho : w.ownsRow B 40 1 v LL.length vs) (hr : ∀ i, i < LL.length → w.ownsRow B 3 1 (vs.getD i (.slice none 0 0)) (LL.getD i []).length (ints (LL.getD i [])))
    (hx : w.ownsRow B 3 1 x xs.length (ints xs)) (gr : w.grownBy w9 v.ownBlock) (own9 : w9.ownsRow B 40 1 v' (LL.length + 1) (vs ++ [x])) : RowsOwn w9 B v' (LL ++ [xs]) := by
  have kp : ∀ {y : Value} {ys : List Int}, w.ownsRow B 3 1 y ys.length (ints ys) → w9.ownsRow B 3 1 y ys.length (ints ys) := fun h => h.kept gr (own_neS h ho (by decide))
  refine ⟨vs ++ [x], by simp [hl], by rw [List.length_append]; exact own9, fun i hi => ?_⟩
  rw [List.length_append, List.length_singleton] at hi
  rw [getDv_app, getDl_app, hl]
  by_cases h : i < LL.length
  · rw [if_pos h, if_pos h]; exact kp (hr i h)
  · rw [if_neg h, if_neg h, if_pos (by omega), if_pos (by omega)]; exact kp hx
/-- Rows that read so, all of it in blocks from B on. -/
def RowsB (w : World) (B : Nat) (A : Option Addr) (n : Nat) (LL : List (List Int)) : Prop :=
  LL.length = n ∧ (0 < n → ∃ ad, A = some ad ∧ B ≤ ad.block ∧ ∀ i, i < n → ∃ Ai ci, w.cell? (ad.add i) = some (.slice Ai (LL.getD i []).length ci) ∧ Reads w Ai (LL.getD i []).length (ints (LL.getD i [])) ∧ ∀ a, Ai = some a → B ≤ a.block)
theorem RowsB.rows {w : World} {B n : Nat} {A : Option Addr} {LL : List (List Int)} (h : RowsB w B A n LL) : RowsI w A n LL := by
  refine ⟨h.1, fun hn => ?_⟩
  obtain ⟨ad, hA, _, hc⟩ := h.2 hn
  exact ⟨ad, hA, fun i hi => by obtain ⟨Ai, ci, h1, h2, _⟩ := hc i hi; exact ⟨Ai, ci, h1, h2⟩⟩
theorem RowsB.nil (w : World) (B : Nat) (A : Option Addr) : RowsB w B A 0 [] := ⟨rfl, fun h => absurd h (by omega)⟩
theorem block_add (a : Addr) (k : Nat) : (a.add k).block = a.block := by unfold Addr.add; split <;> rfl
/-- What changes below B leaves them. -/
theorem RowsB.keep {w w' : World} {B n : Nat} {A : Option Addr} {LL : List (List Int)} (h : RowsB w B A n LL) (hk : ∀ b, B ≤ b → b < w.heap.size → w'.heap[b]? = w.heap[b]?) : RowsB w' B A n LL := by
  have kc : ∀ {p : Addr} {v : Value}, B ≤ p.block → w.cell? p = some v → w'.cell? p = some v := fun {p v} hb hc => by
    have e := hk p.block hb (World.block_lt_of_cell? w p hc)
    rw [← hc]
    simp only [World.cell?, e]
  refine ⟨h.1, fun hn => ?_⟩
  obtain ⟨ad, hA, hB, hc⟩ := h.2 hn
  refine ⟨ad, hA, hB, fun i hi => ?_⟩
  obtain ⟨Ai, ci, h1, h2, h3⟩ := hc i hi
  refine ⟨Ai, ci, kc (by rw [block_add]; exact hB) h1, ⟨h2.1, fun hm => ?_⟩, h3⟩
  obtain ⟨a, ha, hr⟩ := h2.2 hm
  exact ⟨a, ha, fun j u hj => kc (by rw [block_add]; exact h3 a ha) (hr j u hj)⟩
theorem RowsB.below {w w' : World} {B n : Nat} {A : Option Addr} {LL : List (List Int)} (h : RowsB w B A n LL) (hb : Below w.heap.size w w') : RowsB w' B A n LL := h.keep fun b _ hlt => hb.block b hlt
theorem RowsB.base {w : World} {B C n : Nat} {A : Option Addr} {LL : List (List Int)} (h : RowsB w B A n LL) (hC : C ≤ B) : RowsB w C A n LL := by
  refine ⟨h.1, fun hn => ?_⟩
  obtain ⟨ad, hA, hB, hc⟩ := h.2 hn
  exact ⟨ad, hA, Nat.le_trans hC hB, fun i hi => by obtain ⟨Ai, ci, h1, h2, h3⟩ := hc i hi; exact ⟨Ai, ci, h1, h2, fun a ha => Nat.le_trans hC (h3 a ha)⟩⟩
theorem RowsOwn.reads {w : World} {B c : Nat} {A : Option Addr} {LL : List (List Int)} (h : RowsOwn w B (.slice A LL.length c) LL) : RowsB w B A LL.length LL := by
  obtain ⟨vs, h1, h2, h3⟩ := h
  refine ⟨rfl, fun hn => ?_⟩
  obtain ⟨A', c', e, _, hr⟩ := Reads.of_own h2
  injection e with e1 _ e3
  subst e1 e3
  obtain ⟨ad, hA, hc⟩ := hr.2 hn
  have hblk : ∀ {m : Nat} {t : TypeId} {C : Option Addr} {k : Nat} {xs : List Value} (a : Addr), w.ownsRow B t 1 (.slice C m k) m xs → C = some a → B ≤ a.block := fun a ho e => by
    rcases ho.2 with ⟨k1, _⟩ | ⟨q, cap, cur, k1, hq, _⟩
    · injection k1 with k1 _ _; rw [k1] at e; cases e
    · injection k1 with k1 _ _; rw [k1] at e; injection e with e; subst e; exact hq
  refine ⟨ad, hA, hblk ad h2 hA, fun i hi => ?_⟩
  obtain ⟨Ai, ci, e, _, hri⟩ := Reads.of_own (h3 i hi)
  refine ⟨Ai, ci, ?_, hri, fun a ha => ?_⟩
  · rw [← e]
    exact hc i _ (by rw [List.getD_eq_getElem?_getD, List.getElem?_eq_getElem (show i < vs.length by omega)]; rfl)
  · have h4 := h3 i hi
    rw [e] at h4
    exact hblk a h4 ha
/-- Rows told, in new memory. -/
def RowsTold (w : World) (LL : List (List Int)) (e : Ending) (w' : World) : Prop := ∃ A n c, e = .returned (.slice A n c) ∧ RowsB w' w.heap.size A n LL ∧ Below w.heap.size w w'
/-- Edges told, in new memory. -/
def EdgesTold (w : World) (es : List Ed) (e : Ending) (w' : World) : Prop := ∃ A n c, e = .returned (.slice A n c) ∧ E2 w' A n es ∧ Below w.heap.size w w'
theorem Try.infoInts : (Try.prog.info? 40).map (fun i => (i.zero, i.size, i.bytes)) = some (some (.slice none 0 0), 1, 24) := by kernel_rfl
theorem Try.infoEd : (Try.prog.info? 59).map (fun i => (i.zero, i.size, i.bytes)) = some (some (.agg #[.int .i64 0, .int .i64 0]), 2, 16) := by kernel_rfl
end Go.Proofs.Ytmflacmgffpjoaa
