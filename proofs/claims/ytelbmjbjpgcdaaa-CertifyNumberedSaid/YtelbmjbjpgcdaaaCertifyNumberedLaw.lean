/- CertifyNumbered: by other numbers, in another order, as many witnesses of the same kind are told. No condition. -/
import Derived.Test.YtelbmjbjpgcdaaaCrAwk
import Derived.Test.YtelbmjbjpgcdaaaCerMore
import Derived.Test.YtelbmjbjpgcdaaaCerNum
import Derived.Test.YtelbmjbjpgcdaaaArgSoup
import Derived.Deep.RegionHeld3
import Derived.Deep.DeepCutAuto
import Derived.StillTailTactics
namespace Go.Proofs.Ytelbmjbjpgcdaaa.certifyNumbered
open Go.RowKit Go.ChangeShapes Go.WideShapes Go.ChangeAt

theorem arg_bytes4 {H : Type} {enc : TypeId × Value → H} {W : World} {a : Option Addr} {n c : Nat} {d : DataW H} {p : List MemPlace}
    (h : DataW.Trod enc Try.prog W 0 (fun _ => true) true 39 (.slice a n c) d p) : ((a = none → c = 0) ∧ n ≤ c ∧ c ≤ maxLen) ∧ ∃ xs : List Nat, Dig xs ∧ Reads W a n (bts xs) := by
  obtain ⟨fuel, hf⟩ := h
  rcases open_ints Try.underlying39 Try.underlying5 (by kernel_rfl) hf with ⟨hcs, _⟩ | ⟨x, l, c', zs, hcs, _, hl, hcm, hz, _, hcell, hwz⟩
  · simp [Value.cells] at hcs
    obtain ⟨rfl, rfl, rfl⟩ := hcs
    exact ⟨⟨fun _ => rfl, Nat.le_refl _, by unfold maxLen; omega⟩, [], by simp [Dig], rfl, fun h => absurd h (by omega)⟩
  · simp [Value.cells] at hcs
    obtain ⟨rfl, rfl, rfl⟩ := hcs
    have hzl : zs.length = c := by simpa using hz
    have hb : ∀ z ∈ zs, 0 ≤ z ∧ z ≤ 255 := fun z hz' => bounds_u8 (hwz z hz')
    have hlen : ((zs.take n).map Int.toNat).length = n := by simp; omega
    refine ⟨⟨fun e => by simp at e, hl, hcm⟩, (zs.take n).map Int.toNat, ?_, by rw [length_bts]; exact hlen, fun _ => ⟨x, rfl, ?_⟩⟩
    · intro y hy
      simp only [List.mem_map] at hy
      obtain ⟨z, hz', rfl⟩ := hy
      have := hb z (List.mem_of_mem_take hz')
      omega
    · intro j u hu
      have hj : j < n := by
        have := (List.getElem?_eq_some_iff.1 hu).1
        rw [length_bts, hlen] at this; exact this
      have hjz : j < zs.length := by omega
      have hz0 := hb zs[j] (List.getElem_mem hjz)
      rw [hcell j hjz]
      simp only [bts, List.getElem?_map, List.getElem?_take, if_pos hj, List.getElem?_eq_getElem hjz, Option.map_some, Option.some.injEq] at hu
      rw [← hu]
      simp [List.getElem?_eq_getElem hjz]
      omega
theorem ownK9_up {W W' : World} {B n s : Nat} {t : TypeId} {v : Value} {xs : List Value} (h : W.ownsRow B t s v n xs) (b : Below W.heap.size W W') : W'.ownsRow B t s v n xs := by
  refine ⟨h.1, ?_⟩
  rcases h.2 with h2 | ⟨q, cap, cur, h1, hq, hh, hr⟩
  · exact .inl h2
  · exact .inr ⟨q, cap, cur, h1, hq, (b.block q (heap_lt hh)).trans hh, hr⟩
/-- A soup whose triangles are put together by append, in a box and a row of its own. -/
structure One (w W : World) (gb : Nat) (K : Int) (v : Value) (nb : Nat) (lb : List Tr) : Prop where
  below : Below w.heap.size w W
  bx : W.heap[gb]? = some (.cells #[.int .i64 K, v] 24 (0, 0))
  ot : W.ownsRow w.heap.size 41 3 v nb (ints (flat3 lb))
  wo : w.heap.size ≤ gb
theorem One.up {w W W' : World} {gb : Nat} {K : Int} {v : Value} {nb : Nat} {lb : List Tr} (h : One w W gb K v nb lb) (b : Below W.heap.size W W') : One w W' gb K v nb lb :=
  ⟨up2 h.below b, (b.block gb (heap_lt h.bx)).trans h.bx, ownK9_up h.ot b, h.wo⟩
/-- An owned row whose address is known. -/
theorem own_set3 {W : World} {B q n c k : Nat} {L : List Tr} (h : W.ownsRow B 41 3 (.slice (some ⟨q, 0, none⟩) n c) n (ints (flat3 L))) (hk : k < n) (x : Tr) :
    (((W.setCell ⟨q, k * 3, none⟩ (.int .i64 x.1)).setCell ⟨q, k * 3 + 1, none⟩ (.int .i64 x.2.1)).setCell ⟨q, k * 3 + 2, none⟩ (.int .i64 x.2.2)).ownsRow B 41 3 (.slice (some ⟨q, 0, none⟩) n c) n (ints (flat3 (L.set k x))) := by
  have hl : L.length = n := by have := h.1; rw [length_ints, length_flat3] at this; omega
  rcases h.2 with ⟨h1, _⟩ | ⟨q', cap, cur, h1, hq, hh, hc, hm, hs, ht⟩
  · cases h1
  · injection h1 with h1 _ h3
    injection h1 with h1
    injection h1 with h1
    subst h1 h3
    refine ⟨by rw [length_ints, length_flat3, List.length_set, hl]; omega, .inr ⟨q, c, _, rfl, hq, heap_set (heap_set (heap_set hh _ _) _ _) _ _, hc, hm, by simp only [Array.size_setIfInBounds]; exact hs, ?_⟩⟩
    rw [flat3_set L k x (by omega), ints_set, ints_set, ints_set, ← ht]
    simp only [Array.toList_setIfInBounds, List.take_set]
theorem own_cells9 {W : World} {B q n c k : Nat} {L : List Tr} (h : W.ownsRow B 41 3 (.slice (some ⟨q, 0, none⟩) n c) n (ints (flat3 L))) (hk : k < n) :
    ∃ v0 v1 v2, (W.cell? ⟨q, k * 3, none⟩ = some v0 ∧ W.frozen? ⟨q, k * 3, none⟩ = false) ∧ (W.cell? ⟨q, k * 3 + 1, none⟩ = some v1 ∧ W.frozen? ⟨q, k * 3 + 1, none⟩ = false) ∧ (W.cell? ⟨q, k * 3 + 2, none⟩ = some v2 ∧ W.frozen? ⟨q, k * 3 + 2, none⟩ = false) := by
  rcases h.2 with ⟨h1, _⟩ | ⟨q', cap, cur, h1, hq, hh, hc, hm, hs, ht⟩
  · cases h1
  · injection h1 with h1 _ h3
    injection h1 with h1
    injection h1 with h1
    subst h1 h3
    have cell : ∀ i, i < cur.size → ∃ v, W.cell? ⟨q, i, none⟩ = some v := fun i hi => ⟨_, by rw [cell_in hh]; exact Array.getElem?_eq_getElem hi⟩
    obtain ⟨v0, a0⟩ := cell (k * 3) (by omega)
    obtain ⟨v1, a1⟩ := cell (k * 3 + 1) (by omega)
    obtain ⟨v2, a2⟩ := cell (k * 3 + 2) (by omega)
    exact ⟨v0, v1, v2, ⟨a0, frozen_in hh _⟩, ⟨a1, frozen_in hh _⟩, ⟨a2, frozen_in hh _⟩⟩
theorem own_at9 {W : World} {B n c : Nat} {A : Option Addr} {xs : List Value} (h : W.ownsRow B 41 3 (.slice A n c) n xs) (hn : 0 < n) : ∃ q, A = some ⟨q, 0, none⟩ ∧ B ≤ q ∧ ∃ cs, W.heap[q]? = some (.cells cs 41 (0, 0)) := by
  rcases h.2 with ⟨_, h1⟩ | ⟨q', cap, cur, h1, hq, hh, hc, hm, hs, ht⟩
  · omega
  · injection h1 with h1 _ h3
    exact ⟨q', h1, hq, _, hh⟩
theorem One.set3 {w W : World} {gt q n c k : Nat} {N : Int} {lt : List Tr} (h : One w W gt N (.slice (some ⟨q, 0, none⟩) n c) n lt) (hk : k < n) (x : Tr) :
    One w (((W.setCell ⟨q, k * 3, none⟩ (.int .i64 x.1)).setCell ⟨q, k * 3 + 1, none⟩ (.int .i64 x.2.1)).setCell ⟨q, k * 3 + 2, none⟩ (.int .i64 x.2.2)) gt N (.slice (some ⟨q, 0, none⟩) n c) n (lt.set k x) := by
  obtain ⟨q', e, hq, cs, hh⟩ := own_at9 h.ot (by omega)
  injection e with e
  injection e with e
  subst e
  have nt : gt ≠ q := fun e => by
    subst e
    have hb := h.bx
    rw [hb] at hh
    injection hh with hh
    injection hh with _ hh _
    exact absurd hh (by decide)
  refine ⟨?_, heap_far (heap_far (heap_far h.bx nt _) nt _) nt _, own_set3 h.ot hk x, h.wo⟩
  exact ((h.below.setCell (p := ⟨q, k * 3, none⟩) hq _).setCell (p := ⟨q, k * 3 + 1, none⟩) hq _).setCell (p := ⟨q, k * 3 + 2, none⟩) hq _
abbrev zwit : Obj := .cells #[.int .i64 0, .int .i64 0, .int .i64 0] 41
/-- An empty triangle's block, known whole. -/
def Zw (W : World) (q : Nat) : Prop := W.heap[q]? = some (.cells #[.int .i64 0, .int .i64 0, .int .i64 0] 41 (0, 0))
theorem Zw.up {W Y : World} {q : Nat} (h : Zw W q) (b : Below W.heap.size W Y) : Zw Y q := (b.block q (heap_lt h)).trans h
theorem Zw.facts {W : World} {q : Nat} (h : Zw W q) : W.frozen? ⟨q, 0, none⟩ = false ∧ W.frozen? ⟨q, 1, none⟩ = false ∧ W.frozen? ⟨q, 2, none⟩ = false := ⟨frozen_in h 0, frozen_in h 1, frozen_in h 2⟩
theorem Zw.cells {W : World} {q : Nat} (h : Zw W q) : W.cell? ⟨q, 0, none⟩ = some (.int .i64 0) ∧ W.cell? ⟨q, 1, none⟩ = some (.int .i64 0) ∧ W.cell? ⟨q, 2, none⟩ = some (.int .i64 0) := ⟨by rw [cell_in h]; rfl, by rw [cell_in h]; rfl, by rw [cell_in h]; rfl⟩
structure PreW (w W : World) (g1 g2 : Nat) : Prop where
  below : Below w.heap.size w W
  z1 : Zw W g1
  z2 : Zw W g2
  w1 : w.heap.size ≤ g1
  w2 : w.heap.size ≤ g2
  ne : g1 ≠ g2
structure MidW (w W : World) (g1 g2 : Nat) (a b c : Int) : Prop where
  below : Below w.heap.size w W
  h1 : W.heap[g1]? = some (.cells #[.int .i64 a, .int .i64 b, .int .i64 c] 41 (0, 0))
  z2 : Zw W g2
  w1 : w.heap.size ≤ g1
  w2 : w.heap.size ≤ g2
  ne : g1 ≠ g2
structure FinW (w W : World) (g1 g2 : Nat) (a b c x y z : Int) : Prop where
  below : Below w.heap.size w W
  h1 : W.heap[g1]? = some (.cells #[.int .i64 a, .int .i64 b, .int .i64 c] 41 (0, 0))
  h2 : W.heap[g2]? = some (.cells #[.int .i64 x, .int .i64 y, .int .i64 z] 41 (0, 0))
theorem PreW.mid {w W : World} {g1 g2 : Nat} (h : PreW w W g1 g2) (a b c : Int) : MidW w (((W.setCell ⟨g1, 0, none⟩ (.int .i64 a)).setCell ⟨g1, 1, none⟩ (.int .i64 b)).setCell ⟨g1, 2, none⟩ (.int .i64 c)) g1 g2 a b c :=
  ⟨below_set3 h.below h.w1 _ _ _, set3 h.z1, heap_far (heap_far (heap_far h.z2 (Ne.symm h.ne) _) (Ne.symm h.ne) _) (Ne.symm h.ne) _, h.w1, h.w2, h.ne⟩
theorem MidW.fin {w W : World} {g1 g2 : Nat} {a b c : Int} (h : MidW w W g1 g2 a b c) (x y z : Int) : FinW w (((W.setCell ⟨g2, 0, none⟩ (.int .i64 x)).setCell ⟨g2, 1, none⟩ (.int .i64 y)).setCell ⟨g2, 2, none⟩ (.int .i64 z)) g1 g2 a b c x y z :=
  ⟨below_set3 h.below h.w2 _ _ _, heap_far (heap_far (heap_far h.h1 h.ne _) h.ne _) h.ne _, set3 h.z2⟩
theorem below_st {B q i : Nat} {w x : World} (h : Below B w x) (hq : B ≤ q) (v : Value) : Below B w (x.setCell ⟨q, i, none⟩ v) := h.setCell (p := ⟨q, i, none⟩) hq v
theorem getD_set9 {α : Type} {L : List α} {k : Nat} {z : α} (x : α) (hk : k < L.length) (j : Nat) : (L.set k x).getD j z = if k = j then x else L.getD j z := by
  rw [List.getD_eq_getElem?_getD, List.getElem?_set, List.getD_eq_getElem?_getD]
  by_cases e : k = j
  · subst e; simp [hk]
  · simp [e]
theorem swap_perm {α : Type} [DecidableEq α] {l : List α} {p q : Nat} {z : α} (hp : p < l.length) (hq : q < l.length) : ((l.set p (l.getD q z)).set q (l.getD p z)).Perm l := by
  have e1 : l.getD p z = l[p] := by simp [List.getD_eq_getElem?_getD, hp]
  have e2 : l.getD q z = l[q] := by simp [List.getD_eq_getElem?_getD, hq]
  rw [e1, e2]
  rw [List.perm_iff_count]
  intro a
  have hq' : q < (l.set p l[q]).length := by rw [List.length_set]; exact hq
  rw [List.count_set hq', List.count_set hp, List.getElem_set]
  have c1 : (l[p] == a) = true → 0 < l.count a := fun h => List.count_pos_iff.2 (by rw [← (beq_iff_eq.1 h)]; exact List.getElem_mem hp)
  have c2 : (l[q] == a) = true → 0 < l.count a := fun h => List.count_pos_iff.2 (by rw [← (beq_iff_eq.1 h)]; exact List.getElem_mem hq)
  by_cases e : p = q
  · subst e
    by_cases h1 : (l[p] == a) = true
    · have := c1 h1
      simp [h1]
      omega
    · simp [h1]
  · rw [if_neg e]
    by_cases h1 : (l[p] == a) = true
    · have := c1 h1
      by_cases h2 : (l[q] == a) = true
      · simp [h1, h2]; omega
      · simp [h1, h2]; omega
    · by_cases h2 : (l[q] == a) = true
      · have := c2 h2
        simp [h1, h2]
      · simp [h1, h2]
/-- A row of ints. -/
def IR (W : World) (q : Nat) (ls : List Int) : Prop := W.heap[q]? = some (.cells (ints ls).toArray 3 (0, 0))
theorem IR.cell {W : World} {q k : Nat} {ls : List Int} (h : IR W q ls) (hk : k < ls.length) : W.cell? ⟨q, k, none⟩ = some (.int .i64 (ls.getD k 0)) := by
  rw [cell_in h, List.getElem?_toArray, ints_at]
  simp [List.getD_eq_getElem?_getD, hk]
theorem IR.set {W : World} {q : Nat} {ls : List Int} (h : IR W q ls) (k : Nat) (v : Int) : IR (W.setCell ⟨q, k, none⟩ (.int .i64 v)) q (ls.set k v) := by
  have := heap_set h k (.int .i64 v)
  unfold IR
  rw [this]
  simp [ints, List.map_set]
theorem IR.below {W W' : World} {q : Nat} {ls : List Int} (h : IR W q ls) (b : Below W.heap.size W W') : IR W' q ls := (b.block q (heap_lt h)).trans h
def IsP (M : Nat) (ls : List Int) : Prop := ls.Perm ((List.range M).map fun i : Nat => (i : Int))
theorem IsP.len {M : Nat} {ls : List Int} (h : IsP M ls) : ls.length = M := by have := h.length_eq; simpa using this
theorem IsP.nodup {M : Nat} {ls : List Int} (h : IsP M ls) : ls.Nodup := by
  refine h.nodup_iff.2 ?_
  rw [List.nodup_iff_pairwise_ne, List.pairwise_map]
  exact (List.nodup_range (n := M)).imp fun {a b} hab e => hab (by omega)
theorem IsP.mem {M : Nat} {ls : List Int} (h : IsP M ls) (x : Int) : x ∈ ls ↔ inN (M : Int) x := by
  rw [h.mem_iff, List.mem_map]
  constructor
  · rintro ⟨i, hi, rfl⟩
    have := List.mem_range.1 hi
    exact ⟨by omega, by omega⟩
  · rintro ⟨h0, h1⟩
    exact ⟨x.toNat, List.mem_range.2 (by omega), by omega⟩
theorem IsP.swap {M : Nat} {ls : List Int} (h : IsP M ls) {p q : Nat} (hp : p < M) (hq : q < M) : IsP M ((ls.set p (ls.getD q 0)).set q (ls.getD p 0)) := (swap_perm (by rw [h.len]; exact hp) (by rw [h.len]; exact hq)).trans h
def fN (M : Nat) (ls : List Int) (x : Int) : Int := if inN (M : Int) x then ls.getD x.toNat 0 else x
def gN (M : Nat) (ls : List Int) (x : Int) : Int := if inN (M : Int) x then ((ls.idxOf x : Nat) : Int) else x
theorem fN_in {M : Nat} {ls : List Int} (h : IsP M ls) (x : Int) : inN (M : Int) (fN M ls x) ↔ inN (M : Int) x := by
  unfold fN
  by_cases hx : inN (M : Int) x
  · rw [if_pos hx]
    have h0 := hx.1
    have h1 := hx.2
    refine ⟨fun _ => hx, fun _ => (h.mem _).1 ?_⟩
    have hl : x.toNat < ls.length := by rw [h.len]; omega
    rw [List.getD_eq_getElem?_getD, List.getElem?_eq_getElem hl]
    exact List.getElem_mem hl
  · rw [if_neg hx]
theorem gf_N {M : Nat} {ls : List Int} (h : IsP M ls) (x : Int) : gN M ls (fN M ls x) = x := by
  by_cases hx : inN (M : Int) x
  · have hf := (fN_in h x).2 hx
    unfold gN
    rw [if_pos hf]
    unfold fN
    rw [if_pos hx]
    have h0 := hx.1
    have h1 := hx.2
    have hl : x.toNat < ls.length := by rw [h.len]; omega
    rw [List.getD_eq_getElem?_getD, List.getElem?_eq_getElem hl, Option.getD_some, h.nodup.idxOf_getElem x.toNat hl]
    omega
  · unfold gN fN
    rw [if_neg hx, if_neg hx]
theorem fg_N {M : Nat} {ls : List Int} (h : IsP M ls) (x : Int) : fN M ls (gN M ls x) = x := by
  by_cases hx : inN (M : Int) x
  · have hm := (h.mem x).2 hx
    have hi := List.idxOf_lt_length_of_mem hm
    have hg : gN M ls x = ((ls.idxOf x : Nat) : Int) := by unfold gN; rw [if_pos hx]
    have hin : inN (M : Int) ((ls.idxOf x : Nat) : Int) := ⟨by omega, by have := h.len; omega⟩
    rw [hg]
    unfold fN
    rw [if_pos hin, show (((ls.idxOf x : Nat) : Int)).toNat = ls.idxOf x from rfl, List.getD_eq_getElem?_getD, List.getElem?_eq_getElem hi, Option.getD_some]
    exact List.getElem_idxOf hi
  · unfold gN
    rw [if_neg hx]
    unfold fN
    rw [if_neg hx]
def iota (k M : Nat) : List Int := (List.range M).map fun i => if i < k then (i : Int) else 0
theorem iota_zero (M : Nat) : iota 0 M = List.replicate M 0 := by
  unfold iota
  refine List.ext_getElem (by simp) fun i h1 h2 => ?_
  simp
theorem iota_len (k M : Nat) : (iota k M).length = M := by simp [iota]
theorem iota_get (k M i : Nat) : (iota k M)[i]? = if i < M then some (if i < k then (i : Int) else 0) else none := by
  unfold iota
  by_cases h : i < M <;> simp [h]
theorem iota_set {k M : Nat} (hk : k < M) : (iota k M).set k (k : Int) = iota (k + 1) M := by
  refine List.ext_getElem? fun i => ?_
  rw [List.getElem?_set, iota_len, iota_get, iota_get]
  by_cases e : k = i
  · subst e; simp [hk]
  · rw [if_neg e]
    by_cases h : i < k
    · rw [if_pos h, if_pos (show i < k + 1 by omega)]
    · rw [if_neg h, if_neg (show ¬ i < k + 1 by omega)]
theorem iota_all (M : Nat) : IsP M (iota M M) := by
  have : iota M M = (List.range M).map fun i : Nat => (i : Int) := by
    unfold iota
    refine List.map_congr_left fun i hi => ?_
    rw [if_pos (List.mem_range.1 hi)]
  unfold IsP
  rw [this]
/-- A triangle of which r corners have their new numbers. -/
def part3 (f : Int → Int) (t : Tr) (r : Nat) : Tr := (if 0 < r then f t.1 else t.1, if 1 < r then f t.2.1 else t.2.1, if 2 < r then f t.2.2 else t.2.2)
def put3 (t : Tr) (r : Nat) (v : Int) : Tr := if r = 0 then (v, t.2.1, t.2.2) else if r = 1 then (t.1, v, t.2.2) else (t.1, t.2.1, v)
theorem flat3_set1 : ∀ (L : List Tr) (k r : Nat) (v : Int), k < L.length → r < 3 → (flat3 L).set (k * 3 + r) v = flat3 (L.set k (put3 (L.getD k z3) r v))
  | x :: L, 0, r, v, _, hr => by
    rcases (show r = 0 ∨ r = 1 ∨ r = 2 by omega) with rfl | rfl | rfl <;> simp [flat3, put3]
  | x :: L, k + 1, r, v, h, hr => by
    have e : ∀ M : List Tr, ∀ y : Tr, flat3 (y :: M) = y.1 :: y.2.1 :: y.2.2 :: flat3 M := fun M y => by simp [flat3]
    rw [List.set_cons_succ, e, e, show (k + 1) * 3 + r = k * 3 + r + 1 + 1 + 1 by omega, List.set_cons_succ, List.set_cons_succ, List.set_cons_succ, flat3_set1 L k r v (by simpa using h) hr]
    rfl
def tv9 (t : Tr) (r : Nat) : Int := if r = 0 then t.1 else if r = 1 then t.2.1 else t.2.2
theorem own_set1 {W : World} {B q n c k r : Nat} {L : List Tr} (h : W.ownsRow B 41 3 (.slice (some ⟨q, 0, none⟩) n c) n (ints (flat3 L))) (hk : k < n) (hr : r < 3) (v : Int) :
    (W.setCell ⟨q, k * 3 + r, none⟩ (.int .i64 v)).ownsRow B 41 3 (.slice (some ⟨q, 0, none⟩) n c) n (ints (flat3 (L.set k (put3 (L.getD k z3) r v)))) := by
  have hl : L.length = n := by have := h.1; rw [length_ints, length_flat3] at this; omega
  rcases h.2 with ⟨h1, _⟩ | ⟨q', cap, cur, h1, hq, hh, hc, hm, hs, ht⟩
  · cases h1
  · injection h1 with h1 _ h3
    injection h1 with h1
    injection h1 with h1
    subst h1 h3
    refine ⟨by rw [length_ints, length_flat3, List.length_set, hl]; omega, .inr ⟨q, c, _, rfl, hq, heap_set hh _ _, hc, hm, by simp only [Array.size_setIfInBounds]; exact hs, ?_⟩⟩
    rw [← flat3_set1 L k r v (by omega) hr, ints_set, ← ht]
    simp only [Array.toList_setIfInBounds, List.take_set]
theorem One.set1 {w W : World} {gt q n c k r : Nat} {N : Int} {lt : List Tr} (h : One w W gt N (.slice (some ⟨q, 0, none⟩) n c) n lt) (hk : k < n) (hr : r < 3) (v : Int) :
    One w (W.setCell ⟨q, k * 3 + r, none⟩ (.int .i64 v)) gt N (.slice (some ⟨q, 0, none⟩) n c) n (lt.set k (put3 (lt.getD k z3) r v)) := by
  obtain ⟨q', e, hq, cs, hh⟩ := own_at9 h.ot (by omega)
  injection e with e
  injection e with e
  subst e
  have nt : gt ≠ q := fun e => by
    subst e
    have hb := h.bx
    rw [hb] at hh
    injection hh with hh
    injection hh with _ hh _
    exact absurd hh (by decide)
  exact ⟨h.below.setCell (p := ⟨q, k * 3 + r, none⟩) hq _, heap_far h.bx nt _, own_set1 h.ot hk hr v, h.wo⟩
structure NuS (w W : World) (qa : Nat) (ls : List Int) (gt : Nat) (N : Int) (v : Value) (n : Nat) (lt : List Tr) : Prop where
  one : One w W gt N v n lt
  row : IR W qa ls
  wq : w.heap.size ≤ qa
theorem NuS.up {w W W' : World} {qa : Nat} {ls : List Int} {gt : Nat} {N : Int} {v : Value} {n : Nat} {lt : List Tr} (h : NuS w W qa ls gt N v n lt) (b : Below W.heap.size W W') : NuS w W' qa ls gt N v n lt := ⟨h.one.up b, h.row.below b, h.wq⟩
theorem NuS.tcell {w W : World} {qa : Nat} {ls : List Int} {gt : Nat} {N : Int} {v : Value} {n : Nat} {lt : List Tr} (h : NuS w W qa ls gt N v n lt) : W.cell? ⟨gt, 1, none⟩ = some v := by rw [cell_in h.one.bx]; rfl
theorem NuS.setA {w W : World} {qa : Nat} {ls : List Int} {gt : Nat} {N : Int} {v : Value} {n : Nat} {lt : List Tr} (h : NuS w W qa ls gt N v n lt) (k : Nat) (x : Int) : NuS w (W.setCell ⟨qa, k, none⟩ (.int .i64 x)) qa (ls.set k x) gt N v n lt := by
  have nt : gt ≠ qa := fun e => by
    subst e
    have hb := h.one.bx
    have hr : W.heap[gt]? = some (.cells (ints ls).toArray 3 (0, 0)) := h.row
    rw [hb] at hr
    injection hr with hh
    injection hh with _ hh _
    exact absurd hh (by decide)
  exact ⟨⟨h.one.below.setCell (p := ⟨qa, k, none⟩) h.wq _, heap_far h.one.bx nt _, ownK9_set h.one.ot h.row (by decide) k _, h.one.wo⟩, h.row.set k x, h.wq⟩
theorem NuS.far {w W : World} {qa : Nat} {ls : List Int} {gt : Nat} {N : Int} {q n c : Nat} {lt : List Tr} (h : NuS w W qa ls gt N (.slice (some ⟨q, 0, none⟩) n c) n lt) (hn : 0 < n) : qa ≠ q := by
  obtain ⟨q', e, hq, cs, hh⟩ := own_at9 h.one.ot hn
  injection e with e
  injection e with e
  subst e
  intro e
  subst e
  have hr : W.heap[qa]? = some (.cells (ints ls).toArray 3 (0, 0)) := h.row
  rw [hh] at hr
  injection hr with hh
  injection hh with _ hh _
  exact absurd hh (by decide)
theorem NuS.set3 {w W : World} {qa : Nat} {ls : List Int} {gt : Nat} {N : Int} {q n c k : Nat} {lt : List Tr} (h : NuS w W qa ls gt N (.slice (some ⟨q, 0, none⟩) n c) n lt) (hk : k < n) (x : Tr) : NuS w (((W.setCell ⟨q, k * 3, none⟩ (.int .i64 x.1)).setCell ⟨q, k * 3 + 1, none⟩ (.int .i64 x.2.1)).setCell ⟨q, k * 3 + 2, none⟩ (.int .i64 x.2.2)) qa ls gt N (.slice (some ⟨q, 0, none⟩) n c) n (lt.set k x) := by
  have nq := h.far (by omega)
  exact ⟨h.one.set3 hk x, heap_far (heap_far (heap_far h.row nq _) nq _) nq _, h.wq⟩
theorem NuS.set1 {w W : World} {qa : Nat} {ls : List Int} {gt : Nat} {N : Int} {q n c k : Nat} {lt : List Tr} (h : NuS w W qa ls gt N (.slice (some ⟨q, 0, none⟩) n c) n lt) (hk : k < n) (r : Nat) (hr : r < 3) (v : Int) : NuS w (W.setCell ⟨q, k * 3 + r, none⟩ (.int .i64 v)) qa ls gt N (.slice (some ⟨q, 0, none⟩) n c) n (lt.set k (put3 (lt.getD k z3) r v)) := by
  have nq := h.far (by omega)
  exact ⟨h.one.set1 hk hr v, heap_far h.row nq _, h.wq⟩
structure SwS (w W : World) (qa : Nat) (ls : List Int) (gt : Nat) (N : Int) (q c n : Nat) (lt : List Tr) (g1 g2 : Nat) (x y : Tr) : Prop where
  nu : NuS w W qa ls gt N (.slice (some ⟨q, 0, none⟩) n c) n lt
  h1 : W.heap[g1]? = some (.cells #[.int .i64 x.1, .int .i64 x.2.1, .int .i64 x.2.2] 41 (0, 0))
  h2 : W.heap[g2]? = some (.cells #[.int .i64 y.1, .int .i64 y.2.1, .int .i64 y.2.2] 41 (0, 0))
  n1 : g1 ≠ q
  n2 : g2 ≠ q
theorem SwS.up {w W W' : World} {qa : Nat} {ls : List Int} {gt : Nat} {N : Int} {q c n : Nat} {lt : List Tr} {g1 g2 : Nat} {x y : Tr} (h : SwS w W qa ls gt N q c n lt g1 g2 x y) (b : Below W.heap.size W W') : SwS w W' qa ls gt N q c n lt g1 g2 x y :=
  ⟨h.nu.up b, (b.block g1 (heap_lt h.h1)).trans h.h1, (b.block g2 (heap_lt h.h2)).trans h.h2, h.n1, h.n2⟩
theorem SwS.set3 {w W : World} {qa : Nat} {ls : List Int} {gt : Nat} {N : Int} {q c n k : Nat} {lt : List Tr} {g1 g2 : Nat} {x y : Tr} (h : SwS w W qa ls gt N q c n lt g1 g2 x y) (hk : k < n) (t : Tr) :
    SwS w (((W.setCell ⟨q, k * 3, none⟩ (.int .i64 t.1)).setCell ⟨q, k * 3 + 1, none⟩ (.int .i64 t.2.1)).setCell ⟨q, k * 3 + 2, none⟩ (.int .i64 t.2.2)) qa ls gt N q c n (lt.set k t) g1 g2 x y :=
  ⟨h.nu.set3 hk t, heap_far (heap_far (heap_far h.h1 h.n1 _) h.n1 _) h.n1 _, heap_far (heap_far (heap_far h.h2 h.n2 _) h.n2 _) h.n2 _, h.n1, h.n2⟩
theorem SwS.facts {w W : World} {qa : Nat} {ls : List Int} {gt : Nat} {N : Int} {q c n : Nat} {lt : List Tr} {g1 g2 : Nat} {x0 x1 x2 y0 y1 y2 : Int} (h : SwS w W qa ls gt N q c n lt g1 g2 (x0, x1, x2) (y0, y1, y2)) :
    W.cell? ⟨gt, 1, none⟩ = some (.slice (some ⟨q, 0, none⟩) n c) ∧ W.cell? ⟨g1, 0, none⟩ = some (.int .i64 x0) ∧ W.cell? ⟨g1, 1, none⟩ = some (.int .i64 x1) ∧ W.cell? ⟨g1, 2, none⟩ = some (.int .i64 x2) ∧ W.cell? ⟨g2, 0, none⟩ = some (.int .i64 y0) ∧ W.cell? ⟨g2, 1, none⟩ = some (.int .i64 y1) ∧ W.cell? ⟨g2, 2, none⟩ = some (.int .i64 y2) :=
  ⟨h.nu.tcell, by rw [cell_in h.h1]; rfl, by rw [cell_in h.h1]; rfl, by rw [cell_in h.h1]; rfl, by rw [cell_in h.h2]; rfl, by rw [cell_in h.h2]; rfl, by rw [cell_in h.h2]; rfl⟩
/-- The list while its triangles get their new numbers: i are done, and r corners of the next one. -/
structure LP (f : Int → Int) (lt : List Tr) (n i r : Nat) (L : List Tr) : Prop where
  len : L.length = n
  done : ∀ j, j < i → L.getD j z3 = mapT f (lt.getD j z3)
  here : L.getD i z3 = part3 f (lt.getD i z3) r
  rest : ∀ j, i < j → j < n → L.getD j z3 = lt.getD j z3
structure LL (f : Int → Int) (lt : List Tr) (n i : Nat) (L : List Tr) : Prop where
  len : L.length = n
  done : ∀ j, j < i → L.getD j z3 = mapT f (lt.getD j z3)
  rest : ∀ j, i ≤ j → j < n → L.getD j z3 = lt.getD j z3
theorem LL.lp {f : Int → Int} {lt : List Tr} {n i : Nat} {L : List Tr} (h : LL f lt n i L) (hi : i < n) : LP f lt n i 0 L := ⟨h.len, h.done, by rw [h.rest i (Nat.le_refl _) hi]; rfl, fun j hj => h.rest j (by omega)⟩
theorem LP.ll {f : Int → Int} {lt : List Tr} {n i : Nat} {L : List Tr} (h : LP f lt n i 3 L) : LL f lt n (i + 1) L :=
  ⟨h.len, fun j hj => by
    rcases (show j < i ∨ j = i by omega) with h' | rfl
    · exact h.done j h'
    · exact h.here, fun j hj => h.rest j (by omega)⟩
theorem part_put (f : Int → Int) (t : Tr) (r : Nat) (hr : r < 3) : put3 (part3 f t r) r (f (tv9 t r)) = part3 f t (r + 1) := by
  rcases (show r = 0 ∨ r = 1 ∨ r = 2 by omega) with rfl | rfl | rfl <;> simp [put3, part3, tv9]
theorem part_skip (f : Int → Int) (t : Tr) (r : Nat) (hr : r < 3) (h : f (tv9 t r) = tv9 t r) : part3 f t (r + 1) = part3 f t r := by
  rcases (show r = 0 ∨ r = 1 ∨ r = 2 by omega) with rfl | rfl | rfl <;> simp [part3, tv9] at * <;> exact h
theorem part_at (f : Int → Int) (t : Tr) (r : Nat) (hr : r < 3) : tv9 (part3 f t r) r = tv9 t r := by
  rcases (show r = 0 ∨ r = 1 ∨ r = 2 by omega) with rfl | rfl | rfl <;> simp [part3, tv9]
theorem LP.put {f : Int → Int} {lt : List Tr} {n i r : Nat} {L : List Tr} (h : LP f lt n i r L) (hi : i < n) (r' : Nat) (e : r' = r) (hr : r < 3) : LP f lt n i (r' + 1) (L.set i (put3 (L.getD i z3) r' (f (tv9 (lt.getD i z3) r')))) := by
  subst e
  have hil : i < L.length := by rw [h.len]; exact hi
  refine ⟨by rw [List.length_set]; exact h.len, fun j hj => ?_, ?_, fun j hj hn => ?_⟩
  · rw [getD_set9 _ hil, if_neg (by omega)]; exact h.done j hj
  · rw [getD_set9 _ hil, if_pos rfl, h.here]
    exact part_put f _ _ hr
  · rw [getD_set9 _ hil, if_neg (by omega)]; exact h.rest j hj hn
theorem LP.skip {f : Int → Int} {lt : List Tr} {n i r : Nat} {L : List Tr} (h : LP f lt n i r L) (_ : i < n) (r' : Nat) (e : r' = r) (hr : r < 3) (hf : f (tv9 (lt.getD i z3) r') = tv9 (lt.getD i z3) r') : LP f lt n i (r' + 1) L := by
  subst e
  exact ⟨h.len, h.done, by rw [part_skip f _ _ hr hf]; exact h.here, h.rest⟩
theorem LP.cell {f : Int → Int} {lt : List Tr} {n i r : Nat} {L : List Tr} (h : LP f lt n i r L) {W : World} {B q c : Nat} (ho : W.ownsRow B 41 3 (.slice (some ⟨q, 0, none⟩) n c) n (ints (flat3 L))) (hi : i < n) (r' : Nat) (hr : r' = r ∧ r' < 3) : W.cell? ⟨q, i * 3 + r', none⟩ = some (.int .i64 (tv9 (lt.getD i z3) r')) := by
  obtain ⟨e, hr⟩ := hr
  subst e
  rw [← part_at f (lt.getD i z3) r' hr, ← h.here]
  obtain ⟨_, _, he, hat⟩ := (T3.of_own ho).2 (by have := h.len; omega)
  injection he with he
  injection he with he1 he2
  subst he1 he2
  obtain ⟨c0, c1, c2⟩ := hat i hi
  rw [Nat.zero_add] at c0 c1 c2
  rcases (show r' = 0 ∨ r' = 1 ∨ r' = 2 by omega) with rfl | rfl | rfl
  · exact c0
  · exact c1
  · exact c2
theorem LL.all {f : Int → Int} {lt : List Tr} {n : Nat} {L : List Tr} (h : LL f lt n n L) (hl : lt.length = n) : L = lt.map (mapT f) := by
  refine List.ext_getElem (by rw [h.len, List.length_map, hl]) fun j h1 h2 => ?_
  have := h.done j (by rw [← h.len]; exact h1)
  rw [List.getD_eq_getElem?_getD, List.getD_eq_getElem?_getD, List.getElem?_eq_getElem h1, List.getElem?_eq_getElem (by rwa [List.length_map] at h2)] at this
  rw [List.getElem_map]
  exact this
def L1 (w : World) (qa M : Nat) (i : Value) (wr : World) : Prop := ∃ k : Nat, k ≤ M ∧ i = .int .i64 (k : Int) ∧ Below w.heap.size w wr ∧ IR wr qa (iota k M)
def L2 (w : World) (qa gt : Nat) (N : Int) (M n m : Nat) (l : List Tr) (A : Option Addr) (c : Nat) (i : Value) (wr : World) : Prop := ∃ (j : Nat) (ls : List Int) (lt : List Tr), j ≤ m ∧ i = .int .i64 (j : Int) ∧ IsP M ls ∧ lt.Perm l ∧ NuS w wr qa ls gt N (.slice A n c) n lt
def L2a (w : World) (qa gt : Nat) (N : Int) (M n : Nat) (j : Nat) (lt : List Tr) (A : Option Addr) (c : Nat) (i : Value) (wr : World) : Prop := i = .int .i64 (j : Int) ∧ ∃ ls : List Int, IsP M ls ∧ NuS w wr qa ls gt N (.slice A n c) n lt
def L2b (w : World) (qa gt : Nat) (N : Int) (n p q : Nat) (ls : List Int) (lt : List Tr) (A : Option Addr) (c : Nat) (i1 i2 : Value) (wr : World) : Prop := i1 = .int .i64 (p : Int) ∧ i2 = .int .i64 (q : Int) ∧ NuS w wr qa ls gt N (.slice A n c) n lt
def L3 (w : World) (qa gt : Nat) (N : Int) (n : Nat) (f : Int → Int) (ls : List Int) (lt : List Tr) (A : Option Addr) (c : Nat) (i : Value) (wr : World) : Prop := ∃ (k : Nat) (L : List Tr), k ≤ n ∧ i = .int .i64 (k : Int) ∧ NuS w wr qa ls gt N (.slice A n c) n L ∧ LL f lt n k L
def L4 (w : World) (qa gt : Nat) (N : Int) (n k : Nat) (f : Int → Int) (ls : List Int) (lt : List Tr) (A : Option Addr) (c : Nat) (i : Value) (wr : World) : Prop := ∃ (r : Nat) (L : List Tr), r ≤ 3 ∧ i = .int .i64 (r : Int) ∧ NuS w wr qa ls gt N (.slice A n c) n L ∧ LP f lt n k r L
theorem head_kind (ws : List Wt) : (ws.headD (0, 0, 0)).1 = kindW ws := by cases ws <;> rfl
set_option maxHeartbeats 16000000 in
set_option maxRecDepth 100000 in
theorem walk (N : Int) (A : Option Addr) (n c : Nat) (l : List Tr) (B : Option Addr) (m d : Nat) (bl : List Nat) (w : World) (_ : -9223372036854775808 ≤ N) (_ : N ≤ 9223372036854775807) (h : T3 w A n l) (hbm : (B = none → d = 0) ∧ m ≤ d ∧ d ≤ maxLen) (hD : Dig bl) (hr : Reads w B m (bts bl)) :
    Calls Try.prog 6 #[.agg #[.int .i64 N, .slice A n c], .slice B m d] w (BoolTold9 w true) := by
  have hmm : m ≤ 9223372036854775807 := by have h1 := hbm.2.1; have h2 := hbm.2.2; unfold maxLen at h2; omega
  clear hbm
  obtain ⟨pp, hp⟩ := isPin_exists l
  have HL := Lib.hid h
  have HP := Lib.hid hp
  have HD := Lib.hid hD
  have HR := Lib.hid hr
  have KA := Lib.hid awake9_true
  have KG := Lib.hid (fun W => great9_any W N A n c)
  have B0 := Lib.hid ((Below.refl _ w).alloc (Nat.le_refl _) (.cells #[.int .i64 N, .slice A n c] 24))
  have X0 := Lib.hid (Bx.made w N A n c)
  clear h hp hD hr
  go_enter Try.func6, Try.ntmps6
  go_wp2_with fail
  refine (KA.out _).mono ?_
  rintro e w1 ⟨rfl, b1⟩
  have B1 := Lib.hid (up2 B0.out b1)
  have X1 := Lib.hid (X0.out.below b1)
  clear b1
  obtain ⟨g, hg⟩ : ∃ g, w.heap.size = g := ⟨_, rfl⟩
  simp only [hg]
  rw [hg] at X1
  clear hg
  have e0 := X1.out.c0
  have e1 := X1.out.c1
  go_wp2_with fail
  refine (KG.out _).mono ?_
  rintro e w2 ⟨rfl, b2⟩
  have B2 := Lib.hid (up2 B1.out b2)
  have X2 := Lib.hid (X1.out.below b2)
  clear b2 e0 e1
  by_cases h40 : (40 : Int) < n ∨ 40 < N
  · simp only [decide_eq_true h40]
    clear h40
    go_wp2_with fail
    refine (KA.out _).mono ?_
    rintro e w3 ⟨rfl, b3⟩
    have B3 := Lib.hid (up2 B2.out b3)
    clear b3
    go_wp2_with fail
    go_ret
    exact ⟨rfl, B3.out⟩
  simp only [decide_eq_false h40]
  have hn : n ≤ 40 := by omega
  have n1 : N ≤ 40 := by omega
  clear h40
  have e0 := X2.out.c0
  have e1 := X2.out.c1
  by_cases n0 : N < 0
  · go_wp2_with fail
    refine (KA.out _).mono ?_
    rintro e w3 ⟨rfl, b3⟩
    have B3 := Lib.hid (up2 B2.out b3)
    clear b3
    go_wp2_with fail
    go_ret
    exact ⟨rfl, B3.out⟩
  obtain ⟨M, rfl⟩ : ∃ M : Nat, N = (M : Int) := ⟨N.toNat, by omega⟩
  have hM : M ≤ 40 := by omega
  have n0' : ¬ (M : Int) < 0 := by omega
  clear n0 n1
  have HB := Lib.hid (fun W (b : Below w2.heap.size w2 W) => (show W.cell? ⟨g, 0, none⟩ = some (.int .i64 (M : Int)) ∧ W.cell? ⟨g, 1, none⟩ = some (.slice A n c) from ⟨(X2.out.below b).c0, (X2.out.below b).c1⟩))
  have hmk := makeI9 M (by omega)
  obtain ⟨w3, hw3⟩ : ∃ x, w2.alloc (.cells (ints (List.replicate M 0)).toArray 3) = x := ⟨_, rfl⟩
  obtain ⟨qa, hqa⟩ : ∃ x, w2.heap.size = x := ⟨_, rfl⟩
  have b3 : Below w2.heap.size w2 w3 := by rw [← hw3]; exact (Below.refl _ w2).alloc (Nat.le_refl _) _
  have r3 : IR w3 qa (iota 0 M) := by rw [← hw3, ← hqa, iota_zero]; exact heap_alloc_new w2 _
  have S3 := Lib.hid (And.intro b3 r3)
  have HQA := Lib.hid (show w2.heap.size ≤ qa by omega)
  clear b3 r3 KG
  go_wp2_with fail
  clear hw3 hqa hmk e0 e1
  go_loopw [37] (L1 w2 qa M) (fun i _ => M - (intOf i).toNat)
  case atStart => exact ⟨0, Nat.zero_le _, rfl, S3.out.1, S3.out.2⟩
  case round =>
    obtain ⟨k, hk, rfl, hb, hir⟩ := hrel
    have HBB := Lib.hid hb
    have HI := Lib.hid hir
    clear hb hir
    by_cases hlt : k < M
    · have b1 : (k : Int) < M := by omega
      have i1 := HI.out.cell (k := k) (by rw [iota_len]; exact hlt)
      have f1 := frozen_in HI.out k
      obtain ⟨v, hv⟩ : ∃ v, (iota k M).getD k 0 = v := ⟨_, rfl⟩
      rw [hv] at i1
      clear hv
      have HN := Lib.hid (show IR (wr.setCell ⟨qa, k, none⟩ (.int .i64 (k : Int))) qa (iota (k + 1) M) by rw [← iota_set hlt]; exact HI.out.set k _)
      go_wp2_with fail
      exact ⟨⟨k + 1, by omega, by go_num, HBB.out.setCell (p := ⟨qa, k, none⟩) HQA.out _, HN.out⟩, by simp [intOf]; omega⟩
    · obtain rfl : M = k := by omega
      have b1 : ¬ (M : Int) < M := by omega
      have hb0 := HB.out wr HBB.out
      have KO := Lib.hid (own9_any wr (M : Int) A n c l (HL.out.below (up2 B2.out HBB.out)) (by omega))
      go_wp2_with fail
      clear hb0
      refine KO.out.mono ?_
      rintro e w5 ⟨_, rfl, A5, c5, rfl, o5, b5⟩
      rw [HL.out.1] at o5 ⊢
      obtain ⟨w6, hw6⟩ : ∃ w6, w5.alloc (.cells #[.int .i64 (M : Int), .slice A5 n c5] 24) = w6 := ⟨_, rfl⟩
      obtain ⟨gt, hgt⟩ : ∃ x, w5.heap.size = x := ⟨_, rfl⟩
      have b6 : Below w5.heap.size w5 w6 := by rw [← hw6]; exact (Below.refl _ w5).alloc (Nat.le_refl _) _
      have NU0 := Lib.hid (⟨⟨up2 HBB.out (up2 b5 b6), by rw [← hw6, ← hgt]; exact heap_alloc_new w5 _, ownK9_up (ownK9_base o5 HBB.out.size) b6, by rw [← hgt]; exact Nat.le_trans HBB.out.size b5.size⟩, HI.out.below (up2 b5 b6), HQA.out⟩ : NuS w2 w6 qa (iota M M) gt (M : Int) (.slice A5 n c5) n l)
      clear o5 b5 b6 KO b1
      go_wp2_with fail
      clear hw6 hgt
      go_loopw [49] (L2 w2 qa gt (M : Int) M n m l A5 c5) (fun i _ => m - (intOf i).toNat)
      case atStart => exact ⟨0, _, l, Nat.zero_le _, rfl, iota_all M, List.Perm.refl _, NU0.out⟩
      case round =>
        obtain ⟨j, ls, lt, hj, rfl, hpm, hlp, nu⟩ := hrel
        have HP1 := Lib.hid hpm
        have HLT := Lib.hid hlp
        have NU1 := Lib.hid nu
        clear hpm hlp nu NU0
        by_cases hjm : j < m
        · have b1 : (j : Int) < m := by omega
          obtain ⟨ad, rfl, _⟩ := HR.out.2 (by omega)
          obtain ⟨v, hv⟩ : ∃ v, bl.getD j 0 = v := ⟨_, rfl⟩
          have hkl : j < bl.length := by have := HR.out.1; rw [length_bts] at this; omega
          have HVV := Lib.hid (fun W (b : Below w2.heap.size w2 W) => (show W.cell? (ad.add j) = some (.int .u8 (v : Int)) from by
            obtain ⟨_, he, hcell⟩ := (HR.out.below (up2 B2.out b)).2 (by omega)
            injection he with he
            subst he
            rw [← hv]
            exact hcell j _ (bts_at bl j hkl)))
          have hbd : v < 256 := by rw [← hv, List.getD_eq_getElem?_getD, List.getElem?_eq_getElem hkl]; exact HD.out _ (List.getElem_mem hkl)
          clear hv hkl
          go_upto_if 54 with (fail)
          go_cut [8] (L2a w2 qa gt (M : Int) M n j lt A5 c5)
          case first =>
            by_cases hM0 : 0 < M
            · have t1 : (0 : Int) < M := by omega
              have hnz : ¬ (M : Int) = 0 := by omega
              obtain ⟨p, hp, hpM⟩ : ∃ p : Nat, Int.tmod (j : Int) (M : Int) = (p : Int) ∧ p < M := ⟨j % M, by rw [Int.tmod_eq_emod_of_nonneg (by omega)]; omega, Nat.mod_lt _ hM0⟩
              obtain ⟨q, hq, hqM⟩ : ∃ q : Nat, Int.tmod (v : Int) (M : Int) = (q : Int) ∧ q < M := ⟨v % M, by rw [Int.tmod_eq_emod_of_nonneg (by omega)]; omega, Nat.mod_lt _ hM0⟩
              have hp1 : (p : Int) < M := by omega
              have hq1 : (q : Int) < M := by omega
              have hpl : p < ls.length := by rw [HP1.out.len]; exact hpM
              have hql : q < ls.length := by rw [HP1.out.len]; exact hqM
              have ip := NU1.out.row.cell hpl
              have iq := NU1.out.row.cell hql
              have SWP := Lib.hid (HP1.out.swap hpM hqM)
              have NA := Lib.hid (fun t : Nat => (NU1.out.up (Reading.below ⟨t, rfl⟩ : Below wr.heap.size wr (wr.drewN t))).setA p (ls.getD q 0))
              have NB := Lib.hid (fun t : Nat => (NA.out t).setA q (ls.getD p 0))
              have iq1 := fun t : Nat => (NA.out t).row.cell (k := q) (by rw [List.length_set]; exact hql)
              obtain ⟨x, hx⟩ : ∃ x, ls.getD p 0 = x := ⟨_, rfl⟩
              obtain ⟨y, hy⟩ : ∃ y, ls.getD q 0 = y := ⟨_, rfl⟩
              obtain ⟨z, hz⟩ : ∃ z, (ls.set p y).getD q 0 = z := ⟨_, rfl⟩
              rw [hx] at ip SWP
              simp only [hx] at NB
              rw [hy] at iq SWP
              simp only [hy] at NA NB iq1
              simp only [hz] at iq1
              have fp := frozen_in NU1.out.row p
              have fq := fun t : Nat => frozen_in (NA.out t).row q
              have fq' := frozen_in NU1.out.row q
              have dx := HVV.out wr NU1.out.one.below
              clear hx hy hz hpl hql hM0
              go_wp2_with fail
              go_quiet (fail)
              go_wp2_with fail
              go_quiet (fail)
              go_wp2_with fail
              go_meet
              exact ⟨rfl, _, SWP.out, NB.out _⟩
            · have t1 : ¬ (0 : Int) < M := by omega
              go_wp2_with fail
              go_meet
              exact ⟨rfl, ls, HP1.out, NU1.out⟩
          case rest =>
            obtain ⟨rfl, ls2, hp2, nu2⟩ := hcut
            have HP2 := Lib.hid hp2
            have NU2 := Lib.hid nu2
            clear hp2 nu2 NU1 HP1
            have tc := NU2.out.tcell
            have dx := HVV.out wc NU2.out.one.below
            by_cases hn0 : 0 < n
            · obtain ⟨q5, rfl, hq5, _, hh5⟩ := own_at9 NU2.out.one.ot hn0
              have t1 : (0 : Int) < n := by omega
              have hnz : ¬ (n : Int) = 0 := by omega
              obtain ⟨p, hp, hpn⟩ : ∃ p : Nat, Int.tmod (j : Int) (n : Int) = (p : Int) ∧ p < n := ⟨j % n, by rw [Int.tmod_eq_emod_of_nonneg (by omega)]; omega, Nat.mod_lt _ hn0⟩
              obtain ⟨q, hq, hqn⟩ : ∃ q : Nat, Int.tmod (v : Int) (n : Int) = (q : Int) ∧ q < n := ⟨v % n, by rw [Int.tmod_eq_emod_of_nonneg (by omega)]; omega, Nat.mod_lt _ hn0⟩
              have HPQ := Lib.hid (And.intro hp hq)
              clear hh5
              go_upto_region 19 with fail
              go_cut [13, 14] (L2b w2 qa gt (M : Int) n p q ls2 lt (some ⟨q5, 0, none⟩) c5)
              case first =>
                go_wp2_with fail
                go_quiet (fail)
                go_wp2_with fail
                go_meet
                exact ⟨rfl, rfl, NU2.out.up (Reading.below ⟨_, rfl⟩)⟩
              case rest =>
                clear hp hq tc dx
                obtain ⟨rfl, rfl, nu⟩ := hcut
                have NU := Lib.hid nu
                have HQ5 := Lib.hid (show q5 < wc.heap.size by
                  obtain ⟨q', e, _, cs, hh⟩ := own_at9 nu.one.ot hn0
                  injection e with e
                  injection e with e
                  subst e
                  exact heap_lt hh)
                obtain ⟨x, hx⟩ : ∃ x, lt.getD p z3 = x := ⟨_, rfl⟩
                obtain ⟨y, hy⟩ : ∃ y, lt.getD q z3 = y := ⟨_, rfl⟩
                have HXY := Lib.hid (And.intro hx hy)
                obtain ⟨x0, x1, x2⟩ := x
                obtain ⟨y0, y1, y2⟩ := y
                have HS := Lib.hid (fun W (b : Below wc.heap.size wc W) => (show W.cell? ⟨gt, 1, none⟩ = some (.slice (some ⟨q5, 0, none⟩) n c5) ∧ W.cell? ⟨q5, p * 3, none⟩ = some (.int .i64 x0) ∧ W.cell? ⟨q5, p * 3 + 1, none⟩ = some (.int .i64 x1) ∧ W.cell? ⟨q5, p * 3 + 2, none⟩ = some (.int .i64 x2) ∧ W.cell? ⟨q5, q * 3, none⟩ = some (.int .i64 y0) ∧ W.cell? ⟨q5, q * 3 + 1, none⟩ = some (.int .i64 y1) ∧ W.cell? ⟨q5, q * 3 + 2, none⟩ = some (.int .i64 y2) from by
                  have u := NU.out.up b
                  obtain ⟨_, _, he, hat⟩ := (T3.of_own u.one.ot).2 (by have := HLT.out.length_eq; have := HL.out.1; omega)
                  injection he with he
                  injection he with he1 he2
                  subst he1 he2
                  obtain ⟨c0, c1, c2⟩ := hat p hpn
                  obtain ⟨d0, d1, d2⟩ := hat q hqn
                  rw [hx, Nat.zero_add] at c0 c1 c2
                  rw [hy, Nat.zero_add] at d0 d1 d2
                  exact ⟨u.tcell, c0, c1, c2, d0, d1, d2⟩))
                have hd := HS.out wc.drew (Reading.below ⟨1, rfl⟩)
                have hp1 : (p : Int) < n := by omega
                have hq1 : (q : Int) < n := by omega
                clear hx hy nu NU2
                go_wp2_with fail
                refine wp_region_noPanic ?_
                refine wp_region_held_drew (S := fun w' => w'.cell? ⟨gt, 1, none⟩ = some (.slice (some ⟨q5, 0, none⟩) n c5) ∧ w'.cell? ⟨q5, p * 3, none⟩ = some (.int .i64 x0) ∧ w'.cell? ⟨q5, p * 3 + 1, none⟩ = some (.int .i64 x1) ∧ w'.cell? ⟨q5, p * 3 + 2, none⟩ = some (.int .i64 x2) ∧ w'.cell? ⟨q5, q * 3, none⟩ = some (.int .i64 y0) ∧ w'.cell? ⟨q5, q * 3 + 1, none⟩ = some (.int .i64 y1) ∧ w'.cell? ⟨q5, q * 3 + 2, none⟩ = some (.int .i64 y2)) (by kernel_rfl) hd (fun _ => ?_)
                refine wpAnyH_take (i := 0) (v := ?v0x11) rfl (by kernel_rfl) (by kernel_rfl) (by kernel_rfl) (fun _ _ _ h => h) (Or.inl ⟨by rfl, ?y0x11⟩) hd ?_
                case y0x11 => (intro w hSw; (try dsimp only at hSw); go_simp; try with_reducible rfl)
                simp only [Act.put, List.setIfInBounds_toArray, List.set_cons_zero, List.set_cons_succ, List.getElem_toArray, List.getElem_cons_zero]
                refine wpAnyH_take (i := 1) (v := ?v1x12) rfl (by kernel_rfl) (by kernel_rfl) (by kernel_rfl) (fun _ _ _ h => h) (Or.inl ⟨by rfl, ?y1x12⟩) hd ?_
                case y1x12 => (intro w hSw; (try dsimp only at hSw); go_simp; try with_reducible rfl)
                simp only [Act.put, List.setIfInBounds_toArray, List.set_cons_zero, List.set_cons_succ, List.getElem_toArray, List.getElem_cons_zero, List.getElem_cons_succ]
                refine wpAnyH_take (i := 2) (v := ?v2x13) rfl (by kernel_rfl) (by kernel_rfl) (by kernel_rfl) (fun _ _ _ h => h) (Or.inl ⟨by rfl, ?y2x13⟩) hd ?_
                case y2x13 => (intro w hSw; (try dsimp only at hSw); go_simp; try with_reducible rfl)
                simp only [Act.put, List.setIfInBounds_toArray, List.set_cons_zero, List.set_cons_succ, List.getElem_toArray, List.getElem_cons_zero, List.getElem_cons_succ]
                refine wpAnyH_take (i := 3) (v := ?v3x14) rfl (by kernel_rfl) (by kernel_rfl) (by kernel_rfl) (fun _ _ _ h => h) (Or.inl ⟨by rfl, ?y3x14⟩) hd ?_
                case y3x14 => (intro w hSw; (try dsimp only at hSw); go_simp; try with_reducible rfl)
                simp only [Act.put, List.setIfInBounds_toArray, List.set_cons_zero, List.set_cons_succ, List.getElem_toArray, List.getElem_cons_zero, List.getElem_cons_succ]
                refine wpAnyH_take (i := 4) (v := ?v4x15) rfl (by kernel_rfl) (by kernel_rfl) (by kernel_rfl) (fun _ _ _ h => h) (Or.inl ⟨by rfl, ?y4x15⟩) hd ?_
                case y4x15 => (intro w hSw; (try dsimp only at hSw); go_simp; try with_reducible rfl)
                simp only [Act.put, List.setIfInBounds_toArray, List.set_cons_zero, List.set_cons_succ, List.getElem_toArray, List.getElem_cons_zero, List.getElem_cons_succ]
                refine wpAnyH_take (i := 5) (v := ?v5x16) rfl (by kernel_rfl) (by kernel_rfl) (by kernel_rfl) (fun _ _ _ h => h) (Or.inl ⟨by rfl, ?y5x16⟩) hd ?_
                case y5x16 => (intro w hSw; (try dsimp only at hSw); go_simp; try with_reducible rfl)
                simp only [Act.put, List.setIfInBounds_toArray, List.set_cons_zero, List.set_cons_succ, List.getElem_toArray, List.getElem_cons_zero, List.getElem_cons_succ]
                refine wpAnyH_take (i := 6) (v := ?v6x17) rfl (by kernel_rfl) (by kernel_rfl) (by kernel_rfl) (fun _ _ _ h => h) (Or.inl ⟨by rfl, ?y6x17⟩) hd ?_
                case y6x17 => (intro w hSw; (try dsimp only at hSw); go_simp; try with_reducible rfl)
                simp only [Act.put, List.setIfInBounds_toArray, List.set_cons_zero, List.set_cons_succ, List.getElem_toArray, List.getElem_cons_zero, List.getElem_cons_succ]
                refine wpAnyH_take (i := 7) (v := ?v7x18) rfl (by kernel_rfl) (by kernel_rfl) (by kernel_rfl) (fun _ _ _ h => h) (Or.inl ⟨by rfl, ?y7x18⟩) hd ?_
                case y7x18 => (intro w hSw; (try dsimp only at hSw); go_simp; try with_reducible rfl)
                simp only [Act.put, List.setIfInBounds_toArray, List.set_cons_zero, List.set_cons_succ, List.getElem_toArray, List.getElem_cons_zero, List.getElem_cons_succ]
                refine wpAnyH_take (i := 8) (v := ?v8x19) rfl (by kernel_rfl) (by kernel_rfl) (by kernel_rfl) (fun _ _ _ h => h) (Or.inl ⟨by rfl, ?y8x19⟩) hd ?_
                case y8x19 => (intro w hSw; (try dsimp only at hSw); go_simp; try with_reducible rfl)
                simp only [Act.put, List.setIfInBounds_toArray, List.set_cons_zero, List.set_cons_succ, List.getElem_toArray, List.getElem_cons_zero, List.getElem_cons_succ]
                refine wpAnyH_take (i := 9) (v := ?v9x20) rfl (by kernel_rfl) (by kernel_rfl) (by kernel_rfl) (fun _ _ _ h => h) (Or.inl ⟨by rfl, ?y9x20⟩) hd ?_
                case y9x20 => (intro w hSw; (try dsimp only at hSw); go_simp; try with_reducible rfl)
                simp only [Act.put, List.setIfInBounds_toArray, List.set_cons_zero, List.set_cons_succ, List.getElem_toArray, List.getElem_cons_zero, List.getElem_cons_succ]
                obtain ⟨u0, hu0⟩ : ∃ x, wc.drew = x := ⟨_, rfl⟩
                have bw : Below wc.heap.size wc u0 := by rw [← hu0]; exact Reading.below ⟨1, rfl⟩
                simp only [hu0]
                clear hu0
                refine wpAnyH_ready (rs := [10, 11]) (by kernel_rfl) (by simp) ?_
                refine AllReadyH.cons rfl (fun K hK => ?_) (AllReadyH.cons rfl (fun K hK => ?_) AllReadyH.nil)
                · go_simp
                  refine hK.out _ _ (HS.out _ (up1 bw _)) (fun _ => ?_)
                  clear hK K
                  try simp only [Act.put, List.setIfInBounds_toArray, List.set_cons_zero, List.set_cons_succ, List.getElem_toArray, List.getElem_cons_zero, List.getElem_cons_succ]
                  obtain ⟨u1, hn⟩ : ∃ x, u0.alloc zwit = x := ⟨_, rfl⟩
                  obtain ⟨g1, hg⟩ : ∃ x, u0.heap.size = x := ⟨_, rfl⟩
                  have z1 : Zw u1 g1 := by rw [← hn, ← hg]; exact heap_alloc_new u0 _
                  have bg1 : wc.heap.size ≤ g1 := by rw [← hg]; exact bw.size
                  have bn : Below u0.heap.size u0 u1 := by rw [← hn]; exact (Below.refl _ u0).alloc (Nat.le_refl _) _
                  have bw := up2 bw bn
                  simp only [hn, hg]
                  clear hn hg bn
                  refine wpAnyH_ready (rs := [11]) (by kernel_rfl) (by simp) ?_
                  refine AllReadyH.cons rfl (fun K hK => ?_) AllReadyH.nil
                  go_simp
                  refine hK.out _ _ (HS.out _ (up1 bw _)) (fun _ => ?_)
                  clear hK K
                  try simp only [Act.put, List.setIfInBounds_toArray, List.set_cons_zero, List.set_cons_succ, List.getElem_toArray, List.getElem_cons_zero, List.getElem_cons_succ]
                  obtain ⟨u2, hn⟩ : ∃ x, u1.alloc zwit = x := ⟨_, rfl⟩
                  obtain ⟨g2, hg⟩ : ∃ x, u1.heap.size = x := ⟨_, rfl⟩
                  have z2 : Zw u2 g2 := by rw [← hn, ← hg]; exact heap_alloc_new u1 _
                  have bg2 : wc.heap.size ≤ g2 := by rw [← hg]; exact bw.size
                  have bn : Below u1.heap.size u1 u2 := by rw [← hn]; exact (Below.refl _ u1).alloc (Nat.le_refl _) _
                  have ne : g1 ≠ g2 := by have := heap_lt z1; omega
                  have z1 := z1.up bn
                  have bw := up2 bw bn
                  simp only [hn, hg]
                  clear hn hg bn
                  have PR := Lib.hid (⟨bw, z1, z2, bg1, bg2, ne⟩ : PreW wc u2 g1 g2)
                  obtain ⟨f1, f2, f3⟩ := z1.facts
                  obtain ⟨f4, f5, f6⟩ := z1.cells
                  clear z1 z2 ne
                  refine wpAnyH_ready (rs := [12]) (by kernel_rfl) (by simp) ?_
                  refine AllReadyH.cons rfl (fun K hK => ?_) AllReadyH.nil
                  go_simp
                  refine hK.out _ _ (HS.out _ (below_set3 bw bg1 _ _ _)) (fun _ => ?_)
                  clear hK K
                  try simp only [Act.put, List.setIfInBounds_toArray, List.set_cons_zero, List.set_cons_succ, List.getElem_toArray, List.getElem_cons_zero, List.getElem_cons_succ]
                  obtain ⟨wm, hwm⟩ : ∃ x, ((u2.setCell ⟨g1, 0, none⟩ (.int .i64 x0)).setCell ⟨g1, 1, none⟩ (.int .i64 x1)).setCell ⟨g1, 2, none⟩ (.int .i64 x2) = x := ⟨_, rfl⟩
                  have PM := Lib.hid (PR.out.mid x0 x1 x2)
                  rw [hwm] at PM
                  simp only [hwm]
                  clear hwm f1 f2 f3 f4 f5 f6
                  obtain ⟨f1, f2, f3⟩ := PM.out.z2.facts
                  obtain ⟨f4, f5, f6⟩ := PM.out.z2.cells
                  refine wpAnyH_ready (rs := [13]) (by kernel_rfl) (by simp) ?_
                  refine AllReadyH.cons rfl (fun K hK => ?_) AllReadyH.nil
                  go_simp
                  refine hK.out _ _ (HS.out _ (below_set3 PM.out.below bg2 _ _ _)) (fun _ => ?_)
                  clear hK K
                  try simp only [Act.put, List.setIfInBounds_toArray, List.set_cons_zero, List.set_cons_succ, List.getElem_toArray, List.getElem_cons_zero, List.getElem_cons_succ]
                  obtain ⟨we, hwe⟩ : ∃ x, ((wm.setCell ⟨g2, 0, none⟩ (.int .i64 y0)).setCell ⟨g2, 1, none⟩ (.int .i64 y1)).setCell ⟨g2, 2, none⟩ (.int .i64 y2) = x := ⟨_, rfl⟩
                  have DU := Lib.hid (PM.out.fin y0 y1 y2)
                  rw [hwe] at DU
                  simp only [hwe]
                  have n1 : g1 ≠ q5 := by have := HQ5.out; omega
                  have n2 : g2 ≠ q5 := by have := HQ5.out; omega
                  clear hwe PM PR f1 f2 f3 f4 f5 f6 bw bg1 bg2
                  refine wpAnyH_done (by kernel_rfl) ?_ _
                  refine NoPanic.normal ?_
                  have SW := Lib.hid (⟨NU.out.up DU.out.below, DU.out.h1, DU.out.h2, n1, n2⟩ : SwS w2 we qa ls2 gt (M : Int) q5 c5 n lt g1 g2 (x0, x1, x2) (y0, y1, y2))
                  clear DU n1 n2
                  go_wp2_with fail
                  refine wp_region_noPanic ?_
                  have SWd := Lib.hid (SW.out.up (Reading.below ⟨1, rfl⟩ : Below we.heap.size we we.drew))
                  refine wp_region_held_drew (S := fun w' => w'.cell? ⟨gt, 1, none⟩ = some (.slice (some ⟨q5, 0, none⟩) n c5) ∧ w'.cell? ⟨g1, 0, none⟩ = some (.int .i64 x0) ∧ w'.cell? ⟨g1, 1, none⟩ = some (.int .i64 x1) ∧ w'.cell? ⟨g1, 2, none⟩ = some (.int .i64 x2) ∧ w'.cell? ⟨g2, 0, none⟩ = some (.int .i64 y0) ∧ w'.cell? ⟨g2, 1, none⟩ = some (.int .i64 y1) ∧ w'.cell? ⟨g2, 2, none⟩ = some (.int .i64 y2)) (by kernel_rfl) SWd.out.facts (fun _ => ?_)
                  refine wpAnyH_take (i := 0) (v := ?v0x1) rfl (by kernel_rfl) (by kernel_rfl) (by kernel_rfl) (fun _ _ _ h => h) (Or.inl ⟨by rfl, ?y0x1⟩) SWd.out.facts ?_
                  case y0x1 => (intro w hSw; (try dsimp only at hSw); go_simp; try with_reducible rfl)
                  simp only [Act.put, List.setIfInBounds_toArray, List.set_cons_zero, List.set_cons_succ, List.getElem_toArray, List.getElem_cons_zero]
                  refine wpAnyH_take (i := 1) (v := ?v1x2) rfl (by kernel_rfl) (by kernel_rfl) (by kernel_rfl) (fun _ _ _ h => h) (Or.inl ⟨by rfl, ?y1x2⟩) SWd.out.facts ?_
                  case y1x2 => (intro w hSw; (try dsimp only at hSw); go_simp; try with_reducible rfl)
                  simp only [Act.put, List.setIfInBounds_toArray, List.set_cons_zero, List.set_cons_succ, List.getElem_toArray, List.getElem_cons_zero, List.getElem_cons_succ]
                  refine wpAnyH_take (i := 2) (v := ?v2x3) rfl (by kernel_rfl) (by kernel_rfl) (by kernel_rfl) (fun _ _ _ h => h) (Or.inl ⟨by rfl, ?y2x3⟩) SWd.out.facts ?_
                  case y2x3 => (intro w hSw; (try dsimp only at hSw); go_simp; try with_reducible rfl)
                  simp only [Act.put, List.setIfInBounds_toArray, List.set_cons_zero, List.set_cons_succ, List.getElem_toArray, List.getElem_cons_zero, List.getElem_cons_succ]
                  refine wpAnyH_take (i := 3) (v := ?v3x4) rfl (by kernel_rfl) (by kernel_rfl) (by kernel_rfl) (fun _ _ _ h => h) (Or.inl ⟨by rfl, ?y3x4⟩) SWd.out.facts ?_
                  case y3x4 => (intro w hSw; (try dsimp only at hSw); go_simp; try with_reducible rfl)
                  simp only [Act.put, List.setIfInBounds_toArray, List.set_cons_zero, List.set_cons_succ, List.getElem_toArray, List.getElem_cons_zero, List.getElem_cons_succ]
                  refine wpAnyH_take (i := 4) (v := ?v4x5) rfl (by kernel_rfl) (by kernel_rfl) (by kernel_rfl) (fun _ _ _ h => h) (Or.inl ⟨by rfl, ?y4x5⟩) SWd.out.facts ?_
                  case y4x5 => (intro w hSw; (try dsimp only at hSw); go_simp; try with_reducible rfl)
                  simp only [Act.put, List.setIfInBounds_toArray, List.set_cons_zero, List.set_cons_succ, List.getElem_toArray, List.getElem_cons_zero, List.getElem_cons_succ]
                  refine wpAnyH_take (i := 5) (v := ?v5x6) rfl (by kernel_rfl) (by kernel_rfl) (by kernel_rfl) (fun _ _ _ h => h) (Or.inl ⟨by rfl, ?y5x6⟩) SWd.out.facts ?_
                  case y5x6 => (intro w hSw; (try dsimp only at hSw); go_simp; try with_reducible rfl)
                  simp only [Act.put, List.setIfInBounds_toArray, List.set_cons_zero, List.set_cons_succ, List.getElem_toArray, List.getElem_cons_zero, List.getElem_cons_succ]
                  refine wpAnyH_take (i := 6) (v := ?v6x7) rfl (by kernel_rfl) (by kernel_rfl) (by kernel_rfl) (fun _ _ _ h => h) (Or.inl ⟨by rfl, ?y6x7⟩) SWd.out.facts ?_
                  case y6x7 => (intro w hSw; (try dsimp only at hSw); go_simp; try with_reducible rfl)
                  simp only [Act.put, List.setIfInBounds_toArray, List.set_cons_zero, List.set_cons_succ, List.getElem_toArray, List.getElem_cons_zero, List.getElem_cons_succ]
                  refine wpAnyH_take (i := 7) (v := ?v7x8) rfl (by kernel_rfl) (by kernel_rfl) (by kernel_rfl) (fun _ _ _ h => h) (Or.inl ⟨by rfl, ?y7x8⟩) SWd.out.facts ?_
                  case y7x8 => (intro w hSw; (try dsimp only at hSw); go_simp; try with_reducible rfl)
                  simp only [Act.put, List.setIfInBounds_toArray, List.set_cons_zero, List.set_cons_succ, List.getElem_toArray, List.getElem_cons_zero, List.getElem_cons_succ]
                  refine wpAnyH_take (i := 8) (v := ?v8x9) rfl (by kernel_rfl) (by kernel_rfl) (by kernel_rfl) (fun _ _ _ h => h) (Or.inl ⟨by rfl, ?y8x9⟩) SWd.out.facts ?_
                  case y8x9 => (intro w hSw; (try dsimp only at hSw); go_simp; try with_reducible rfl)
                  simp only [Act.put, List.setIfInBounds_toArray, List.set_cons_zero, List.set_cons_succ, List.getElem_toArray, List.getElem_cons_zero, List.getElem_cons_succ]
                  obtain ⟨v0, hv0⟩ : ∃ x, we.drew = x := ⟨_, rfl⟩
                  rw [hv0] at SWd
                  simp only [hv0]
                  clear hv0
                  obtain ⟨m0, m1, m2, ⟨ya, za⟩, ⟨yb, zb⟩, ⟨yc, zc⟩⟩ := own_cells9 SWd.out.nu.one.ot hpn
                  have SW1 := Lib.hid (SWd.out.set3 hpn (y0, y1, y2))
                  refine wpAnyH_ready (rs := [9]) (by kernel_rfl) (by simp) ?_
                  refine AllReadyH.cons rfl (fun K hK => ?_) AllReadyH.nil
                  go_simp
                  refine hK.out _ _ SW1.out.facts (fun _ => ?_)
                  clear hK K
                  try simp only [Act.put, List.setIfInBounds_toArray, List.set_cons_zero, List.set_cons_succ, List.getElem_toArray, List.getElem_cons_zero, List.getElem_cons_succ]
                  obtain ⟨v1, hv1⟩ : ∃ x, ((v0.setCell ⟨q5, p * 3, none⟩ (.int .i64 y0)).setCell ⟨q5, p * 3 + 1, none⟩ (.int .i64 y1)).setCell ⟨q5, p * 3 + 2, none⟩ (.int .i64 y2) = x := ⟨_, rfl⟩
                  simp only [hv1]
                  have SW2 := Lib.hid (show SwS w2 v1 qa ls2 gt (M : Int) q5 c5 n (lt.set p (y0, y1, y2)) g1 g2 (x0, x1, x2) (y0, y1, y2) by rw [← hv1]; exact SW1.out)
                  clear hv1 ya za yb zb yc zc SW1
                  refine wpAnyH_take (i := 10) (v := ?v10x10) rfl (by kernel_rfl) (by kernel_rfl) (by kernel_rfl) (fun _ _ _ h => h) (Or.inl ⟨by rfl, ?y10x10⟩) SW2.out.facts ?_
                  case y10x10 => (intro w hSw; (try dsimp only at hSw); go_simp; try with_reducible rfl)
                  simp only [Act.put, List.setIfInBounds_toArray, List.set_cons_zero, List.set_cons_succ, List.getElem_toArray, List.getElem_cons_zero, List.getElem_cons_succ]
                  obtain ⟨m3, m4, m5, ⟨ya, za⟩, ⟨yb, zb⟩, ⟨yc, zc⟩⟩ := own_cells9 SW2.out.nu.one.ot hqn
                  have SW3 := Lib.hid (SW2.out.set3 hqn (x0, x1, x2))
                  refine wpAnyH_ready (rs := [11]) (by kernel_rfl) (by simp) ?_
                  refine AllReadyH.cons rfl (fun K hK => ?_) AllReadyH.nil
                  go_simp
                  refine hK.out _ _ SW3.out.facts (fun _ => ?_)
                  clear hK K
                  try simp only [Act.put, List.setIfInBounds_toArray, List.set_cons_zero, List.set_cons_succ, List.getElem_toArray, List.getElem_cons_zero, List.getElem_cons_succ]
                  have NF := Lib.hid SW3.out.nu
                  clear SW3 SW2 SWd SW ya za yb zb yc zc
                  refine wpAnyH_done (by kernel_rfl) ?_ _
                  refine NoPanic.normal ?_
                  go_wp2_with fail
                  refine ⟨⟨j + 1, ls2, _, by omega, by go_num, HP2.out, ?_, NF.out⟩, by simp [intOf]; omega⟩
                  have e := (swap_perm (z := z3) (by have := HLT.out.length_eq; have := HL.out.1; omega) (by have := HLT.out.length_eq; have := HL.out.1; omega) : ((lt.set p (lt.getD q z3)).set q (lt.getD p z3)).Perm lt)
                  rw [HXY.out.1, HXY.out.2] at e
                  exact e.trans HLT.out
                · go_simp
                  refine hK.out _ _ (HS.out _ (up1 bw _)) (fun _ => ?_)
                  clear hK K
                  try simp only [Act.put, List.setIfInBounds_toArray, List.set_cons_zero, List.set_cons_succ, List.getElem_toArray, List.getElem_cons_zero, List.getElem_cons_succ]
                  obtain ⟨u1, hn⟩ : ∃ x, u0.alloc zwit = x := ⟨_, rfl⟩
                  obtain ⟨g2, hg⟩ : ∃ x, u0.heap.size = x := ⟨_, rfl⟩
                  have z2 : Zw u1 g2 := by rw [← hn, ← hg]; exact heap_alloc_new u0 _
                  have bg2 : wc.heap.size ≤ g2 := by rw [← hg]; exact bw.size
                  have bn : Below u0.heap.size u0 u1 := by rw [← hn]; exact (Below.refl _ u0).alloc (Nat.le_refl _) _
                  have bw := up2 bw bn
                  simp only [hn, hg]
                  clear hn hg bn
                  refine wpAnyH_ready (rs := [10]) (by kernel_rfl) (by simp) ?_
                  refine AllReadyH.cons rfl (fun K hK => ?_) AllReadyH.nil
                  go_simp
                  refine hK.out _ _ (HS.out _ (up1 bw _)) (fun _ => ?_)
                  clear hK K
                  try simp only [Act.put, List.setIfInBounds_toArray, List.set_cons_zero, List.set_cons_succ, List.getElem_toArray, List.getElem_cons_zero, List.getElem_cons_succ]
                  obtain ⟨u2, hn⟩ : ∃ x, u1.alloc zwit = x := ⟨_, rfl⟩
                  obtain ⟨g1, hg⟩ : ∃ x, u1.heap.size = x := ⟨_, rfl⟩
                  have z1 : Zw u2 g1 := by rw [← hn, ← hg]; exact heap_alloc_new u1 _
                  have bg1 : wc.heap.size ≤ g1 := by rw [← hg]; exact bw.size
                  have bn : Below u1.heap.size u1 u2 := by rw [← hn]; exact (Below.refl _ u1).alloc (Nat.le_refl _) _
                  have ne : g1 ≠ g2 := by have := heap_lt z2; omega
                  have z2 := z2.up bn
                  have bw := up2 bw bn
                  simp only [hn, hg]
                  clear hn hg bn
                  have PR := Lib.hid (⟨bw, z1, z2, bg1, bg2, ne⟩ : PreW wc u2 g1 g2)
                  obtain ⟨f1, f2, f3⟩ := z1.facts
                  obtain ⟨f4, f5, f6⟩ := z1.cells
                  clear z1 z2 ne
                  refine wpAnyH_ready (rs := [12]) (by kernel_rfl) (by simp) ?_
                  refine AllReadyH.cons rfl (fun K hK => ?_) AllReadyH.nil
                  go_simp
                  refine hK.out _ _ (HS.out _ (below_set3 bw bg1 _ _ _)) (fun _ => ?_)
                  clear hK K
                  try simp only [Act.put, List.setIfInBounds_toArray, List.set_cons_zero, List.set_cons_succ, List.getElem_toArray, List.getElem_cons_zero, List.getElem_cons_succ]
                  obtain ⟨wm, hwm⟩ : ∃ x, ((u2.setCell ⟨g1, 0, none⟩ (.int .i64 x0)).setCell ⟨g1, 1, none⟩ (.int .i64 x1)).setCell ⟨g1, 2, none⟩ (.int .i64 x2) = x := ⟨_, rfl⟩
                  have PM := Lib.hid (PR.out.mid x0 x1 x2)
                  rw [hwm] at PM
                  simp only [hwm]
                  clear hwm f1 f2 f3 f4 f5 f6
                  obtain ⟨f1, f2, f3⟩ := PM.out.z2.facts
                  obtain ⟨f4, f5, f6⟩ := PM.out.z2.cells
                  refine wpAnyH_ready (rs := [13]) (by kernel_rfl) (by simp) ?_
                  refine AllReadyH.cons rfl (fun K hK => ?_) AllReadyH.nil
                  go_simp
                  refine hK.out _ _ (HS.out _ (below_set3 PM.out.below bg2 _ _ _)) (fun _ => ?_)
                  clear hK K
                  try simp only [Act.put, List.setIfInBounds_toArray, List.set_cons_zero, List.set_cons_succ, List.getElem_toArray, List.getElem_cons_zero, List.getElem_cons_succ]
                  obtain ⟨we, hwe⟩ : ∃ x, ((wm.setCell ⟨g2, 0, none⟩ (.int .i64 y0)).setCell ⟨g2, 1, none⟩ (.int .i64 y1)).setCell ⟨g2, 2, none⟩ (.int .i64 y2) = x := ⟨_, rfl⟩
                  have DU := Lib.hid (PM.out.fin y0 y1 y2)
                  rw [hwe] at DU
                  simp only [hwe]
                  have n1 : g1 ≠ q5 := by have := HQ5.out; omega
                  have n2 : g2 ≠ q5 := by have := HQ5.out; omega
                  clear hwe PM PR f1 f2 f3 f4 f5 f6 bw bg1 bg2
                  refine wpAnyH_done (by kernel_rfl) ?_ _
                  refine NoPanic.normal ?_
                  have SW := Lib.hid (⟨NU.out.up DU.out.below, DU.out.h1, DU.out.h2, n1, n2⟩ : SwS w2 we qa ls2 gt (M : Int) q5 c5 n lt g1 g2 (x0, x1, x2) (y0, y1, y2))
                  clear DU n1 n2
                  go_wp2_with fail
                  refine wp_region_noPanic ?_
                  have SWd := Lib.hid (SW.out.up (Reading.below ⟨1, rfl⟩ : Below we.heap.size we we.drew))
                  refine wp_region_held_drew (S := fun w' => w'.cell? ⟨gt, 1, none⟩ = some (.slice (some ⟨q5, 0, none⟩) n c5) ∧ w'.cell? ⟨g1, 0, none⟩ = some (.int .i64 x0) ∧ w'.cell? ⟨g1, 1, none⟩ = some (.int .i64 x1) ∧ w'.cell? ⟨g1, 2, none⟩ = some (.int .i64 x2) ∧ w'.cell? ⟨g2, 0, none⟩ = some (.int .i64 y0) ∧ w'.cell? ⟨g2, 1, none⟩ = some (.int .i64 y1) ∧ w'.cell? ⟨g2, 2, none⟩ = some (.int .i64 y2)) (by kernel_rfl) SWd.out.facts (fun _ => ?_)
                  refine wpAnyH_take (i := 0) (v := ?v0x1) rfl (by kernel_rfl) (by kernel_rfl) (by kernel_rfl) (fun _ _ _ h => h) (Or.inl ⟨by rfl, ?y0x1⟩) SWd.out.facts ?_
                  case y0x1 => (intro w hSw; (try dsimp only at hSw); go_simp; try with_reducible rfl)
                  simp only [Act.put, List.setIfInBounds_toArray, List.set_cons_zero, List.set_cons_succ, List.getElem_toArray, List.getElem_cons_zero]
                  refine wpAnyH_take (i := 1) (v := ?v1x2) rfl (by kernel_rfl) (by kernel_rfl) (by kernel_rfl) (fun _ _ _ h => h) (Or.inl ⟨by rfl, ?y1x2⟩) SWd.out.facts ?_
                  case y1x2 => (intro w hSw; (try dsimp only at hSw); go_simp; try with_reducible rfl)
                  simp only [Act.put, List.setIfInBounds_toArray, List.set_cons_zero, List.set_cons_succ, List.getElem_toArray, List.getElem_cons_zero, List.getElem_cons_succ]
                  refine wpAnyH_take (i := 2) (v := ?v2x3) rfl (by kernel_rfl) (by kernel_rfl) (by kernel_rfl) (fun _ _ _ h => h) (Or.inl ⟨by rfl, ?y2x3⟩) SWd.out.facts ?_
                  case y2x3 => (intro w hSw; (try dsimp only at hSw); go_simp; try with_reducible rfl)
                  simp only [Act.put, List.setIfInBounds_toArray, List.set_cons_zero, List.set_cons_succ, List.getElem_toArray, List.getElem_cons_zero, List.getElem_cons_succ]
                  refine wpAnyH_take (i := 3) (v := ?v3x4) rfl (by kernel_rfl) (by kernel_rfl) (by kernel_rfl) (fun _ _ _ h => h) (Or.inl ⟨by rfl, ?y3x4⟩) SWd.out.facts ?_
                  case y3x4 => (intro w hSw; (try dsimp only at hSw); go_simp; try with_reducible rfl)
                  simp only [Act.put, List.setIfInBounds_toArray, List.set_cons_zero, List.set_cons_succ, List.getElem_toArray, List.getElem_cons_zero, List.getElem_cons_succ]
                  refine wpAnyH_take (i := 4) (v := ?v4x5) rfl (by kernel_rfl) (by kernel_rfl) (by kernel_rfl) (fun _ _ _ h => h) (Or.inl ⟨by rfl, ?y4x5⟩) SWd.out.facts ?_
                  case y4x5 => (intro w hSw; (try dsimp only at hSw); go_simp; try with_reducible rfl)
                  simp only [Act.put, List.setIfInBounds_toArray, List.set_cons_zero, List.set_cons_succ, List.getElem_toArray, List.getElem_cons_zero, List.getElem_cons_succ]
                  refine wpAnyH_take (i := 5) (v := ?v5x6) rfl (by kernel_rfl) (by kernel_rfl) (by kernel_rfl) (fun _ _ _ h => h) (Or.inl ⟨by rfl, ?y5x6⟩) SWd.out.facts ?_
                  case y5x6 => (intro w hSw; (try dsimp only at hSw); go_simp; try with_reducible rfl)
                  simp only [Act.put, List.setIfInBounds_toArray, List.set_cons_zero, List.set_cons_succ, List.getElem_toArray, List.getElem_cons_zero, List.getElem_cons_succ]
                  refine wpAnyH_take (i := 6) (v := ?v6x7) rfl (by kernel_rfl) (by kernel_rfl) (by kernel_rfl) (fun _ _ _ h => h) (Or.inl ⟨by rfl, ?y6x7⟩) SWd.out.facts ?_
                  case y6x7 => (intro w hSw; (try dsimp only at hSw); go_simp; try with_reducible rfl)
                  simp only [Act.put, List.setIfInBounds_toArray, List.set_cons_zero, List.set_cons_succ, List.getElem_toArray, List.getElem_cons_zero, List.getElem_cons_succ]
                  refine wpAnyH_take (i := 7) (v := ?v7x8) rfl (by kernel_rfl) (by kernel_rfl) (by kernel_rfl) (fun _ _ _ h => h) (Or.inl ⟨by rfl, ?y7x8⟩) SWd.out.facts ?_
                  case y7x8 => (intro w hSw; (try dsimp only at hSw); go_simp; try with_reducible rfl)
                  simp only [Act.put, List.setIfInBounds_toArray, List.set_cons_zero, List.set_cons_succ, List.getElem_toArray, List.getElem_cons_zero, List.getElem_cons_succ]
                  refine wpAnyH_take (i := 8) (v := ?v8x9) rfl (by kernel_rfl) (by kernel_rfl) (by kernel_rfl) (fun _ _ _ h => h) (Or.inl ⟨by rfl, ?y8x9⟩) SWd.out.facts ?_
                  case y8x9 => (intro w hSw; (try dsimp only at hSw); go_simp; try with_reducible rfl)
                  simp only [Act.put, List.setIfInBounds_toArray, List.set_cons_zero, List.set_cons_succ, List.getElem_toArray, List.getElem_cons_zero, List.getElem_cons_succ]
                  obtain ⟨v0, hv0⟩ : ∃ x, we.drew = x := ⟨_, rfl⟩
                  rw [hv0] at SWd
                  simp only [hv0]
                  clear hv0
                  obtain ⟨m0, m1, m2, ⟨ya, za⟩, ⟨yb, zb⟩, ⟨yc, zc⟩⟩ := own_cells9 SWd.out.nu.one.ot hpn
                  have SW1 := Lib.hid (SWd.out.set3 hpn (y0, y1, y2))
                  refine wpAnyH_ready (rs := [9]) (by kernel_rfl) (by simp) ?_
                  refine AllReadyH.cons rfl (fun K hK => ?_) AllReadyH.nil
                  go_simp
                  refine hK.out _ _ SW1.out.facts (fun _ => ?_)
                  clear hK K
                  try simp only [Act.put, List.setIfInBounds_toArray, List.set_cons_zero, List.set_cons_succ, List.getElem_toArray, List.getElem_cons_zero, List.getElem_cons_succ]
                  obtain ⟨v1, hv1⟩ : ∃ x, ((v0.setCell ⟨q5, p * 3, none⟩ (.int .i64 y0)).setCell ⟨q5, p * 3 + 1, none⟩ (.int .i64 y1)).setCell ⟨q5, p * 3 + 2, none⟩ (.int .i64 y2) = x := ⟨_, rfl⟩
                  simp only [hv1]
                  have SW2 := Lib.hid (show SwS w2 v1 qa ls2 gt (M : Int) q5 c5 n (lt.set p (y0, y1, y2)) g1 g2 (x0, x1, x2) (y0, y1, y2) by rw [← hv1]; exact SW1.out)
                  clear hv1 ya za yb zb yc zc SW1
                  refine wpAnyH_take (i := 10) (v := ?v10x10) rfl (by kernel_rfl) (by kernel_rfl) (by kernel_rfl) (fun _ _ _ h => h) (Or.inl ⟨by rfl, ?y10x10⟩) SW2.out.facts ?_
                  case y10x10 => (intro w hSw; (try dsimp only at hSw); go_simp; try with_reducible rfl)
                  simp only [Act.put, List.setIfInBounds_toArray, List.set_cons_zero, List.set_cons_succ, List.getElem_toArray, List.getElem_cons_zero, List.getElem_cons_succ]
                  obtain ⟨m3, m4, m5, ⟨ya, za⟩, ⟨yb, zb⟩, ⟨yc, zc⟩⟩ := own_cells9 SW2.out.nu.one.ot hqn
                  have SW3 := Lib.hid (SW2.out.set3 hqn (x0, x1, x2))
                  refine wpAnyH_ready (rs := [11]) (by kernel_rfl) (by simp) ?_
                  refine AllReadyH.cons rfl (fun K hK => ?_) AllReadyH.nil
                  go_simp
                  refine hK.out _ _ SW3.out.facts (fun _ => ?_)
                  clear hK K
                  try simp only [Act.put, List.setIfInBounds_toArray, List.set_cons_zero, List.set_cons_succ, List.getElem_toArray, List.getElem_cons_zero, List.getElem_cons_succ]
                  have NF := Lib.hid SW3.out.nu
                  clear SW3 SW2 SWd SW ya za yb zb yc zc
                  refine wpAnyH_done (by kernel_rfl) ?_ _
                  refine NoPanic.normal ?_
                  go_wp2_with fail
                  refine ⟨⟨j + 1, ls2, _, by omega, by go_num, HP2.out, ?_, NF.out⟩, by simp [intOf]; omega⟩
                  have e := (swap_perm (z := z3) (by have := HLT.out.length_eq; have := HL.out.1; omega) (by have := HLT.out.length_eq; have := HL.out.1; omega) : ((lt.set p (lt.getD q z3)).set q (lt.getD p z3)).Perm lt)
                  rw [HXY.out.1, HXY.out.2] at e
                  exact e.trans HLT.out
            · have t1 : ¬ (0 : Int) < n := by omega
              go_wp2_with fail
              exact ⟨⟨j + 1, ls2, lt, by omega, by go_num, HP2.out, HLT.out, NU2.out⟩, by simp [intOf]; omega⟩
        · obtain rfl : m = j := by omega
          have b1 : ¬ (m : Int) < m := by omega
          have HPM := HP1
          have hltn : lt.length = n := by have := HLT.out.length_eq; have := HL.out.1; omega
          have LL0 := Lib.hid (⟨hltn, fun j hj => absurd hj (by omega), fun _ _ _ => rfl⟩ : LL (fN M ls) lt n 0 lt)
          have HLN := Lib.hid hltn
          have tc := NU1.out.tcell
          clear hltn
          go_wp2_with fail
          clear tc b1
          go_loopw [125] (L3 w2 qa gt (M : Int) n (fN M ls) ls lt A5 c5) (fun i _ => n - (intOf i).toNat)
          case atStart => exact ⟨0, lt, Nat.zero_le _, rfl, NU1.out, LL0.out⟩
          case round =>
            obtain ⟨i, L, hi, rfl, nu, ll⟩ := hrel
            have NU3 := Lib.hid nu
            have LLi := Lib.hid ll
            clear nu ll NU1 LL0
            by_cases hin : i < n
            · have b1 : (i : Int) < n := by omega
              obtain ⟨q5, rfl, hq5, _⟩ := own_at9 NU3.out.one.ot (by omega)
              obtain ⟨x, hx⟩ : ∃ x, lt.getD i z3 = x := ⟨_, rfl⟩
              have HX := Lib.hid hx
              obtain ⟨x0, x1, x2⟩ := x
              clear hx
              go_wp2_with fail
              go_loopw [128] (L4 w2 qa gt (M : Int) n i (fN M ls) ls lt (some ⟨q5, 0, none⟩) c5) (fun i _ => 3 - (intOf i).toNat)
              case atStart => exact ⟨0, L, by omega, rfl, NU3.out, LLi.out.lp hin⟩
              case round =>
                obtain ⟨r, L, hr, rfl, nu, lp⟩ := hrel
                have NU4 := Lib.hid nu
                have LPh := Lib.hid lp
                clear nu lp
                rcases (show r = 0 ∨ r = 1 ∨ r = 2 ∨ r = 3 by omega) with hr3 | hr3 | hr3 | hr3
                · have hri : ((r : Nat) : Int) = 0 := by omega
                  rw [hri]
                  have HRR := Lib.hid hr3
                  have LP' := Lib.hid (show LP (fN M ls) lt n i 0 L by have := LPh.out; rw [show r = 0 from hr3] at this; exact this)
                  clear hri hr3 hr LPh
                  have cx : wr.cell? ⟨q5, i * 3, none⟩ = some (.int .i64 x0) := by
                    have := LP'.out.cell NU4.out.one.ot hin 0 (by omega)
                    rw [HX.out] at this
                    exact this
                  have gx := NU4.out.tcell
                  have gN := HB.out wr NU4.out.one.below
                  by_cases h0 : 0 ≤ x0
                  · by_cases h1 : x0 < (M : Int)
                    · obtain ⟨xn, hxn⟩ : ∃ xn : Nat, x0 = (xn : Int) := ⟨x0.toNat, by omega⟩
                      have hx1 : xn < M := by omega
                      have cr := NU4.out.row.cell (k := xn) (by rw [HPM.out.len]; exact hx1)
                      have hf : fN M ls x0 = ls.getD xn 0 := by unfold fN; rw [if_pos ⟨h0, h1⟩, hxn]; rfl
                      have HF := Lib.hid hf
                      obtain ⟨fv, hfv⟩ : ∃ fv, ls.getD xn 0 = fv := ⟨_, rfl⟩
                      rw [hfv] at cr
                      rw [hfv] at HF
                      obtain ⟨m0, m1, m2, ⟨ya, za⟩, ⟨yb, zb⟩, ⟨yc, zc⟩⟩ := own_cells9 NU4.out.one.ot hin
                      have NS := Lib.hid (NU4.out.set1 hin 0 (by omega) fv)
                      have LQ := Lib.hid (LP'.out.put hin 0 rfl (by omega))
                      rw [HX.out] at LQ
                      rw [show fN M ls (tv9 (x0, x1, x2) 0) = fv from HF.out] at LQ
                      rw [hxn] at cx
                      have hxM : (xn : Int) < M := by omega
                      clear hf hfv h0 h1 hxn
                      go_wp2_with fail
                      go_still_tail 10, (by kernel_rfl)
                      change wpList _ _ _ _ _ wr.drew
                      go_wp2_with fail
                      have hrr := HRR.out
                      subst hrr
                      exact ⟨⟨0 + 1, _, by omega, rfl, NS.out.up (Reading.below ⟨1, rfl⟩), LQ.out⟩, by simp [intOf]⟩
                    · have LQ := Lib.hid (LP'.out.skip hin 0 rfl (by omega) (by rw [HX.out]; exact if_neg (fun h => h1 h.2)))
                      go_wp2_with fail
                      have hrr := HRR.out
                      subst hrr
                      exact ⟨⟨0 + 1, _, by omega, rfl, NU4.out, LQ.out⟩, by simp [intOf]⟩
                  · have LQ := Lib.hid (LP'.out.skip hin 0 rfl (by omega) (by rw [HX.out]; exact if_neg (fun h => h0 h.1)))
                    go_wp2_with fail
                    have hrr := HRR.out
                    subst hrr
                    exact ⟨⟨0 + 1, _, by omega, rfl, NU4.out, LQ.out⟩, by simp [intOf]⟩
                · have hri : ((r : Nat) : Int) = 1 := by omega
                  rw [hri]
                  have HRR := Lib.hid hr3
                  have LP' := Lib.hid (show LP (fN M ls) lt n i 1 L by have := LPh.out; rw [show r = 1 from hr3] at this; exact this)
                  clear hri hr3 hr LPh
                  have cx : wr.cell? ⟨q5, i * 3 + 1, none⟩ = some (.int .i64 x1) := by
                    have := LP'.out.cell NU4.out.one.ot hin 1 (by omega)
                    rw [HX.out] at this
                    exact this
                  have gx := NU4.out.tcell
                  have gN := HB.out wr NU4.out.one.below
                  by_cases h0 : 0 ≤ x1
                  · by_cases h1 : x1 < (M : Int)
                    · obtain ⟨xn, hxn⟩ : ∃ xn : Nat, x1 = (xn : Int) := ⟨x1.toNat, by omega⟩
                      have hx1 : xn < M := by omega
                      have cr := NU4.out.row.cell (k := xn) (by rw [HPM.out.len]; exact hx1)
                      have hf : fN M ls x1 = ls.getD xn 0 := by unfold fN; rw [if_pos ⟨h0, h1⟩, hxn]; rfl
                      have HF := Lib.hid hf
                      obtain ⟨fv, hfv⟩ : ∃ fv, ls.getD xn 0 = fv := ⟨_, rfl⟩
                      rw [hfv] at cr
                      rw [hfv] at HF
                      obtain ⟨m0, m1, m2, ⟨ya, za⟩, ⟨yb, zb⟩, ⟨yc, zc⟩⟩ := own_cells9 NU4.out.one.ot hin
                      have NS := Lib.hid (NU4.out.set1 hin 1 (by omega) fv)
                      have LQ := Lib.hid (LP'.out.put hin 1 rfl (by omega))
                      rw [HX.out] at LQ
                      rw [show fN M ls (tv9 (x0, x1, x2) 1) = fv from HF.out] at LQ
                      rw [hxn] at cx
                      have hxM : (xn : Int) < M := by omega
                      clear hf hfv h0 h1 hxn
                      go_wp2_with fail
                      go_still_tail 10, (by kernel_rfl)
                      change wpList _ _ _ _ _ wr.drew
                      go_wp2_with fail
                      have hrr := HRR.out
                      subst hrr
                      exact ⟨⟨1 + 1, _, by omega, rfl, NS.out.up (Reading.below ⟨1, rfl⟩), LQ.out⟩, by simp [intOf]⟩
                    · have LQ := Lib.hid (LP'.out.skip hin 1 rfl (by omega) (by rw [HX.out]; exact if_neg (fun h => h1 h.2)))
                      go_wp2_with fail
                      have hrr := HRR.out
                      subst hrr
                      exact ⟨⟨1 + 1, _, by omega, rfl, NU4.out, LQ.out⟩, by simp [intOf]⟩
                  · have LQ := Lib.hid (LP'.out.skip hin 1 rfl (by omega) (by rw [HX.out]; exact if_neg (fun h => h0 h.1)))
                    go_wp2_with fail
                    have hrr := HRR.out
                    subst hrr
                    exact ⟨⟨1 + 1, _, by omega, rfl, NU4.out, LQ.out⟩, by simp [intOf]⟩
                · have hri : ((r : Nat) : Int) = 2 := by omega
                  rw [hri]
                  have HRR := Lib.hid hr3
                  have LP' := Lib.hid (show LP (fN M ls) lt n i 2 L by have := LPh.out; rw [show r = 2 from hr3] at this; exact this)
                  clear hri hr3 hr LPh
                  have cx : wr.cell? ⟨q5, i * 3 + 2, none⟩ = some (.int .i64 x2) := by
                    have := LP'.out.cell NU4.out.one.ot hin 2 (by omega)
                    rw [HX.out] at this
                    exact this
                  have gx := NU4.out.tcell
                  have gN := HB.out wr NU4.out.one.below
                  by_cases h0 : 0 ≤ x2
                  · by_cases h1 : x2 < (M : Int)
                    · obtain ⟨xn, hxn⟩ : ∃ xn : Nat, x2 = (xn : Int) := ⟨x2.toNat, by omega⟩
                      have hx1 : xn < M := by omega
                      have cr := NU4.out.row.cell (k := xn) (by rw [HPM.out.len]; exact hx1)
                      have hf : fN M ls x2 = ls.getD xn 0 := by unfold fN; rw [if_pos ⟨h0, h1⟩, hxn]; rfl
                      have HF := Lib.hid hf
                      obtain ⟨fv, hfv⟩ : ∃ fv, ls.getD xn 0 = fv := ⟨_, rfl⟩
                      rw [hfv] at cr
                      rw [hfv] at HF
                      obtain ⟨m0, m1, m2, ⟨ya, za⟩, ⟨yb, zb⟩, ⟨yc, zc⟩⟩ := own_cells9 NU4.out.one.ot hin
                      have NS := Lib.hid (NU4.out.set1 hin 2 (by omega) fv)
                      have LQ := Lib.hid (LP'.out.put hin 2 rfl (by omega))
                      rw [HX.out] at LQ
                      rw [show fN M ls (tv9 (x0, x1, x2) 2) = fv from HF.out] at LQ
                      rw [hxn] at cx
                      have hxM : (xn : Int) < M := by omega
                      clear hf hfv h0 h1 hxn
                      go_wp2_with fail
                      go_still_tail 10, (by kernel_rfl)
                      change wpList _ _ _ _ _ wr.drew
                      go_wp2_with fail
                      have hrr := HRR.out
                      subst hrr
                      exact ⟨⟨2 + 1, _, by omega, rfl, NS.out.up (Reading.below ⟨1, rfl⟩), LQ.out⟩, by simp [intOf]⟩
                    · have LQ := Lib.hid (LP'.out.skip hin 2 rfl (by omega) (by rw [HX.out]; exact if_neg (fun h => h1 h.2)))
                      go_wp2_with fail
                      have hrr := HRR.out
                      subst hrr
                      exact ⟨⟨2 + 1, _, by omega, rfl, NU4.out, LQ.out⟩, by simp [intOf]⟩
                  · have LQ := Lib.hid (LP'.out.skip hin 2 rfl (by omega) (by rw [HX.out]; exact if_neg (fun h => h0 h.1)))
                    go_wp2_with fail
                    have hrr := HRR.out
                    subst hrr
                    exact ⟨⟨2 + 1, _, by omega, rfl, NU4.out, LQ.out⟩, by simp [intOf]⟩
                · have hri : ((r : Nat) : Int) = 3 := by omega
                  rw [hri]
                  have LPe := Lib.hid (show LP (fN M ls) lt n i 3 L by have := LPh.out; rw [show r = 3 from hr3] at this; exact this)
                  clear hri hr3 hr LPh
                  go_wp2_with fail
                  exact ⟨⟨i + 1, L, by omega, by go_num, NU4.out, LPe.out.ll⟩, by simp [intOf]; omega⟩
            · obtain rfl : n = i := by omega
              have b1 : ¬ (n : Int) < n := by omega
              obtain ⟨p2, hp2⟩ := isPin_exists L
              have hL := LLi.out.all HLN.out
              have hperm : L.Perm (l.map (mapT (fN M ls))) := by rw [hL]; exact HLT.out.map _
              obtain ⟨hln, hkd⟩ := isAll_numbered (gf_N HPM.out) (fg_N HPM.out) (fN_in HPM.out) hperm (⟨pp, HP.out, rfl⟩ : IsAll (M : Int) l _) (⟨p2, hp2, rfl⟩ : IsAll (M : Int) L _)
              have hwl := wits_len pp (M : Int) l
              obtain ⟨kk, hkk⟩ : ∃ x, kindW (wits pp (M : Int) l) = x := ⟨_, rfl⟩
              obtain ⟨ln, hle⟩ : ∃ x, (wits pp (M : Int) l).length = x := ⟨_, rfl⟩
              rw [hkk] at hkd
              rw [hle] at hln hwl
              have K1 := Lib.hid (fun W (b : Below wr.heap.size wr W) => (ccheck_any W (M : Int) A n c l pp (HL.out.below (up2 B2.out (up2 NU3.out.one.below b))) HP.out (by omega)).mono (R' := fun e w' => ∃ a1 a2, e = .returned (.agg #[.int .i64 kk, .int .i64 a1, .int .i64 a2]) ∧ Below W.heap.size W w') (by rintro e w' ⟨rfl, b⟩; exact ⟨((wits pp (M : Int) l).headD (0, 0, 0)).2.1, ((wits pp (M : Int) l).headD (0, 0, 0)).2.2, by rw [← hkk, ← head_kind], b⟩))
              have K2 := Lib.hid (fun W (b : Below wr.heap.size wr W) => (ccheck_any W (M : Int) A5 n c5 L p2 ((T3.of_own NU3.out.one.ot).below b) hp2 (by omega)).mono (R' := fun e w' => ∃ a1 a2, e = .returned (.agg #[.int .i64 kk, .int .i64 a1, .int .i64 a2]) ∧ Below W.heap.size W w') (by rintro e w' ⟨rfl, b⟩; exact ⟨((wits p2 (M : Int) L).headD (0, 0, 0)).2.1, ((wits p2 (M : Int) L).headD (0, 0, 0)).2.2, by rw [← hkd, ← head_kind], b⟩))
              have K3 := Lib.hid (fun W (b : Below wr.heap.size wr W) => (call_any W (M : Int) A n c l pp (HL.out.below (up2 B2.out (up2 NU3.out.one.below b))) HP.out (by omega)).mono (R' := fun e w' => ∃ q, e = .returned (.slice (some ⟨q, 0, none⟩) ln ln) ∧ Below W.heap.size W w') (by rintro e w' ⟨q, rfl, _, b, _⟩; rw [hle]; exact ⟨q, rfl, b⟩))
              have K4 := Lib.hid (fun W (b : Below wr.heap.size wr W) => (call_any W (M : Int) A5 n c5 L p2 ((T3.of_own NU3.out.one.ot).below b) hp2 (by omega)).mono (R' := fun e w' => ∃ q, e = .returned (.slice (some ⟨q, 0, none⟩) ln ln) ∧ Below W.heap.size W w') (by rintro e w' ⟨q, rfl, _, b, _⟩; rw [hln]; exact ⟨q, rfl, b⟩))
              have HS := Lib.hid (fun W (b : Below wr.heap.size wr W) => (show W.cell? ⟨g, 0, none⟩ = some (.int .i64 (M : Int)) ∧ W.cell? ⟨g, 1, none⟩ = some (.slice A n c) ∧ W.cell? ⟨gt, 0, none⟩ = some (.int .i64 (M : Int)) ∧ W.cell? ⟨gt, 1, none⟩ = some (.slice A5 n c5) from by
                have u := NU3.out.up b
                have h := HB.out W u.one.below
                exact ⟨h.1, h.2, by rw [cell_in u.one.bx]; rfl, u.tcell⟩))
              have BO := Lib.hid (up2 B2.out NU3.out.one.below)
              have bd : Below wr.heap.size wr wr.drew := Reading.below ⟨1, rfl⟩
              have hd := HS.out wr.drew bd
              have hfd := field9
              clear hln hkd hkk hle hL hperm hp2 NU3 LLi HB
              go_wp2_with fail
              refine wp_region_noPanic ?_
              refine wp_region_held_drew (S := fun w' => w'.cell? ⟨g, 0, none⟩ = some (.int .i64 (M : Int)) ∧ w'.cell? ⟨g, 1, none⟩ = some (.slice A n c) ∧ w'.cell? ⟨gt, 0, none⟩ = some (.int .i64 (M : Int)) ∧ w'.cell? ⟨gt, 1, none⟩ = some (.slice A5 n c5)) (by kernel_rfl) hd (fun _ => ?_)
              refine wpAnyH_take (i := 0) (v := ?v0z1) rfl (by kernel_rfl) (by kernel_rfl) (by kernel_rfl) (fun _ _ _ h => h) (Or.inl ⟨by rfl, ?y0z1⟩) hd ?_
              case y0z1 => (intro w hSw; (try dsimp only at hSw); go_simp; try with_reducible rfl)
              simp only [Act.put, List.setIfInBounds_toArray, List.set_cons_zero, List.set_cons_succ, List.getElem_toArray, List.getElem_cons_zero]
              refine wpAnyH_take (i := 3) (v := ?v3z2) rfl (by kernel_rfl) (by kernel_rfl) (by kernel_rfl) (fun _ _ _ h => h) (Or.inl ⟨by rfl, ?y3z2⟩) hd ?_
              case y3z2 => (intro w hSw; (try dsimp only at hSw); go_simp; try with_reducible rfl)
              simp only [Act.put, List.setIfInBounds_toArray, List.set_cons_zero, List.set_cons_succ, List.getElem_toArray, List.getElem_cons_zero, List.getElem_cons_succ]
              refine wpAnyH_ready (rs := [1]) (by kernel_rfl) (by simp) ?_
              refine AllReadyH.cons rfl (fun K hK => ?_) AllReadyH.nil
              rw [if_pos (by rfl)]
              go_wp2_with fail
              refine (K1.out _ bd).mono ?_
              rintro e v1 ⟨ka, kb, rfl, b9⟩
              have d1 := up2 bd b9
              clear b9
              go_wp2_with fail
              refine hK.out _ _ (HS.out _ d1) (fun _ => ?_)
              clear hK K
              try simp only [Act.put, List.setIfInBounds_toArray, List.set_cons_zero, List.set_cons_succ, List.getElem_toArray, List.getElem_cons_zero, List.getElem_cons_succ]
              refine wpAnyH_take (i := 2) (v := ?v2z3) rfl (by kernel_rfl) (by kernel_rfl) (by kernel_rfl) (fun _ _ _ h => h) (Or.inl ⟨by rfl, ?y2z3⟩) (HS.out _ d1) ?_
              case y2z3 => (intro w hSw; (try dsimp only at hSw); go_simp; try with_reducible rfl)
              simp only [Act.put, List.setIfInBounds_toArray, List.set_cons_zero, List.set_cons_succ, List.getElem_toArray, List.getElem_cons_zero, List.getElem_cons_succ]
              refine wpAnyH_ready (rs := [4]) (by kernel_rfl) (by simp) ?_
              refine AllReadyH.cons rfl (fun K hK => ?_) AllReadyH.nil
              rw [if_pos (by rfl)]
              go_wp2_with fail
              refine (K2.out _ d1).mono ?_
              rintro e v2 ⟨ka, kb, rfl, b9⟩
              have d2 := up2 d1 b9
              clear b9
              go_wp2_with fail
              refine hK.out _ _ (HS.out _ d2) (fun _ => ?_)
              clear hK K
              try simp only [Act.put, List.setIfInBounds_toArray, List.set_cons_zero, List.set_cons_succ, List.getElem_toArray, List.getElem_cons_zero, List.getElem_cons_succ]
              refine wpAnyH_take (i := 5) (v := ?v5z4) rfl (by kernel_rfl) (by kernel_rfl) (by kernel_rfl) (fun _ _ _ h => h) (Or.inl ⟨by rfl, ?y5z4⟩) (HS.out _ d2) ?_
              case y5z4 => (intro w hSw; (try dsimp only at hSw); go_simp; try with_reducible rfl)
              simp only [Act.put, List.setIfInBounds_toArray, List.set_cons_zero, List.set_cons_succ, List.getElem_toArray, List.getElem_cons_zero, List.getElem_cons_succ]
              refine wpAnyH_take (i := 6) (v := ?v6z5) rfl (by kernel_rfl) (by kernel_rfl) (by kernel_rfl) (fun _ _ _ h => h) (Or.inl ⟨by rfl, ?y6z5⟩) (HS.out _ d2) ?_
              case y6z5 => (intro w hSw; (try dsimp only at hSw); go_simp; try with_reducible rfl)
              simp only [Act.put, List.setIfInBounds_toArray, List.set_cons_zero, List.set_cons_succ, List.getElem_toArray, List.getElem_cons_zero, List.getElem_cons_succ]
              refine wpAnyH_take (i := 7) (v := ?v7z6) rfl (by kernel_rfl) (by kernel_rfl) (by kernel_rfl) (fun _ _ _ h => h) (Or.inl ⟨by rfl, ?y7z6⟩) (HS.out _ d2) ?_
              case y7z6 => (intro w hSw; (try dsimp only at hSw); go_simp; try with_reducible rfl)
              simp only [Act.put, List.setIfInBounds_toArray, List.set_cons_zero, List.set_cons_succ, List.getElem_toArray, List.getElem_cons_zero, List.getElem_cons_succ]
              refine wpAnyH_take (i := 8) (v := ?v8z7) rfl (by kernel_rfl) (by kernel_rfl) (by kernel_rfl) (fun _ _ _ h => h) (Or.inl ⟨by kernel_rfl, ?y8z7⟩) (HS.out _ d2) ?_
              case y8z7 => (intro w hSw; (try dsimp only at hSw); go_simp; try with_reducible rfl)
              simp only [Act.put, List.setIfInBounds_toArray, List.set_cons_zero, List.set_cons_succ, List.getElem_toArray, List.getElem_cons_zero, List.getElem_cons_succ]
              refine wpAnyH_take (i := 11) (v := ?v11z8) rfl (by kernel_rfl) (by kernel_rfl) (by kernel_rfl) (fun _ _ _ h => h) (Or.inl ⟨by kernel_rfl, ?y11z8⟩) (HS.out _ d2) ?_
              case y11z8 => (intro w hSw; (try dsimp only at hSw); go_simp; try with_reducible rfl)
              simp only [Act.put, List.setIfInBounds_toArray, List.set_cons_zero, List.set_cons_succ, List.getElem_toArray, List.getElem_cons_zero, List.getElem_cons_succ]
              refine wpAnyH_ready (rs := [9]) (by kernel_rfl) (by simp) ?_
              refine AllReadyH.cons rfl (fun K hK => ?_) AllReadyH.nil
              rw [if_pos (by kernel_rfl)]
              go_wp2_with fail
              refine (K3.out _ d2).mono ?_
              rintro e v3 ⟨qq, rfl, b9⟩
              have d3 := up2 d2 b9
              clear b9
              go_wp2_with fail
              refine hK.out _ _ (HS.out _ d3) (fun _ => ?_)
              clear hK K
              try simp only [Act.put, List.setIfInBounds_toArray, List.set_cons_zero, List.set_cons_succ, List.getElem_toArray, List.getElem_cons_zero, List.getElem_cons_succ]
              refine wpAnyH_take (i := 10) (v := ?v10z9) rfl (by kernel_rfl) (by kernel_rfl) (by kernel_rfl) (fun _ _ _ h => h) (Or.inl ⟨by kernel_rfl, ?y10z9⟩) (HS.out _ d3) ?_
              case y10z9 => (intro w hSw; (try dsimp only at hSw); go_simp; try with_reducible rfl)
              simp only [Act.put, List.setIfInBounds_toArray, List.set_cons_zero, List.set_cons_succ, List.getElem_toArray, List.getElem_cons_zero, List.getElem_cons_succ]
              refine wpAnyH_ready (rs := [12]) (by kernel_rfl) (by simp) ?_
              refine AllReadyH.cons rfl (fun K hK => ?_) AllReadyH.nil
              rw [if_pos (by kernel_rfl)]
              go_wp2_with fail
              refine (K4.out _ d3).mono ?_
              rintro e v4 ⟨qq, rfl, b9⟩
              have d4 := up2 d3 b9
              clear b9
              go_wp2_with fail
              refine hK.out _ _ (HS.out _ d4) (fun _ => ?_)
              clear hK K
              try simp only [Act.put, List.setIfInBounds_toArray, List.set_cons_zero, List.set_cons_succ, List.getElem_toArray, List.getElem_cons_zero, List.getElem_cons_succ]
              refine wpAnyH_take (i := 13) (v := ?v13z10) rfl (by kernel_rfl) (by kernel_rfl) (by kernel_rfl) (fun _ _ _ h => h) (Or.inl ⟨by kernel_rfl, ?y13z10⟩) (HS.out _ d4) ?_
              case y13z10 => (intro w hSw; (try dsimp only at hSw); go_simp; try with_reducible rfl)
              simp only [Act.put, List.setIfInBounds_toArray, List.set_cons_zero, List.set_cons_succ, List.getElem_toArray, List.getElem_cons_zero, List.getElem_cons_succ]
              refine wpAnyH_take (i := 14) (v := ?v14z11) rfl (by kernel_rfl) (by kernel_rfl) (by kernel_rfl) (fun _ _ _ h => h) (Or.inl ⟨by kernel_rfl, ?y14z11⟩) (HS.out _ d4) ?_
              case y14z11 => (intro w hSw; (try dsimp only at hSw); go_simp; try with_reducible rfl)
              simp only [Act.put, List.setIfInBounds_toArray, List.set_cons_zero, List.set_cons_succ, List.getElem_toArray, List.getElem_cons_zero, List.getElem_cons_succ]
              refine wpAnyH_take (i := 15) (v := ?v15z12) rfl (by kernel_rfl) (by kernel_rfl) (by kernel_rfl) (fun _ _ _ h => h) (Or.inl ⟨by rfl, ?y15z12⟩) (HS.out _ d4) ?_
              case y15z12 => (intro w hSw; (try dsimp only at hSw); go_simp; try with_reducible rfl)
              simp only [Act.put, List.setIfInBounds_toArray, List.set_cons_zero, List.set_cons_succ, List.getElem_toArray, List.getElem_cons_zero, List.getElem_cons_succ]
              refine wpAnyH_take (i := 16) (v := ?v16z13) rfl (by kernel_rfl) (by kernel_rfl) (by kernel_rfl) (fun _ _ _ h => h) (Or.inl ⟨by rfl, ?y16z13⟩) (HS.out _ d4) ?_
              case y16z13 => (intro w hSw; (try dsimp only at hSw); go_simp; try with_reducible rfl)
              simp only [Act.put, List.setIfInBounds_toArray, List.set_cons_zero, List.set_cons_succ, List.getElem_toArray, List.getElem_cons_zero, List.getElem_cons_succ]
              refine wpAnyH_done (by kernel_rfl) ?_ _
              refine NoPanic.normal ?_
              go_wp2_with fail
              go_ret
              exact ⟨rfl, up2 BO.out d4⟩
set_option maxRecDepth 100000 in
theorem lifted (os : Os) (started : os.Started) (H : Type) (enc : TypeId × Value → H) :
    ReturnsInHanded {} Try.checked os 6 .any (Rows.certifyNumberedSpec.pre6 enc Try.prog Try.f6 Rows.certifyNumberedRow.domain false) (Rows.certifyNumberedSpec.post enc Try.prog Try.f6 false true false false) := by
  refine returnsInHanded_of_change (C := Try.checked) own_knob started (by kernel_rfl) Try.func6
    (ChangeSpec.witness6 (enc := enc) (C := Try.checked) false ⟨#[], #[.agg #[.int .i64 0, .slice none 0 0], .slice none 0 0], []⟩ 8 (by kernel_rfl) (by kernel_rfl) (by kernel_rfl) (by kernel_rfl)) ?_
  intro W base args ds gs before hval0 hW hcnd _
  have hval : ∀ (j : Nat) t v, Try.f6.params[j]? = some t → args[j]? = some v → Value.okWide Try.prog W .any base t v := hval0
  have hW' := hW
  obtain ⟨p, q, hA0, hV, rfl, hfz, hnd⟩ := hW
  have hA : DataW.TrodAll enc Try.prog W 0 (fun _ => true) true Try.f6.params.toList args.toList ds p := hA0
  rw [Try.params6] at hA hval
  obtain ⟨v0, vs0, d0, ds0, p0, q0, hargs, rfl, rfl, h0, r0⟩ := trodAll_cons hA
  obtain ⟨v1, vs1, d1, ds1, p1, q1, rfl, rfl, rfl, h1, r1⟩ := trodAll_cons r0
  obtain ⟨rfl, rfl, rfl⟩ := trodAll_nil r1
  obtain rfl : args = #[v0, v1] := by cases args; simp_all
  obtain ⟨rfl, rfl⟩ := trodVars_none hV
  have lt0 : ∀ x ∈ p0, x.block < W.heap.size := by obtain ⟨m, hm⟩ := h0; exact DataW.trod_lt m _ _ _ hm
  obtain ⟨N0, a0, len0, cap0, xs0, rfl, hN0, hr0⟩ := arg_soup (hval 0 24 v0 rfl rfl) h0
  obtain ⟨a1, len1, cap1, rfl⟩ := okWide_slice Try.underlying39 (hval 1 39 v1 rfl rfl)
  have lt1 : ∀ x ∈ p1, x.block < W.heap.size := by obtain ⟨m, hm⟩ := h1; exact DataW.trod_lt m _ _ _ hm
  obtain ⟨hc1, xs1, hx1, hr1⟩ := arg_bytes4 h1
  clear hA0 hval0
  refine (walk N0 a0 len0 cap0 xs0 a1 len1 cap1 xs1 W hN0.1 hN0.2 hr0 hc1 hx1 hr1).mono fun e W' ⟨he, bel⟩ => ?_
  subst he
  exact ⟨_, rfl, _, _, _, [], _, [], hW', trodAll_mk1 (shut_bool Try.underlying4 _), (trodAll_cons_mk (Below.trod laid_out (by kernel_rfl) (of_decide_eq_true (by kernel_rfl)) h0 bel lt0) (trodAll_cons_mk (Below.trod laid_out (by kernel_rfl) (of_decide_eq_true (by kernel_rfl)) h1 bel lt1) trodAll_mk0)), rfl, bel.frame _, fun h => by cases h⟩

theorem over : Rows.certifyNumberedRow.holds Try.pinned (OpenSpec.ofChange Rows.certifyNumberedSpec) :=
  OpenClaim.holds_of_wide 6 Try.f6 rfl rfl rfl rfl rfl rfl rfl ⟨rfl, rfl, rfl, rfl, rfl⟩ rfl rfl rfl rfl rfl (by kernel_rfl) Try.func6 (by kernel_rfl)
    (of_decide_eq_true (by kernel_rfl)) (by unfold Func.isWrapper; first | (rw [if_pos (by decide +kernel)]; kernel_rfl) | (rw [if_neg (by decide +kernel)]; exact ⟨rfl, rfl⟩))
    (fun os started H enc _ => lifted os started H enc)

theorem proved : Rows.CertifyNumberedSaid := over
end Go.Proofs.Ytelbmjbjpgcdaaa.certifyNumbered
