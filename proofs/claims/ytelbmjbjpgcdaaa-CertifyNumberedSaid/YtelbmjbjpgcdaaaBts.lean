/- Bytes in memory: what a call may have turned, a row of bytes in a block, rows that are owned (out of the texts of layers 4 and 5). -/
import Derived.Test.YtelbmjbjpgcdaaaDig
namespace Go.Proofs.Ytelbmjbjpgcdaaa
open Go.RowKit

/-- Of the old blocks only those of S may have been turned. -/
structure Chg (S : Nat → Prop) (w w' : World) : Prop where
  os : w'.os = w.os
  tape : w'.tape = w.tape
  output : w'.output = w.output
  size : w.heap.size ≤ w'.heap.size
  far : ∀ b, b < w.heap.size → ¬ S b → w'.heap[b]? = w.heap[b]?
theorem Chg.refl (S : Nat → Prop) (w : World) : Chg S w w := ⟨rfl, rfl, rfl, Nat.le_refl _, fun _ _ _ => rfl⟩
theorem Chg.trans {S : Nat → Prop} {w w1 w2 : World} (h : Chg S w w1) (k : Chg S w1 w2) : Chg S w w2 :=
  ⟨k.os.trans h.os, k.tape.trans h.tape, k.output.trans h.output, Nat.le_trans h.size k.size, fun b hb hs => (k.far b (Nat.lt_of_lt_of_le hb h.size) hs).trans (h.far b hb hs)⟩
theorem Chg.mono {S T : Nat → Prop} {w w1 : World} (h : Chg S w w1) (hst : ∀ b, b < w.heap.size → S b → T b) : Chg T w w1 :=
  ⟨h.os, h.tape, h.output, h.size, fun b hb hs => h.far b hb fun hx => hs (hst b hb hx)⟩
theorem Chg.below {S : Nat → Prop} {w w1 : World} {B : Nat} (h : Chg S w w1) (hB : B ≤ w.heap.size) (hs : ∀ b, S b → B ≤ b) : Below B w w1 :=
  ⟨h.os, h.tape, h.output, h.size, fun b hb => h.far b (by omega) fun hx => by have := hs b hx; omega⟩
theorem Chg.of_below {S : Nat → Prop} {w w1 : World} (h : Below w.heap.size w w1) : Chg S w w1 := ⟨h.os, h.tape, h.output, h.size, fun b hb _ => h.block b hb⟩
theorem Chg.of_read {S : Nat → Prop} {w w1 : World} (h : Reading w w1) : Chg S w w1 := .of_below h.below
theorem Chg.of_grown {S : Nat → Prop} {w w1 : World} {q : Option Nat} (h : w.grownBy w1 q) (hq : ∀ b, q = some b → S b) : Chg S w w1 :=
  ⟨h.os, h.tape, h.output, h.size, fun b hb hs => h.block b hb fun e => hs (hq b e.symm)⟩
theorem Chg.of_set {S : Nat → Prop} (w : World) (p : Addr) (u : Value) (h : S p.block) : Chg S w (w.setCell p u) :=
  ⟨rfl, rfl, rfl, by simp [World.setCell], fun b _ hs => Below.heap_setCell w p u b (fun e => hs (e ▸ h))⟩
theorem Chg.read {S : Nat → Prop} {w w1 w2 : World} (h : Chg S w w1) (k : Reading w1 w2) : Chg S w w2 := h.trans (.of_read k)
theorem Chg.set {S : Nat → Prop} {w w1 : World} (h : Chg S w w1) (p : Addr) (u : Value) (hp : S p.block) : Chg S w (w1.setCell p u) := h.trans (.of_set w1 p u hp)
theorem Chg.trans' {S T : Nat → Prop} {w w1 w2 : World} (h : Chg S w w1) (k : Chg T w1 w2) (ht : ∀ b, b < w.heap.size → T b → S b) : Chg S w w2 :=
  ⟨k.os.trans h.os, k.tape.trans h.tape, k.output.trans h.output, Nat.le_trans h.size k.size, fun b hb hs => (k.far b (Nat.lt_of_lt_of_le hb h.size) fun hx => hs (ht b hb hx)).trans (h.far b hb hs)⟩
def bts (l : List Nat) : List Value := l.map fun d : Nat => .int .u8 (d : Int)
theorem length_bts (l : List Nat) : (bts l).length = l.length := by simp [bts]
theorem bts_append (a b : List Nat) : bts (a ++ b) = bts a ++ bts b := by simp [bts]
theorem bts_one (l : List Nat) : ∀ u ∈ bts l, u.oneCell' = true := by
  intro u hu
  simp only [bts, List.mem_map] at hu
  obtain ⟨x, _, rfl⟩ := hu
  rfl
theorem bts_at (l : List Nat) (k : Nat) (h : k < l.length) : (bts l)[k]? = some (.int .u8 ((l.getD k 0 : Nat) : Int)) := by
  simp [bts, List.getElem?_eq_getElem h]
/-- The bytes l lie at the start of block q. -/
def BRow (w : World) (q : Nat) (l : List Nat) (rest : List Value) : Prop := w.heap[q]? = some (.cells (bts l ++ rest).toArray 5 (0, 0))
theorem BRow.cell {w : World} {q : Nat} {l : List Nat} {rest : List Value} (h : BRow w q l rest) (k : Nat) (hk : k < l.length) : w.cell? ⟨q, k, none⟩ = some (.int .u8 ((l.getD k 0 : Nat) : Int)) := by
  rw [cell_in h, List.getElem?_toArray, List.getElem?_append_left (by rw [length_bts]; exact hk), bts_at l k hk]
theorem BRow.set {w : World} {q : Nat} {l : List Nat} {rest : List Value} (h : BRow w q l rest) (k x : Nat) (hk : k < l.length) : BRow (w.setCell ⟨q, k, none⟩ (.int .u8 (x : Int))) q (l.set k x) rest := by
  have := heap_set h k (.int .u8 (x : Int))
  rw [BRow, this, List.setIfInBounds_toArray, List.set_append_left _ _ (by rw [length_bts]; exact hk)]
  simp [bts, List.map_set]
theorem Try.infoU8 : (Try.prog.info? 5).map (fun i => (i.zero, i.size, i.bytes)) = some (some (.int .u8 0), 1, 1) := by kernel_rfl
theorem own_lt {w : World} {B n : Nat} {t : TypeId} {v : Value} {xs : List Value} (h : w.ownsRow B t 1 v n xs) (q : Nat) (hq : v.ownBlock = some q) : B ≤ q ∧ q < w.heap.size ∧ ∃ cur, w.heap[q]? = some (.cells cur t (0, 0)) := by
  rcases h.2 with ⟨h1, _⟩ | ⟨p, cap, cur, h1, hp, hh, _⟩
  · subst h1; cases hq
  · subst h1
    injection hq with hq
    subst hq
    exact ⟨hp, heap_lt hh, cur, hh⟩
theorem own_keep {S : Nat → Prop} {w w' : World} {B n : Nat} {t : TypeId} {v : Value} {xs : List Value} (h : w.ownsRow B t 1 v n xs) (hc : Chg S w w') (hs : ∀ q, v.ownBlock = some q → ¬ S q) : w'.ownsRow B t 1 v n xs := by
  refine ⟨h.1, ?_⟩
  rcases h.2 with h1 | ⟨p, cap, cur, h1, hp, hh, h3⟩
  · exact .inl h1
  · exact .inr ⟨p, cap, cur, h1, hp, (hc.far p (heap_lt hh) (hs p (by rw [h1]; rfl))).trans hh, h3⟩
/-- The row of an encoder lies in a block, once there are bytes. -/
theorem own_block {w : World} {B n : Nat} {v : Value} {l : List Nat} (h : w.ownsRow B 5 1 v n (bts l)) (hn : 0 < n) : ∃ q cap rest, v = .slice (some ⟨q, 0, none⟩) n cap ∧ BRow w q l rest ∧ n ≤ cap ∧ cap ≤ maxLen ∧ (bts l ++ rest).length = cap ∧ B ≤ q := by
  rcases h.2 with ⟨_, h1⟩ | ⟨q, cap, cur, h1, hq, hh, hc, hm, hs, ht⟩
  · omega
  · refine ⟨q, cap, cur.toList.drop n, h1, ?_, hc, hm, ?_, hq⟩
    · rw [BRow, hh, ← ht, Nat.mul_one, List.take_append_drop, Array.toArray_toList]
    · rw [← ht, Nat.mul_one, List.take_append_drop, Array.length_toList]
      omega
theorem own_of_block {w : World} {B n q cap : Nat} {l : List Nat} {rest : List Value} (h : BRow w q l rest) (hl : l.length = n) (hc : n ≤ cap) (hm : cap ≤ maxLen) (hs : (bts l ++ rest).length = cap) (hq : B ≤ q) : w.ownsRow B 5 1 (.slice (some ⟨q, 0, none⟩) n cap) n (bts l) := by
  refine ⟨by rw [length_bts]; omega, .inr ⟨q, cap, _, rfl, hq, h, hc, hm, ?_, ?_⟩⟩
  · rw [List.size_toArray]; omega
  · rw [List.toList_toArray, Nat.mul_one, List.take_append_of_le_length (by rw [length_bts]; omega), List.take_of_length_le (by rw [length_bts]; omega)]
theorem own_trim {w : World} {B n q cap m : Nat} {l : List Nat} (h : w.ownsRow B 5 1 (.slice (some ⟨q, 0, none⟩) n cap) n (bts l)) (hm : m ≤ n) : w.ownsRow B 5 1 (.slice (some ⟨q, 0, none⟩) m cap) m (bts (l.take m)) := by
  have hl : l.length = n := by have := h.1; rw [length_bts] at this; omega
  rcases h.2 with ⟨h1, _⟩ | ⟨q', cap', cur, h1, hq, hh, hc, hx, hs, ht⟩
  · cases h1
  · injection h1 with h1 _ h3
    injection h1 with h1
    injection h1 with h1
    subst h1 h3
    refine ⟨by rw [length_bts, List.length_take]; omega, .inr ⟨q, cap, cur, rfl, hq, hh, by omega, hx, hs, ?_⟩⟩
    rw [show bts (l.take m) = (bts l).take m by simp [bts, List.map_take], ← ht, List.take_take]
    congr 1
    omega
theorem own_addr {w : World} {B n cap : Nat} {ad : Addr} {l : List Value} (h : w.ownsRow B 5 1 (.slice (some ad) n cap) n l) : ∃ q, ad = ⟨q, 0, none⟩ ∧ n ≤ cap := by
  rcases h.2 with ⟨h1, _⟩ | ⟨q', cap', cur, h1, hq, hh, hc, _⟩
  · cases h1
  · injection h1 with h1 _ h3
    injection h1 with h1
    subst h1 h3
    exact ⟨q', rfl, hc⟩
theorem own_info {w : World} {B n : Nat} {v : Value} {l : List Value} (h : w.ownsRow B 5 1 v n l) : (v = .slice none 0 0 ∧ n = 0) ∨ ∃ q c, v = .slice (some ⟨q, 0, none⟩) n c ∧ n ≤ c := by
  rcases h.2 with h1 | ⟨q, c, cur, h1, hq, hh, hc, _⟩
  · exact .inl h1
  · exact .inr ⟨q, c, h1, hc⟩
theorem own_base {w : World} {B B' n : Nat} {t : TypeId} {v : Value} {xs : List Value} (h : w.ownsRow B t 1 v n xs) (hB : B' ≤ B) : w.ownsRow B' t 1 v n xs := by
  refine ⟨h.1, ?_⟩
  rcases h.2 with h1 | ⟨p, cap, cur, h1, hp, h3⟩
  · exact .inl h1
  · exact .inr ⟨p, cap, cur, h1, Nat.le_trans hB hp, h3⟩
theorem own_neT {w : World} {B n p : Nat} {v : Value} {xs : List Value} {s t : TypeId} {cp : Array Value} (h : w.ownsRow B s 1 v n xs) (hp : w.heap[p]? = some (.cells cp t (0, 0))) (ht : t ≠ s) : v.ownBlock ≠ some p := by
  intro e
  obtain ⟨_, _, cur, hc⟩ := own_lt h p e
  rw [hp] at hc
  injection hc with hc
  injection hc with _ hc
  exact ht hc
theorem Reads.byte {w : World} {A : Option Addr} {n : Nat} {l : List Nat} (h : Reads w A n (bts l)) (k : Nat) (hk : k < n) : ∃ ad, A = some ad ∧ w.cell? (ad.add k) = some (.int .u8 ((l.getD k 0 : Nat) : Int)) := by
  obtain ⟨ad, hA, hc⟩ := h.2 (by omega)
  have hl := h.1
  rw [length_bts] at hl
  exact ⟨ad, hA, hc k _ (bts_at l k (by omega))⟩
theorem Reads.lenB {w : World} {A : Option Addr} {n : Nat} {l : List Nat} (h : Reads w A n (bts l)) : l.length = n := by have := h.1; rwa [length_bts] at this
theorem getD_lt {l : List Nat} {n : Nat} (h : ∀ s ∈ l, s < n) (k : Nat) (hk : k < l.length) : l.getD k 0 < n := by
  rw [List.getD_eq_getElem?_getD, List.getElem?_eq_getElem hk]
  exact h _ (List.getElem_mem hk)
theorem take_getD (l : List Nat) (k : Nat) (hk : k < l.length) : l.take (k + 1) = l.take k ++ [l.getD k 0] := by
  rw [List.take_succ_eq_append_getElem hk, List.getD_eq_getElem?_getD, List.getElem?_eq_getElem hk]
  rfl
theorem mk_below (w : World) (o : Obj) : Below w.heap.size w (w.alloc o) := (Below.refl _ _).alloc (Nat.le_refl _) _
/-- A slice of bytes, one alone, that has been made. -/
theorem own_one (w : World) (B d : Nat) (hB : B ≤ w.heap.size) : (w.alloc (.cells #[.int .u8 (d : Int)] 5)).ownsRow B 5 1 (.slice (some ⟨w.heap.size, 0, none⟩) 1 1) 1 (bts [d]) :=
  own_of_block (l := [d]) (rest := []) (show BRow _ _ _ _ from heap_alloc_new _ _) rfl (Nat.le_refl _) (by decide) rfl hB
end Go.Proofs.Ytelbmjbjpgcdaaa
