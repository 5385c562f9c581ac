/- Texts laid one behind the other: Bls, Dig, Bts, Up, SouMem, SouEq, SouFill, RowI, RowB, SouOwn, IntSnoc, ArgInts, ArgSoup. -/
import Derived.Test.YtmflacmgffpjoaaGP
import Derived.Deep.RegionHeld3
import Derived.BigQuiet
import Derived.Laws.Rows
import Derived.Laws.ResultCell
import Derived.ChangeKeysEq
import Derived.Laws.StructEq
import Derived.Handy
import Derived.Deep.SlicePairs
import Derived.Laws.IdiomArrays
import Derived.ChangeSame
import Derived.ProofKit
import Derived.OpenShut
import Derived.ShutString
import Derived.ChangeOld

/- Truth values as a row's cells (out of SouRep and CeLone). -/
namespace Go.Proofs.Ytmflacmgffpjoaa
open Go.RowKit

def bls (bs : List Bool) : List Value := bs.map Value.bool
theorem Try.infoBool : (Try.prog.info? 4).map (fun i => (i.zero, i.size, i.bytes)) = some (some (.bool false), 1, 1) := by kernel_rfl
end Go.Proofs.Ytmflacmgffpjoaa

/- Digits, base 256, the highest first: their number, and what changes it. -/
namespace Go.Proofs.Ytmflacmgffpjoaa

/-- The number of digits. -/
def val (l : List Nat) : Nat := l.foldl (fun a d => a * 256 + d) 0
/-- The n digits of v. -/
def digs : Nat → Nat → List Nat
  | 0, _ => []
  | n + 1, v => digs n (v / 256) ++ [v % 256]
/-- Digits they are. -/
def Dig (l : List Nat) : Prop := ∀ d ∈ l, d < 256

theorem val_nil : val [] = 0 := rfl
theorem foldl_val (l : List Nat) (a : Nat) : l.foldl (fun a d => a * 256 + d) a = a * 256 ^ l.length + val l := by
  induction l generalizing a with
  | nil => simp [val]
  | cons d l ih =>
    rw [List.foldl_cons, ih, List.length_cons]
    have : val (d :: l) = d * 256 ^ l.length + val l := by
      show l.foldl _ (0 * 256 + d) = _
      rw [ih]; simp
    rw [this, Nat.pow_succ, Nat.add_mul, Nat.mul_assoc, Nat.mul_comm 256, Nat.add_assoc]
theorem val_append (a b : List Nat) : val (a ++ b) = val a * 256 ^ b.length + val b := by
  show (a ++ b).foldl _ 0 = _
  rw [List.foldl_append, foldl_val]
  rfl
theorem val_cons (d : Nat) (l : List Nat) : val (d :: l) = d * 256 ^ l.length + val l := by
  have := val_append [d] l
  simpa [val] using this
theorem val_snoc (l : List Nat) (d : Nat) : val (l ++ [d]) = val l * 256 + d := by
  rw [val_append]; simp [val]
theorem pow_pos' (n : Nat) : 0 < 256 ^ n := Nat.pow_pos (by omega)
theorem val_lt (l : List Nat) (h : Dig l) : val l < 256 ^ l.length := by
  induction l with
  | nil => simp [val]
  | cons d l ih =>
    rw [val_cons, List.length_cons, Nat.pow_succ]
    have h1 := ih (fun x hx => h x (List.mem_cons_of_mem _ hx))
    have h2 := h d (List.mem_cons_self ..)
    have h3 : d * 256 ^ l.length ≤ 255 * 256 ^ l.length := Nat.mul_le_mul_right _ (by omega)
    omega
theorem length_digs (n v : Nat) : (digs n v).length = n := by
  induction n generalizing v with
  | zero => rfl
  | succ n ih => rw [digs, List.length_append, ih]; rfl
theorem dig_digs (n v : Nat) : Dig (digs n v) := by
  induction n generalizing v with
  | zero => intro d hd; cases hd
  | succ n ih =>
    intro d hd
    rcases List.mem_append.1 hd with hd | hd
    · exact ih _ d hd
    · rw [List.mem_singleton.1 hd]; exact Nat.mod_lt _ (by omega)
theorem val_digs (n v : Nat) (h : v < 256 ^ n) : val (digs n v) = v := by
  induction n generalizing v with
  | zero => simp at h; subst h; rfl
  | succ n ih =>
    rw [digs, val_snoc, ih (v / 256) (Nat.div_lt_of_lt_mul (by rw [Nat.mul_comm, ← Nat.pow_succ]; exact h))]
    omega
theorem digs_val (l : List Nat) (h : Dig l) : digs l.length (val l) = l := by
  have key : ∀ n (l : List Nat), l.length = n → Dig l → digs n (val l) = l := by
    intro n
    induction n with
    | zero => intro l hl _; rw [List.eq_nil_of_length_eq_zero hl]; rfl
    | succ n ih =>
      intro l hl h
      have hne : l ≠ [] := by intro e; rw [e] at hl; cases hl
      obtain ⟨a, d, rfl⟩ : ∃ a d, l = a ++ [d] := ⟨l.dropLast, l.getLast hne, (List.dropLast_concat_getLast hne).symm⟩
      have hd : d < 256 := h d (by simp)
      rw [digs, val_snoc, show (val a * 256 + d) / 256 = val a by omega, show (val a * 256 + d) % 256 = d by omega]
      rw [ih a (by simp at hl; exact hl) (fun x hx => h x (List.mem_append_left _ hx))]
  exact key _ l rfl h
theorem val_inj (a b : List Nat) (hl : a.length = b.length) (ha : Dig a) (hb : Dig b) (h : val a = val b) : a = b := by
  rw [← digs_val a ha, ← digs_val b hb, h, hl]
theorem val_set (l : List Nat) (i x : Nat) (hi : i < l.length) : val (l.set i x) + l.getD i 0 * 256 ^ (l.length - 1 - i) = val l + x * 256 ^ (l.length - 1 - i) := by
  induction l generalizing i with
  | nil => simp at hi
  | cons d l ih =>
    cases i with
    | zero =>
      rw [List.set_cons_zero, val_cons, val_cons]
      simp
      omega
    | succ i =>
      have := ih i (by simpa using hi)
      rw [List.set_cons_succ, val_cons, val_cons, List.length_set]
      have e : (d :: l).length - 1 - (i + 1) = l.length - 1 - i := by simp; omega
      rw [e, show (d :: l).getD (i + 1) 0 = l.getD i 0 by simp]
      omega
theorem dig_set (l : List Nat) (i x : Nat) (h : Dig l) (hx : x < 256) : Dig (l.set i x) := by
  intro d hd
  rcases List.mem_or_eq_of_mem_set hd with hd | rfl
  · exact h d hd
  · exact hx
theorem dig_at {l : List Nat} (h : Dig l) (i : Nat) : l.getD i 0 < 256 := by
  by_cases hi : i < l.length
  · have := h l[i] (List.getElem_mem hi)
    simpa [List.getElem?_eq_getElem hi] using this
  · simp [List.getElem?_eq_none (by omega : l.length ≤ i)]
theorem dig_append {a b : List Nat} (ha : Dig a) (hb : Dig b) : Dig (a ++ b) := fun d hd => by
  rcases List.mem_append.1 hd with h | h
  · exact ha d h
  · exact hb d h
theorem dig_take {a : List Nat} (ha : Dig a) (n : Nat) : Dig (a.take n) := fun d hd => ha d (List.mem_of_mem_take hd)
theorem dig_zeros (n : Nat) : Dig (List.replicate n 0) := fun d hd => by rw [List.eq_of_mem_replicate hd]; omega
theorem val_zeros (n : Nat) : val (List.replicate n 0) = 0 := by
  induction n with
  | zero => rfl
  | succ n ih => rw [List.replicate_succ, val_cons, ih]; simp
/-- The first m digits. -/
theorem val_take (l : List Nat) (m : Nat) (h : Dig l) : val (l.take m) = val l / 256 ^ (l.length - m) := by
  have h1 := val_append (l.take m) (l.drop m)
  rw [List.take_append_drop, List.length_drop] at h1
  have h2 := val_lt (l.drop m) (fun d hd => h d (List.mem_of_mem_drop hd))
  rw [List.length_drop] at h2
  rw [h1, Nat.mul_comm, Nat.mul_add_div (pow_pos' _), Nat.div_eq_of_lt h2, Nat.add_zero]
theorem digs_append_zeros (n v e : Nat) (h : v < 256 ^ n) : digs n v ++ List.replicate e 0 = digs (n + e) (v * 256 ^ e) := by
  have hlt : v * 256 ^ e < 256 ^ (n + e) := by rw [Nat.pow_add]; exact Nat.mul_lt_mul_of_pos_right h (pow_pos' e)
  apply val_inj
  · rw [List.length_append, length_digs, length_digs, List.length_replicate]
  · exact dig_append (dig_digs _ _) (dig_zeros _)
  · exact dig_digs _ _
  · rw [val_append, val_digs n v h, val_zeros, List.length_replicate, val_digs _ _ hlt]
    simp
/-- The first place at which two rows differ tells which number is less. -/
theorem val_cmp (p a b : List Nat) (x y : Nat) (hl : a.length = b.length) (ha : Dig a) (h : x < y) : val (p ++ x :: a) < val (p ++ y :: b) := by
  rw [val_append, val_append, val_cons, val_cons, List.length_cons, List.length_cons, hl]
  have h1 := val_lt a ha
  rw [hl] at h1
  have h2 : (x + 1) * 256 ^ b.length ≤ y * 256 ^ b.length := Nat.mul_le_mul_right _ h
  rw [Nat.add_mul] at h2
  omega
end Go.Proofs.Ytmflacmgffpjoaa

/- Bytes in memory: what a call may have turned, a row of bytes in a block, rows that are owned (out of the texts of layers 4 and 5). -/
namespace Go.Proofs.Ytmflacmgffpjoaa
open Go.RowKit

/-- Of the old blocks only those of S may have been turned. -/
structure Chg (S : Nat → Prop) (w w' : World) : Prop where
  os : w'.os = w.os
  tape : w'.tape = w.tape
  output : w'.output = w.output
  size : w.heap.size ≤ w'.heap.size
  far : ∀ b, b < w.heap.size → ¬ S b → w'.heap[b]? = w.heap[b]?
theorem Chg.refl (S : Nat → Prop) (w : World) : Chg S w w := ⟨rfl, rfl, rfl, Nat.le_refl _, fun _ _ _ => rfl⟩
theorem Chg.trans {S : Nat → Prop} {w w1 w2 : World} (h : Chg S w w1) (k : Chg S w1 w2) : Chg S w w2 :=
  ⟨k.os.trans h.os, k.tape.trans h.tape, k.output.trans h.output, Nat.le_trans h.size k.size, fun b hb hs => (k.far b (Nat.lt_of_lt_of_le hb h.size) hs).trans (h.far b hb hs)⟩
theorem Chg.mono {S T : Nat → Prop} {w w1 : World} (h : Chg S w w1) (hst : ∀ b, b < w.heap.size → S b → T b) : Chg T w w1 :=
  ⟨h.os, h.tape, h.output, h.size, fun b hb hs => h.far b hb fun hx => hs (hst b hb hx)⟩
theorem Chg.below {S : Nat → Prop} {w w1 : World} {B : Nat} (h : Chg S w w1) (hB : B ≤ w.heap.size) (hs : ∀ b, S b → B ≤ b) : Below B w w1 :=
  ⟨h.os, h.tape, h.output, h.size, fun b hb => h.far b (by omega) fun hx => by have := hs b hx; omega⟩
theorem Chg.of_below {S : Nat → Prop} {w w1 : World} (h : Below w.heap.size w w1) : Chg S w w1 := ⟨h.os, h.tape, h.output, h.size, fun b hb _ => h.block b hb⟩
theorem Chg.of_read {S : Nat → Prop} {w w1 : World} (h : Reading w w1) : Chg S w w1 := .of_below h.below
theorem Chg.of_grown {S : Nat → Prop} {w w1 : World} {q : Option Nat} (h : w.grownBy w1 q) (hq : ∀ b, q = some b → S b) : Chg S w w1 :=
  ⟨h.os, h.tape, h.output, h.size, fun b hb hs => h.block b hb fun e => hs (hq b e.symm)⟩
theorem Chg.of_set {S : Nat → Prop} (w : World) (p : Addr) (u : Value) (h : S p.block) : Chg S w (w.setCell p u) :=
  ⟨rfl, rfl, rfl, by simp [World.setCell], fun b _ hs => Below.heap_setCell w p u b (fun e => hs (e ▸ h))⟩
theorem Chg.read {S : Nat → Prop} {w w1 w2 : World} (h : Chg S w w1) (k : Reading w1 w2) : Chg S w w2 := h.trans (.of_read k)
theorem Chg.set {S : Nat → Prop} {w w1 : World} (h : Chg S w w1) (p : Addr) (u : Value) (hp : S p.block) : Chg S w (w1.setCell p u) := h.trans (.of_set w1 p u hp)
theorem Chg.trans' {S T : Nat → Prop} {w w1 w2 : World} (h : Chg S w w1) (k : Chg T w1 w2) (ht : ∀ b, b < w.heap.size → T b → S b) : Chg S w w2 :=
  ⟨k.os.trans h.os, k.tape.trans h.tape, k.output.trans h.output, Nat.le_trans h.size k.size, fun b hb hs => (k.far b (Nat.lt_of_lt_of_le hb h.size) fun hx => hs (ht b hb hx)).trans (h.far b hb hs)⟩
def bts (l : List Nat) : List Value := l.map fun d : Nat => .int .u8 (d : Int)
theorem length_bts (l : List Nat) : (bts l).length = l.length := by simp [bts]
theorem bts_append (a b : List Nat) : bts (a ++ b) = bts a ++ bts b := by simp [bts]
theorem bts_one (l : List Nat) : ∀ u ∈ bts l, u.oneCell' = true := by
  intro u hu
  simp only [bts, List.mem_map] at hu
  obtain ⟨x, _, rfl⟩ := hu
  rfl
theorem bts_at (l : List Nat) (k : Nat) (h : k < l.length) : (bts l)[k]? = some (.int .u8 ((l.getD k 0 : Nat) : Int)) := by
  simp [bts, List.getElem?_eq_getElem h]
/-- The bytes l lie at the start of block q. -/
def BRow (w : World) (q : Nat) (l : List Nat) (rest : List Value) : Prop := w.heap[q]? = some (.cells (bts l ++ rest).toArray 5 (0, 0))
theorem BRow.cell {w : World} {q : Nat} {l : List Nat} {rest : List Value} (h : BRow w q l rest) (k : Nat) (hk : k < l.length) : w.cell? ⟨q, k, none⟩ = some (.int .u8 ((l.getD k 0 : Nat) : Int)) := by
  rw [cell_in h, List.getElem?_toArray, List.getElem?_append_left (by rw [length_bts]; exact hk), bts_at l k hk]
theorem BRow.set {w : World} {q : Nat} {l : List Nat} {rest : List Value} (h : BRow w q l rest) (k x : Nat) (hk : k < l.length) : BRow (w.setCell ⟨q, k, none⟩ (.int .u8 (x : Int))) q (l.set k x) rest := by
  have := heap_set h k (.int .u8 (x : Int))
  rw [BRow, this, List.setIfInBounds_toArray, List.set_append_left _ _ (by rw [length_bts]; exact hk)]
  simp [bts, List.map_set]
theorem Try.infoU8 : (Try.prog.info? 5).map (fun i => (i.zero, i.size, i.bytes)) = some (some (.int .u8 0), 1, 1) := by kernel_rfl
theorem own_lt {w : World} {B n : Nat} {t : TypeId} {v : Value} {xs : List Value} (h : w.ownsRow B t 1 v n xs) (q : Nat) (hq : v.ownBlock = some q) : B ≤ q ∧ q < w.heap.size ∧ ∃ cur, w.heap[q]? = some (.cells cur t (0, 0)) := by
  rcases h.2 with ⟨h1, _⟩ | ⟨p, cap, cur, h1, hp, hh, _⟩
  · subst h1; cases hq
  · subst h1
    injection hq with hq
    subst hq
    exact ⟨hp, heap_lt hh, cur, hh⟩
theorem own_keep {S : Nat → Prop} {w w' : World} {B n : Nat} {t : TypeId} {v : Value} {xs : List Value} (h : w.ownsRow B t 1 v n xs) (hc : Chg S w w') (hs : ∀ q, v.ownBlock = some q → ¬ S q) : w'.ownsRow B t 1 v n xs := by
  refine ⟨h.1, ?_⟩
  rcases h.2 with h1 | ⟨p, cap, cur, h1, hp, hh, h3⟩
  · exact .inl h1
  · exact .inr ⟨p, cap, cur, h1, hp, (hc.far p (heap_lt hh) (hs p (by rw [h1]; rfl))).trans hh, h3⟩
/-- The row of an encoder lies in a block, once there are bytes. -/
theorem own_block {w : World} {B n : Nat} {v : Value} {l : List Nat} (h : w.ownsRow B 5 1 v n (bts l)) (hn : 0 < n) : ∃ q cap rest, v = .slice (some ⟨q, 0, none⟩) n cap ∧ BRow w q l rest ∧ n ≤ cap ∧ cap ≤ maxLen ∧ (bts l ++ rest).length = cap ∧ B ≤ q := by
  rcases h.2 with ⟨_, h1⟩ | ⟨q, cap, cur, h1, hq, hh, hc, hm, hs, ht⟩
  · omega
  · refine ⟨q, cap, cur.toList.drop n, h1, ?_, hc, hm, ?_, hq⟩
    · rw [BRow, hh, ← ht, Nat.mul_one, List.take_append_drop, Array.toArray_toList]
    · rw [← ht, Nat.mul_one, List.take_append_drop, Array.length_toList]
      omega
theorem own_of_block {w : World} {B n q cap : Nat} {l : List Nat} {rest : List Value} (h : BRow w q l rest) (hl : l.length = n) (hc : n ≤ cap) (hm : cap ≤ maxLen) (hs : (bts l ++ rest).length = cap) (hq : B ≤ q) : w.ownsRow B 5 1 (.slice (some ⟨q, 0, none⟩) n cap) n (bts l) := by
  refine ⟨by rw [length_bts]; omega, .inr ⟨q, cap, _, rfl, hq, h, hc, hm, ?_, ?_⟩⟩
  · rw [List.size_toArray]; omega
  · rw [List.toList_toArray, Nat.mul_one, List.take_append_of_le_length (by rw [length_bts]; omega), List.take_of_length_le (by rw [length_bts]; omega)]
theorem own_trim {w : World} {B n q cap m : Nat} {l : List Nat} (h : w.ownsRow B 5 1 (.slice (some ⟨q, 0, none⟩) n cap) n (bts l)) (hm : m ≤ n) : w.ownsRow B 5 1 (.slice (some ⟨q, 0, none⟩) m cap) m (bts (l.take m)) := by
  have hl : l.length = n := by have := h.1; rw [length_bts] at this; omega
  rcases h.2 with ⟨h1, _⟩ | ⟨q', cap', cur, h1, hq, hh, hc, hx, hs, ht⟩
  · cases h1
  · injection h1 with h1 _ h3
    injection h1 with h1
    injection h1 with h1
    subst h1 h3
    refine ⟨by rw [length_bts, List.length_take]; omega, .inr ⟨q, cap, cur, rfl, hq, hh, by omega, hx, hs, ?_⟩⟩
    rw [show bts (l.take m) = (bts l).take m by simp [bts, List.map_take], ← ht, List.take_take]
    congr 1
    omega
theorem own_addr {w : World} {B n cap : Nat} {ad : Addr} {l : List Value} (h : w.ownsRow B 5 1 (.slice (some ad) n cap) n l) : ∃ q, ad = ⟨q, 0, none⟩ ∧ n ≤ cap := by
  rcases h.2 with ⟨h1, _⟩ | ⟨q', cap', cur, h1, hq, hh, hc, _⟩
  · cases h1
  · injection h1 with h1 _ h3
    injection h1 with h1
    subst h1 h3
    exact ⟨q', rfl, hc⟩
theorem own_info {w : World} {B n : Nat} {v : Value} {l : List Value} (h : w.ownsRow B 5 1 v n l) : (v = .slice none 0 0 ∧ n = 0) ∨ ∃ q c, v = .slice (some ⟨q, 0, none⟩) n c ∧ n ≤ c := by
  rcases h.2 with h1 | ⟨q, c, cur, h1, hq, hh, hc, _⟩
  · exact .inl h1
  · exact .inr ⟨q, c, h1, hc⟩
theorem own_base {w : World} {B B' n : Nat} {t : TypeId} {v : Value} {xs : List Value} (h : w.ownsRow B t 1 v n xs) (hB : B' ≤ B) : w.ownsRow B' t 1 v n xs := by
  refine ⟨h.1, ?_⟩
  rcases h.2 with h1 | ⟨p, cap, cur, h1, hp, h3⟩
  · exact .inl h1
  · exact .inr ⟨p, cap, cur, h1, Nat.le_trans hB hp, h3⟩
theorem own_neT {w : World} {B n p : Nat} {v : Value} {xs : List Value} {s t : TypeId} {cp : Array Value} (h : w.ownsRow B s 1 v n xs) (hp : w.heap[p]? = some (.cells cp t (0, 0))) (ht : t ≠ s) : v.ownBlock ≠ some p := by
  intro e
  obtain ⟨_, _, cur, hc⟩ := own_lt h p e
  rw [hp] at hc
  injection hc with hc
  injection hc with _ hc
  exact ht hc
theorem Reads.byte {w : World} {A : Option Addr} {n : Nat} {l : List Nat} (h : Reads w A n (bts l)) (k : Nat) (hk : k < n) : ∃ ad, A = some ad ∧ w.cell? (ad.add k) = some (.int .u8 ((l.getD k 0 : Nat) : Int)) := by
  obtain ⟨ad, hA, hc⟩ := h.2 (by omega)
  have hl := h.1
  rw [length_bts] at hl
  exact ⟨ad, hA, hc k _ (bts_at l k (by omega))⟩
theorem Reads.lenB {w : World} {A : Option Addr} {n : Nat} {l : List Nat} (h : Reads w A n (bts l)) : l.length = n := by have := h.1; rwa [length_bts] at this
theorem getD_lt {l : List Nat} {n : Nat} (h : ∀ s ∈ l, s < n) (k : Nat) (hk : k < l.length) : l.getD k 0 < n := by
  rw [List.getD_eq_getElem?_getD, List.getElem?_eq_getElem hk]
  exact h _ (List.getElem_mem hk)
theorem take_getD (l : List Nat) (k : Nat) (hk : k < l.length) : l.take (k + 1) = l.take k ++ [l.getD k 0] := by
  rw [List.take_succ_eq_append_getElem hk, List.getD_eq_getElem?_getD, List.getElem?_eq_getElem hk]
  rfl
theorem mk_below (w : World) (o : Obj) : Below w.heap.size w (w.alloc o) := (Below.refl _ _).alloc (Nat.le_refl _) _
/-- A slice of bytes, one alone, that has been made. -/
theorem own_one (w : World) (B d : Nat) (hB : B ≤ w.heap.size) : (w.alloc (.cells #[.int .u8 (d : Int)] 5)).ownsRow B 5 1 (.slice (some ⟨w.heap.size, 0, none⟩) 1 1) 1 (bts [d]) :=
  own_of_block (l := [d]) (rest := []) (show BRow _ _ _ _ from heap_alloc_new _ _) rfl (Nat.le_refl _) (by decide) rfl hB
end Go.Proofs.Ytmflacmgffpjoaa

/- Worlds that only grow, step by step; bytes that are made (out of the texts of layer 6). -/
namespace Go.Proofs.Ytmflacmgffpjoaa
open Go.RowKit

/-- Worlds that only grow, step by step. -/
theorem up1 {w x : World} (h : Below w.heap.size w x) (o : Obj) : Below w.heap.size w (x.alloc o) := h.alloc h.size o
theorem up2 {w x y : World} (h : Below w.heap.size w x) (k : Below x.heap.size x y) : Below w.heap.size w y := h.trans (k.mono h.size)
theorem upd {w x : World} (h : Below w.heap.size w x) : Below w.heap.size w x.drew := h.trans (Reading.below ⟨1, rfl⟩)
theorem below_drew {w x : World} (h : Below w.heap.size w.drew x) : Below w.heap.size w x := (Reading.below (w' := w.drew) ⟨1, rfl⟩).trans h

theorem zeros_made (w : World) (L q : Nat) (hq : w.heap.size = q) : Reads (w.alloc (.cells (madeCells #[.int .u8 0] L) 5)) (some ⟨q, 0, none⟩) L (bts (List.replicate L 0)) := by
  subst hq
  have h : (w.alloc (.cells (madeCells #[.int .u8 0] L) 5)).heap[w.heap.size]? = some (.cells (bts (List.replicate L 0)).toArray 5 (0, 0)) := by
    rw [heap_alloc_new, show bts (List.replicate L 0) = List.replicate L (.int .u8 0) by simp [bts], ← toList_madeCells_one]
  have := Reads.of_block h
  rwa [length_bts, List.length_replicate] at this
theorem BRow.reads {w : World} {q n : Nat} {l : List Nat} {rest : List Value} (h : BRow w q l rest) (hn : l.length = n) : Reads w (some ⟨q, 0, none⟩) n (bts l) := by
  subst hn
  exact ⟨length_bts l, fun _ => ⟨_, rfl, fun j u hj => by
    rw [add_zero_addr, cell_in h, List.getElem?_toArray, List.getElem?_append_left (by have := (List.getElem?_eq_some_iff.1 hj).1; exact this)]; exact hj⟩⟩
theorem BRow.below {w w' : World} {q : Nat} {l : List Nat} {rest : List Value} (h : BRow w q l rest) (hb : Below w.heap.size w w') : BRow w' q l rest := (hb.block q (heap_lt h)).trans h
theorem Reads.drew {w : World} {A : Option Addr} {n : Nat} {xs : List Value} (h : Reads w A n xs) : Reads w.drew A n xs := h.read ⟨1, rfl⟩
theorem Reads.of_marked {w : World} {q : Nat} {xs : List Value} {t : TypeId} {fr : Nat × Nat} (h : w.heap[q]? = some (.cells xs.toArray t fr)) : Reads w (some ⟨q, 0, none⟩) xs.length xs :=
  ⟨rfl, fun _ => ⟨_, rfl, fun j u hj => by
    rw [add_zero_addr, cell_of_row w q j xs.toArray t fr h]; simpa using hj⟩⟩
end Go.Proofs.Ytmflacmgffpjoaa

/- Layer 8: words for the memory of soups: slices of triangles and of edges; a soup that was handed in. -/
namespace Go.Proofs.Ytmflacmgffpjoaa
open Go.RowKit

/-- A slice of triangles that reads so (nil let in). -/
def T3 (w : World) (A : Option Addr) (n : Nat) (l : List Tr) : Prop :=
  l.length = n ∧ (0 < n → ∃ b off, A = some ⟨b, off, none⟩ ∧ ∀ i, i < n → w.cell? ⟨b, off + i * 3, none⟩ = some (.int .i64 (l.getD i z3).1) ∧ w.cell? ⟨b, off + i * 3 + 1, none⟩ = some (.int .i64 (l.getD i z3).2.1) ∧ w.cell? ⟨b, off + i * 3 + 2, none⟩ = some (.int .i64 (l.getD i z3).2.2))
theorem T3.below {w w' : World} {A : Option Addr} {n : Nat} {l : List Tr} (h : T3 w A n l) (hb : Below w.heap.size w w') : T3 w' A n l := by
  refine ⟨h.1, fun hn => ?_⟩
  obtain ⟨b, off, hA, hc⟩ := h.2 hn
  refine ⟨b, off, hA, fun i hi => ?_⟩
  obtain ⟨c0, c1, c2⟩ := hc i hi
  exact ⟨(hb.cell (World.block_lt_of_cell? w _ c0)).trans c0, (hb.cell (World.block_lt_of_cell? w _ c1)).trans c1, (hb.cell (World.block_lt_of_cell? w _ c2)).trans c2⟩
theorem T3.nil (w : World) (A : Option Addr) : T3 w A 0 [] := ⟨rfl, fun h => absurd h (by omega)⟩
/-- A slice of edges that reads so (nil let in). -/
def E2 (w : World) (A : Option Addr) (n : Nat) (l : List Ed) : Prop :=
  l.length = n ∧ (0 < n → ∃ b off, A = some ⟨b, off, none⟩ ∧ ∀ i, i < n → w.cell? ⟨b, off + i * 2, none⟩ = some (.int .i64 (l.getD i z2).1) ∧ w.cell? ⟨b, off + i * 2 + 1, none⟩ = some (.int .i64 (l.getD i z2).2))
theorem E2.below {w w' : World} {A : Option Addr} {n : Nat} {l : List Ed} (h : E2 w A n l) (hb : Below w.heap.size w w') : E2 w' A n l := by
  refine ⟨h.1, fun hn => ?_⟩
  obtain ⟨b, off, hA, hc⟩ := h.2 hn
  refine ⟨b, off, hA, fun i hi => ?_⟩
  obtain ⟨c0, c1⟩ := hc i hi
  exact ⟨(hb.cell (World.block_lt_of_cell? w _ c0)).trans c0, (hb.cell (World.block_lt_of_cell? w _ c1)).trans c1⟩
theorem E2.nil (w : World) (A : Option Addr) : E2 w A 0 [] := ⟨rfl, fun h => absurd h (by omega)⟩

/-- A soup's two cells in the block g. -/
def Bx (w : World) (g : Nat) (N : Int) (A : Option Addr) (n c : Nat) : Prop := w.heap[g]? = some (.cells #[.int .i64 N, .slice A n c] 24 (0, 0))
theorem Bx.c0 {w : World} {g : Nat} {N : Int} {A : Option Addr} {n c : Nat} (h : Bx w g N A n c) : w.cell? ⟨g, 0, none⟩ = some (.int .i64 N) := by rw [cell_in h]; rfl
theorem Bx.c1 {w : World} {g : Nat} {N : Int} {A : Option Addr} {n c : Nat} (h : Bx w g N A n c) : w.cell? ⟨g, 1, none⟩ = some (.slice A n c) := by rw [cell_in h]; rfl
theorem Bx.below {w w' : World} {g : Nat} {N : Int} {A : Option Addr} {n c : Nat} (h : Bx w g N A n c) (hb : Below w.heap.size w w') : Bx w' g N A n c := (hb.block g (heap_lt h)).trans h
theorem Bx.made (w : World) (N : Int) (A : Option Addr) (n c : Nat) : Bx (w.alloc (.cells #[.int .i64 N, .slice A n c] 24)) w.heap.size N A n c := heap_alloc_new w _

theorem set3 {w : World} {q : Nat} {z0 z1 z2 a b c : Value} {t : TypeId} (h : w.heap[q]? = some (.cells #[z0, z1, z2] t (0, 0))) : (((w.setCell ⟨q, 0, none⟩ a).setCell ⟨q, 1, none⟩ b).setCell ⟨q, 2, none⟩ c).heap[q]? = some (.cells #[a, b, c] t (0, 0)) := by
  simpa using heap_set (heap_set (heap_set h 0 a) 1 b) 2 c
theorem set2 {w : World} {q : Nat} {z0 z1 a b : Value} {t : TypeId} (h : w.heap[q]? = some (.cells #[z0, z1] t (0, 0))) : ((w.setCell ⟨q, 0, none⟩ a).setCell ⟨q, 1, none⟩ b).heap[q]? = some (.cells #[a, b] t (0, 0)) := by
  simpa using heap_set (heap_set h 0 a) 1 b
theorem below_set3 {B q : Nat} {w w1 : World} (h : Below B w w1) (hq : B ≤ q) (a b c : Value) : Below B w (((w1.setCell ⟨q, 0, none⟩ a).setCell ⟨q, 1, none⟩ b).setCell ⟨q, 2, none⟩ c) := ((h.setCell (p := ⟨q, 0, none⟩) hq a).setCell (p := ⟨q, 1, none⟩) hq b).setCell (p := ⟨q, 2, none⟩) hq c
theorem below_set2 {B q : Nat} {w w1 : World} (h : Below B w w1) (hq : B ≤ q) (a b : Value) : Below B w ((w1.setCell ⟨q, 0, none⟩ a).setCell ⟨q, 1, none⟩ b) := (h.setCell (p := ⟨q, 0, none⟩) hq a).setCell (p := ⟨q, 1, none⟩) hq b
theorem results_row2 {P : Program} {fn : Func} {p u : Tmp} {ty : TypeId} (h : fn.results = #[.cell p ty, .tmp u]) (tmps : Array Value) (w : World) (g : Nat) (t : TypeId) (cs : Array Value) (fr : Nat × Nat) (d : TypeDesc)
    (hp : tmps.getD p undef = .pointer (some ⟨g, 0, none⟩)) (hg : w.heap[g]? = some (.cells cs t fr))
    (hu : P.underlying ty = some d) (hd : (match d with | .struct _ | .array _ _ => true | _ => false) = true) (hi : (P.info? ty).map (·.size) = some cs.size) :
    (results fn tmps).run P w = .ok (.tuple #[.agg cs, tmps.getD u undef]) w := by
  rw [results_cell_tmp h, hp]
  simp [asAddr, run_loadVar_row w g t ty cs fr d hg hu hd hi]
theorem results_row3 {P : Program} {fn : Func} {p u v : Tmp} {ty : TypeId} (h : fn.results = #[.cell p ty, .tmp u, .tmp v]) (tmps : Array Value) (w : World) (g : Nat) (t : TypeId) (cs : Array Value) (fr : Nat × Nat) (d : TypeDesc)
    (hp : tmps.getD p undef = .pointer (some ⟨g, 0, none⟩)) (hg : w.heap[g]? = some (.cells cs t fr))
    (hu : P.underlying ty = some d) (hd : (match d with | .struct _ | .array _ _ => true | _ => false) = true) (hi : (P.info? ty).map (·.size) = some cs.size) :
    (results fn tmps).run P w = .ok (.tuple #[.agg cs, tmps.getD u undef, tmps.getD v undef]) w := by
  have hp' : tmps[p]?.getD undef = .pointer (some ⟨g, 0, none⟩) := by simpa using hp
  simp [results, h, hp', asAddr, run_loadVar_row w g t ty cs fr d hg hu hd hi]
end Go.Proofs.Ytmflacmgffpjoaa

/- Layer 8: triangles and edges compared with == and !=. -/
namespace Go.Proofs.Ytmflacmgffpjoaa
open Go.RowKit

theorem cells_int : Try.prog.cellsOf 3 = 1 := by kernel_rfl
theorem part_int (w : World) (xs : Array Value) (k : Nat) (x : Int) (h : xs[k]? = some (.int .i64 x)) : (part 3 xs k).run Try.prog w = .ok (.int .i64 x) w := by
  have a3 := Try.isAgg3
  simp [part, h, a3]
theorem items3 (w : World) (d : Nat) (x0 x1 x2 y0 y1 y2 : Int) : (Op.eqItems (d + 1) 3 (Try.prog.cellsOf 3) #[.int .i64 x0, .int .i64 x1, .int .i64 x2] #[.int .i64 y0, .int .i64 y1, .int .i64 y2] (List.range 3)).run Try.prog w = .ok (x0 == y0 && (x1 == y1 && x2 == y2)) w := by
  have u3 := Try.underlying3
  have p0 := part_int w #[.int .i64 x0, .int .i64 x1, .int .i64 x2] 0 x0 rfl
  have r0 := part_int w #[.int .i64 y0, .int .i64 y1, .int .i64 y2] 0 y0 rfl
  have s0 := run_equalIn_int (P := Try.prog) w d 3 .i64 .i64 x0 y0 u3
  have p1 := part_int w #[.int .i64 x0, .int .i64 x1, .int .i64 x2] 1 x1 rfl
  have r1 := part_int w #[.int .i64 y0, .int .i64 y1, .int .i64 y2] 1 y1 rfl
  have s1 := run_equalIn_int (P := Try.prog) w d 3 .i64 .i64 x1 y1 u3
  have p2 := part_int w #[.int .i64 x0, .int .i64 x1, .int .i64 x2] 2 x2 rfl
  have r2 := part_int w #[.int .i64 y0, .int .i64 y1, .int .i64 y2] 2 y2 rfl
  have s2 := run_equalIn_int (P := Try.prog) w d 3 .i64 .i64 x2 y2 u3
  rw [cells_int, show List.range 3 = [0, 1, 2] from rfl]
  simp only [Op.eqItems, Sem.run_bind, Nat.mul_one, p0, r0, s0, Result.andThen_ok]
  cases h0 : (x0 == y0) <;> cases h1 : (x1 == y1) <;> cases h2 : (x2 == y2) <;> simp [p1, r1, s1, h1, p2, r2, s2, h2]
theorem items2 (w : World) (d : Nat) (x0 x1 y0 y1 : Int) : (Op.eqItems (d + 1) 3 (Try.prog.cellsOf 3) #[.int .i64 x0, .int .i64 x1] #[.int .i64 y0, .int .i64 y1] (List.range 2)).run Try.prog w = .ok (x0 == y0 && x1 == y1) w := by
  have u3 := Try.underlying3
  have p0 := part_int w #[.int .i64 x0, .int .i64 x1] 0 x0 rfl
  have r0 := part_int w #[.int .i64 y0, .int .i64 y1] 0 y0 rfl
  have s0 := run_equalIn_int (P := Try.prog) w d 3 .i64 .i64 x0 y0 u3
  have p1 := part_int w #[.int .i64 x0, .int .i64 x1] 1 x1 rfl
  have r1 := part_int w #[.int .i64 y0, .int .i64 y1] 1 y1 rfl
  have s1 := run_equalIn_int (P := Try.prog) w d 3 .i64 .i64 x1 y1 u3
  rw [cells_int, show List.range 2 = [0, 1] from rfl]
  simp only [Op.eqItems, Sem.run_bind, Nat.mul_one, p0, r0, s0, Result.andThen_ok]
  cases h0 : (x0 == y0) <;> cases h1 : (x1 == y1) <;> simp [p1, r1, s1, h1]
theorem neq3 (w : World) (x0 x1 x2 y0 y1 y2 : Int) : (binOp .neq 53 (.agg #[.int .i64 x0, .int .i64 x1, .int .i64 x2]) (.agg #[.int .i64 y0, .int .i64 y1, .int .i64 y2])).run Try.prog w = .ok (.bool (!(x0 == y0 && (x1 == y1 && x2 == y2)))) w := by
  obtain ⟨i0, hi, _⟩ := info_parts Try.infoInt
  rw [run_neq_struct, show (10000 : Nat) = 9998 + 1 + 1 from rfl, run_equalIn_array w (9998 + 1) _ _ Try.underlying53 hi, items3]
  rfl
theorem eql3 (w : World) (x0 x1 x2 y0 y1 y2 : Int) : (binOp .eql 53 (.agg #[.int .i64 x0, .int .i64 x1, .int .i64 x2]) (.agg #[.int .i64 y0, .int .i64 y1, .int .i64 y2])).run Try.prog w = .ok (.bool (x0 == y0 && (x1 == y1 && x2 == y2))) w := by
  obtain ⟨i0, hi, _⟩ := info_parts Try.infoInt
  rw [run_eql_struct, show (10000 : Nat) = 9998 + 1 + 1 from rfl, run_equalIn_array w (9998 + 1) _ _ Try.underlying53 hi, items3]
  rfl
theorem neq2 (w : World) (x0 x1 y0 y1 : Int) : (binOp .neq 59 (.agg #[.int .i64 x0, .int .i64 x1]) (.agg #[.int .i64 y0, .int .i64 y1])).run Try.prog w = .ok (.bool (!(x0 == y0 && x1 == y1))) w := by
  obtain ⟨i0, hi, _⟩ := info_parts Try.infoInt
  rw [run_neq_struct, show (10000 : Nat) = 9998 + 1 + 1 from rfl, run_equalIn_array w (9998 + 1) _ _ Try.underlying59 hi, items2]
  rfl
theorem eql2 (w : World) (x0 x1 y0 y1 : Int) : (binOp .eql 59 (.agg #[.int .i64 x0, .int .i64 x1]) (.agg #[.int .i64 y0, .int .i64 y1])).run Try.prog w = .ok (.bool (x0 == y0 && x1 == y1)) w := by
  obtain ⟨i0, hi, _⟩ := info_parts Try.infoInt
  rw [run_eql_struct, show (10000 : Nat) = 9998 + 1 + 1 from rfl, run_equalIn_array w (9998 + 1) _ _ Try.underlying59 hi, items2]
  rfl
theorem eqIn3 (w : World) (x0 x1 x2 y0 y1 y2 : Int) : (Op.equalIn 10000 53 (.agg #[.int .i64 x0, .int .i64 x1, .int .i64 x2]) (.agg #[.int .i64 y0, .int .i64 y1, .int .i64 y2])).run Try.prog w = .ok (x0 == y0 && (x1 == y1 && x2 == y2)) w := by
  obtain ⟨i0, hi, _⟩ := info_parts Try.infoInt
  rw [show (10000 : Nat) = 9998 + 1 + 1 from rfl, run_equalIn_array w (9998 + 1) _ _ Try.underlying53 hi, items3]
theorem eqIn2 (w : World) (x0 x1 y0 y1 : Int) : (Op.equalIn 10000 59 (.agg #[.int .i64 x0, .int .i64 x1]) (.agg #[.int .i64 y0, .int .i64 y1])).run Try.prog w = .ok (x0 == y0 && x1 == y1) w := by
  obtain ⟨i0, hi, _⟩ := info_parts Try.infoInt
  rw [show (10000 : Nat) = 9998 + 1 + 1 from rfl, run_equalIn_array w (9998 + 1) _ _ Try.underlying59 hi, items2]
theorem eq3_iff (x y : Tr) : (x.1 == y.1 && (x.2.1 == y.2.1 && x.2.2 == y.2.2)) = true ↔ x = y := by
  simp only [Bool.and_eq_true, beq_iff_eq, Prod.ext_iff]
theorem eq3_no {x y : Tr} (h : x ≠ y) : (x.1 == y.1 && (x.2.1 == y.2.1 && x.2.2 == y.2.2)) = false := by
  rw [Bool.eq_false_iff]; exact fun e => h ((eq3_iff x y).1 e)
theorem eq2_iff (x y : Ed) : (x.1 == y.1 && x.2 == y.2) = true ↔ x = y := by
  simp only [Bool.and_eq_true, beq_iff_eq, Prod.ext_iff]
theorem eq2_no {x y : Ed} (h : x ≠ y) : (x.1 == y.1 && x.2 == y.2) = false := by
  rw [Bool.eq_false_iff]; exact fun e => h ((eq2_iff x y).1 e)

theorem agg3_ne (x y : Tr) : (x.1 == y.1 && (x.2.1 == y.2.1 && x.2.2 == y.2.2)) = decide (x = y) := by
  rw [Bool.eq_iff_iff]; simp only [Bool.and_eq_true, beq_iff_eq, decide_eq_true_eq, Prod.ext_iff]

end Go.Proofs.Ytmflacmgffpjoaa

/- Layer 8: slices of triangles that are made and filled; soups that are told. -/
namespace Go.Proofs.Ytmflacmgffpjoaa
open Go.RowKit

/-- A row of triangles in a block of its own. -/
def Row3 (w : World) (q : Nat) (L : List Tr) : Prop := w.heap[q]? = some (.cells (ints (flat3 L)).toArray 53 (0, 0))
theorem ints_at (xs : List Int) (i : Nat) : (ints xs)[i]? = (xs[i]?).map (Value.int .i64) := by simp [ints]
theorem Row3.t3 {w : World} {q : Nat} {L : List Tr} (h : Row3 w q L) : T3 w (some ⟨q, 0, none⟩) L.length L := by
  refine ⟨rfl, fun _ => ⟨q, 0, rfl, fun i hi => ?_⟩⟩
  obtain ⟨a0, a1, a2⟩ := flat3_at L i hi
  rw [cell_in h, cell_in h, cell_in h]
  simp only [List.getElem?_toArray, ints_at, Nat.zero_add, Nat.mul_comm i 3, a0, a1, a2, Option.map_some, and_self]
theorem Row3.below {w w' : World} {q : Nat} {L : List Tr} (h : Row3 w q L) (hb : Below w.heap.size w w') : Row3 w' q L := (hb.block q (heap_lt h)).trans h
theorem flat3_set : ∀ (L : List Tr) (k : Nat) (t : Tr), k < L.length → flat3 (L.set k t) = (((flat3 L).set (k * 3) t.1).set (k * 3 + 1) t.2.1).set (k * 3 + 2) t.2.2
  | x :: L, 0, t, _ => by simp [flat3]
  | x :: L, k + 1, t, h => by
    have e : ∀ M : List Tr, ∀ y : Tr, flat3 (y :: M) = y.1 :: y.2.1 :: y.2.2 :: flat3 M := fun M y => by simp [flat3]
    rw [List.set_cons_succ, e, e, flat3_set L k t (by simpa using h), show (k + 1) * 3 = k * 3 + 1 + 1 + 1 by omega]
    simp only [List.set_cons_succ, show k * 3 + 1 + 1 + 1 + 1 = k * 3 + 1 + 1 + 1 + 1 from rfl, show k * 3 + 1 + 1 + 1 + 2 = (k * 3 + 2) + 1 + 1 + 1 by omega]
theorem ints_set (xs : List Int) (k : Nat) (x : Int) : ints (xs.set k x) = (ints xs).set k (.int .i64 x) := by simp [ints, List.map_set]
theorem Row3.set {w : World} {q k : Nat} {L : List Tr} (h : Row3 w q L) (hk : k < L.length) (a b c : Int) :
    Row3 (((w.setCell ⟨q, k * 3, none⟩ (.int .i64 a)).setCell ⟨q, k * 3 + 1, none⟩ (.int .i64 b)).setCell ⟨q, k * 3 + 2, none⟩ (.int .i64 c)) q (L.set k (a, b, c)) := by
  have := heap_set (heap_set (heap_set h (k * 3) (.int .i64 a)) (k * 3 + 1) (.int .i64 b)) (k * 3 + 2) (.int .i64 c)
  unfold Row3
  rw [this, flat3_set L k _ hk, ints_set, ints_set, ints_set]
  simp
theorem Row3.cell {w : World} {q k : Nat} {L : List Tr} (h : Row3 w q L) (hk : k < L.length) (j : Nat) (hj : j < 3) : (∃ v, w.cell? ⟨q, k * 3 + j, none⟩ = some v) ∧ w.frozen? ⟨q, k * 3 + j, none⟩ = false := by
  refine ⟨?_, frozen_in h _⟩
  rw [cell_in h]
  have hl : k * 3 + j < (ints (flat3 L)).length := by rw [length_ints, length_flat3]; omega
  exact ⟨_, by rw [List.getElem?_toArray, List.getElem?_eq_getElem hl]⟩
theorem Row3.cells {w : World} {q k : Nat} {L : List Tr} (h : Row3 w q L) (hk : k < L.length) : ∃ v0 v1 v2, (w.cell? ⟨q, k * 3, none⟩ = some v0 ∧ w.frozen? ⟨q, k * 3, none⟩ = false) ∧ (w.cell? ⟨q, k * 3 + 1, none⟩ = some v1 ∧ w.frozen? ⟨q, k * 3 + 1, none⟩ = false) ∧ (w.cell? ⟨q, k * 3 + 2, none⟩ = some v2 ∧ w.frozen? ⟨q, k * 3 + 2, none⟩ = false) := by
  obtain ⟨⟨v0, a0⟩, b0⟩ := h.cell hk 0 (by omega)
  obtain ⟨⟨v1, a1⟩, b1⟩ := h.cell hk 1 (by omega)
  obtain ⟨⟨v2, a2⟩, b2⟩ := h.cell hk 2 (by omega)
  exact ⟨v0, v1, v2, ⟨a0, b0⟩, ⟨a1, b1⟩, ⟨a2, b2⟩⟩
theorem made_zero (n : Nat) : (madeCells #[.int .i64 0, .int .i64 0, .int .i64 0] n).toList = List.replicate n (.int .i64 0) := by
  apply List.ext_getElem?
  intro j
  by_cases hj : j < n
  · rcases (show j % 3 = 0 ∨ j % 3 = 1 ∨ j % 3 = 2 by omega) with e | e | e <;> simp [madeCells, hj, e]
  · simp [madeCells, hj]
theorem flat3_zeros (n : Nat) : flat3 (List.replicate n z3) = List.replicate (n * 3) 0 := by
  induction n with
  | zero => rfl
  | succ n ih =>
    have e : flat3 (z3 :: List.replicate n z3) = 0 :: 0 :: 0 :: flat3 (List.replicate n z3) := by simp [flat3]
    rw [List.replicate_succ, e, ih, show (n + 1) * 3 = n * 3 + 1 + 1 + 1 by omega]
    simp [List.replicate_succ]
theorem Row3.made (w : World) (n : Nat) : Row3 (w.alloc (.cells (madeCells #[.int .i64 0, .int .i64 0, .int .i64 0] (n * 3)) 53)) w.heap.size (List.replicate n z3) := by
  unfold Row3
  rw [heap_alloc_new]
  have : madeCells #[.int .i64 0, .int .i64 0, .int .i64 0] (n * 3) = (ints (flat3 (List.replicate n z3))).toArray := by
    apply Array.toList_inj.1
    rw [made_zero, flat3_zeros]; simp [ints]
  rw [this]
/-- A list half filled. -/
def half3 (f : Nat → Tr) (n k : Nat) : List Tr := (List.range n).map fun i => if i < k then f i else z3
theorem half3_zero (f : Nat → Tr) (n : Nat) : half3 f n 0 = List.replicate n z3 := by
  unfold half3
  apply List.ext_getElem? ; intro i; by_cases h : i < n <;> simp [h]
theorem half3_len (f : Nat → Tr) (n k : Nat) : (half3 f n k).length = n := by simp [half3]
theorem half3_set (f : Nat → Tr) (n k : Nat) (_hk : k < n) : (half3 f n k).set k (f k) = half3 f n (k + 1) := by
  unfold half3
  apply List.ext_getElem?
  intro i
  by_cases h : i < n
  · by_cases e : k = i
    · subst e; simp [h]
    · have : (i < k + 1) ↔ i < k := by omega
      simp [e, h, this]
  · simp [h]
theorem half3_full (f : Nat → Tr) (n : Nat) : half3 f n n = (List.range n).map f := by
  unfold half3
  apply List.map_congr_left
  intro i hi
  simp [List.mem_range.1 hi]

/-- A soup that is told: its triangles in a row of its own. -/
def NewS (w w' : World) (N : Int) (l : List Tr) (v : Value) : Prop := ∃ A c, v = .agg #[.int .i64 N, .slice A l.length c] ∧ w'.ownsRow w.heap.size 53 3 (.slice A l.length c) l.length (ints (flat3 l)) ∧ Below w.heap.size w w'
theorem T3.of_own {w : World} {B n c : Nat} {A : Option Addr} {l : List Tr} (h : w.ownsRow B 53 3 (.slice A n c) n (ints (flat3 l))) : T3 w A n l := by
  have hl : l.length = n := by have := h.1; rw [length_ints, length_flat3] at this; omega
  refine ⟨hl, fun hn => ?_⟩
  rcases h.2 with ⟨h1, h2⟩ | ⟨q, cap, cur, h1, hq, hh, hc, hm, hs, ht⟩
  · omega
  · injection h1 with h1 _ h3
    subst h1 h3
    refine ⟨q, 0, rfl, fun i hi => ?_⟩
    obtain ⟨a0, a1, a2⟩ := flat3_at l i (by omega)
    have hc := fun j (hj : j < n * 3) => h.cellAt j hj
    rw [hc _ (by omega), hc _ (by omega), hc _ (by omega)]
    simp only [ints_at, Nat.zero_add, Nat.mul_comm i 3, a0, a1, a2, Option.map_some, and_self]
theorem Row3.own {w : World} {B q : Nat} {L : List Tr} (h : Row3 w q L) (hB : B ≤ q) (hm : L.length ≤ maxLen) : w.ownsRow B 53 3 (.slice (some ⟨q, 0, none⟩) L.length L.length) L.length (ints (flat3 L)) := by
  refine ⟨by rw [length_ints, length_flat3]; omega, .inr ⟨q, L.length, _, rfl, hB, h, Nat.le_refl _, hm, by simp [length_ints, length_flat3]; omega, ?_⟩⟩
  rw [List.toList_toArray, List.take_of_length_le (by rw [length_ints, length_flat3]; omega)]

theorem Try.infoTri : (Try.prog.info? 53).map (fun i => (i.zero, i.size, i.bytes)) = some (some (.agg #[.int .i64 0, .int .i64 0, .int .i64 0]), 3, 24) := by kernel_rfl
def zer3 (n : Nat) : Obj := .cells (madeCells #[.int .i64 0, .int .i64 0, .int .i64 0] (n * 3)) 53
theorem make3 (n m : Nat) (hnm : n ≤ m) (hn : m ≤ 1000000) (W : World) : (Instr.makeSlice 22 (.int .i64 (n : Int)) (.int .i64 (m : Int))).run Try.prog W = .ok (.slice (some ⟨W.heap.size, 0, none⟩) n m) (W.alloc (zer3 m)) := by
  obtain ⟨i0, hi, hz0, hz1, hz2⟩ := info_parts Try.infoTri
  have := run_make (P := Try.prog) W 22 53 i0 _ Try.underlying22 hi hz0 .i64 .i64 (n : Int) (m : Int) (by omega) (by omega) (by rw [hz2]; omega) (by omega)
  rw [this, hz1]
  rfl
theorem Row3.zer (w : World) (n : Nat) : Row3 (w.alloc (zer3 n)) w.heap.size (List.replicate n z3) := Row3.made w n
/-- A row being filled, beside the argument's box and the result's. -/
structure Fil (w wr : World) (g r q : Nat) (N : Int) (A : Option Addr) (n c : Nat) (L : List Tr) : Prop where
  below : Below w.heap.size w wr
  bx : Bx wr g N A n c
  res : Bx wr r 0 none 0 0
  row : Row3 wr q L
  gq : g ≠ q
  rq : r ≠ q
  wq : w.heap.size ≤ q
theorem Fil.up {w wr wr' : World} {g r q : Nat} {N : Int} {A : Option Addr} {n c : Nat} {L : List Tr} (h : Fil w wr g r q N A n c L) (b : Below wr.heap.size wr wr') : Fil w wr' g r q N A n c L :=
  ⟨h.below.trans (b.mono h.below.size), h.bx.below b, h.res.below b, h.row.below b, h.gq, h.rq, h.wq⟩
theorem Bx.set {w : World} {g q o : Nat} {N : Int} {A : Option Addr} {n c : Nat} (h : Bx w g N A n c) (hq : g ≠ q) (v : Value) : Bx (w.setCell ⟨q, o, none⟩ v) g N A n c := heap_far h hq v
theorem Fil.set {w wr : World} {g r q k : Nat} {N : Int} {A : Option Addr} {n c : Nat} {L : List Tr} (h : Fil w wr g r q N A n c L) (hk : k < L.length) (a b d : Int) :
    Fil w (((wr.setCell ⟨q, k * 3, none⟩ (.int .i64 a)).setCell ⟨q, k * 3 + 1, none⟩ (.int .i64 b)).setCell ⟨q, k * 3 + 2, none⟩ (.int .i64 d)) g r q N A n c (L.set k (a, b, d)) :=
  ⟨((h.below.setCell (p := ⟨q, k * 3, none⟩) h.wq _).setCell (p := ⟨q, k * 3 + 1, none⟩) h.wq _).setCell (p := ⟨q, k * 3 + 2, none⟩) h.wq _,
   ((h.bx.set h.gq _).set h.gq _).set h.gq _, ((h.res.set h.rq _).set h.rq _).set h.rq _, h.row.set hk a b d, h.gq, h.rq, h.wq⟩
def FilAt (w : World) (g r q : Nat) (N : Int) (A : Option Addr) (n c : Nat) (f : Nat → Tr) (m : Nat) (i : Value) (wr : World) : Prop := ∃ k : Nat, k ≤ m ∧ i = .int .i64 (k : Int) ∧ Fil w wr g r q N A n c (half3 f m k)
theorem Fil.start (w : World) (N : Int) (A : Option Addr) (n c m : Nat) : Fil w (((w.alloc (.cells #[.int .i64 N, .slice A n c] 24)).alloc (.cells #[.int .i64 0, .slice none 0 0] 24)).alloc (zer3 m)) w.heap.size (w.heap.size + 1) (w.heap.size + 1 + 1) N A n c (List.replicate m z3) := by
  have e1 : (w.alloc (.cells #[.int .i64 N, .slice A n c] 24)).heap.size = w.heap.size + 1 := World.size_alloc _ _
  have e2 : ((w.alloc (.cells #[.int .i64 N, .slice A n c] 24)).alloc (.cells #[.int .i64 0, .slice none 0 0] 24)).heap.size = w.heap.size + 1 + 1 := by rw [World.size_alloc, e1]
  refine ⟨up1 (up1 (up1 (Below.refl _ w) _) _) _, ((Bx.made w N A n c).below ((Below.refl _ _).alloc (Nat.le_refl _) _)).below ((Below.refl _ _).alloc (Nat.le_refl _) _), ?_, ?_, by omega, by omega, by omega⟩
  · have := (Bx.made (w.alloc (.cells #[.int .i64 N, .slice A n c] 24)) 0 none 0 0).below ((Below.refl _ _).alloc (Nat.le_refl _) (zer3 m))
    rwa [e1] at this
  · have := Row3.zer ((w.alloc (.cells #[.int .i64 N, .slice A n c] 24)).alloc (.cells #[.int .i64 0, .slice none 0 0] 24)) m
    rwa [e2] at this
theorem Fil.begin {w x : World} {g r : Nat} {N : Int} {A : Option Addr} {n c : Nat} (hb : Below w.heap.size w x) (hg : Bx x g N A n c) (hr : Bx x r 0 none 0 0) (m : Nat) : Fil w (x.alloc (zer3 m)) g r x.heap.size N A n c (List.replicate m z3) :=
  have b := (Below.refl _ x).alloc (Nat.le_refl _) (zer3 m)
  ⟨hb.trans (b.mono hb.size), hg.below b, hr.below b, Row3.zer x m, Nat.ne_of_lt (heap_lt hg), Nat.ne_of_lt (heap_lt hr), hb.size⟩
/-- The first two blocks of a function that is handed a soup and tells one. -/
theorem two_boxes (w : World) (N : Int) (A : Option Addr) (n c : Nat) (y : World) (hy : y = (w.alloc (.cells #[.int .i64 N, .slice A n c] 24)).alloc (.cells #[.int .i64 0, .slice none 0 0] 24)) :
    Below w.heap.size w y ∧ Bx y w.heap.size N A n c ∧ Bx y (w.heap.size + 1) 0 none 0 0 := by
  subst hy
  have e1 : (w.alloc (.cells #[.int .i64 N, .slice A n c] 24)).heap.size = w.heap.size + 1 := World.size_alloc _ _
  refine ⟨up1 (up1 (Below.refl _ w) _) _, (Bx.made w N A n c).below ((Below.refl _ _).alloc (Nat.le_refl _) _), ?_⟩
  have := Bx.made (w.alloc (.cells #[.int .i64 N, .slice A n c] 24)) 0 none 0 0
  rwa [e1] at this
/-- A soup is told out of a row and the result's two cells. -/
theorem newS_ret {w w1 : World} {r q : Nat} {N z : Int} {A : Option Addr} {n c m : Nat} {L : List Tr} (hb : Below w.heap.size w w1) (hr : Bx w1 r z A n c) (row : Row3 w1 q L) (hq : w.heap.size ≤ q) (hrq : r ≠ q) (hwr : w.heap.size ≤ r) (hm : L.length = m) (hle : m ≤ 1000000) :
    ((w1.setCell ⟨r, 0, none⟩ (.int .i64 N)).setCell ⟨r, 1, none⟩ (.slice (some ⟨q, 0, none⟩) m m)).heap[r]? = some (.cells #[.int .i64 N, .slice (some ⟨q, 0, none⟩) m m] 24 (0, 0)) ∧
    NewS w ((w1.setCell ⟨r, 0, none⟩ (.int .i64 N)).setCell ⟨r, 1, none⟩ (.slice (some ⟨q, 0, none⟩) m m)) N L (.agg #[.int .i64 N, .slice (some ⟨q, 0, none⟩) m m]) := by
  subst hm
  refine ⟨set2 hr, _, _, rfl, Row3.own ?_ hq (by unfold maxLen; omega), below_set2 hb hwr _ _⟩
  exact heap_far (heap_far row (Ne.symm hrq) _) (Ne.symm hrq) _
end Go.Proofs.Ytmflacmgffpjoaa

/- A row of ints in a block of its own (out of SouPartP). -/
namespace Go.Proofs.Ytmflacmgffpjoaa
open Go.RowKit

/-- A row of ints in a block of its own. -/
def RowI (w : World) (q : Nat) (xs : List Int) : Prop := w.heap[q]? = some (.cells (ints xs).toArray 3 (0, 0))
theorem RowI.below {w w' : World} {q : Nat} {xs : List Int} (h : RowI w q xs) (hb : Below w.heap.size w w') : RowI w' q xs := (hb.block q (heap_lt h)).trans h
theorem RowI.set {w : World} {q : Nat} {xs : List Int} (h : RowI w q xs) (k : Nat) (x : Int) : RowI (w.setCell ⟨q, k, none⟩ (.int .i64 x)) q (xs.set k x) := by
  unfold RowI
  rw [heap_set h]
  simp [ints, List.map_set]
theorem RowI.cell {w : World} {q : Nat} {xs : List Int} (h : RowI w q xs) (k : Nat) (hk : k < xs.length) : w.cell? ⟨q, k, none⟩ = some (.int .i64 (xs.getD k 0)) := by
  rw [cell_in h]
  simp [ints, List.getElem?_eq_getElem hk]
theorem RowI.frozen {w : World} {q : Nat} {xs : List Int} (h : RowI w q xs) (k : Nat) : w.frozen? ⟨q, k, none⟩ = false := frozen_in h k
theorem RowI.reads {w : World} {q n : Nat} {xs : List Int} (h : RowI w q xs) (hn : xs.length = n) : Reads w (some ⟨q, 0, none⟩) n (ints xs) := by
  subst hn
  have := Reads.of_block h
  rwa [length_ints] at this
def zerI (n : Nat) : Obj := .cells (madeCells #[.int .i64 0] n) 3
theorem makeI (n : Nat) (hn : n ≤ 1000000) (W : World) : (Instr.makeSlice 40 (.int .i64 (n : Int)) (.int .i64 (n : Int))).run Try.prog W = .ok (.slice (some ⟨W.heap.size, 0, none⟩) n n) (W.alloc (zerI n)) :=
  run_make_row' (P := Try.prog) 40 3 (.int .i64 0) 8 Try.underlying40 Try.infoInt rfl .i64 .i64 n (by omega) (by omega) W
theorem RowI.made (w : World) (n : Nat) : RowI (w.alloc (zerI n)) w.heap.size (List.replicate n 0) := by
  unfold RowI zerI
  rw [heap_alloc_new]
  have : madeCells #[.int .i64 0] n = (ints (List.replicate n 0)).toArray := by
    apply Array.toList_inj.1
    rw [toList_madeCells_one]; simp [ints]
  rw [this]
end Go.Proofs.Ytmflacmgffpjoaa

/- Marks on numbers: a row of truth values (out of SouRep). -/
namespace Go.Proofs.Ytmflacmgffpjoaa
open Go.RowKit

def RowB (w : World) (q : Nat) (bs : List Bool) : Prop := w.heap[q]? = some (.cells (bls bs).toArray 4 (0, 0))
theorem RowB.below {w w' : World} {q : Nat} {bs : List Bool} (h : RowB w q bs) (hb : Below w.heap.size w w') : RowB w' q bs := (hb.block q (heap_lt h)).trans h
theorem RowB.cell {w : World} {q : Nat} {bs : List Bool} (h : RowB w q bs) (k : Nat) (hk : k < bs.length) : w.cell? ⟨q, k, none⟩ = some (.bool (bs.getD k false)) := by
  rw [cell_in h]
  simp [bls, List.getElem?_eq_getElem hk]
theorem RowB.frozen {w : World} {q : Nat} {bs : List Bool} (h : RowB w q bs) (k : Nat) : w.frozen? ⟨q, k, none⟩ = false := frozen_in h k
theorem RowB.set {w : World} {q : Nat} {bs : List Bool} (h : RowB w q bs) (k : Nat) (b : Bool) : RowB (w.setCell ⟨q, k, none⟩ (.bool b)) q (bs.set k b) := by
  unfold RowB
  rw [heap_set h]
  simp [bls, List.map_set]
/-- Which of the numbers below N are on the list. -/
def marks (N : Nat) (S : List Int) : List Bool := (List.range N).map fun (i : Nat) => S.contains (i : Int)
theorem marks_len (N : Nat) (S : List Int) : (marks N S).length = N := by simp [marks]
theorem marks_at (N : Nat) (S : List Int) (k : Nat) (hk : k < N) : (marks N S).getD k false = S.contains (k : Int) := by simp [marks, hk]
theorem marks_nil (N : Nat) : marks N [] = List.replicate N false := by
  unfold marks
  apply List.ext_getElem?; intro i; by_cases h : i < N <;> simp [h]
theorem marks_set (N : Nat) (S : List Int) (x : Nat) : (marks N S).set x true = marks N (S ++ [(x : Int)]) := by
  unfold marks
  apply List.ext_getElem?
  intro i
  by_cases h : i < N
  · by_cases e : x = i
    · subst e; simp [h]
    · have : ¬ ((i : Int) = (x : Int)) := by omega
      simp [e, h, this]
  · simp [h]
def zerB (n : Nat) : Obj := .cells (madeCells #[.bool false] n) 4
theorem makeB (n : Nat) (hn : n ≤ 1000000) (W : World) : (Instr.makeSlice 84 (.int .i64 (n : Int)) (.int .i64 (n : Int))).run Try.prog W = .ok (.slice (some ⟨W.heap.size, 0, none⟩) n n) (W.alloc (zerB n)) :=
  run_make_row' (P := Try.prog) 84 4 (.bool false) 1 Try.underlying84 Try.infoBool rfl .i64 .i64 n (by omega) (by omega) W
theorem RowB.made (w : World) (n : Nat) : RowB (w.alloc (zerB n)) w.heap.size (marks n []) := by
  unfold RowB zerB
  rw [heap_alloc_new, marks_nil]
  have : madeCells #[.bool false] n = (bls (List.replicate n false)).toArray := by
    apply Array.toList_inj.1
    rw [toList_madeCells_one]; simp [bls]
  rw [this]
theorem take_succ_getD (l : List Int) (k : Nat) (h : k < l.length) : l.take (k + 1) = l.take k ++ [l.getD k 0] := by
  rw [List.take_add_one, List.getD_eq_getElem?_getD, List.getElem?_eq_getElem h]; rfl
end Go.Proofs.Ytmflacmgffpjoaa

/- Rows of their own, whatever the size of an element. -/
namespace Go.Proofs.Ytmflacmgffpjoaa
open Go.RowKit

theorem ownK_up {W W' : World} {B n s : Nat} {t : TypeId} {v : Value} {xs : List Value} (h : W.ownsRow B t s v n xs) (b : Below W.heap.size W W') : W'.ownsRow B t s v n xs := by
  refine ⟨h.1, ?_⟩
  rcases h.2 with h2 | ⟨q, cap, cur, h1, hq, hh, hr⟩
  · exact .inl h2
  · exact .inr ⟨q, cap, cur, h1, hq, (b.block q (heap_lt hh)).trans hh, hr⟩
theorem ownK_form {W : World} {B n s : Nat} {t : TypeId} {v : Value} {xs : List Value} (h : W.ownsRow B t s v n xs) : ∃ A c, v = .slice A n c := by
  rcases h.2 with ⟨h1, h2⟩ | ⟨q, cap, cur, h1, _⟩
  · exact ⟨none, 0, by rw [h1, h2]⟩
  · exact ⟨_, _, h1⟩
theorem ownK_lt {W : World} {B n s : Nat} {t : TypeId} {v : Value} {xs : List Value} (h : W.ownsRow B t s v n xs) (q : Nat) (hq : v.ownBlock = some q) : B ≤ q := (h.lt q hq).1
theorem ownK_up' {W W' : World} {B C n s : Nat} {t : TypeId} {v : Value} {xs : List Value} (h : W.ownsRow B t s v n xs) (b : Below C W W') (hC : W.heap.size ≤ C) : W'.ownsRow B t s v n xs := ownK_up h (b.mono hC)
theorem ownK_base {W : World} {B B' n s : Nat} {t : TypeId} {v : Value} {xs : List Value} (h : W.ownsRow B t s v n xs) (hb : B' ≤ B) : W.ownsRow B' t s v n xs := by
  refine ⟨h.1, ?_⟩
  rcases h.2 with h2 | ⟨q, cap, cur, h1, hq, hr⟩
  · exact .inl h2
  · exact .inr ⟨q, cap, cur, h1, Nat.le_trans hb hq, hr⟩
theorem cells_of8 {w : World} {q n : Nat} {xs : List Value} (h : Reads w (some ⟨q, 0, none⟩) n xs) (hn : 0 < n) : ∀ j u, xs[j]? = some u → w.cell? ((⟨q, 0, none⟩ : Addr).add j) = some u := by
  obtain ⟨ad, he, hc⟩ := h.2 hn
  injection he with he
  subst he
  exact hc
end Go.Proofs.Ytmflacmgffpjoaa

/- append of one number to a row of ints of one's own, at a step of a region that draws its order, and in a plain region. -/
namespace Go.Proofs.Ytmflacmgffpjoaa
open Go.RowKit

/-- A row of ints, told in memory of its own. -/
def RowTold (w : World) (xs : List Int) (e : Ending) (w' : World) : Prop := ∃ A n c, e = .returned (.slice A n c) ∧ w'.ownsRow w.heap.size 3 1 (.slice A n c) n (ints xs) ∧ Below w.heap.size w w'
/-- The same, its length told by the list's. -/
def RowAt (w : World) (xs : List Int) (e : Ending) (w' : World) : Prop := ∃ A c, e = .returned (.slice A xs.length c) ∧ Reads w' A xs.length (ints xs) ∧ Below w.heap.size w w' ∧ xs.length ≤ c
theorem RowTold.at {w w' : World} {xs : List Int} {e : Ending} (h : RowTold w xs e w') : RowAt w xs e w' := by
  obtain ⟨A, n, c, rfl, ho, b⟩ := h
  obtain ⟨A', c', e, _, hr⟩ := Reads.of_own ho
  injection e with e1 _ e2
  subst e1 e2
  have hn := hr.len
  subst hn
  refine ⟨A, c, rfl, hr, b, ?_⟩
  rcases ho.2 with ⟨h1, h2⟩ | ⟨q, cap, cur, h1, _, _, hc, _⟩
  · omega
  · injection h1 with _ _ h3
    omega
theorem step_snocI {w : World} {B n q : Nat} {v : Value} {xs : List Int} (x : Int) (own : w.ownsRow B 3 1 v n (ints xs)) (hB : B ≤ w.heap.size) (hn : n ≤ 1000000) (hq : w.heap[q]? = some (.cells #[.int .i64 x] 3 (0, 0))) {ops : Array Oper} {o : Oper} {a : Act} {K : Act → World → Prop} {Q : Exit → Act → World → Prop} {E : Prop} (hgd : o.guard = none) (s y : Operand)
    (ho : o.op = .call { callee := .builtin .append, args := #[s, y], argTypes := #[40, 40] }) (hs : a.eval s = v) (hy : a.eval y = .slice (some ⟨q, 0, none⟩) 1 1)
    (cont : ∀ A' c' w9, Below B w w9 → w9.ownsRow B 3 1 (.slice A' (n + 1) c') (n + 1) (ints (xs ++ [x])) → K (a.put o.dst (.slice A' (n + 1) c')) w9) :
    if Region.wanted o (yielded ops a.tmps) = true then Oper.wp Try.prog o a w K Q else E := by
  obtain ⟨i0, hi, hz0, hz1, hz2⟩ := info_parts Try.infoInt
  refine step_append_lies w hgd s y 40 ho B 3 i0 (.int .i64 0) 1 8 Try.underlying40 hi hz0 hz1 hz2 rfl (by decide) v n (ints xs) hs own ⟨q, 0, none⟩ 1 1 (ints [x]) hy rfl (fun j u hj => ?_) (ints_one _) (by decide) (by unfold maxLen; omega) (by omega) hB _ rfl ?_
  · rw [add_zero_addr, cell_in hq, List.getElem?_toArray]; exact hj
  · intro g9 cap9 w9 own9 gr9 _ _
    refine cont _ cap9 w9 ⟨gr9.os, gr9.tape, gr9.output, gr9.size, fun j hj => gr9.block j (by omega) fun e => by have := (own.lt j e.symm).1; omega⟩ ?_
    rw [ints_append]
    exact own9
end Go.Proofs.Ytmflacmgffpjoaa

/- Arguments, opened: a slice of int that came in reads as a list of integers. -/
namespace Go.Proofs.Ytmflacmgffpjoaa
open Go.RowKit Go.ChangeShapes Go.WideShapes Go.ChangeAt

theorem arg_ints {H : Type} {enc : TypeId × Value → H} {W : World} {a : Option Addr} {n c : Nat} {d : DataW H} {p : List MemPlace}
    (h : DataW.Trod enc Try.prog W 0 (fun _ => true) true 40 (.slice a n c) d p) : ((a = none → c = 0) ∧ n ≤ c) ∧ ∃ xs : List Int, (∀ x ∈ xs, -9223372036854775808 ≤ x ∧ x ≤ 9223372036854775807) ∧ Reads W a n (ints xs) := by
  obtain ⟨fuel, hf⟩ := h
  rcases open_ints Try.underlying40 Try.underlying3 (by kernel_rfl) hf with ⟨hcs, _⟩ | ⟨x, l, c', zs, hcs, _, hl, _, hz, _, hcell, hwz⟩
  · simp [Value.cells] at hcs
    obtain ⟨rfl, rfl, rfl⟩ := hcs
    exact ⟨⟨fun _ => rfl, Nat.le_refl _⟩, [], by simp, rfl, fun h => absurd h (by omega)⟩
  · simp [Value.cells] at hcs
    obtain ⟨rfl, rfl, rfl⟩ := hcs
    have hzl : zs.length = c := by simpa using hz
    refine ⟨⟨fun e => by simp at e, hl⟩, zs.take n, fun z hz' => bounds_i64 (hwz z (List.mem_of_mem_take hz')), by simp [ints]; omega, fun _ => ⟨x, rfl, fun j u hu => ?_⟩⟩
    have hj : j < n := by
      have := (List.getElem?_eq_some_iff.1 hu).1
      simp [ints] at this; omega
    have hjz : j < zs.length := by omega
    rw [hcell j hjz, ← hu]
    simp [ints, hj, List.getElem?_eq_getElem hjz]
end Go.Proofs.Ytmflacmgffpjoaa

/- Arguments, opened: a soup by value, a slice of soups. -/
namespace Go.Proofs.Ytmflacmgffpjoaa
open Go.ChangeShapes Go.WideShapes Go.ChangeAt Go.RowKit

theorem cells_tris {H : Type} {enc : TypeId × Value → H} {W : World} {fuel : Nat} {v : Value} {x : DataW H × List MemPlace}
    (hf : DataW.trod enc Try.prog W 0 (fun _ => true) true fuel 22 [v] = some x) : ∃ a n c, v = .slice a n c ∧ (a = none → c = 0) ∧ ∃ l : List Tr, T3 W a n l := by
  rcases Deep.open_slice Try.underlying22 hf with ⟨hcs, _⟩ | ⟨a, len, cap, m, fu, D, Pl, hcs, _, hl, hm, hmm, _, hx⟩
  · simp at hcs
    subst hcs
    exact ⟨_, _, _, rfl, fun _ => rfl, [], T3.nil _ _⟩
  · simp at hcs
    subst hcs
    have hmn : len ≤ m := by rw [hmm]; simp; exact hl
    have hce : Try.prog.cellsOf 53 = 3 := by kernel_rfl
    have hci : Try.prog.cellsOf 3 = 1 := by kernel_rfl
    have key : ∀ i, i < len → ∃ t : Tr, W.cell? (a.add (i * 3)) = some (.int .i64 t.1) ∧ W.cell? (a.add (i * 3 + 1)) = some (.int .i64 t.2.1) ∧ W.cell? (a.add (i * 3 + 2)) = some (.int .i64 t.2.2) := by
      intro i hi
      obtain ⟨cs', h1, h2⟩ := hx i (by omega)
      rw [hce] at h1
      obtain ⟨_, hlen, hcell⟩ := World.cells?_some h1
      match cs', hlen with
      | [u0, u1, u2], _ =>
        obtain ⟨y0, y1, y2, k, _, g0, g1, g2⟩ := trod_array3 Try.underlying53 hci h2
        obtain ⟨z0, e0, _, _⟩ := DataW.trod_int Try.underlying3 g0
        obtain ⟨z1, e1, _, _⟩ := DataW.trod_int Try.underlying3 g1
        obtain ⟨z2, e2, _, _⟩ := DataW.trod_int Try.underlying3 g2
        simp at e0 e1 e2
        subst e0 e1 e2
        have k0 := hcell 0 (by omega)
        have k1 := hcell 1 (by omega)
        have k2 := hcell 2 (by omega)
        rw [Deep.add_add] at k0 k1 k2
        exact ⟨(z0, z1, z2), by simpa using k0, by simpa using k1, by simpa using k2⟩
    refine ⟨_, _, _, rfl, fun e => (nomatch e), ?_⟩
    obtain ⟨q, hq⟩ := Classical.axiomOfChoice (fun i : Fin len => key i.1 i.2)
    have gd : ∀ i (hi : i < len), (List.ofFn q).getD i z3 = q ⟨i, hi⟩ := fun i hi => by simp [List.getD_eq_getElem?_getD, hi]
    refine ⟨List.ofFn q, by simp, fun hn => ?_⟩
    obtain ⟨b, off, spot⟩ := a
    have c00 := (hq ⟨0, hn⟩).1
    have hspot : spot = none := by simpa [Addr.add] using World.cell?_spot c00
    subst hspot
    have ea : ∀ j, (⟨b, off, none⟩ : Addr).add j = ⟨b, off + j, none⟩ := fun j => by unfold Addr.add; split <;> simp_all
    refine ⟨b, off, rfl, fun i hi => ?_⟩
    rw [gd i hi]
    obtain ⟨c0, c1, c2⟩ := hq ⟨i, hi⟩
    rw [ea] at c0 c1 c2
    exact ⟨c0, by rw [Nat.add_assoc]; exact c1, by rw [Nat.add_assoc]; exact c2⟩

set_option maxRecDepth 100000 in
theorem arg_soup {H : Type} {enc : TypeId × Value → H} {W : World} {v : Value} {d : DataW H} {p : List MemPlace} {base : Nat} (hv : Value.okWide Try.prog W .any base 24 v)
    (h : DataW.Trod enc Try.prog W 0 (fun _ => true) true 24 v d p) : ∃ N A n c, ∃ l : List Tr, v = .agg #[.int .i64 N, .slice A n c] ∧ (-9223372036854775808 ≤ N ∧ N ≤ 9223372036854775807) ∧ T3 W A n l := by
  obtain ⟨cs, rfl, hsz⟩ := okWide_struct Try.underlying24 hv
  obtain ⟨fuel, hf⟩ := h
  obtain ⟨y0, y1, m, _, hl, h0, h1⟩ := trod_struct2 Try.underlying24 hf
  have hc2 : Try.prog.cellsOf 24 = 2 := by kernel_rfl
  have hc0 : Try.prog.cellsOf 3 = 1 := by kernel_rfl
  have hc1 : Try.prog.cellsOf 22 = 1 := by kernel_rfl
  rw [hc2] at hsz
  obtain ⟨cs⟩ := cs
  match cs, hsz with
  | [u0, u1], _ =>
    have h0' : DataW.trod enc Try.prog W 0 (fun _ => true) true m 3 [u0] = some y0 := by
      have h := h0
      simp only [Value.cells, hc0] at h
      exact h
    have h1' : DataW.trod enc Try.prog W 0 (fun _ => true) true m 22 [u1] = some y1 := by
      have h := h1
      simp only [Value.cells, hc1] at h
      exact h
    obtain ⟨A, n, c, hA, _, l, hr⟩ := cells_tris h1'
    obtain ⟨z, hz, _, hb⟩ := DataW.trod_int Try.underlying3 h0'
    simp at hz
    have hbd := bounds_i64 hb
    subst hA hz
    exact ⟨z, A, n, c, l, rfl, hbd, hr⟩
end Go.Proofs.Ytmflacmgffpjoaa
