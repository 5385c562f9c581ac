/- What a header tells of the chunks of a container (layer 7), in pure words. -/
import Derived.Test.YtngambkbpdjddaaBoxForm
namespace Go.Proofs.Ytngambkbpdjddaa

/-- Where the data of chunk i begin, counted from the first. -/
def offs (l : List (Nat × List Nat)) : Nat → Nat
  | 0 => 0
  | i + 1 => offs l i + (l.getD i (0, [])).2.length
theorem offs_cons (x : Nat × List Nat) (l : List (Nat × List Nat)) (i : Nat) : offs (x :: l) (i + 1) = x.2.length + offs l i := by
  induction i with
  | zero => simp [offs]
  | succ i ih => rw [offs, ih, offs]; simp; omega
theorem offs_all (l : List (Nat × List Nat)) : offs l l.length = (dataB l).length := by
  induction l with
  | nil => rfl
  | cons x l ih => rw [List.length_cons, offs_cons, ih]; simp [dataB]
theorem offs_le (l : List (Nat × List Nat)) (i : Nat) (h : i ≤ l.length) : offs l i ≤ (dataB l).length := by
  induction l generalizing i with
  | nil => cases i with
    | zero => exact Nat.zero_le _
    | succ i => simp at h
  | cons x l ih =>
    cases i with
    | zero => exact Nat.zero_le _
    | succ i =>
      rw [offs_cons]
      have := ih i (by simpa using h)
      simp [dataB] at *
      omega
theorem seg_row (l : List (Nat × List Nat)) (y : List Nat) (i : Nat) (h : i < l.length) : seg (rowsB l ++ y) (9 * i) 9 = rowB (l.getD i (0, [])) := by
  induction l generalizing i with
  | nil => simp at h
  | cons x l ih =>
    have e : rowsB (x :: l) = rowB x ++ rowsB l := by simp [rowsB]
    rw [e, List.append_assoc]
    cases i with
    | zero => rw [Nat.mul_zero, seg_left _ _ _ (length_row x)]; rfl
    | succ i =>
      rw [seg_skip _ _ _ _ (9 * i) (by rw [length_row]; omega), ih i (by simpa using h)]
      rfl
/-- Row i of the table. -/
theorem table_row (l : List (Nat × List Nat)) (i : Nat) (h : i < l.length) : seg (tableB l) (9 * i) 9 = rowB (l.getD i (0, [])) := seg_row l _ i h
theorem seg_datum (l : List (Nat × List Nat)) (y : List Nat) (i : Nat) (h : i < l.length) : seg (dataB l ++ y) (offs l i) (l.getD i (0, [])).2.length = (l.getD i (0, [])).2 := by
  induction l generalizing i with
  | nil => simp at h
  | cons x l ih =>
    have e : dataB (x :: l) = x.2 ++ dataB l := by simp [dataB]
    rw [e, List.append_assoc]
    cases i with
    | zero => exact seg_left _ _ _ rfl
    | succ i =>
      rw [offs_cons, seg_skip _ _ _ _ (offs l i) rfl]
      exact ih i (by simpa using h)
/-- The data of chunk i stand in the container where its header says. -/
theorem box_datum (l : List (Nat × List Nat)) (i : Nat) (h : i < l.length) : seg (boxB l) (18 + 9 * l.length + offs l i) (l.getD i (0, [])).2.length = (l.getD i (0, [])).2 := by
  have hh : (headB l).length = 14 + 9 * l.length := by rw [headB, List.length_append, length_fixed, length_table]; omega
  unfold boxB
  rw [seg_skip _ _ _ _ (4 + offs l i) (by omega), seg_skip _ _ _ _ (offs l i) (by rw [show zero4.length = 4 from rfl])]
  exact seg_datum l _ i h
theorem box_room (l : List (Nat × List Nat)) (i : Nat) (h : i < l.length) : 18 + 9 * l.length + offs l i + (l.getD i (0, [])).2.length ≤ (boxB l).length := by
  have := offs_le l (i + 1) h
  rw [offs] at this
  rw [length_box]
  omega
/-- What a row tells: the kind, the length, the sum's bytes. -/
theorem row_kind (x : Nat × List Nat) : (rowB x).getD 0 0 = x.1 := rfl
theorem row_len (x : Nat × List Nat) (h : x.2.length < 4294967296) : val (seg (rowB x) 1 4) = x.2.length := by
  have e : seg (rowB x) 1 4 = digs 4 x.2.length := by
    show seg ([x.1] ++ (digs 4 x.2.length ++ low4 (crcSum x.2))) 1 4 = _
    rw [seg_skip [x.1] _ 1 4 0 rfl, seg_left _ _ _ (length_digs _ _)]
  rw [e, val_digs 4 _ (by omega)]
theorem row_sum (x : Nat × List Nat) : seg (rowB x) 5 4 = low4 (crcSum x.2) := by
  show seg ([x.1] ++ (digs 4 x.2.length ++ low4 (crcSum x.2))) 5 4 = _
  rw [seg_skip [x.1] _ 5 4 4 rfl, seg_skip _ _ 4 4 0 (by rw [length_digs])]
  have := seg_left (low4 (crcSum x.2)) [] 4 rfl
  rwa [List.append_nil] at this
/-- A chunk is told whole just if its data are as they were, where texts are unlike within 32 bits. -/
theorem whole_near {l : List (Nat × List Nat)} (hl : DigC l) {b : List Nat} (hb : Dig b) (hlen : (boxB l).length = b.length) (h : Near (leNum (boxB l) ^^^ leNum b)) (i : Nat) (hi : i < l.length) :
    low4 (crcSum (l.getD i (0, [])).2) = low4 (crcSum (seg b (18 + 9 * l.length + offs l i) (l.getD i (0, [])).2.length)) ↔ seg b (18 + 9 * l.length + offs l i) (l.getD i (0, [])).2.length = (l.getD i (0, [])).2 := by
  have hr := box_room l i hi
  have hd := box_datum l i hi
  have hn := near_seg (dig_box hl) hb h (18 + 9 * l.length + offs l i) (l.getD i (0, [])).2.length
  rw [hd] at hn
  have dd : Dig (l.getD i (0, [])).2 := by
    rw [List.getD_eq_getElem?_getD, List.getElem?_eq_getElem hi]
    exact (hl _ (List.getElem_mem hi)).2
  have key := near_same dd (dig_seg hb _ _) (by rw [length_seg _ _ _ (by omega)]) hn
  constructor
  · intro e
    exact (key.1 (low4_inj (crcSum_lt _) (crcSum_lt _) e)).symm
  · intro e
    rw [e]
/-- A byte more, or one less, is no container: the number of chunks and their lengths tell how long it is. -/
theorem box_inj {l m : List (Nat × List Nat)} (hl : l.length < 65536) (hm : m.length < 65536) (dl : ∀ x ∈ l, x.2.length < 4294967296) (dm : ∀ x ∈ m, x.2.length < 4294967296) (y z : List Nat) (h : boxB l ++ y = boxB m ++ z) : l.length = m.length ∧ ∀ i, i < l.length → (l.getD i (0, [])).1 = (m.getD i (0, [])).1 ∧ (l.getD i (0, [])).2.length = (m.getD i (0, [])).2.length := by
  have s1 : seg (boxB l ++ y) 0 10 = fixedPart l.length := by rw [boxB, headB, List.append_assoc, List.append_assoc, seg_left _ _ _ (length_fixed _)]
  have s2 : seg (boxB m ++ z) 0 10 = fixedPart m.length := by rw [boxB, headB, List.append_assoc, List.append_assoc, seg_left _ _ _ (length_fixed _)]
  have hn : l.length = m.length := fixed_inj hl hm (by rw [← s1, ← s2, h])
  have t1 : seg (boxB l ++ y) 10 (9 * l.length + 4) = tableB l := by
    rw [boxB, headB, List.append_assoc, List.append_assoc, List.append_assoc, seg_skip _ _ 10 _ 0 (by rw [length_fixed]), seg_left _ _ _ (length_table l)]
  have t2 : seg (boxB m ++ z) 10 (9 * m.length + 4) = tableB m := by
    rw [boxB, headB, List.append_assoc, List.append_assoc, List.append_assoc, seg_skip _ _ 10 _ 0 (by rw [length_fixed]), seg_left _ _ _ (length_table m)]
  have ht : tableB l = tableB m := by rw [← t1, ← t2, h, hn]
  refine ⟨hn, fun i hi => ?_⟩
  have r := table_row l i hi
  rw [ht, table_row m i (by omega)] at r
  have a1 : ∀ x ∈ l, x.2.length < 4294967296 := dl
  have g1 : (l.getD i (0, [])).2.length < 4294967296 := by
    rw [List.getD_eq_getElem?_getD, List.getElem?_eq_getElem hi]; exact a1 _ (List.getElem_mem hi)
  have g2 : (m.getD i (0, [])).2.length < 4294967296 := by
    rw [List.getD_eq_getElem?_getD, List.getElem?_eq_getElem (show i < m.length by omega)]; exact dm _ (List.getElem_mem _)
  exact ⟨by rw [← row_kind, ← row_kind, r], by rw [← row_len _ g1, ← row_len _ g2, r]⟩
end Go.Proofs.Ytngambkbpdjddaa
