/- The container of chunks (layer 7), its two headers, and what a burst of 32 bits does to them, in pure words. -/
import Derived.Test.YtngambkbpdjddaaBoxPure
namespace Go.Proofs.Ytngambkbpdjddaa

def magic : List Nat := [71, 89, 80, 83]
/-- The fixed part of n chunks. -/
def fixedPart (n : Nat) : List Nat := guard (magic ++ digs 2 n)
theorem length_fixed (n : Nat) : (fixedPart n).length = 10 := by rw [fixedPart, length_guard, List.length_append, length_digs]; rfl
theorem dig_magic : Dig magic := by intro d hd; simp [magic] at hd; omega
theorem dig_fixed (n : Nat) : Dig (fixedPart n) := dig_guard (dig_append dig_magic (dig_digs 2 n))
theorem fixed_inj {n m : Nat} (hn : n < 65536) (hm : m < 65536) (h : fixedPart n = fixedPart m) : n = m := by
  have h1 := List.append_cancel_left (guard_inj h)
  rw [← val_digs 2 n (by omega), ← val_digs 2 m (by omega), h1]
/-- What is right as a fixed part is that of the number that it tells. -/
theorem fixed_of {u : List Nat} (hd : Dig u) (hl : u.length = 10) (hm : u.take 4 = magic) (hg : Guarded u) : u = fixedPart (val (seg u 4 2)) ∧ val (seg u 4 2) < 65536 := by
  obtain ⟨t, rfl⟩ := (guarded_iff u).1 hg
  rw [length_guard] at hl
  have hlt : t.length = 6 := by omega
  have dt : Dig t := fun d h => hd d (List.mem_append_left _ h)
  have e1 : seg (guard t) 4 2 = t.drop 4 := by
    unfold seg guard
    rw [List.drop_append_of_le_length (by omega), List.take_append_of_le_length (by rw [List.length_drop]; omega), List.take_of_length_le (by rw [List.length_drop]; omega)]
  have e2 : t.take 4 = magic := by
    rw [guard, List.take_append_of_le_length (by omega)] at hm
    exact hm
  have l2 : (t.drop 4).length = 2 := by rw [List.length_drop]; omega
  have e3 : digs 2 (val (t.drop 4)) = t.drop 4 := by
    have := digs_val (t.drop 4) (dig_drop dt 4)
    rwa [l2] at this
  refine ⟨?_, ?_⟩
  · rw [e1, fixedPart, e3, ← e2, List.take_append_drop]
  · rw [e1]
    have := val_lt (t.drop 4) (dig_drop dt 4)
    rw [l2] at this
    omega
theorem fixed_guarded (n : Nat) : Guarded (fixedPart n) := (guarded_iff _).2 ⟨_, rfl⟩

/-- A chunk's row in the table. -/
def rowB (x : Nat × List Nat) : List Nat := x.1 :: (digs 4 x.2.length ++ low4 (crcSum x.2))
theorem length_row (x : Nat × List Nat) : (rowB x).length = 9 := by rw [rowB, List.length_cons, List.length_append, length_digs, length_low4]
def rowsB (l : List (Nat × List Nat)) : List Nat := (l.map rowB).flatten
theorem length_rows (l : List (Nat × List Nat)) : (rowsB l).length = 9 * l.length := by
  induction l with
  | nil => rfl
  | cons x l ih =>
    unfold rowsB at *
    rw [List.map_cons, List.flatten_cons, List.length_append, ih, length_row, List.length_cons]
    omega
def tableB (l : List (Nat × List Nat)) : List Nat := guard (rowsB l)
theorem length_table (l : List (Nat × List Nat)) : (tableB l).length = 9 * l.length + 4 := by rw [tableB, length_guard, length_rows]
def dataB (l : List (Nat × List Nat)) : List Nat := (l.map (·.2)).flatten
/-- A header: the fixed part and the table. -/
def headB (l : List (Nat × List Nat)) : List Nat := fixedPart l.length ++ tableB l
def zero4 : List Nat := [0, 0, 0, 0]
/-- The container. -/
def boxB (l : List (Nat × List Nat)) : List Nat := headB l ++ (zero4 ++ (dataB l ++ (zero4 ++ (tableB l ++ fixedPart l.length))))
theorem length_box (l : List (Nat × List Nat)) : (boxB l).length = 36 + 18 * l.length + (dataB l).length := by
  unfold boxB headB
  simp only [List.length_append, length_fixed, length_table, show zero4.length = 4 from rfl]
  omega
/-- All bytes are bytes. -/
def DigC (l : List (Nat × List Nat)) : Prop := ∀ x ∈ l, x.1 < 256 ∧ Dig x.2
theorem dig_cons {d : Nat} {l : List Nat} (h : d < 256) (k : Dig l) : Dig (d :: l) := fun x hx => by
  rcases List.mem_cons.1 hx with e | e
  · omega
  · exact k x e
theorem dig_rows {l : List (Nat × List Nat)} (h : DigC l) : Dig (rowsB l) := by
  intro d hd
  obtain ⟨r, hr, hd⟩ := List.mem_flatten.1 hd
  obtain ⟨x, hx, rfl⟩ := List.mem_map.1 hr
  exact dig_cons (h x hx).1 (dig_append (dig_digs _ _) (dig_low4 _)) d hd
theorem dig_data {l : List (Nat × List Nat)} (h : DigC l) : Dig (dataB l) := by
  intro d hd
  obtain ⟨r, hr, hd⟩ := List.mem_flatten.1 hd
  obtain ⟨x, hx, rfl⟩ := List.mem_map.1 hr
  exact (h x hx).2 d hd
theorem dig_box {l : List (Nat × List Nat)} (h : DigC l) : Dig (boxB l) := by
  have hz : Dig zero4 := by intro d hd; simp [zero4] at hd; omega
  have ht := dig_guard (dig_rows h)
  exact dig_append (dig_append (dig_fixed _) ht) (dig_append hz (dig_append (dig_data h) (dig_append hz (dig_append ht (dig_fixed _)))))

/-- The first header of b tells of n chunks. -/
def First (b : List Nat) (n : Nat) : Prop := 14 + 9 * n ≤ b.length ∧ n < 65536 ∧ seg b 0 10 = fixedPart n ∧ Guarded (seg b 10 (4 + 9 * n))
/-- The second header. -/
def Second (b : List Nat) (n : Nat) : Prop := 14 + 9 * n ≤ b.length ∧ n < 65536 ∧ seg b (b.length - 10) 10 = fixedPart n ∧ Guarded (seg b (b.length - 14 - 9 * n) (4 + 9 * n))
theorem First.one {b : List Nat} {n m : Nat} (h : First b n) (k : First b m) : n = m := fixed_inj h.2.1 k.2.1 (h.2.2.1.symm.trans k.2.2.1)
theorem Second.one {b : List Nat} {n m : Nat} (h : Second b n) (k : Second b m) : n = m := fixed_inj h.2.1 k.2.1 (h.2.2.1.symm.trans k.2.2.1)

theorem seg_left (a b : List Nat) (m : Nat) (h : a.length = m) : seg (a ++ b) 0 m = a := by
  subst h
  rw [seg, List.drop_zero, List.take_left]
theorem seg_skip (a b : List Nat) (p m q : Nat) (h : p = a.length + q) : seg (a ++ b) p m = seg b q m := by
  subst h
  rw [seg, seg, ← List.drop_drop, List.drop_left]
theorem box_first (l : List (Nat × List Nat)) (hl : l.length < 65536) : First (boxB l) l.length := by
  refine ⟨by rw [length_box]; omega, hl, ?_, ?_⟩
  · rw [boxB, headB, List.append_assoc, seg_left _ _ _ (length_fixed _)]
  · rw [boxB, headB, List.append_assoc, seg_skip _ _ 10 _ 0 (by rw [length_fixed]), seg_left _ _ _ (by rw [length_table]; omega)]
    exact (guarded_iff _).2 ⟨_, rfl⟩
theorem box_second (l : List (Nat × List Nat)) (hl : l.length < 65536) : Second (boxB l) l.length := by
  have hL := length_box l
  have hh : (headB l).length = 14 + 9 * l.length := by rw [headB, List.length_append, length_fixed, length_table]; omega
  have h4 : zero4.length = 4 := rfl
  refine ⟨by omega, hl, ?_, ?_⟩
  · rw [hL]
    unfold boxB
    rw [seg_skip _ _ _ _ (36 + 18 * l.length + (dataB l).length - 10 - (14 + 9 * l.length)) (by omega), seg_skip _ _ _ _ (36 + 18 * l.length + (dataB l).length - 10 - (14 + 9 * l.length) - 4) (by omega),
      seg_skip _ _ _ _ (9 * l.length + 8) (by omega), seg_skip _ _ _ _ (9 * l.length + 4) (by omega), seg_skip _ _ _ _ 0 (by rw [length_table])]
    have := seg_left (fixedPart l.length) [] 10 (length_fixed _)
    rwa [List.append_nil] at this
  · rw [hL]
    unfold boxB
    rw [seg_skip _ _ _ _ (36 + 18 * l.length + (dataB l).length - 14 - 9 * l.length - (14 + 9 * l.length)) (by omega), seg_skip _ _ _ _ (36 + 18 * l.length + (dataB l).length - 14 - 9 * l.length - (14 + 9 * l.length) - 4) (by omega),
      seg_skip _ _ _ _ 4 (by omega), seg_skip _ _ _ _ 0 (by omega), seg_left _ _ _ (by rw [length_table]; omega)]
    exact (guarded_iff _).2 ⟨_, rfl⟩

/-- A part is as it was just if no bit of it is another one. -/
theorem seg_same {a b : List Nat} (ha : Dig a) (hb : Dig b) (hl : a.length = b.length) (p m : Nat) (h : ∀ j, 8 * p ≤ j → j < 8 * (p + m) → (leNum a ^^^ leNum b).testBit j = false) : seg a p m = seg b p m := by
  apply leNum_inj (dig_seg ha p m) (dig_seg hb p m) (by simp [seg, hl])
  apply xor_eq_zero'
  unfold seg
  rw [leNum_take (dig_drop ha p), leNum_take (dig_drop hb p), leNum_drop ha, leNum_drop hb, ← xor_mod, ← xor_div]
  apply Nat.eq_of_testBit_eq
  intro j
  rw [Nat.testBit_mod_two_pow, Nat.testBit_div_two_pow, Nat.zero_testBit]
  by_cases hj : j < 8 * m
  · rw [h (j + 8 * p) (by omega) (by omega)]; simp
  · rw [decide_eq_false hj]; simp
theorem near_bits {Z s t : Nat} (h : Near Z) (hs : Z.testBit s = true) (ht : Z.testBit t = true) : t < s + 32 := by
  obtain ⟨f, W, hW, hz⟩ := h
  have h1 := window hz hW hs
  have h2 := window hz hW ht
  omega
/-- Of two parts with four bytes or more between them one is as it was. -/
theorem one_stays {a b : List Nat} (ha : Dig a) (hb : Dig b) (hl : a.length = b.length) (h : Near (leNum a ^^^ leNum b)) (p m q k : Nat) (hd : p + m + 4 ≤ q) : seg a p m = seg b p m ∨ seg a q k = seg b q k := by
  by_cases h1 : ∀ j, 8 * p ≤ j → j < 8 * (p + m) → (leNum a ^^^ leNum b).testBit j = false
  · exact .inl (seg_same ha hb hl p m h1)
  · right
    apply seg_same ha hb hl q k
    intro j hj _
    cases hb2 : (leNum a ^^^ leNum b).testBit j with
    | false => rfl
    | true =>
      exfalso
      apply h1
      intro i hi1 hi2
      cases hb1 : (leNum a ^^^ leNum b).testBit i with
      | false => rfl
      | true => have := near_bits h hb1 hb2; omega
/-- Behind a burst: a first header that is told is the old one, as it was. -/
theorem first_near {a b : List Nat} (ha : Dig a) (hb : Dig b) (hl : a.length = b.length) (h : Near (leNum a ^^^ leNum b)) {n m : Nat} (fa : First a n) (fb : First b m) : n = m ∧ seg a 10 (4 + 9 * n) = seg b 10 (4 + 9 * n) := by
  have e1 : seg a 0 10 = seg b 0 10 := by
    refine guarded_near (dig_seg ha _ _) (dig_seg hb _ _) ?_ ?_ (by simp [seg, hl]) (near_seg ha hb h 0 10)
    · rw [fa.2.2.1]; exact fixed_guarded n
    · rw [fb.2.2.1]; exact fixed_guarded m
  have e2 : n = m := fixed_inj fa.2.1 fb.2.1 (by rw [← fa.2.2.1, ← fb.2.2.1, e1])
  subst e2
  exact ⟨rfl, guarded_near (dig_seg ha _ _) (dig_seg hb _ _) fa.2.2.2 fb.2.2.2 (by simp [seg, hl]) (near_seg ha hb h _ _)⟩
end Go.Proofs.Ytngambkbpdjddaa
