/- Behind a burst of 32 bits one header of a container is as it was, and no other one is told (layer 7), in pure words. -/
import Derived.Test.YtngambkbpdjddaaBoxParts
namespace Go.Proofs.Ytngambkbpdjddaa

theorem seg_sub (l : List Nat) (p m q k : Nat) (h : q + k ≤ m) : seg (seg l p m) q k = seg l (p + q) k := by
  unfold seg
  rw [List.drop_take, List.take_take, List.drop_drop, show min k (m - q) = k by omega]
theorem First.of_same {a b : List Nat} (hl : a.length = b.length) {n : Nat} (fa : First a n) (h : seg a 0 (14 + 9 * n) = seg b 0 (14 + 9 * n)) : First b n := by
  have e1 : seg a 0 10 = seg b 0 10 := by
    have := congrArg (fun u => seg u 0 10) h
    simpa only [seg_sub _ 0 (14 + 9 * n) 0 10 (by omega)] using this
  have e2 : seg a 10 (4 + 9 * n) = seg b 10 (4 + 9 * n) := by
    have := congrArg (fun u => seg u 10 (4 + 9 * n)) h
    simpa only [seg_sub _ 0 (14 + 9 * n) 10 (4 + 9 * n) (by omega), Nat.zero_add] using this
  exact ⟨by rw [← hl]; exact fa.1, fa.2.1, by rw [← e1]; exact fa.2.2.1, by rw [← e2]; exact fa.2.2.2⟩
theorem Second.of_same {a b : List Nat} (hl : a.length = b.length) {n : Nat} (sa : Second a n) (h : seg a (a.length - 14 - 9 * n) (14 + 9 * n) = seg b (a.length - 14 - 9 * n) (14 + 9 * n)) :
    Second b n ∧ seg a (a.length - 14 - 9 * n) (4 + 9 * n) = seg b (b.length - 14 - 9 * n) (4 + 9 * n) := by
  have h0 := sa.1
  have e1 : seg a (a.length - 10) 10 = seg b (b.length - 10) 10 := by
    have := congrArg (fun u => seg u (4 + 9 * n) 10) h
    simp only [seg_sub _ (a.length - 14 - 9 * n) (14 + 9 * n) (4 + 9 * n) 10 (by omega)] at this
    rw [← hl]
    rwa [show a.length - 14 - 9 * n + (4 + 9 * n) = a.length - 10 by omega] at this
  have e2 : seg a (a.length - 14 - 9 * n) (4 + 9 * n) = seg b (b.length - 14 - 9 * n) (4 + 9 * n) := by
    have := congrArg (fun u => seg u 0 (4 + 9 * n)) h
    simp only [seg_sub _ (a.length - 14 - 9 * n) (14 + 9 * n) 0 (4 + 9 * n) (by omega), Nat.add_zero] at this
    rw [← hl]
    exact this
  exact ⟨⟨by rw [← hl]; exact h0, sa.2.1, by rw [← e1]; exact sa.2.2.1, by rw [← e2]; exact sa.2.2.2⟩, e2⟩
theorem box_table (l : List (Nat × List Nat)) : seg (boxB l) 10 (4 + 9 * l.length) = tableB l := by
  rw [boxB, headB, List.append_assoc, seg_skip _ _ 10 _ 0 (by rw [length_fixed]), seg_left _ _ _ (by rw [length_table]; omega)]
theorem box_table2 (l : List (Nat × List Nat)) : seg (boxB l) ((boxB l).length - 14 - 9 * l.length) (4 + 9 * l.length) = tableB l := by
  have hL := length_box l
  have hh : (headB l).length = 14 + 9 * l.length := by rw [headB, List.length_append, length_fixed, length_table]; omega
  have h4 : zero4.length = 4 := rfl
  rw [hL]
  unfold boxB
  rw [seg_skip _ _ _ _ (36 + 18 * l.length + (dataB l).length - 14 - 9 * l.length - (14 + 9 * l.length)) (by omega), seg_skip _ _ _ _ (36 + 18 * l.length + (dataB l).length - 14 - 9 * l.length - (14 + 9 * l.length) - 4) (by omega),
    seg_skip _ _ _ _ 4 (by omega), seg_skip _ _ _ _ 0 (by omega), seg_left _ _ _ (by rw [length_table]; omega)]
/-- What Open goes by, behind a burst. -/
theorem burst_heads {l : List (Nat × List Nat)} (hd : DigC l) (hl : l.length < 65536) {b : List Nat} (hb : Dig b) (hlen : (boxB l).length = b.length) (h : Near (leNum (boxB l) ^^^ leNum b)) :
    (First b l.length ∧ seg b 10 (4 + 9 * l.length) = tableB l) ∨
    ((∀ m, ¬ First b m) ∧ Second b l.length ∧ seg b (b.length - 14 - 9 * l.length) (4 + 9 * l.length) = tableB l) := by
  have da := dig_box hd
  have hL := length_box l
  by_cases hf : ∃ m, First b m
  · obtain ⟨m, fm⟩ := hf
    obtain ⟨rfl, e⟩ := first_near da hb hlen h (box_first l hl) fm
    exact .inl ⟨fm, by rw [← e, box_table]⟩
  · right
    have hno : ∀ m, ¬ First b m := fun m fm => hf ⟨m, fm⟩
    rcases one_stays da hb hlen h 0 (14 + 9 * l.length) ((boxB l).length - 14 - 9 * l.length) (14 + 9 * l.length) (by omega) with h1 | h2
    · exact absurd ((box_first l hl).of_same hlen h1) (hno _)
    · obtain ⟨s, e⟩ := (box_second l hl).of_same hlen h2
      exact ⟨hno, s, by rw [← e, box_table2]⟩
/-- Where the data begin, by the second header. -/
theorem second_at (l : List (Nat × List Nat)) : (boxB l).length = 18 + 9 * l.length + (18 + 9 * l.length) + offs l l.length := by rw [length_box, offs_all]; omega
theorem getD_mem {l : List (Nat × List Nat)} {i : Nat} (h : i < l.length) : l.getD i (0, []) ∈ l := by
  rw [List.getD_eq_getElem?_getD, List.getElem?_eq_getElem h]
  exact List.getElem_mem h
theorem row_sums {x y : Nat × List Nat} (h : rowB x = rowB y) : crcSum x.2 = crcSum y.2 :=
  low4_inj (crcSum_lt _) (crcSum_lt _) (by rw [← row_sum x, ← row_sum y, h])
theorem offs_congr {l m : List (Nat × List Nat)} (h : ∀ i, i < l.length → (l.getD i (0, [])).2.length = (m.getD i (0, [])).2.length) (i : Nat) (hi : i ≤ l.length) : offs l i = offs m i := by
  induction i with
  | zero => rfl
  | succ i ih => rw [offs, offs, ih (by omega), h i (by omega)]
/-- Two containers of one length that are unlike within 32 bits are one. -/
theorem box_near {l m : List (Nat × List Nat)} (dl : DigC l) (dm : DigC m) (hl : l.length < 65536) (hm : m.length < 65536) (sl : ∀ x ∈ l, x.2.length < 4294967296) (sm : ∀ x ∈ m, x.2.length < 4294967296)
    (hlen : (boxB l).length = (boxB m).length) (h : Near (leNum (boxB l) ^^^ leNum (boxB m))) : l = m := by
  rcases burst_heads dl hl (dig_box dm) hlen h with ⟨f, ht⟩ | ⟨f, _⟩
  · have hn : l.length = m.length := f.one (box_first m hm)
    rw [hn, box_table] at ht
    have rows : ∀ i, i < l.length → rowB (m.getD i (0, [])) = rowB (l.getD i (0, [])) := fun i hi => by
      rw [← table_row l i hi, ← table_row m i (by omega), ht]
    have lens : ∀ i, i < l.length → (l.getD i (0, [])).2.length = (m.getD i (0, [])).2.length := fun i hi => by
      rw [← row_len _ (sl _ (getD_mem hi)), ← row_len _ (sm _ (getD_mem (show i < m.length by omega))), rows i hi]
    have same : ∀ i, i < l.length → l.getD i (0, []) = m.getD i (0, []) := fun i hi => by
      have ho := offs_congr lens i (by omega)
      have hd := box_datum m i (by omega)
      rw [← ho, ← hn, ← lens i hi] at hd
      have hw := whole_near dl (dig_box dm) hlen h i hi
      rw [hd] at hw
      have h2 := hw.1 (by rw [row_sums (rows i hi)])
      exact Prod.ext (by rw [← row_kind, ← row_kind, rows i hi]) h2.symm
    apply List.ext_getElem hn
    intro i h1 h2
    have := same i h1
    rwa [List.getD_eq_getElem?_getD, List.getD_eq_getElem?_getD, List.getElem?_eq_getElem h1, List.getElem?_eq_getElem h2] at this
  · exact absurd (box_first m hm) (f _)
/-- A text in which one byte is another one is unlike within 32 bits. -/
theorem near_set {l : List Nat} (h : Dig l) (k d : Nat) (hk : k < l.length) (hd : d < 256) : Near (leNum l ^^^ leNum (l.set k d)) := by
  have e : l.set k d = l.set k (l.getD k 0 ^^^ (l.getD k 0 ^^^ d)) := by rw [← Nat.xor_assoc, Nat.xor_self, Nat.zero_xor]
  have hb : l.getD k 0 ^^^ d < 256 := Nat.xor_lt_two_pow (n := 8) (dig_at h k) hd
  rw [e, leNum_xor_set h k _ hk hb, ← Nat.xor_assoc, Nat.xor_self, Nat.zero_xor]
  exact ⟨8 * k, _, by omega, rfl⟩
end Go.Proofs.Ytngambkbpdjddaa
