/- What a container is opened as (layer 7), in pure words. -/
import Derived.Test.YtngambkbpdjddaaBoxOpenF
namespace Go.Proofs.Ytngambkbpdjddaa

theorem tb_kind (cs : List (Nat × List Nat)) (i : Nat) (h : i < cs.length) : (tableB cs).getD (9 * i) 0 = (cs.getD i (0, [])).1 := by
  have e : (seg (tableB cs) (9 * i) 9).getD 0 0 = (tableB cs).getD (9 * i) 0 := by rw [seg, getD_take, if_pos (by omega), getD_drop, Nat.add_zero]
  rw [← e, table_row cs i h, row_kind]
theorem tb_len (cs : List (Nat × List Nat)) (i : Nat) (h : i < cs.length) (hs : (cs.getD i (0, [])).2.length < 4294967296) : val (seg (tableB cs) (9 * i + 1) 4) = (cs.getD i (0, [])).2.length := by
  rw [← seg_sub (tableB cs) (9 * i) 9 1 4 (by omega), table_row cs i h, row_len _ hs]
theorem tb_sum (cs : List (Nat × List Nat)) (i : Nat) (h : i < cs.length) : leNum (seg (tableB cs) (9 * i + 5) 4) = crcSum (cs.getD i (0, [])).2 := by
  rw [← seg_sub (tableB cs) (9 * i) 9 5 4 (by omega), table_row cs i h, row_sum]
  exact leNum_four _ (crcSum_lt _)
theorem tb_offs (cs : List (Nat × List Nat)) (hs : ∀ x ∈ cs, x.2.length < 4294967296) (i : Nat) (h : i ≤ cs.length) : toffs (tableB cs) i = offs cs i := by
  induction i with
  | zero => rfl
  | succ i ih => rw [toffs, offs, ih (by omega), tb_len cs i (by omega) (hs _ (getD_mem (by omega)))]
/-- Part i, by the table of chunks. -/
theorem partV_table (l : List Nat) (cs : List (Nat × List Nat)) (hs : ∀ x ∈ cs, x.2.length < 4294967296) (F : Int) (i : Nat) (h : i < cs.length) :
    partV l (tableB cs) F i = ⟨(cs.getD i (0, [])).1, if Whole l (F + offs cs i) (cs.getD i (0, [])).2.length (crcSum (cs.getD i (0, [])).2) then seg l (F + offs cs i).toNat (cs.getD i (0, [])).2.length else [], F + offs cs i, decide (Whole l (F + offs cs i) (cs.getD i (0, [])).2.length (crcSum (cs.getD i (0, [])).2))⟩ := by
  unfold partV
  rw [tb_kind cs i h, tb_len cs i h (hs _ (getD_mem h)), tb_sum cs i h, tb_offs cs hs i (by omega)]
/-- A part that is whole. -/
def wholeV (cs : List (Nat × List Nat)) (F : Int) (i : Nat) : PartV := ⟨(cs.getD i (0, [])).1, (cs.getD i (0, [])).2, F + offs cs i, true⟩
theorem box_whole (cs : List (Nat × List Nat)) (i : Nat) (h : i < cs.length) : Whole (boxB cs) (18 + 9 * (cs.length : Int) + offs cs i) (cs.getD i (0, [])).2.length (crcSum (cs.getD i (0, [])).2) := by
  have := box_room cs i h
  refine ⟨by omega, by omega, ?_⟩
  rw [show (18 + 9 * (cs.length : Int) + offs cs i).toNat = 18 + 9 * cs.length + offs cs i by omega, box_datum cs i h]
theorem box_opens {cs : List (Nat × List Nat)} (hl : cs.length < 65536) (hs : ∀ x ∈ cs, x.2.length < 4294967296) {k : Nat} {P : Nat → PartV} (h : Opens (boxB cs) k P) : k = cs.length ∧ ∀ i, i < cs.length → P i = wholeV cs (18 + 9 * (cs.length : Int)) i := by
  have ho : Opens (boxB cs) cs.length (partV (boxB cs) (tableB cs) (18 + 9 * (cs.length : Int))) := .inl ⟨box_first cs hl, by rw [Nat.add_comm (9 * cs.length) 4, box_table]⟩
  obtain ⟨rfl, rfl⟩ := h.one ho
  refine ⟨rfl, fun i hi => ?_⟩
  rw [partV_table _ cs hs _ i hi, if_pos (box_whole cs i hi), decide_eq_true (box_whole cs i hi)]
  unfold wholeV
  rw [show (18 + 9 * (cs.length : Int) + offs cs i).toNat = 18 + 9 * cs.length + offs cs i by omega, box_datum cs i hi]
theorem box_head (cs : List (Nat × List Nat)) (hl : cs.length < 65536) : ¬ NoHead (boxB cs) := fun h => h.1 _ (box_first cs hl)
/-- The chunks of parts. -/
def csOf (P : Nat → PartV) (k : Nat) : List (Nat × List Nat) := (List.range k).map fun i => ((P i).kind, (P i).data)
theorem length_csOf (P : Nat → PartV) (k : Nat) : (csOf P k).length = k := by simp [csOf]
theorem getD_csOf (P : Nat → PartV) (k i : Nat) (h : i < k) : (csOf P k).getD i (0, []) = ((P i).kind, (P i).data) := by
  simp [csOf, List.getD_eq_getElem?_getD, h]
theorem list_ext_getD {a b : List (Nat × List Nat)} (hl : a.length = b.length) (h : ∀ i, i < a.length → a.getD i (0, []) = b.getD i (0, [])) : a = b := by
  refine List.ext_getElem hl fun i h1 h2 => ?_
  have := h i h1
  simpa [List.getD_eq_getElem?_getD, List.getElem?_eq_getElem h1, List.getElem?_eq_getElem h2] using this
theorem partV_le {l : List Nat} {t : List Nat} (F : Int) (i : Nat) : (partV l t F i).data.length ≤ l.length := by
  unfold partV
  dsimp only
  split
  · simp [seg]; omega
  · simp
theorem dig_partV {l : List Nat} (hl : Dig l) {t : List Nat} (F : Int) (i : Nat) : Dig (partV l t F i).data := by
  unfold partV
  dsimp only
  split
  · exact dig_seg hl _ _
  · intro d hd; cases hd
theorem Opens.data {l : List Nat} (hl : Dig l) {k : Nat} {P : Nat → PartV} (h : Opens l k P) (i : Nat) : (P i).kind < 256 ∧ Dig (P i).data ∧ (P i).data.length ≤ l.length := by
  rcases h with ⟨_, rfl⟩ | ⟨_, _, rfl⟩
  · exact ⟨dig_at (dig_seg hl _ _) _, dig_partV hl _ _, partV_le _ _⟩
  · exact ⟨dig_at (dig_seg hl _ _) _, dig_partV hl _ _, partV_le _ _⟩
theorem offs_bound {cs : List (Nat × List Nat)} {m : Nat} (h : ∀ x ∈ cs, x.2.length ≤ m) (i : Nat) (hi : i ≤ cs.length) : offs cs i ≤ i * m := by
  induction i with
  | zero => exact Nat.zero_le _
  | succ i ih =>
    have h1 := ih (by omega)
    have h2 := h _ (getD_mem (show i < cs.length by omega))
    rw [offs, Nat.succ_mul]
    omega
/-- Bytes are a container. -/
def IsBox (l : List Nat) : Prop := ∃ cs, l = boxB cs ∧ DigC cs
theorem isBox_iff {l : List Nat} (hl : Dig l) (hn : l.length ≤ 2000) {k : Nat} {P : Nat → PartV} (h : Opens l k P) : IsBox l ↔ boxB (csOf P k) = l := by
  refine ⟨fun ⟨cs, e, dc⟩ => ?_, fun e => ⟨_, e.symm, fun x hx => ?_⟩⟩
  · subst e
    have hb := length_box cs
    have hd := offs_all cs
    have hs : ∀ x ∈ cs, x.2.length < 4294967296 := fun x hx => by
      obtain ⟨i, hi, rfl⟩ := getD_of_mem hx
      have := box_room cs i hi
      omega
    obtain ⟨rfl, hP⟩ := box_opens (by omega) hs h
    congr 1
    refine list_ext_getD (length_csOf _ _) fun i hi => ?_
    rw [length_csOf] at hi
    rw [getD_csOf _ _ _ hi, hP i hi]
    rfl
  · obtain ⟨i, hi, rfl⟩ := getD_of_mem hx
    rw [length_csOf] at hi
    rw [getD_csOf _ _ _ hi]
    exact ⟨(h.data hl i).1, (h.data hl i).2.1⟩
theorem noHead_box {l : List Nat} (hn : l.length ≤ 2000) (h : NoHead l) : ¬ IsBox l := fun ⟨cs, e, _⟩ => by
  subst e
  have hb := length_box cs
  exact box_head cs (by omega) h
end Go.Proofs.Ytngambkbpdjddaa
