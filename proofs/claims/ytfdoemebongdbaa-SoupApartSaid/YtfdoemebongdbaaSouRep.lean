/- Layer 8: marks on numbers; whether a list repeats one. -/
import Derived.Test.YtfdoemebongdbaaSouFit
namespace Go.Proofs.Ytfdoemebongdbaa
open Go.RowKit

def bls (bs : List Bool) : List Value := bs.map Value.bool
def RowB (w : World) (q : Nat) (bs : List Bool) : Prop := w.heap[q]? = some (.cells (bls bs).toArray 4 (0, 0))
theorem RowB.below {w w' : World} {q : Nat} {bs : List Bool} (h : RowB w q bs) (hb : Below w.heap.size w w') : RowB w' q bs := (hb.block q (heap_lt h)).trans h
theorem RowB.cell {w : World} {q : Nat} {bs : List Bool} (h : RowB w q bs) (k : Nat) (hk : k < bs.length) : w.cell? ⟨q, k, none⟩ = some (.bool (bs.getD k false)) := by
  rw [cell_in h]
  simp [bls, List.getElem?_eq_getElem hk]
theorem RowB.frozen {w : World} {q : Nat} {bs : List Bool} (h : RowB w q bs) (k : Nat) : w.frozen? ⟨q, k, none⟩ = false := frozen_in h k
theorem RowB.set {w : World} {q : Nat} {bs : List Bool} (h : RowB w q bs) (k : Nat) (b : Bool) : RowB (w.setCell ⟨q, k, none⟩ (.bool b)) q (bs.set k b) := by
  unfold RowB
  rw [heap_set h]
  simp [bls, List.map_set]
/-- Which of the numbers below N are on the list. -/
def marks (N : Nat) (S : List Int) : List Bool := (List.range N).map fun (i : Nat) => S.contains (i : Int)
theorem marks_len (N : Nat) (S : List Int) : (marks N S).length = N := by simp [marks]
theorem marks_at (N : Nat) (S : List Int) (k : Nat) (hk : k < N) : (marks N S).getD k false = S.contains (k : Int) := by simp [marks, hk]
theorem marks_nil (N : Nat) : marks N [] = List.replicate N false := by
  unfold marks
  apply List.ext_getElem?; intro i; by_cases h : i < N <;> simp [h]
theorem marks_set (N : Nat) (S : List Int) (x : Nat) : (marks N S).set x true = marks N (S ++ [(x : Int)]) := by
  unfold marks
  apply List.ext_getElem?
  intro i
  by_cases h : i < N
  · by_cases e : x = i
    · subst e; simp [h]
    · have : ¬ ((i : Int) = (x : Int)) := by omega
      simp [e, h, this]
  · simp [h]
theorem Try.infoBool : (Try.prog.info? 4).map (fun i => (i.zero, i.size, i.bytes)) = some (some (.bool false), 1, 1) := by kernel_rfl
def zerB (n : Nat) : Obj := .cells (madeCells #[.bool false] n) 4
theorem makeB (n : Nat) (hn : n ≤ 1000000) (W : World) : (Instr.makeSlice 63 (.int .i64 (n : Int)) (.int .i64 (n : Int))).run Try.prog W = .ok (.slice (some ⟨W.heap.size, 0, none⟩) n n) (W.alloc (zerB n)) :=
  run_make_row' (P := Try.prog) 63 4 (.bool false) 1 Try.underlying63 Try.infoBool rfl .i64 .i64 n (by omega) (by omega) W
theorem RowB.made (w : World) (n : Nat) : RowB (w.alloc (zerB n)) w.heap.size (marks n []) := by
  unfold RowB zerB
  rw [heap_alloc_new, marks_nil]
  have : madeCells #[.bool false] n = (bls (List.replicate n false)).toArray := by
    apply Array.toList_inj.1
    rw [toList_madeCells_one]; simp [bls]
  rw [this]

def RepTold (w : World) (l : List Int) (e : Ending) (w' : World) : Prop := e = .returned (.bool (decide (¬ l.Nodup))) ∧ Below w.heap.size w w'
def RepAt (w : World) (q n N : Nat) (l : List Int) (i : Value) (wr : World) : Prop := Below w.heap.size w wr ∧ ∃ k : Nat, k ≤ n ∧ i = .int .i64 (k : Int) ∧ RowB wr q (marks N (l.take k)) ∧ (l.take k).Nodup
theorem take_succ_getD (l : List Int) (k : Nat) (h : k < l.length) : l.take (k + 1) = l.take k ++ [l.getD k 0] := by
  rw [List.take_add_one, List.getD_eq_getElem?_getD, List.getElem?_eq_getElem h]; rfl
theorem nodup_snoc {l : List Int} {x : Int} (h : l.Nodup) (hx : ¬ x ∈ l) : (l ++ [x]).Nodup := by
  rw [List.nodup_append]
  exact ⟨h, by simp, fun a ha b hb => by simp at hb; subst hb; exact fun e => hx (e ▸ ha)⟩

set_option maxHeartbeats 4000000 in
set_option maxRecDepth 100000 in
theorem srepeats_any (w : World) (A : Option Addr) (n c N : Nat) (l : List Int) (h : Reads w A n (ints l)) (hl : allIn N l) (hn : n ≤ 140737488351232) (hN : N ≤ 1000000) :
    Calls Try.prog 34 #[.slice A n c, .int .i64 (N : Int)] w (RepTold w l) := by
  have HL := Lib.hid h
  have HI := Lib.hid hl
  clear h hl
  have hmk := fun W => makeB N hN W
  go_enter Try.func34, Try.ntmps34
  go_wp2_with fail
  have S0 := Lib.hid (RowB.made w N)
  have B0 := Lib.hid ((Below.refl _ w).alloc (Nat.le_refl _) (zerB N))
  obtain ⟨w1, hw1⟩ : ∃ w1, w.alloc (zerB N) = w1 := ⟨_, rfl⟩
  obtain ⟨q, hq⟩ : ∃ q, w.heap.size = q := ⟨_, rfl⟩
  have HQ := Lib.hid hq
  rw [hw1] at S0 B0
  rw [hq] at S0
  simp only [hw1, hq]
  clear hw1 hq
  go_loopw [12] (RepAt w q n N l) (fun i _ => n - (intOf i).toNat)
  case atStart => exact ⟨B0.out, 0, Nat.zero_le _, rfl, by simpa using S0.out, by simp⟩
  case round =>
    obtain ⟨hb, k, hk, rfl, hrow, hnd⟩ := hrel
    have HR := Lib.hid (And.intro hb (And.intro hrow hnd))
    clear hb hrow hnd
    by_cases hlt : k < n
    · have b1 : (k : Int) < n := by omega
      have hkl : k < l.length := by rw [HL.out.len]; exact hlt
      obtain ⟨ad, rfl, c0⟩ := (HL.out.below HR.out.1).int k hlt
      have hx := HI.out _ (getDi_mem hkl)
      obtain ⟨x, hxx⟩ : ∃ x : Nat, l.getD k 0 = (x : Int) := ⟨(l.getD k 0).toNat, by have := hx.1; omega⟩
      have HX := Lib.hid hxx
      rw [hxx] at c0 hx
      have b2 : (x : Int) < N := hx.2
      have r0 := HR.out.2.1.cell x (by rw [marks_len]; omega)
      rw [marks_at N _ x (by omega)] at r0
      have z0 := HR.out.2.1.frozen x
      have E := take_succ_getD l k hkl
      rw [hxx] at E
      have HE := Lib.hid E
      clear hx hxx E hkl
      by_cases hm : (x : Int) ∈ l.take k
      · have e1 : (l.take k).contains (x : Int) = true := by simpa using hm
        rw [e1] at r0
        have HM := Lib.hid hm
        clear hm e1
        go_wp2
        go_ret
        refine ⟨told_t fun hc => ?_, HR.out.1⟩
        have h2 : (l.take (k + 1)).Nodup := (List.take_sublist _ _).nodup hc
        rw [HE.out, List.nodup_append] at h2
        exact h2.2.2 _ HM.out _ (by simp) rfl
      · have e1 : (l.take k).contains (x : Int) = false := by simpa using hm
        rw [e1] at r0
        have HM := Lib.hid hm
        have F3 := HR.out.2.1.set x true
        rw [marks_set, ← HE.out] at F3
        have HF := Lib.hid F3
        clear hm e1 F3
        go_wp2_with fail
        exact ⟨⟨HR.out.1.setCell (p := ⟨q, x, none⟩) (by rw [HQ.out]; exact Nat.le_refl _) _, k + 1, by omega, by go_num, HF.out, by rw [HE.out]; exact nodup_snoc HR.out.2.2 HM.out⟩, by simp [intOf]; omega⟩
    · obtain rfl : k = n := by omega
      have b1 : ¬ (k : Int) < k := by omega
      go_wp2
      go_ret
      refine ⟨told_f fun hc => hc ?_, HR.out.1⟩
      have := HR.out.2.2
      rwa [List.take_of_length_le (by rw [HL.out.len]; exact Nat.le_refl _)] at this
end Go.Proofs.Ytfdoemebongdbaa
