/- Texts laid one behind the other: SouFit, SouRep, SouOwn, SouMir, SouTri, SouRen, SouPick. -/
import Derived.Test.YtkcmieblnajmpaaGM
import Derived.Deep.RegionHeld3
import Derived.StillTailTactics
import Derived.Handy

/- Layer 8: numbers below a bound, numbers that come twice, and whether a soup fits. -/
namespace Go.Proofs.Ytkcmieblnajmpaa
open Go.RowKit

def AllBAt (w : World) (n : Nat) (N : Int) (l : List Int) (i : Value) (wr : World) : Prop := w = wr ∧ ∃ k : Nat, k ≤ n ∧ i = .int .i64 (k : Int) ∧ ∀ j, j < k → inN N (l.getD j 0)

set_option maxHeartbeats 1600000 in
set_option maxRecDepth 100000 in
theorem sallBelow_any (w : World) (A : Option Addr) (n c : Nat) (l : List Int) (N : Int) (h : Reads w A n (ints l)) (hn : n ≤ 140737488351232) :
    Calls Try.prog 47 #[.slice A n c, .int .i64 N] w fun e w' => e = .returned (.bool (decide (allIn N l))) ∧ w' = w := by
  have HR := Lib.hid h
  clear h
  go_enter Try.func47, Try.ntmps47
  go_wp2_with fail
  go_loopw [9] (AllBAt w n N l) (fun i _ => n - (intOf i).toNat)
  case atStart => exact ⟨rfl, 0, Nat.zero_le _, rfl, fun j hj => absurd hj (by omega)⟩
  case round =>
    obtain ⟨rfl, k, hk, rfl, ha⟩ := hrel
    have HA := Lib.hid ha
    clear ha
    by_cases hlt : k < n
    · obtain ⟨ad, rfl, c0⟩ := HR.out.int k hlt
      have b1 : (k : Int) < n := by omega
      obtain ⟨x, hx⟩ : ∃ x, l.getD k 0 = x := ⟨_, rfl⟩
      have HX := Lib.hid hx
      rw [hx] at c0
      clear hx
      by_cases h1 : x < 0
      · go_wp2
        go_ret
        refine ⟨told_f fun hc => ?_, rfl⟩
        have := (hc _ (getDi_mem (show k < l.length by rw [HR.out.len]; exact hlt))).1
        rw [HX.out] at this; omega
      · by_cases h2 : N ≤ x
        · go_wp2
          go_ret
          refine ⟨told_f fun hc => ?_, rfl⟩
          have := (hc _ (getDi_mem (show k < l.length by rw [HR.out.len]; exact hlt))).2
          rw [HX.out] at this; omega
        · go_wp2_with fail
          refine ⟨⟨rfl, k + 1, by omega, by go_num, fun j hj => ?_⟩, by simp [intOf]; omega⟩
          rcases Nat.lt_or_ge j k with h3 | h3
          · exact HA.out j h3
          · obtain rfl : j = k := by omega
            rw [HX.out]; exact ⟨by omega, by omega⟩
    · obtain rfl : k = n := by omega
      have b1 : ¬ (k : Int) < k := by omega
      go_wp2
      go_ret
      refine ⟨told_t fun x hx => ?_, rfl⟩
      obtain ⟨i, hi, rfl⟩ := memi_getD hx
      exact HA.out i (by rw [← HR.out.len]; exact hi)

def FitAt (w : World) (n : Nat) (N : Int) (l : List Tr) (i : Value) (wr : World) : Prop := Below w.heap.size w wr ∧ ∃ k : Nat, k ≤ n ∧ i = .int .i64 (k : Int) ∧ ∀ j, j < k → okTri N (l.getD j z3)
def FitTold (w : World) (N : Int) (l : List Tr) (e : Ending) (w' : World) : Prop := e = .returned (.bool (decide (Fit N l))) ∧ Below w.heap.size w w'

theorem reads_three {w : World} {q : Nat} {a b c : Int} {t : TypeId} (h : w.heap[q]? = some (.cells #[.int .i64 a, .int .i64 b, .int .i64 c] t (0, 0))) : Reads w (some ⟨q, 0, none⟩) 3 (ints [a, b, c]) := Reads.of_block (xs := ints [a, b, c]) h

set_option maxHeartbeats 4000000 in
set_option maxRecDepth 100000 in
theorem sfits_any (w : World) (N : Int) (A : Option Addr) (n c : Nat) (l : List Tr) (h : T3 w A n l) (hn : n ≤ 140737488351232) :
    Calls Try.prog 46 #[.agg #[.int .i64 N, .slice A n c]] w (FitTold w N l) := by
  have HR := Lib.hid h
  clear h
  by_cases h1 : N < 0
  · go_enter Try.func46, Try.ntmps46
    go_wp2
    go_ret
    refine ⟨told_f fun hc => by have := hc.1; omega, (Below.refl _ w).alloc (Nat.le_refl _) _⟩
  by_cases h2 : 4096 < N
  · go_enter Try.func46, Try.ntmps46
    go_wp2
    go_ret
    refine ⟨told_f fun hc => by have := hc.2.1; omega, (Below.refl _ w).alloc (Nat.le_refl _) _⟩
  by_cases h3 : (8192 : Int) < n
  · go_enter Try.func46, Try.ntmps46
    go_wp2
    go_ret
    refine ⟨told_f fun hc => by have := hc.2.2.1; rw [HR.out.1] at this; omega, (Below.refl _ w).alloc (Nat.le_refl _) _⟩
  have HB := Lib.hid (And.intro h1 (And.intro h2 h3))
  have K := Lib.hid (fun (w' : World) A (a b c : Int) (h : Reads w' A 3 (ints [a, b, c])) => sallBelow_any w' A 3 3 [a, b, c] N h (by omega))
  go_enter Try.func46, Try.ntmps46
  go_wp2_with fail
  obtain ⟨w1, hw1⟩ : ∃ w1, w.alloc (.cells #[.int .i64 N, .slice A n c] 24) = w1 := ⟨_, rfl⟩
  have bx := Bx.made w N A n c
  have B0 := (Below.refl _ w).alloc (Nat.le_refl _) (.cells #[.int .i64 N, .slice A n c] 24)
  rw [hw1] at bx B0
  simp only [hw1]
  have R1 := Lib.hid (HR.out.below B0)
  have BX := Lib.hid bx
  have B1 := Lib.hid B0
  obtain ⟨g, hg⟩ : ∃ g, w.heap.size = g := ⟨_, rfl⟩
  rw [hg] at BX
  simp only [hg]
  have HG := Lib.hid hg
  have HW := Lib.hid hw1
  clear bx B0 hw1 hg
  go_loopw [22] (FitAt w1 n N l) (fun i _ => n - (intOf i).toNat)
  case atStart => exact ⟨Below.refl _ _, 0, Nat.zero_le _, rfl, fun j hj => absurd hj (by omega)⟩
  case round =>
    obtain ⟨hb, k, hk, rfl, ha⟩ := hrel
    have HA := Lib.hid (And.intro hb ha)
    clear ha hb
    by_cases hlt : k < n
    · have b1 : (k : Int) < n := by omega
      obtain ⟨b, off, rfl, hat⟩ := (R1.out.below HA.out.1).2 (by omega)
      obtain ⟨c0, c1, c2⟩ := hat k hlt
      clear hat
      obtain ⟨x, hx⟩ : ∃ x, l.getD k z3 = x := ⟨_, rfl⟩
      have HX := Lib.hid hx
      rw [hx] at c0 c1 c2
      clear hx
      obtain ⟨x0, x1, x2⟩ := x
      have HO : okTri N (l.getD k z3) ↔ (allIn N [x0, x1, x2] ∧ x0 ≠ x1 ∧ x1 ≠ x2 ∧ x2 ≠ x0) := by
        rw [HX.out]
        simp only [okTri, allIn, List.mem_cons, List.not_mem_nil, or_false, forall_eq_or_imp, forall_eq]
        constructor
        · rintro ⟨a1, a2, a3, a4, a5, a6⟩; exact ⟨⟨a1, a2, a3⟩, a4, a5, fun e => a6 e.symm⟩
        · rintro ⟨⟨a1, a2, a3⟩, a4, a5, a6⟩; exact ⟨a1, a2, a3, a4, a5, fun e => a6 e.symm⟩
      have HOO := Lib.hid HO
      clear HO
      go_wp2_with fail
      have q0 : (wr.alloc (.cells #[.int .i64 x0, .int .i64 x1, .int .i64 x2] 56)).heap[wr.heap.size]? = some (.cells #[.int .i64 x0, .int .i64 x1, .int .i64 x2] 56 (0, 0)) := heap_alloc_new wr _
      have bq := (Below.refl _ wr).alloc (Nat.le_refl _) (.cells #[.int .i64 x0, .int .i64 x1, .int .i64 x2] 56)
      obtain ⟨q, hq⟩ : ∃ q, wr.heap.size = q := ⟨_, rfl⟩
      obtain ⟨w2, hw2⟩ : ∃ w2, wr.alloc (.cells #[.int .i64 x0, .int .i64 x1, .int .i64 x2] 56) = w2 := ⟨_, rfl⟩
      have B2 := Lib.hid (HA.out.1.trans (bq.mono HA.out.1.size))
      rw [hw2] at q0 B2
      simp only [hw2, hq]
      rw [hq] at q0
      have B3 := Lib.hid (B1.out.trans (B2.out.mono B1.out.size))
      have d0 := cell_in q0 0
      have d1 := cell_in q0 1
      have d2 := cell_in q0 2
      simp only [List.getElem?_toArray, List.getElem?_cons_zero, List.getElem?_cons_succ] at d0 d1 d2
      have e0 := (BX.out.below B2.out).c0
      have RQ := Lib.hid (fun m => (reads_three q0).read (w' := w2.drewN m) ⟨m, rfl⟩)
      have bad : okTri N (l.getD k z3) ↔ okTri N (l.getD k z3) := Iff.rfl
      have MM := Lib.hid (fun hc : Fit N l => HOO.out.1 (hc.2.2.2 _ (getD3_mem (show k < l.length by rw [HR.out.1]; exact hlt))))
      clear q0 bq hw2 hq bad c0 c1 c2
      by_cases hal : allIn N [x0, x1, x2]
      · have KB := Lib.hid (fun m => K.out (w2.drewN m) _ x0 x1 x2 (RQ.out m))
        rw [decide_eq_true hal] at KB
        have HL := Lib.hid hal
        clear hal
        by_cases h01 : x0 = x1
        · have f1 : (x0 == x1) = true := by simpa using h01
          have H1 := Lib.hid h01
          clear h01
          go_quiet ((go_at_call 47; exact Calls.quiet_of_same (KB.out _)))
          go_wp2_with fail
          go_ret
          exact ⟨told_f fun hc => (MM.out hc).2.1 H1.out, B3.out.trans (Reading.below ⟨_, rfl⟩)⟩
        have f1 : (x0 == x1) = false := by simpa using h01
        have H1 := Lib.hid h01
        clear h01
        by_cases h12 : x1 = x2
        · have f2 : (x1 == x2) = true := by simpa using h12
          have H2 := Lib.hid h12
          clear h12
          go_quiet ((go_at_call 47; exact Calls.quiet_of_same (KB.out _)))
          go_wp2_with fail
          go_ret
          exact ⟨told_f fun hc => (MM.out hc).2.2.1 H2.out, B3.out.trans (Reading.below ⟨_, rfl⟩)⟩
        have f2 : (x1 == x2) = false := by simpa using h12
        have H2 := Lib.hid h12
        clear h12
        by_cases h20 : x2 = x0
        · have f3 : (x2 == x0) = true := by simpa using h20
          have H3 := Lib.hid h20
          clear h20
          go_quiet ((go_at_call 47; exact Calls.quiet_of_same (KB.out _)))
          go_wp2_with fail
          go_ret
          exact ⟨told_f fun hc => (MM.out hc).2.2.2 H3.out, B3.out.trans (Reading.below ⟨_, rfl⟩)⟩
        have f3 : (x2 == x0) = false := by simpa using h20
        have H3 := Lib.hid h20
        clear h20
        go_quiet ((go_at_call 47; exact Calls.quiet_of_same (KB.out _)))
        go_wp2_with fail
        refine ⟨⟨B2.out.trans (Reading.below ⟨_, rfl⟩), k + 1, by omega, by go_num, fun j hj => ?_⟩, by simp [intOf]; omega⟩
        rcases Nat.lt_or_ge j k with h3 | h3
        · exact HA.out.2 j h3
        · obtain rfl : j = k := by omega
          exact HOO.out.2 ⟨HL.out, H1.out, H2.out, H3.out⟩
      · have KB := Lib.hid (fun m => K.out (w2.drewN m) _ x0 x1 x2 (RQ.out m))
        rw [decide_eq_false hal] at KB
        have HL := Lib.hid hal
        clear hal
        go_quiet ((go_at_call 47; exact Calls.quiet_of_same (KB.out _)))
        go_wp2_with fail
        go_ret
        exact ⟨told_f fun hc => HL.out (MM.out hc).1, B3.out.trans (Reading.below ⟨_, rfl⟩)⟩
    · obtain rfl : k = n := by omega
      have b1 : ¬ (k : Int) < k := by omega
      go_wp2
      go_ret
      exact ⟨told_t ⟨HB.out.1, HB.out.2.1, by have := HR.out.1; have := HB.out.2.2; omega, fun x hx => by
        obtain ⟨i, hi, rfl⟩ := mem3_getD hx
        exact HA.out.2 i (by rw [← HR.out.1]; exact hi)⟩, B1.out.trans (HA.out.1.mono B1.out.size)⟩
end Go.Proofs.Ytkcmieblnajmpaa

/- Layer 8: marks on numbers; whether a list repeats one. -/
namespace Go.Proofs.Ytkcmieblnajmpaa
open Go.RowKit

def RowB (w : World) (q : Nat) (bs : List Bool) : Prop := w.heap[q]? = some (.cells (bls bs).toArray 4 (0, 0))
theorem RowB.below {w w' : World} {q : Nat} {bs : List Bool} (h : RowB w q bs) (hb : Below w.heap.size w w') : RowB w' q bs := (hb.block q (heap_lt h)).trans h
theorem RowB.cell {w : World} {q : Nat} {bs : List Bool} (h : RowB w q bs) (k : Nat) (hk : k < bs.length) : w.cell? ⟨q, k, none⟩ = some (.bool (bs.getD k false)) := by
  rw [cell_in h]
  simp [bls, List.getElem?_eq_getElem hk]
theorem RowB.frozen {w : World} {q : Nat} {bs : List Bool} (h : RowB w q bs) (k : Nat) : w.frozen? ⟨q, k, none⟩ = false := frozen_in h k
theorem RowB.set {w : World} {q : Nat} {bs : List Bool} (h : RowB w q bs) (k : Nat) (b : Bool) : RowB (w.setCell ⟨q, k, none⟩ (.bool b)) q (bs.set k b) := by
  unfold RowB
  rw [heap_set h]
  simp [bls, List.map_set]
/-- Which of the numbers below N are on the list. -/
def marks (N : Nat) (S : List Int) : List Bool := (List.range N).map fun (i : Nat) => S.contains (i : Int)
theorem marks_len (N : Nat) (S : List Int) : (marks N S).length = N := by simp [marks]
theorem marks_at (N : Nat) (S : List Int) (k : Nat) (hk : k < N) : (marks N S).getD k false = S.contains (k : Int) := by simp [marks, hk]
theorem marks_nil (N : Nat) : marks N [] = List.replicate N false := by
  unfold marks
  apply List.ext_getElem?; intro i; by_cases h : i < N <;> simp [h]
theorem marks_set (N : Nat) (S : List Int) (x : Nat) : (marks N S).set x true = marks N (S ++ [(x : Int)]) := by
  unfold marks
  apply List.ext_getElem?
  intro i
  by_cases h : i < N
  · by_cases e : x = i
    · subst e; simp [h]
    · have : ¬ ((i : Int) = (x : Int)) := by omega
      simp [e, h, this]
  · simp [h]
def zerB (n : Nat) : Obj := .cells (madeCells #[.bool false] n) 4
theorem makeB (n : Nat) (hn : n ≤ 1000000) (W : World) : (Instr.makeSlice 53 (.int .i64 (n : Int)) (.int .i64 (n : Int))).run Try.prog W = .ok (.slice (some ⟨W.heap.size, 0, none⟩) n n) (W.alloc (zerB n)) :=
  run_make_row' (P := Try.prog) 53 4 (.bool false) 1 Try.underlying53 Try.infoBool rfl .i64 .i64 n (by omega) (by omega) W
theorem RowB.made (w : World) (n : Nat) : RowB (w.alloc (zerB n)) w.heap.size (marks n []) := by
  unfold RowB zerB
  rw [heap_alloc_new, marks_nil]
  have : madeCells #[.bool false] n = (bls (List.replicate n false)).toArray := by
    apply Array.toList_inj.1
    rw [toList_madeCells_one]; simp [bls]
  rw [this]

def RepTold (w : World) (l : List Int) (e : Ending) (w' : World) : Prop := e = .returned (.bool (decide (¬ l.Nodup))) ∧ Below w.heap.size w w'
def RepAt (w : World) (q n N : Nat) (l : List Int) (i : Value) (wr : World) : Prop := Below w.heap.size w wr ∧ ∃ k : Nat, k ≤ n ∧ i = .int .i64 (k : Int) ∧ RowB wr q (marks N (l.take k)) ∧ (l.take k).Nodup
theorem take_succ_getD (l : List Int) (k : Nat) (h : k < l.length) : l.take (k + 1) = l.take k ++ [l.getD k 0] := by
  rw [List.take_add_one, List.getD_eq_getElem?_getD, List.getElem?_eq_getElem h]; rfl
theorem nodup_snoc {l : List Int} {x : Int} (h : l.Nodup) (hx : ¬ x ∈ l) : (l ++ [x]).Nodup := by
  rw [List.nodup_append]
  exact ⟨h, by simp, fun a ha b hb => by simp at hb; subst hb; exact fun e => hx (e ▸ ha)⟩

set_option maxHeartbeats 4000000 in
set_option maxRecDepth 100000 in
theorem srepeats_any (w : World) (A : Option Addr) (n c N : Nat) (l : List Int) (h : Reads w A n (ints l)) (hl : allIn N l) (hn : n ≤ 140737488351232) (hN : N ≤ 1000000) :
    Calls Try.prog 48 #[.slice A n c, .int .i64 (N : Int)] w (RepTold w l) := by
  have HL := Lib.hid h
  have HI := Lib.hid hl
  clear h hl
  have hmk := fun W => makeB N hN W
  go_enter Try.func48, Try.ntmps48
  go_wp2_with fail
  have S0 := Lib.hid (RowB.made w N)
  have B0 := Lib.hid ((Below.refl _ w).alloc (Nat.le_refl _) (zerB N))
  obtain ⟨w1, hw1⟩ : ∃ w1, w.alloc (zerB N) = w1 := ⟨_, rfl⟩
  obtain ⟨q, hq⟩ : ∃ q, w.heap.size = q := ⟨_, rfl⟩
  have HQ := Lib.hid hq
  rw [hw1] at S0 B0
  rw [hq] at S0
  simp only [hw1, hq]
  clear hw1 hq
  go_loopw [12] (RepAt w q n N l) (fun i _ => n - (intOf i).toNat)
  case atStart => exact ⟨B0.out, 0, Nat.zero_le _, rfl, by simpa using S0.out, by simp⟩
  case round =>
    obtain ⟨hb, k, hk, rfl, hrow, hnd⟩ := hrel
    have HR := Lib.hid (And.intro hb (And.intro hrow hnd))
    clear hb hrow hnd
    by_cases hlt : k < n
    · have b1 : (k : Int) < n := by omega
      have hkl : k < l.length := by rw [HL.out.len]; exact hlt
      obtain ⟨ad, rfl, c0⟩ := (HL.out.below HR.out.1).int k hlt
      have hx := HI.out _ (getDi_mem hkl)
      obtain ⟨x, hxx⟩ : ∃ x : Nat, l.getD k 0 = (x : Int) := ⟨(l.getD k 0).toNat, by have := hx.1; omega⟩
      have HX := Lib.hid hxx
      rw [hxx] at c0 hx
      have b2 : (x : Int) < N := hx.2
      have r0 := HR.out.2.1.cell x (by rw [marks_len]; omega)
      rw [marks_at N _ x (by omega)] at r0
      have z0 := HR.out.2.1.frozen x
      have E := take_succ_getD l k hkl
      rw [hxx] at E
      have HE := Lib.hid E
      clear hx hxx E hkl
      by_cases hm : (x : Int) ∈ l.take k
      · have e1 : (l.take k).contains (x : Int) = true := by simpa using hm
        rw [e1] at r0
        have HM := Lib.hid hm
        clear hm e1
        go_wp2
        go_ret
        refine ⟨told_t fun hc => ?_, HR.out.1⟩
        have h2 : (l.take (k + 1)).Nodup := (List.take_sublist _ _).nodup hc
        rw [HE.out, List.nodup_append] at h2
        exact h2.2.2 _ HM.out _ (by simp) rfl
      · have e1 : (l.take k).contains (x : Int) = false := by simpa using hm
        rw [e1] at r0
        have HM := Lib.hid hm
        have F3 := HR.out.2.1.set x true
        rw [marks_set, ← HE.out] at F3
        have HF := Lib.hid F3
        clear hm e1 F3
        go_wp2_with fail
        exact ⟨⟨HR.out.1.setCell (p := ⟨q, x, none⟩) (by rw [HQ.out]; exact Nat.le_refl _) _, k + 1, by omega, by go_num, HF.out, by rw [HE.out]; exact nodup_snoc HR.out.2.2 HM.out⟩, by simp [intOf]; omega⟩
    · obtain rfl : k = n := by omega
      have b1 : ¬ (k : Int) < k := by omega
      go_wp2
      go_ret
      refine ⟨told_f fun hc => hc ?_, HR.out.1⟩
      have := HR.out.2.2
      rwa [List.take_of_length_le (by rw [HL.out.len]; exact Nat.le_refl _)] at this
end Go.Proofs.Ytkcmieblnajmpaa

/- Rows of their own, whatever the size of an element. -/
namespace Go.Proofs.Ytkcmieblnajmpaa
open Go.RowKit

theorem ownK_up {W W' : World} {B n s : Nat} {t : TypeId} {v : Value} {xs : List Value} (h : W.ownsRow B t s v n xs) (b : Below W.heap.size W W') : W'.ownsRow B t s v n xs := by
  refine ⟨h.1, ?_⟩
  rcases h.2 with h2 | ⟨q, cap, cur, h1, hq, hh, hr⟩
  · exact .inl h2
  · exact .inr ⟨q, cap, cur, h1, hq, (b.block q (heap_lt hh)).trans hh, hr⟩
theorem ownK_form {W : World} {B n s : Nat} {t : TypeId} {v : Value} {xs : List Value} (h : W.ownsRow B t s v n xs) : ∃ A c, v = .slice A n c := by
  rcases h.2 with ⟨h1, h2⟩ | ⟨q, cap, cur, h1, _⟩
  · exact ⟨none, 0, by rw [h1, h2]⟩
  · exact ⟨_, _, h1⟩
theorem ownK_lt {W : World} {B n s : Nat} {t : TypeId} {v : Value} {xs : List Value} (h : W.ownsRow B t s v n xs) (q : Nat) (hq : v.ownBlock = some q) : B ≤ q := (h.lt q hq).1
theorem ownK_up' {W W' : World} {B C n s : Nat} {t : TypeId} {v : Value} {xs : List Value} (h : W.ownsRow B t s v n xs) (b : Below C W W') (hC : W.heap.size ≤ C) : W'.ownsRow B t s v n xs := ownK_up h (b.mono hC)
theorem ownK_base {W : World} {B B' n s : Nat} {t : TypeId} {v : Value} {xs : List Value} (h : W.ownsRow B t s v n xs) (hb : B' ≤ B) : W.ownsRow B' t s v n xs := by
  refine ⟨h.1, ?_⟩
  rcases h.2 with h2 | ⟨q, cap, cur, h1, hq, hr⟩
  · exact .inl h2
  · exact .inr ⟨q, cap, cur, h1, Nat.le_trans hb hq, hr⟩
theorem cells_of8 {w : World} {q n : Nat} {xs : List Value} (h : Reads w (some ⟨q, 0, none⟩) n xs) (hn : 0 < n) : ∀ j u, xs[j]? = some u → w.cell? ((⟨q, 0, none⟩ : Addr).add j) = some u := by
  obtain ⟨ad, he, hc⟩ := h.2 hn
  injection he with he
  subst he
  exact hc
end Go.Proofs.Ytkcmieblnajmpaa

/- Layer 8: Mirror. -/
namespace Go.Proofs.Ytkcmieblnajmpaa
open Go.RowKit

def NewTold (w : World) (N : Int) (l : List Tr) (e : Ending) (w' : World) : Prop := ∃ v, e = .returned v ∧ NewS w w' N l v

theorem range_map (l : List Tr) (f : Tr → Tr) {n : Nat} (hn : l.length = n) : (List.range n).map (fun i => f (l.getD i z3)) = l.map f := by
  subst hn
  apply List.ext_getElem?
  intro i
  by_cases h : i < l.length <;> simp [h]

set_option maxHeartbeats 4000000 in
set_option maxRecDepth 100000 in
theorem smirror_any (w : World) (N : Int) (A : Option Addr) (n c : Nat) (l : List Tr) (h : T3 w A n l) (hn : n ≤ 1000000) :
    Calls Try.prog 37 #[.agg #[.int .i64 N, .slice A n c]] w (NewTold w N (l.map mirT)) := by
  have HL := Lib.hid h
  clear h
  have hmk := fun W => make3 n n (Nat.le_refl _) hn W
  go_enter Try.func37, Try.ntmps37
  go_wp2_with fail
  have S0 := Lib.hid (Fil.start w N A n c n)
  obtain ⟨w3, hw3⟩ : ∃ w3, (((w.alloc (.cells #[.int .i64 N, .slice A n c] 24)).alloc (.cells #[.int .i64 0, .slice none 0 0] 24)).alloc (zer3 n)) = w3 := ⟨_, rfl⟩
  obtain ⟨g, hg⟩ : ∃ g, w.heap.size = g := ⟨_, rfl⟩
  obtain ⟨q, hq⟩ : ∃ q, g + 1 + 1 = q := ⟨_, rfl⟩
  rw [hw3, hg, hq] at S0
  simp only [hw3, hg, hq]
  have HG := Lib.hid (And.intro hg hq)
  clear hw3 hg hq
  go_loopw [13] (FilAt w g (g + 1) q N A n c (fun i => mirT (l.getD i z3)) n) (fun i _ => n - (intOf i).toNat)
  case atStart => exact ⟨0, Nat.zero_le _, rfl, by rw [half3_zero]; exact S0.out⟩
  case round =>
    obtain ⟨k, hk, rfl, hf⟩ := hrel
    have HF := Lib.hid hf
    clear hf
    by_cases hlt : k < n
    · have b1 : (k : Int) < n := by omega
      obtain ⟨b, off, rfl, hat⟩ := (HL.out.below HF.out.below).2 (by omega)
      obtain ⟨c0, c1, c2⟩ := hat k hlt
      clear hat
      obtain ⟨x, hx⟩ : ∃ x, l.getD k z3 = x := ⟨_, rfl⟩
      have HX := Lib.hid hx
      rw [hx] at c0 c1 c2
      clear hx
      obtain ⟨x0, x1, x2⟩ := x
      have F2 := HF.out.up ((Below.refl _ wr).alloc (Nat.le_refl _) (.cells #[.int .i64 x0, .int .i64 x1, .int .i64 x2] 56))
      obtain ⟨v0, v1, v2, ⟨r0, f0⟩, ⟨r1, f1⟩, r2, f2⟩ := F2.row.cells (k := k) (by rw [half3_len]; exact hlt)
      have F3 := Lib.hid (F2.set (k := k) (by rw [half3_len]; exact hlt) x0 x2 x1)
      clear F2
      go_wp2_with fail
      refine ⟨⟨k + 1, by omega, by go_num, ?_⟩, by simp [intOf]; omega⟩
      rw [← half3_set _ n k hlt, HX.out]
      exact F3.out
    · obtain rfl : k = n := by omega
      have b1 : ¬ (k : Int) < k := by omega
      have e0 := HF.out.bx.c0
      have e1 := HF.out.res.c0
      have e2 := HF.out.res.c1
      have z0 := frozen_in HF.out.res 0
      have z1 := frozen_in HF.out.res 1
      go_wp2_with fail
      obtain ⟨hrow, hnew⟩ := newS_ret (N := N) (m := k) HF.out.below HF.out.res HF.out.row HF.out.wq HF.out.rq (by rw [HG.out.1]; omega) (half3_len _ _ _) hn
      refine bodyPost_ret (results_cell_row rfl _ _ (g + 1) 24 _ (0, 0) _ rfl hrow Try.underlying24 rfl (by kernel_rfl)) rfl ⟨_, rfl, ?_⟩
      rw [half3_full] at hnew
      have : (List.range k).map (fun i => mirT (l.getD i z3)) = l.map mirT := range_map l mirT HL.out.1
      rw [this] at hnew
      exact hnew
end Go.Proofs.Ytkcmieblnajmpaa

/- Layer 8: a triangle by other numbers, or turned. -/
namespace Go.Proofs.Ytkcmieblnajmpaa
open Go.RowKit

def aggT (t : Tr) : Value := .agg #[.int .i64 t.1, .int .i64 t.2.1, .int .i64 t.2.2]
def TriTold (w : World) (t : Tr) (e : Ending) (w' : World) : Prop := e = .returned (.agg #[.int .i64 t.1, .int .i64 t.2.1, .int .i64 t.2.2]) ∧ Below w.heap.size w w'

set_option maxHeartbeats 1600000 in
set_option maxRecDepth 100000 in
theorem srenamed_any (w : World) (A : Option Addr) (m c : Nat) (to : List Int) (t : Tr) (h : Reads w A m (ints to)) (h0 : inN m t.1) (h1 : inN m t.2.1) (h2 : inN m t.2.2) :
    Calls Try.prog 49 #[.agg #[.int .i64 t.1, .int .i64 t.2.1, .int .i64 t.2.2], .slice A m c] w (TriTold w (renT to t)) := by
  obtain ⟨x0, x1, x2⟩ := t
  obtain ⟨k0, rfl⟩ : ∃ k : Nat, x0 = k := ⟨x0.toNat, by have := h0.1; simp only at this; omega⟩
  obtain ⟨k1, rfl⟩ : ∃ k : Nat, x1 = k := ⟨x1.toNat, by have := h1.1; simp only at this; omega⟩
  obtain ⟨k2, rfl⟩ : ∃ k : Nat, x2 = k := ⟨x2.toNat, by have := h2.1; simp only at this; omega⟩
  have b0 : (k0 : Int) < m := h0.2
  have b1 : (k1 : Int) < m := h1.2
  have b2 : (k2 : Int) < m := h2.2
  obtain ⟨ad, rfl, c0⟩ := h.int k0 (by omega)
  have W2 : Below w.heap.size w ((w.alloc (.cells #[.int .i64 (k0 : Int), .int .i64 (k1 : Int), .int .i64 (k2 : Int)] 56)).alloc (.cells #[.int .i64 0, .int .i64 0, .int .i64 0] 56)) := up1 (up1 (Below.refl _ w) _) _
  have R2 := h.below W2
  obtain ⟨ad0, ea0, c0⟩ := R2.int k0 (by omega)
  obtain ⟨ad1, ea1, c1⟩ := R2.int k1 (by omega)
  obtain ⟨ad2, ea2, c2⟩ := R2.int k2 (by omega)
  injection ea0 with ea0
  injection ea1 with ea1
  injection ea2 with ea2
  subst ea0 ea1 ea2
  show Calls _ _ _ _ (TriTold w (to.getD k0 0, to.getD k1 0, to.getD k2 0))
  generalize to.getD k0 0 = y0 at *
  generalize to.getD k1 0 = y1 at *
  generalize to.getD k2 0 = y2 at *
  clear h h0 h1 h2 R2
  go_enter Try.func49, Try.ntmps49
  go_wp2_with fail
  obtain ⟨w1, hw1⟩ : ∃ w1, w.alloc (.cells #[.int .i64 (k0 : Int), .int .i64 (k1 : Int), .int .i64 (k2 : Int)] 56) = w1 := ⟨_, rfl⟩
  have q0 : w1.heap[w.heap.size]? = some (.cells #[.int .i64 (k0 : Int), .int .i64 (k1 : Int), .int .i64 (k2 : Int)] 56 (0, 0)) := by rw [← hw1]; exact heap_alloc_new w _
  have s1 : w1.heap.size = w.heap.size + 1 := by rw [← hw1]; simp
  obtain ⟨w2, hw2⟩ : ∃ w2, w1.alloc (.cells #[.int .i64 0, .int .i64 0, .int .i64 0] 56) = w2 := ⟨_, rfl⟩
  have q1 : w2.heap[w.heap.size + 1]? = some (.cells #[.int .i64 0, .int .i64 0, .int .i64 0] 56 (0, 0)) := by rw [← hw2, ← s1]; exact heap_alloc_new w1 _
  have q0 : w2.heap[w.heap.size]? = some (.cells #[.int .i64 (k0 : Int), .int .i64 (k1 : Int), .int .i64 (k2 : Int)] 56 (0, 0)) := by rw [← hw2]; exact (((Below.refl _ w1).alloc (Nat.le_refl _) _).block _ (by omega)).trans q0
  rw [hw1, hw2] at c0 c1 c2 W2
  simp only [hw1, hw2]
  obtain ⟨g, hg⟩ : ∃ g, w.heap.size = g := ⟨_, rfl⟩
  have HW := Lib.hid W2
  simp only [hg]
  rw [hg] at q0 q1 HW
  have d0 := cell_in q0 0
  have d1 := cell_in q0 1
  have d2 := cell_in q0 2
  have z0 := cell_in q1 0
  have z1 := cell_in q1 1
  have z2 := cell_in q1 2
  have f0 := frozen_in q1 0
  have f1 := frozen_in q1 1
  have f2 := frozen_in q1 2
  simp only [List.getElem?_toArray, List.getElem?_cons_zero, List.getElem?_cons_succ] at d0 d1 d2 z0 z1 z2
  have HG := Lib.hid hg
  have Q1 := Lib.hid q1
  clear q0 q1 hw1 hw2 s1 W2 hg
  go_still_tail 16, (by kernel_rfl)
  change wpList _ _ _ _ _ w2.drew
  go_wp2
  refine bodyPost_ret (results_cell_row rfl _ _ (g + 1) 56 #[.int .i64 y0, .int .i64 y1, .int .i64 y2] (0, 0) _ rfl (set3 (w := w2) Q1.out) Try.underlying56 rfl (by kernel_rfl)) rfl ?_
  exact ⟨rfl, by rw [HG.out]; exact (below_set3 HW.out (by omega) _ _ _).trans (Reading.below ⟨1, rfl⟩)⟩

set_option maxHeartbeats 1600000 in
set_option maxRecDepth 100000 in
theorem srotated_0 (w : World) (x0 x1 x2 : Int) :
    Calls Try.prog 50 #[.agg #[.int .i64 x0, .int .i64 x1, .int .i64 x2], .int .i64 0] w (TriTold w (x0, x1, x2)) := by
  have W2 : Below w.heap.size w ((w.alloc (.cells #[.int .i64 x0, .int .i64 x1, .int .i64 x2] 56)).alloc (.cells #[.int .i64 0, .int .i64 0, .int .i64 0] 56)) := up1 (up1 (Below.refl _ w) _) _
  go_enter Try.func50, Try.ntmps50
  go_wp2_with fail
  obtain ⟨w1, hw1⟩ : ∃ w1, w.alloc (.cells #[.int .i64 x0, .int .i64 x1, .int .i64 x2] 56) = w1 := ⟨_, rfl⟩
  have q0 : w1.heap[w.heap.size]? = some (.cells #[.int .i64 x0, .int .i64 x1, .int .i64 x2] 56 (0, 0)) := by rw [← hw1]; exact heap_alloc_new w _
  have s1 : w1.heap.size = w.heap.size + 1 := by rw [← hw1]; simp
  obtain ⟨w2, hw2⟩ : ∃ w2, w1.alloc (.cells #[.int .i64 0, .int .i64 0, .int .i64 0] 56) = w2 := ⟨_, rfl⟩
  have q1 : w2.heap[w.heap.size + 1]? = some (.cells #[.int .i64 0, .int .i64 0, .int .i64 0] 56 (0, 0)) := by rw [← hw2, ← s1]; exact heap_alloc_new w1 _
  have q0 : w2.heap[w.heap.size]? = some (.cells #[.int .i64 x0, .int .i64 x1, .int .i64 x2] 56 (0, 0)) := by rw [← hw2]; exact (((Below.refl _ w1).alloc (Nat.le_refl _) _).block _ (by omega)).trans q0
  rw [hw1, hw2] at W2
  simp only [hw1, hw2]
  obtain ⟨g, hg⟩ : ∃ g, w.heap.size = g := ⟨_, rfl⟩
  have HW := Lib.hid W2
  simp only [hg]
  rw [hg] at q0 q1 HW
  have d0 := cell_in q0 0
  have d1 := cell_in q0 1
  have d2 := cell_in q0 2
  have z0 := cell_in q1 0
  have z1 := cell_in q1 1
  have z2 := cell_in q1 2
  have f0 := frozen_in q1 0
  have f1 := frozen_in q1 1
  have f2 := frozen_in q1 2
  simp only [List.getElem?_toArray, List.getElem?_cons_zero, List.getElem?_cons_succ] at d0 d1 d2 z0 z1 z2
  have HG := Lib.hid hg
  have Q1 := Lib.hid q1
  clear q0 q1 hw1 hw2 s1 W2 hg
  have e1 : IntKind.i64.wrap 1 = 1 := by decide
  have e2 : IntKind.i64.wrap 2 = 2 := by decide
  have e3 : IntKind.i64.wrap 3 = 3 := by decide
  have e4 : IntKind.i64.wrap 4 = 4 := by decide
  have m0 : (0 : Int).tmod 3 = 0 := by decide
  have m1 : (1 : Int).tmod 3 = 1 := by decide
  have m2 : (2 : Int).tmod 3 = 2 := by decide
  have m3 : (3 : Int).tmod 3 = 0 := by decide
  have m4 : (4 : Int).tmod 3 = 1 := by decide
  go_still_tail 14, (by kernel_rfl)
  change wpList _ _ _ _ _ w2.drew
  go_wp2
  refine bodyPost_ret (results_cell_row rfl _ _ (g + 1) 56 #[.int .i64 x0, .int .i64 x1, .int .i64 x2] (0, 0) _ rfl (set3 (w := w2) Q1.out) Try.underlying56 rfl (by kernel_rfl)) rfl ?_
  exact ⟨rfl, by rw [HG.out]; exact (below_set3 HW.out (by omega) _ _ _).trans (Reading.below ⟨1, rfl⟩)⟩

set_option maxHeartbeats 1600000 in
set_option maxRecDepth 100000 in
theorem srotated_1 (w : World) (x0 x1 x2 : Int) :
    Calls Try.prog 50 #[.agg #[.int .i64 x0, .int .i64 x1, .int .i64 x2], .int .i64 1] w (TriTold w (x1, x2, x0)) := by
  have W2 : Below w.heap.size w ((w.alloc (.cells #[.int .i64 x0, .int .i64 x1, .int .i64 x2] 56)).alloc (.cells #[.int .i64 0, .int .i64 0, .int .i64 0] 56)) := up1 (up1 (Below.refl _ w) _) _
  go_enter Try.func50, Try.ntmps50
  go_wp2_with fail
  obtain ⟨w1, hw1⟩ : ∃ w1, w.alloc (.cells #[.int .i64 x0, .int .i64 x1, .int .i64 x2] 56) = w1 := ⟨_, rfl⟩
  have q0 : w1.heap[w.heap.size]? = some (.cells #[.int .i64 x0, .int .i64 x1, .int .i64 x2] 56 (0, 0)) := by rw [← hw1]; exact heap_alloc_new w _
  have s1 : w1.heap.size = w.heap.size + 1 := by rw [← hw1]; simp
  obtain ⟨w2, hw2⟩ : ∃ w2, w1.alloc (.cells #[.int .i64 0, .int .i64 0, .int .i64 0] 56) = w2 := ⟨_, rfl⟩
  have q1 : w2.heap[w.heap.size + 1]? = some (.cells #[.int .i64 0, .int .i64 0, .int .i64 0] 56 (0, 0)) := by rw [← hw2, ← s1]; exact heap_alloc_new w1 _
  have q0 : w2.heap[w.heap.size]? = some (.cells #[.int .i64 x0, .int .i64 x1, .int .i64 x2] 56 (0, 0)) := by rw [← hw2]; exact (((Below.refl _ w1).alloc (Nat.le_refl _) _).block _ (by omega)).trans q0
  rw [hw1, hw2] at W2
  simp only [hw1, hw2]
  obtain ⟨g, hg⟩ : ∃ g, w.heap.size = g := ⟨_, rfl⟩
  have HW := Lib.hid W2
  simp only [hg]
  rw [hg] at q0 q1 HW
  have d0 := cell_in q0 0
  have d1 := cell_in q0 1
  have d2 := cell_in q0 2
  have z0 := cell_in q1 0
  have z1 := cell_in q1 1
  have z2 := cell_in q1 2
  have f0 := frozen_in q1 0
  have f1 := frozen_in q1 1
  have f2 := frozen_in q1 2
  simp only [List.getElem?_toArray, List.getElem?_cons_zero, List.getElem?_cons_succ] at d0 d1 d2 z0 z1 z2
  have HG := Lib.hid hg
  have Q1 := Lib.hid q1
  clear q0 q1 hw1 hw2 s1 W2 hg
  have e1 : IntKind.i64.wrap 1 = 1 := by decide
  have e2 : IntKind.i64.wrap 2 = 2 := by decide
  have e3 : IntKind.i64.wrap 3 = 3 := by decide
  have e4 : IntKind.i64.wrap 4 = 4 := by decide
  have m0 : (0 : Int).tmod 3 = 0 := by decide
  have m1 : (1 : Int).tmod 3 = 1 := by decide
  have m2 : (2 : Int).tmod 3 = 2 := by decide
  have m3 : (3 : Int).tmod 3 = 0 := by decide
  have m4 : (4 : Int).tmod 3 = 1 := by decide
  go_still_tail 14, (by kernel_rfl)
  change wpList _ _ _ _ _ w2.drew
  go_wp2
  refine bodyPost_ret (results_cell_row rfl _ _ (g + 1) 56 #[.int .i64 x1, .int .i64 x2, .int .i64 x0] (0, 0) _ rfl (set3 (w := w2) Q1.out) Try.underlying56 rfl (by kernel_rfl)) rfl ?_
  exact ⟨rfl, by rw [HG.out]; exact (below_set3 HW.out (by omega) _ _ _).trans (Reading.below ⟨1, rfl⟩)⟩

set_option maxHeartbeats 1600000 in
set_option maxRecDepth 100000 in
theorem srotated_2 (w : World) (x0 x1 x2 : Int) :
    Calls Try.prog 50 #[.agg #[.int .i64 x0, .int .i64 x1, .int .i64 x2], .int .i64 2] w (TriTold w (x2, x0, x1)) := by
  have W2 : Below w.heap.size w ((w.alloc (.cells #[.int .i64 x0, .int .i64 x1, .int .i64 x2] 56)).alloc (.cells #[.int .i64 0, .int .i64 0, .int .i64 0] 56)) := up1 (up1 (Below.refl _ w) _) _
  go_enter Try.func50, Try.ntmps50
  go_wp2_with fail
  obtain ⟨w1, hw1⟩ : ∃ w1, w.alloc (.cells #[.int .i64 x0, .int .i64 x1, .int .i64 x2] 56) = w1 := ⟨_, rfl⟩
  have q0 : w1.heap[w.heap.size]? = some (.cells #[.int .i64 x0, .int .i64 x1, .int .i64 x2] 56 (0, 0)) := by rw [← hw1]; exact heap_alloc_new w _
  have s1 : w1.heap.size = w.heap.size + 1 := by rw [← hw1]; simp
  obtain ⟨w2, hw2⟩ : ∃ w2, w1.alloc (.cells #[.int .i64 0, .int .i64 0, .int .i64 0] 56) = w2 := ⟨_, rfl⟩
  have q1 : w2.heap[w.heap.size + 1]? = some (.cells #[.int .i64 0, .int .i64 0, .int .i64 0] 56 (0, 0)) := by rw [← hw2, ← s1]; exact heap_alloc_new w1 _
  have q0 : w2.heap[w.heap.size]? = some (.cells #[.int .i64 x0, .int .i64 x1, .int .i64 x2] 56 (0, 0)) := by rw [← hw2]; exact (((Below.refl _ w1).alloc (Nat.le_refl _) _).block _ (by omega)).trans q0
  rw [hw1, hw2] at W2
  simp only [hw1, hw2]
  obtain ⟨g, hg⟩ : ∃ g, w.heap.size = g := ⟨_, rfl⟩
  have HW := Lib.hid W2
  simp only [hg]
  rw [hg] at q0 q1 HW
  have d0 := cell_in q0 0
  have d1 := cell_in q0 1
  have d2 := cell_in q0 2
  have z0 := cell_in q1 0
  have z1 := cell_in q1 1
  have z2 := cell_in q1 2
  have f0 := frozen_in q1 0
  have f1 := frozen_in q1 1
  have f2 := frozen_in q1 2
  simp only [List.getElem?_toArray, List.getElem?_cons_zero, List.getElem?_cons_succ] at d0 d1 d2 z0 z1 z2
  have HG := Lib.hid hg
  have Q1 := Lib.hid q1
  clear q0 q1 hw1 hw2 s1 W2 hg
  have e1 : IntKind.i64.wrap 1 = 1 := by decide
  have e2 : IntKind.i64.wrap 2 = 2 := by decide
  have e3 : IntKind.i64.wrap 3 = 3 := by decide
  have e4 : IntKind.i64.wrap 4 = 4 := by decide
  have m0 : (0 : Int).tmod 3 = 0 := by decide
  have m1 : (1 : Int).tmod 3 = 1 := by decide
  have m2 : (2 : Int).tmod 3 = 2 := by decide
  have m3 : (3 : Int).tmod 3 = 0 := by decide
  have m4 : (4 : Int).tmod 3 = 1 := by decide
  go_still_tail 14, (by kernel_rfl)
  change wpList _ _ _ _ _ w2.drew
  go_wp2
  refine bodyPost_ret (results_cell_row rfl _ _ (g + 1) 56 #[.int .i64 x2, .int .i64 x0, .int .i64 x1] (0, 0) _ rfl (set3 (w := w2) Q1.out) Try.underlying56 rfl (by kernel_rfl)) rfl ?_
  exact ⟨rfl, by rw [HG.out]; exact (below_set3 HW.out (by omega) _ _ _).trans (Reading.below ⟨1, rfl⟩)⟩

theorem srotated_any (w : World) (t : Tr) (k : Nat) (hk : k < 3) :
    Calls Try.prog 50 #[.agg #[.int .i64 t.1, .int .i64 t.2.1, .int .i64 t.2.2], .int .i64 (k : Int)] w (TriTold w (rotT t k)) := by
  rcases (show k = 0 ∨ k = 1 ∨ k = 2 by omega) with rfl | rfl | rfl
  · exact srotated_0 w _ _ _
  · exact srotated_1 w _ _ _
  · exact srotated_2 w _ _ _

end Go.Proofs.Ytkcmieblnajmpaa

/- Layer 8: Rename. -/
namespace Go.Proofs.Ytkcmieblnajmpaa
open Go.RowKit

def ErrS (w : World) (k : Int) (e : Ending) (w' : World) : Prop := e = .returned (.tuple #[.agg #[.int .i64 0, .slice none 0 0], .int .i64 k]) ∧ Below w.heap.size w w'
def OkS (w : World) (N : Int) (l : List Tr) (e : Ending) (w' : World) : Prop := ∃ v, e = .returned (.tuple #[v, .int .i64 0]) ∧ NewS w w' N l v

/-- A zero soup is stored into the result's cells. -/
theorem errS_row {w1 : World} {r : Nat} (h : Bx w1 r 0 none 0 0) : ((w1.setCell ⟨r, 0, none⟩ (.int .i64 0)).setCell ⟨r, 1, none⟩ (.slice none 0 0)).heap[r]? = some (.cells #[.int .i64 0, .slice none 0 0] 24 (0, 0)) := set2 h

set_option maxHeartbeats 4000000 in
set_option maxRecDepth 100000 in
theorem sreytkcmieblnajmpaaarg (w : World) (N : Int) (A B : Option Addr) (n c m d : Nat) (l : List Tr) (h : T3 w A n l) (hn : n ≤ 1000000) (hf : ¬ Fit N l) :
    Calls Try.prog 35 #[.agg #[.int .i64 N, .slice A n c], .slice B m d] w (ErrS w 1) := by
  have HL := Lib.hid h
  have HF := Lib.hid hf
  have K := Lib.hid (fun (w' : World) (h : T3 w' A n l) => sfits_any w' N A n c l h (by omega))
  clear h hf
  go_enter Try.func35, Try.ntmps35
  go_wp2_with fail
  obtain ⟨y, hy⟩ : ∃ y, y = (w.alloc (.cells #[.int .i64 N, .slice A n c] 24)).alloc (.cells #[.int .i64 0, .slice none 0 0] 24) := ⟨_, rfl⟩
  have T := Lib.hid (two_boxes w N A n c y hy)
  simp only [← hy]
  clear hy
  obtain ⟨g, hg⟩ : ∃ g, w.heap.size = g := ⟨_, rfl⟩
  have HG := Lib.hid hg
  simp only [hg]
  rw [hg] at T
  clear hg
  refine (K.out _ (HL.out.below (by rw [HG.out]; exact T.out.1))).mono ?_
  rintro e w1 ⟨rfl, b1⟩
  have hd := decide_eq_false HF.out
  simp only [hd]
  have R := T.out.2.2.below b1
  have z0 := R.c0
  have z1 := R.c1
  have f0 := frozen_in R 0
  have f1 := frozen_in R 1
  have HR := Lib.hid R
  have B1 := Lib.hid (T.out.1.trans (b1.mono (by have := T.out.1.size; have := HG.out; omega)))
  clear b1 R hd
  go_wp2_with fail
  refine bodyPost_ret (results_row2 rfl _ _ (g + 1) 24 _ (0, 0) _ rfl (errS_row HR.out) Try.underlying24 rfl (by kernel_rfl)) rfl ⟨rfl, ?_⟩
  rw [HG.out]
  exact below_set2 B1.out (by omega) _ _

set_option maxHeartbeats 4000000 in
set_option maxRecDepth 100000 in
theorem sreytkcmieblnajmpaaform (w : World) (N : Int) (A B : Option Addr) (n c m d : Nat) (l : List Tr) (to : List Int) (h : T3 w A n l) (ht : Reads w B m (ints to)) (hn : n ≤ 1000000) (hm : m ≤ 1000000) (hf : Fit N l) (hp : ¬ IsPerm N to) :
    Calls Try.prog 35 #[.agg #[.int .i64 N, .slice A n c], .slice B m d] w (ErrS w 3) := by
  have HL := Lib.hid h
  have HT := Lib.hid ht
  have HF := Lib.hid hf
  have hN0 := hf.1
  have hN1 := hf.2.1
  obtain ⟨M, rfl⟩ : ∃ M : Nat, N = (M : Int) := ⟨N.toNat, by omega⟩
  have HP := Lib.hid hp
  have K := Lib.hid (fun (w' : World) (h : T3 w' A n l) => sfits_any w' (M : Int) A n c l h (by omega))
  have KA := Lib.hid (fun (w' : World) (h : Reads w' B m (ints to)) => sallBelow_any w' B m d to (M : Int) h (by omega))
  have KR := Lib.hid (fun (w' : World) (h : Reads w' B m (ints to)) (ha : allIn M to) => srepeats_any w' B m d M to h ha (by omega) (by omega))
  clear h hf ht hp hN0 hN1
  go_enter Try.func35, Try.ntmps35
  go_wp2_with fail
  obtain ⟨y, hy⟩ : ∃ y, y = (w.alloc (.cells #[.int .i64 (M : Int), .slice A n c] 24)).alloc (.cells #[.int .i64 0, .slice none 0 0] 24) := ⟨_, rfl⟩
  have T := Lib.hid (two_boxes w (M : Int) A n c y hy)
  simp only [← hy]
  clear hy
  obtain ⟨g, hg⟩ : ∃ g, w.heap.size = g := ⟨_, rfl⟩
  have HG := Lib.hid hg
  simp only [hg]
  rw [hg] at T
  clear hg
  refine (K.out _ (HL.out.below (by rw [HG.out]; exact T.out.1))).mono ?_
  rintro e w1 ⟨rfl, b1⟩
  have hd := decide_eq_true HF.out
  simp only [hd]
  have B1 := Lib.hid (T.out.1.trans (b1.mono (by have := T.out.1.size; have := HG.out; omega)))
  have e0 := (T.out.2.1.below b1).c0
  have HR := Lib.hid (T.out.2.2.below b1)
  have RT := Lib.hid (HT.out.below (by rw [HG.out]; exact B1.out))
  clear b1 hd
  by_cases hlen : m = M
  case neg =>
    have t1 : ((m : Int) != (M : Int)) = true := by simp; omega
    have z0 := HR.out.c0
    have z1 := HR.out.c1
    have f0 := frozen_in HR.out 0
    have f1 := frozen_in HR.out 1
    go_wp2_with fail
    refine bodyPost_ret (results_row2 rfl _ _ (g + 1) 24 _ (0, 0) _ rfl (errS_row HR.out) Try.underlying24 rfl (by kernel_rfl)) rfl ⟨rfl, ?_⟩
    rw [HG.out]
    exact below_set2 B1.out (by omega) _ _
  have t1 : ((m : Int) != (M : Int)) = false := by simp; omega
  have HM := Lib.hid hlen
  clear hlen
  go_wp2_with fail
  refine (KA.out _ RT.out).mono ?_
  rintro e w2 ⟨rfl, rfl⟩
  by_cases hal : allIn M to
  case neg =>
    have hd := decide_eq_false hal
    simp only [hd]
    have z0 := HR.out.c0
    have z1 := HR.out.c1
    have f0 := frozen_in HR.out 0
    have f1 := frozen_in HR.out 1
    clear hd hal
    go_wp2_with fail
    refine bodyPost_ret (results_row2 rfl _ _ (g + 1) 24 _ (0, 0) _ rfl (errS_row HR.out) Try.underlying24 rfl (by kernel_rfl)) rfl ⟨rfl, ?_⟩
    rw [HG.out]
    exact below_set2 B1.out (by omega) _ _
  have hd := decide_eq_true hal
  simp only [hd]
  have HA := Lib.hid hal
  clear hal hd
  go_wp2_with fail
  refine (KR.out _ RT.out HA.out).mono ?_
  rintro e w3 ⟨rfl, b3⟩
  have hnd : ¬ to.Nodup := fun hc => HP.out ⟨by rw [HT.out.len, HM.out], HA.out, hc⟩
  have hd := decide_eq_true hnd
  simp only [hd]
  have R := HR.out.below b3
  have z0 := R.c0
  have z1 := R.c1
  have f0 := frozen_in R 0
  have f1 := frozen_in R 1
  have HR3 := Lib.hid R
  have B3 := Lib.hid (B1.out.trans (b3.mono (by have := B1.out.size; have := HG.out; omega)))
  clear hd hnd R b3
  go_wp2_with fail
  refine bodyPost_ret (results_row2 rfl _ _ (g + 1) 24 _ (0, 0) _ rfl (errS_row HR3.out) Try.underlying24 rfl (by kernel_rfl)) rfl ⟨rfl, ?_⟩
  rw [HG.out]
  exact below_set2 B3.out (by omega) _ _

set_option maxHeartbeats 4000000 in
set_option maxRecDepth 100000 in
theorem sreytkcmieblnajmpaaok (w : World) (N : Int) (A B : Option Addr) (n c m d : Nat) (l : List Tr) (to : List Int) (h : T3 w A n l) (ht : Reads w B m (ints to)) (hn : n ≤ 1000000) (hm : m ≤ 1000000) (hf : Fit N l) (hp : IsPerm N to) :
    Calls Try.prog 35 #[.agg #[.int .i64 N, .slice A n c], .slice B m d] w (OkS w N (l.map (renT to))) := by
  have HL := Lib.hid h
  have HT := Lib.hid ht
  have HF := Lib.hid hf
  have hmk := fun W => make3 n n (Nat.le_refl _) hn W
  have hN0 := hf.1
  have hN1 := hf.2.1
  obtain ⟨M, rfl⟩ : ∃ M : Nat, N = (M : Int) := ⟨N.toNat, by omega⟩
  have HP := Lib.hid hp
  have K := Lib.hid (fun (w' : World) (h : T3 w' A n l) => sfits_any w' (M : Int) A n c l h (by omega))
  have KA := Lib.hid (fun (w' : World) (h : Reads w' B m (ints to)) => sallBelow_any w' B m d to (M : Int) h (by omega))
  have KR := Lib.hid (fun (w' : World) (h : Reads w' B m (ints to)) (ha : allIn M to) => srepeats_any w' B m d M to h ha (by omega) (by omega))
  clear h hf ht hp hN0 hN1
  go_enter Try.func35, Try.ntmps35
  go_wp2_with fail
  obtain ⟨y, hy⟩ : ∃ y, y = (w.alloc (.cells #[.int .i64 (M : Int), .slice A n c] 24)).alloc (.cells #[.int .i64 0, .slice none 0 0] 24) := ⟨_, rfl⟩
  have T := Lib.hid (two_boxes w (M : Int) A n c y hy)
  simp only [← hy]
  clear hy
  obtain ⟨g, hg⟩ : ∃ g, w.heap.size = g := ⟨_, rfl⟩
  have HG := Lib.hid hg
  simp only [hg]
  rw [hg] at T
  clear hg
  refine (K.out _ (HL.out.below (by rw [HG.out]; exact T.out.1))).mono ?_
  rintro e w1 ⟨rfl, b1⟩
  have hd := decide_eq_true HF.out
  simp only [hd]
  have B1 := Lib.hid (T.out.1.trans (b1.mono (by have := T.out.1.size; have := HG.out; omega)))
  have e0 := (T.out.2.1.below b1).c0
  have HR := Lib.hid (T.out.2.2.below b1)
  have RT := Lib.hid (HT.out.below (by rw [HG.out]; exact B1.out))
  have BX := Lib.hid (T.out.2.1.below b1)
  clear b1 hd
  have hlen : m = M := by have := HP.out.1; rw [HT.out.len] at this; omega
  have t1 : ((m : Int) != (M : Int)) = false := by simp; omega
  have HM := Lib.hid hlen
  clear hlen
  go_wp2_with fail
  refine (KA.out _ RT.out).mono ?_
  rintro e w2 ⟨rfl, rfl⟩
  have hd := decide_eq_true HP.out.2.1
  simp only [hd]
  clear hd
  go_wp2_with fail
  refine (KR.out _ RT.out HP.out.2.1).mono ?_
  rintro e w3 ⟨rfl, b3⟩
  have hd : decide (¬ to.Nodup) = false := decide_eq_false fun hc => hc HP.out.2.2
  simp only [hd]
  have HR3 := Lib.hid (HR.out.below b3)
  have BX3 := Lib.hid (BX.out.below b3)
  have B3 := Lib.hid (B1.out.trans (b3.mono (by have := B1.out.size; have := HG.out; omega)))
  have e0 := BX3.out.c0
  have e1 := BX3.out.c1
  have S0 := Lib.hid (Fil.begin (w := w) (by rw [HG.out]; exact B3.out) BX3.out HR3.out n)
  have BXX := Lib.hid (BX3.out.below ((Below.refl _ w3).alloc (Nat.le_refl _) (zer3 n)))
  clear hd b3
  have e2 := BXX.out.c1
  go_wp2_with fail
  obtain ⟨w4, hw4⟩ : ∃ w4, w3.alloc (zer3 n) = w4 := ⟨_, rfl⟩
  obtain ⟨q, hq⟩ : ∃ q, w3.heap.size = q := ⟨_, rfl⟩
  rw [hw4, hq] at S0
  simp only [hw4, hq]
  clear e0 e1 e2 hw4 hq
  go_loopw [39] (FilAt w g (g + 1) q (M : Int) A n c (fun i => renT to (l.getD i z3)) n) (fun i _ => n - (intOf i).toNat)
  case atStart => exact ⟨0, Nat.zero_le _, rfl, by rw [half3_zero]; exact S0.out⟩
  case round =>
    obtain ⟨k, hk, rfl, hf⟩ := hrel
    have HFF := Lib.hid hf
    clear hf
    by_cases hlt : k < n
    · have b1 : (k : Int) < n := by omega
      obtain ⟨b, off, rfl, hat⟩ := (HL.out.below HFF.out.below).2 (by omega)
      obtain ⟨c0, c1, c2⟩ := hat k hlt
      clear hat
      obtain ⟨x, hx⟩ : ∃ x, l.getD k z3 = x := ⟨_, rfl⟩
      have HX := Lib.hid hx
      have hok := HF.out.2.2.2 _ (getD3_mem (show k < l.length by rw [HL.out.1]; exact hlt))
      rw [hx] at c0 c1 c2 hok
      clear hx
      obtain ⟨x0, x1, x2⟩ := x
      have bq := (Below.refl _ wr).alloc (Nat.le_refl _) (.cells #[.int .i64 x0, .int .i64 x1, .int .i64 x2] 56)
      have F2 := HFF.out.up bq
      have KT := Lib.hid (srenamed_any (wr.alloc (.cells #[.int .i64 x0, .int .i64 x1, .int .i64 x2] 56)) B m d to (x0, x1, x2) (HT.out.below F2.below) (by rw [HM.out]; exact hok.1) (by rw [HM.out]; exact hok.2.1) (by rw [HM.out]; exact hok.2.2.1))
      have FF := Lib.hid F2
      clear F2 bq hok
      go_wp2_with fail
      refine KT.out.mono ?_
      rintro e w5 ⟨rfl, b5⟩
      obtain ⟨r, hr⟩ : ∃ r, renT to (x0, x1, x2) = r := ⟨_, rfl⟩
      have HRR := Lib.hid hr
      simp only [hr]
      obtain ⟨r0, r1, r2⟩ := r
      have F3 := FF.out.up b5
      obtain ⟨v0, v1, v2, ⟨p0, f0⟩, ⟨p1, f1⟩, p2, f2⟩ := F3.row.cells (k := k) (by rw [half3_len]; exact hlt)
      have F4 := Lib.hid (F3.set (k := k) (by rw [half3_len]; exact hlt) r0 r1 r2)
      clear F3 b5 hr
      go_wp2_with fail
      refine ⟨⟨k + 1, by omega, by go_num, ?_⟩, by simp [intOf]; omega⟩
      rw [← half3_set _ n k hlt, HX.out, HRR.out]
      exact F4.out
    · obtain rfl : k = n := by omega
      have b1 : ¬ (k : Int) < k := by omega
      have e0 := HFF.out.bx.c0
      have e1 := HFF.out.res.c0
      have e2 := HFF.out.res.c1
      have z0 := frozen_in HFF.out.res 0
      have z1 := frozen_in HFF.out.res 1
      go_wp2_with fail
      obtain ⟨hrow, hnew⟩ := newS_ret (N := (M : Int)) (m := k) HFF.out.below HFF.out.res HFF.out.row HFF.out.wq HFF.out.rq (by rw [HG.out]; omega) (half3_len _ _ _) hn
      refine bodyPost_ret (results_row2 rfl _ _ (g + 1) 24 _ (0, 0) _ rfl hrow Try.underlying24 rfl (by kernel_rfl)) rfl ⟨_, rfl, ?_⟩
      rw [half3_full] at hnew
      rw [range_map l (renT to) HL.out.1] at hnew
      exact hnew
end Go.Proofs.Ytkcmieblnajmpaa

/- Layer 8: Pick. -/
namespace Go.Proofs.Ytkcmieblnajmpaa
open Go.RowKit

/-- The triangle of a corner, turned to it. -/
def pickT (l : List Tr) (c : Int) : Tr := rotT (l.getD (c.toNat / 3) z3) (c.toNat % 3)
theorem range_mapi (l : List Int) (f : Int → Tr) {n : Nat} (hn : l.length = n) : (List.range n).map (fun i => f (l.getD i 0)) = l.map f := by
  subst hn
  apply List.ext_getElem?
  intro i
  by_cases h : i < l.length <;> simp [h]

set_option maxHeartbeats 4000000 in
set_option maxRecDepth 100000 in
theorem spick_arg (w : World) (N : Int) (A B : Option Addr) (n c m d : Nat) (l : List Tr) (h : T3 w A n l) (hn : n ≤ 1000000) (hf : ¬ Fit N l) :
    Calls Try.prog 36 #[.agg #[.int .i64 N, .slice A n c], .slice B m d] w (ErrS w 1) := by
  have HL := Lib.hid h
  have HF := Lib.hid hf
  have K := Lib.hid (fun (w' : World) (h : T3 w' A n l) => sfits_any w' N A n c l h (by omega))
  clear h hf
  go_enter Try.func36, Try.ntmps36
  go_wp2_with fail
  obtain ⟨y, hy⟩ : ∃ y, y = (w.alloc (.cells #[.int .i64 N, .slice A n c] 24)).alloc (.cells #[.int .i64 0, .slice none 0 0] 24) := ⟨_, rfl⟩
  have T := Lib.hid (two_boxes w N A n c y hy)
  simp only [← hy]
  clear hy
  obtain ⟨g, hg⟩ : ∃ g, w.heap.size = g := ⟨_, rfl⟩
  have HG := Lib.hid hg
  simp only [hg]
  rw [hg] at T
  clear hg
  refine (K.out _ (HL.out.below (by rw [HG.out]; exact T.out.1))).mono ?_
  rintro e w1 ⟨rfl, b1⟩
  have hd := decide_eq_false HF.out
  simp only [hd]
  have R := T.out.2.2.below b1
  have z0 := R.c0
  have z1 := R.c1
  have f0 := frozen_in R 0
  have f1 := frozen_in R 1
  have HR := Lib.hid R
  have B1 := Lib.hid (T.out.1.trans (b1.mono (by have := T.out.1.size; have := HG.out; omega)))
  clear b1 R hd
  go_wp2_with fail
  refine bodyPost_ret (results_row2 rfl _ _ (g + 1) 24 _ (0, 0) _ rfl (errS_row HR.out) Try.underlying24 rfl (by kernel_rfl)) rfl ⟨rfl, ?_⟩
  rw [HG.out]
  exact below_set2 B1.out (by omega) _ _

set_option maxHeartbeats 4000000 in
set_option maxRecDepth 100000 in
theorem spick_range (w : World) (N : Int) (A B : Option Addr) (n c m d : Nat) (l : List Tr) (cs : List Int) (h : T3 w A n l) (ht : Reads w B m (ints cs)) (hn : n ≤ 1000000) (hm : m ≤ 1000000) (hf : Fit N l) (hp : ¬ allIn (3 * (n : Int)) cs) :
    Calls Try.prog 36 #[.agg #[.int .i64 N, .slice A n c], .slice B m d] w (ErrS w 2) := by
  have HL := Lib.hid h
  have HT := Lib.hid ht
  have HF := Lib.hid hf
  have HP := Lib.hid hp
  have K := Lib.hid (fun (w' : World) (h : T3 w' A n l) => sfits_any w' N A n c l h (by omega))
  have KA := Lib.hid (fun (w' : World) (h : Reads w' B m (ints cs)) => sallBelow_any w' B m d cs (3 * (n : Int)) h (by omega))
  have wr3 : IntKind.i64.wrap (3 * (n : Int)) = 3 * (n : Int) := IntWalk.i64_in _ (by omega)
  clear h hf ht hp
  go_enter Try.func36, Try.ntmps36
  go_wp2_with fail
  obtain ⟨y, hy⟩ : ∃ y, y = (w.alloc (.cells #[.int .i64 N, .slice A n c] 24)).alloc (.cells #[.int .i64 0, .slice none 0 0] 24) := ⟨_, rfl⟩
  have T := Lib.hid (two_boxes w N A n c y hy)
  simp only [← hy]
  clear hy
  obtain ⟨g, hg⟩ : ∃ g, w.heap.size = g := ⟨_, rfl⟩
  have HG := Lib.hid hg
  simp only [hg]
  rw [hg] at T
  clear hg
  refine (K.out _ (HL.out.below (by rw [HG.out]; exact T.out.1))).mono ?_
  rintro e w1 ⟨rfl, b1⟩
  have hd := decide_eq_true HF.out
  simp only [hd]
  have B1 := Lib.hid (T.out.1.trans (b1.mono (by have := T.out.1.size; have := HG.out; omega)))
  have BX := Lib.hid (T.out.2.1.below b1)
  have e0 := BX.out.c0
  have e1 := BX.out.c1
  have HR := Lib.hid (T.out.2.2.below b1)
  have RT := Lib.hid (HT.out.below (by rw [HG.out]; exact B1.out))
  clear b1 hd
  go_wp2_with fail
  refine (KA.out _ RT.out).mono ?_
  rintro e w2 ⟨rfl, rfl⟩
  have hd := decide_eq_false HP.out
  simp only [hd]
  have z0 := HR.out.c0
  have z1 := HR.out.c1
  have f0 := frozen_in HR.out 0
  have f1 := frozen_in HR.out 1
  clear hd
  go_wp2_with fail
  refine bodyPost_ret (results_row2 rfl _ _ (g + 1) 24 _ (0, 0) _ rfl (errS_row HR.out) Try.underlying24 rfl (by kernel_rfl)) rfl ⟨rfl, ?_⟩
  rw [HG.out]
  exact below_set2 B1.out (by omega) _ _

set_option maxHeartbeats 4000000 in
set_option maxRecDepth 100000 in
theorem spick_ok (w : World) (N : Int) (A B : Option Addr) (n c m d : Nat) (l : List Tr) (cs : List Int) (h : T3 w A n l) (ht : Reads w B m (ints cs)) (hn : n ≤ 1000000) (hm : m ≤ 8192) (hf : Fit N l) (hp : allIn (3 * (n : Int)) cs) :
    Calls Try.prog 36 #[.agg #[.int .i64 N, .slice A n c], .slice B m d] w (OkS w N (cs.map (pickT l))) := by
  have HL := Lib.hid h
  have HT := Lib.hid ht
  have HF := Lib.hid hf
  have HP := Lib.hid hp
  have K := Lib.hid (fun (w' : World) (h : T3 w' A n l) => sfits_any w' N A n c l h (by omega))
  have KA := Lib.hid (fun (w' : World) (h : Reads w' B m (ints cs)) => sallBelow_any w' B m d cs (3 * (n : Int)) h (by omega))
  have wr3 : IntKind.i64.wrap (3 * (n : Int)) = 3 * (n : Int) := IntWalk.i64_in _ (by omega)
  have hmk := fun W => make3 m m (Nat.le_refl _) (by omega) W
  have t8 : ¬ (8192 : Int) < (m : Int) := by omega
  clear h hf ht hp
  go_enter Try.func36, Try.ntmps36
  go_wp2_with fail
  obtain ⟨y, hy⟩ : ∃ y, y = (w.alloc (.cells #[.int .i64 N, .slice A n c] 24)).alloc (.cells #[.int .i64 0, .slice none 0 0] 24) := ⟨_, rfl⟩
  have T := Lib.hid (two_boxes w N A n c y hy)
  simp only [← hy]
  clear hy
  obtain ⟨g, hg⟩ : ∃ g, w.heap.size = g := ⟨_, rfl⟩
  have HG := Lib.hid hg
  simp only [hg]
  rw [hg] at T
  clear hg
  refine (K.out _ (HL.out.below (by rw [HG.out]; exact T.out.1))).mono ?_
  rintro e w1 ⟨rfl, b1⟩
  have hd := decide_eq_true HF.out
  simp only [hd]
  have B1 := Lib.hid (T.out.1.trans (b1.mono (by have := T.out.1.size; have := HG.out; omega)))
  have BX := Lib.hid (T.out.2.1.below b1)
  have e0 := BX.out.c0
  have e1 := BX.out.c1
  have HR := Lib.hid (T.out.2.2.below b1)
  have RT := Lib.hid (HT.out.below (by rw [HG.out]; exact B1.out))
  clear b1 hd
  go_wp2_with fail
  refine (KA.out _ RT.out).mono ?_
  rintro e w2 ⟨rfl, rfl⟩
  have hd := decide_eq_true HP.out
  simp only [hd]
  have S0 := Lib.hid (Fil.begin (w := w) (by rw [HG.out]; exact B1.out) BX.out HR.out m)
  clear hd
  go_wp2_with fail
  obtain ⟨w4, hw4⟩ : ∃ w4, w2.alloc (zer3 m) = w4 := ⟨_, rfl⟩
  obtain ⟨q, hq⟩ : ∃ q, w2.heap.size = q := ⟨_, rfl⟩
  rw [hw4, hq] at S0
  simp only [hw4, hq]
  clear e0 e1 hw4 hq
  go_loopw [30] (FilAt w g (g + 1) q N A n c (fun i => pickT l (cs.getD i 0)) m) (fun i _ => m - (intOf i).toNat)
  case atStart => exact ⟨0, Nat.zero_le _, rfl, by rw [half3_zero]; exact S0.out⟩
  case round =>
    obtain ⟨k, hk, rfl, hf⟩ := hrel
    have HFF := Lib.hid hf
    clear hf
    by_cases hlt : k < m
    · have b1 : (k : Int) < m := by omega
      obtain ⟨ad, rfl, c0⟩ := (HT.out.below HFF.out.below).int k hlt
      obtain ⟨C, hC⟩ : ∃ C, cs.getD k 0 = C := ⟨_, rfl⟩
      have HC := Lib.hid hC
      have hin := HP.out _ (getDi_mem (show k < cs.length by rw [HT.out.len]; exact hlt))
      rw [hC] at c0 hin
      obtain ⟨a, ha⟩ : ∃ a : Nat, C.toNat / 3 = a := ⟨_, rfl⟩
      obtain ⟨r, hr⟩ : ∃ r : Nat, C.toNat % 3 = r := ⟨_, rfl⟩
      have h0 := hin.1
      have h1 := hin.2
      have hq3 : C.tdiv 3 = (a : Int) := by rw [Int.tdiv_eq_ediv_of_nonneg h0]; omega
      have hr3 : C.tmod 3 = (r : Int) := by rw [Int.tmod_eq_emod_of_nonneg h0]; omega
      have han : a < n := by omega
      have hr2 : r < 3 := by omega
      have b2 : (a : Int) < n := by omega
      have HAR := Lib.hid (And.intro ha hr)
      clear hC hin h0 h1 ha hr
      obtain ⟨b, off, rfl, hat⟩ := (HL.out.below HFF.out.below).2 (by omega)
      obtain ⟨d0, d1, d2⟩ := hat a han
      clear hat
      obtain ⟨x, hx⟩ : ∃ x, l.getD a z3 = x := ⟨_, rfl⟩
      have HX := Lib.hid hx
      rw [hx] at d0 d1 d2
      clear hx
      obtain ⟨x0, x1, x2⟩ := x
      have KT := Lib.hid (srotated_any wr (x0, x1, x2) r hr2)
      have e1 := HFF.out.bx.c1
      go_wp2_with fail
      refine KT.out.mono ?_
      rintro e w5 ⟨rfl, b5⟩
      obtain ⟨rr, hrr⟩ : ∃ rr, rotT (x0, x1, x2) r = rr := ⟨_, rfl⟩
      have HRR := Lib.hid hrr
      simp only [hrr]
      obtain ⟨r0, r1, r2⟩ := rr
      have F3 := HFF.out.up b5
      obtain ⟨v0, v1, v2, ⟨p0, f0⟩, ⟨p1, f1⟩, p2, f2⟩ := F3.row.cells (k := k) (by rw [half3_len]; exact hlt)
      have F4 := Lib.hid (F3.set (k := k) (by rw [half3_len]; exact hlt) r0 r1 r2)
      clear F3 b5 hrr
      go_wp2_with fail
      refine ⟨⟨k + 1, by omega, by go_num, ?_⟩, by simp [intOf]; omega⟩
      rw [← half3_set _ m k hlt, HC.out, pickT, HAR.out.1, HAR.out.2, HX.out, HRR.out]
      exact F4.out
    · obtain rfl : k = m := by omega
      have b1 : ¬ (k : Int) < k := by omega
      have e0 := HFF.out.bx.c0
      have e1 := HFF.out.res.c0
      have e2 := HFF.out.res.c1
      have z0 := frozen_in HFF.out.res 0
      have z1 := frozen_in HFF.out.res 1
      go_wp2_with fail
      obtain ⟨hrow, hnew⟩ := newS_ret (N := N) (m := k) HFF.out.below HFF.out.res HFF.out.row HFF.out.wq HFF.out.rq (by rw [HG.out]; omega) (half3_len _ _ _) (by omega)
      refine bodyPost_ret (results_row2 rfl _ _ (g + 1) 24 _ (0, 0) _ rfl hrow Try.underlying24 rfl (by kernel_rfl)) rfl ⟨_, rfl, ?_⟩
      rw [half3_full] at hnew
      rw [range_mapi cs (pickT l) HT.out.len] at hnew
      exact hnew
end Go.Proofs.Ytkcmieblnajmpaa
