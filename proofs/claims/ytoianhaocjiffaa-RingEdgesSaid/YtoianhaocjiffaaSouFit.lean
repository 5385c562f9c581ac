/- Layer 8: numbers below a bound, numbers that come twice, and whether a soup fits. -/
import Derived.Test.YtoianhaocjiffaaGM
import Derived.Deep.RegionHeld3
namespace Go.Proofs.Ytoianhaocjiffaa
open Go.RowKit

def AllBAt (w : World) (n : Nat) (N : Int) (l : List Int) (i : Value) (wr : World) : Prop := w = wr ∧ ∃ k : Nat, k ≤ n ∧ i = .int .i64 (k : Int) ∧ ∀ j, j < k → inN N (l.getD j 0)

set_option maxHeartbeats 1600000 in
set_option maxRecDepth 100000 in
theorem sallBelow_any (w : World) (A : Option Addr) (n c : Nat) (l : List Int) (N : Int) (h : Reads w A n (ints l)) (hn : n ≤ 140737488351232) :
    Calls Try.prog 50 #[.slice A n c, .int .i64 N] w fun e w' => e = .returned (.bool (decide (allIn N l))) ∧ w' = w := by
  have HR := Lib.hid h
  clear h
  go_enter Try.func50, Try.ntmps50
  go_wp2_with fail
  go_loopw [9] (AllBAt w n N l) (fun i _ => n - (intOf i).toNat)
  case atStart => exact ⟨rfl, 0, Nat.zero_le _, rfl, fun j hj => absurd hj (by omega)⟩
  case round =>
    obtain ⟨rfl, k, hk, rfl, ha⟩ := hrel
    have HA := Lib.hid ha
    clear ha
    by_cases hlt : k < n
    · obtain ⟨ad, rfl, c0⟩ := HR.out.int k hlt
      have b1 : (k : Int) < n := by omega
      obtain ⟨x, hx⟩ : ∃ x, l.getD k 0 = x := ⟨_, rfl⟩
      have HX := Lib.hid hx
      rw [hx] at c0
      clear hx
      by_cases h1 : x < 0
      · go_wp2
        go_ret
        refine ⟨told_f fun hc => ?_, rfl⟩
        have := (hc _ (getDi_mem (show k < l.length by rw [HR.out.len]; exact hlt))).1
        rw [HX.out] at this; omega
      · by_cases h2 : N ≤ x
        · go_wp2
          go_ret
          refine ⟨told_f fun hc => ?_, rfl⟩
          have := (hc _ (getDi_mem (show k < l.length by rw [HR.out.len]; exact hlt))).2
          rw [HX.out] at this; omega
        · go_wp2_with fail
          refine ⟨⟨rfl, k + 1, by omega, by go_num, fun j hj => ?_⟩, by simp [intOf]; omega⟩
          rcases Nat.lt_or_ge j k with h3 | h3
          · exact HA.out j h3
          · obtain rfl : j = k := by omega
            rw [HX.out]; exact ⟨by omega, by omega⟩
    · obtain rfl : k = n := by omega
      have b1 : ¬ (k : Int) < k := by omega
      go_wp2
      go_ret
      refine ⟨told_t fun x hx => ?_, rfl⟩
      obtain ⟨i, hi, rfl⟩ := memi_getD hx
      exact HA.out i (by rw [← HR.out.len]; exact hi)

def FitAt (w : World) (n : Nat) (N : Int) (l : List Tr) (i : Value) (wr : World) : Prop := Below w.heap.size w wr ∧ ∃ k : Nat, k ≤ n ∧ i = .int .i64 (k : Int) ∧ ∀ j, j < k → okTri N (l.getD j z3)
def FitTold (w : World) (N : Int) (l : List Tr) (e : Ending) (w' : World) : Prop := e = .returned (.bool (decide (Fit N l))) ∧ Below w.heap.size w w'

theorem reads_three {w : World} {q : Nat} {a b c : Int} {t : TypeId} (h : w.heap[q]? = some (.cells #[.int .i64 a, .int .i64 b, .int .i64 c] t (0, 0))) : Reads w (some ⟨q, 0, none⟩) 3 (ints [a, b, c]) := Reads.of_block (xs := ints [a, b, c]) h

set_option maxHeartbeats 4000000 in
set_option maxRecDepth 100000 in
theorem sfits_any (w : World) (N : Int) (A : Option Addr) (n c : Nat) (l : List Tr) (h : T3 w A n l) (hn : n ≤ 140737488351232) :
    Calls Try.prog 39 #[.agg #[.int .i64 N, .slice A n c]] w (FitTold w N l) := by
  have HR := Lib.hid h
  clear h
  by_cases h1 : N < 0
  · go_enter Try.func39, Try.ntmps39
    go_wp2
    go_ret
    refine ⟨told_f fun hc => by have := hc.1; omega, (Below.refl _ w).alloc (Nat.le_refl _) _⟩
  by_cases h2 : 4096 < N
  · go_enter Try.func39, Try.ntmps39
    go_wp2
    go_ret
    refine ⟨told_f fun hc => by have := hc.2.1; omega, (Below.refl _ w).alloc (Nat.le_refl _) _⟩
  by_cases h3 : (8192 : Int) < n
  · go_enter Try.func39, Try.ntmps39
    go_wp2
    go_ret
    refine ⟨told_f fun hc => by have := hc.2.2.1; rw [HR.out.1] at this; omega, (Below.refl _ w).alloc (Nat.le_refl _) _⟩
  have HB := Lib.hid (And.intro h1 (And.intro h2 h3))
  have K := Lib.hid (fun (w' : World) A (a b c : Int) (h : Reads w' A 3 (ints [a, b, c])) => sallBelow_any w' A 3 3 [a, b, c] N h (by omega))
  go_enter Try.func39, Try.ntmps39
  go_wp2_with fail
  obtain ⟨w1, hw1⟩ : ∃ w1, w.alloc (.cells #[.int .i64 N, .slice A n c] 24) = w1 := ⟨_, rfl⟩
  have bx := Bx.made w N A n c
  have B0 := (Below.refl _ w).alloc (Nat.le_refl _) (.cells #[.int .i64 N, .slice A n c] 24)
  rw [hw1] at bx B0
  simp only [hw1]
  have R1 := Lib.hid (HR.out.below B0)
  have BX := Lib.hid bx
  have B1 := Lib.hid B0
  obtain ⟨g, hg⟩ : ∃ g, w.heap.size = g := ⟨_, rfl⟩
  rw [hg] at BX
  simp only [hg]
  have HG := Lib.hid hg
  have HW := Lib.hid hw1
  clear bx B0 hw1 hg
  go_loopw [22] (FitAt w1 n N l) (fun i _ => n - (intOf i).toNat)
  case atStart => exact ⟨Below.refl _ _, 0, Nat.zero_le _, rfl, fun j hj => absurd hj (by omega)⟩
  case round =>
    obtain ⟨hb, k, hk, rfl, ha⟩ := hrel
    have HA := Lib.hid (And.intro hb ha)
    clear ha hb
    by_cases hlt : k < n
    · have b1 : (k : Int) < n := by omega
      obtain ⟨b, off, rfl, hat⟩ := (R1.out.below HA.out.1).2 (by omega)
      obtain ⟨c0, c1, c2⟩ := hat k hlt
      clear hat
      obtain ⟨x, hx⟩ : ∃ x, l.getD k z3 = x := ⟨_, rfl⟩
      have HX := Lib.hid hx
      rw [hx] at c0 c1 c2
      clear hx
      obtain ⟨x0, x1, x2⟩ := x
      have HO : okTri N (l.getD k z3) ↔ (allIn N [x0, x1, x2] ∧ x0 ≠ x1 ∧ x1 ≠ x2 ∧ x2 ≠ x0) := by
        rw [HX.out]
        simp only [okTri, allIn, List.mem_cons, List.not_mem_nil, or_false, forall_eq_or_imp, forall_eq]
        constructor
        · rintro ⟨a1, a2, a3, a4, a5, a6⟩; exact ⟨⟨a1, a2, a3⟩, a4, a5, fun e => a6 e.symm⟩
        · rintro ⟨⟨a1, a2, a3⟩, a4, a5, a6⟩; exact ⟨a1, a2, a3, a4, a5, fun e => a6 e.symm⟩
      have HOO := Lib.hid HO
      clear HO
      go_wp2_with fail
      have q0 : (wr.alloc (.cells #[.int .i64 x0, .int .i64 x1, .int .i64 x2] 52)).heap[wr.heap.size]? = some (.cells #[.int .i64 x0, .int .i64 x1, .int .i64 x2] 52 (0, 0)) := heap_alloc_new wr _
      have bq := (Below.refl _ wr).alloc (Nat.le_refl _) (.cells #[.int .i64 x0, .int .i64 x1, .int .i64 x2] 52)
      obtain ⟨q, hq⟩ : ∃ q, wr.heap.size = q := ⟨_, rfl⟩
      obtain ⟨w2, hw2⟩ : ∃ w2, wr.alloc (.cells #[.int .i64 x0, .int .i64 x1, .int .i64 x2] 52) = w2 := ⟨_, rfl⟩
      have B2 := Lib.hid (HA.out.1.trans (bq.mono HA.out.1.size))
      rw [hw2] at q0 B2
      simp only [hw2, hq]
      rw [hq] at q0
      have B3 := Lib.hid (B1.out.trans (B2.out.mono B1.out.size))
      have d0 := cell_in q0 0
      have d1 := cell_in q0 1
      have d2 := cell_in q0 2
      simp only [List.getElem?_toArray, List.getElem?_cons_zero, List.getElem?_cons_succ] at d0 d1 d2
      have e0 := (BX.out.below B2.out).c0
      have RQ := Lib.hid (fun m => (reads_three q0).read (w' := w2.drewN m) ⟨m, rfl⟩)
      have bad : okTri N (l.getD k z3) ↔ okTri N (l.getD k z3) := Iff.rfl
      have MM := Lib.hid (fun hc : Fit N l => HOO.out.1 (hc.2.2.2 _ (getD3_mem (show k < l.length by rw [HR.out.1]; exact hlt))))
      clear q0 bq hw2 hq bad c0 c1 c2
      by_cases hal : allIn N [x0, x1, x2]
      · have KB := Lib.hid (fun m => K.out (w2.drewN m) _ x0 x1 x2 (RQ.out m))
        rw [decide_eq_true hal] at KB
        have HL := Lib.hid hal
        clear hal
        by_cases h01 : x0 = x1
        · have f1 : (x0 == x1) = true := by simpa using h01
          have H1 := Lib.hid h01
          clear h01
          go_quiet ((go_at_call 50; exact Calls.quiet_of_same (KB.out _)))
          go_wp2_with fail
          go_ret
          exact ⟨told_f fun hc => (MM.out hc).2.1 H1.out, B3.out.trans (Reading.below ⟨_, rfl⟩)⟩
        have f1 : (x0 == x1) = false := by simpa using h01
        have H1 := Lib.hid h01
        clear h01
        by_cases h12 : x1 = x2
        · have f2 : (x1 == x2) = true := by simpa using h12
          have H2 := Lib.hid h12
          clear h12
          go_quiet ((go_at_call 50; exact Calls.quiet_of_same (KB.out _)))
          go_wp2_with fail
          go_ret
          exact ⟨told_f fun hc => (MM.out hc).2.2.1 H2.out, B3.out.trans (Reading.below ⟨_, rfl⟩)⟩
        have f2 : (x1 == x2) = false := by simpa using h12
        have H2 := Lib.hid h12
        clear h12
        by_cases h20 : x2 = x0
        · have f3 : (x2 == x0) = true := by simpa using h20
          have H3 := Lib.hid h20
          clear h20
          go_quiet ((go_at_call 50; exact Calls.quiet_of_same (KB.out _)))
          go_wp2_with fail
          go_ret
          exact ⟨told_f fun hc => (MM.out hc).2.2.2 H3.out, B3.out.trans (Reading.below ⟨_, rfl⟩)⟩
        have f3 : (x2 == x0) = false := by simpa using h20
        have H3 := Lib.hid h20
        clear h20
        go_quiet ((go_at_call 50; exact Calls.quiet_of_same (KB.out _)))
        go_wp2_with fail
        refine ⟨⟨B2.out.trans (Reading.below ⟨_, rfl⟩), k + 1, by omega, by go_num, fun j hj => ?_⟩, by simp [intOf]; omega⟩
        rcases Nat.lt_or_ge j k with h3 | h3
        · exact HA.out.2 j h3
        · obtain rfl : j = k := by omega
          exact HOO.out.2 ⟨HL.out, H1.out, H2.out, H3.out⟩
      · have KB := Lib.hid (fun m => K.out (w2.drewN m) _ x0 x1 x2 (RQ.out m))
        rw [decide_eq_false hal] at KB
        have HL := Lib.hid hal
        clear hal
        go_quiet ((go_at_call 50; exact Calls.quiet_of_same (KB.out _)))
        go_wp2_with fail
        go_ret
        exact ⟨told_f fun hc => HL.out (MM.out hc).1, B3.out.trans (Reading.below ⟨_, rfl⟩)⟩
    · obtain rfl : k = n := by omega
      have b1 : ¬ (k : Int) < k := by omega
      go_wp2
      go_ret
      exact ⟨told_t ⟨HB.out.1, HB.out.2.1, by have := HR.out.1; have := HB.out.2.2; omega, fun x hx => by
        obtain ⟨i, hi, rfl⟩ := mem3_getD hx
        exact HA.out.2 i (by rw [← HR.out.1]; exact hi)⟩, B1.out.trans (HA.out.1.mono B1.out.size)⟩
end Go.Proofs.Ytoianhaocjiffaa
