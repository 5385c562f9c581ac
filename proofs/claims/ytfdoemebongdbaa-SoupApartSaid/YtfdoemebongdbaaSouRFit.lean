/- The document's answer for layer 8: whether a soup fits. -/
import Derived.Test.YtfdoemebongdbaaSouFit
namespace Go.Proofs.Ytfdoemebongdbaa
open Go.RowKit

set_option maxHeartbeats 4000000 in
set_option maxRecDepth 100000 in
theorem rfits_any (w : World) (N : Int) (A : Option Addr) (n c : Nat) (l : List Tr) (h : T3 w A n l) (hn : n ≤ 140737488351232) :
    Calls Try.prog 14 #[.agg #[.int .i64 N, .slice A n c]] w (FitTold w N l) := by
  have HR := Lib.hid h
  clear h
  by_cases h1 : N < 0
  · go_enter Try.func14, Try.ntmps14
    go_wp2
    go_ret
    refine ⟨told_f fun hc => by have := hc.1; omega, (Below.refl _ w).alloc (Nat.le_refl _) _⟩
  by_cases h2 : 4096 < N
  · go_enter Try.func14, Try.ntmps14
    go_wp2
    go_ret
    refine ⟨told_f fun hc => by have := hc.2.1; omega, (Below.refl _ w).alloc (Nat.le_refl _) _⟩
  by_cases h3 : (8192 : Int) < n
  · go_enter Try.func14, Try.ntmps14
    go_wp2
    go_ret
    refine ⟨told_f fun hc => by have := hc.2.2.1; rw [HR.out.1] at this; omega, (Below.refl _ w).alloc (Nat.le_refl _) _⟩
  have HB := Lib.hid (And.intro h1 (And.intro h2 h3))
  go_enter Try.func14, Try.ntmps14
  go_wp2_with fail
  obtain ⟨w1, hw1⟩ : ∃ w1, w.alloc (.cells #[.int .i64 N, .slice A n c] 24) = w1 := ⟨_, rfl⟩
  have bx := Bx.made w N A n c
  have B0 := (Below.refl _ w).alloc (Nat.le_refl _) (.cells #[.int .i64 N, .slice A n c] 24)
  rw [hw1] at bx B0
  simp only [hw1]
  have R1 := Lib.hid (HR.out.below B0)
  have BX := Lib.hid bx
  have B1 := Lib.hid B0
  obtain ⟨g, hg⟩ : ∃ g, w.heap.size = g := ⟨_, rfl⟩
  rw [hg] at BX
  simp only [hg]
  have HG := Lib.hid hg
  have HW := Lib.hid hw1
  clear bx B0 hw1 hg
  go_loopw [3] (FitAt w1 n N l) (fun i _ => n - (intOf i).toNat)
  case atStart => exact ⟨Below.refl _ _, 0, Nat.zero_le _, rfl, fun j hj => absurd hj (by omega)⟩
  case round =>
    obtain ⟨hb, k, hk, rfl, ha⟩ := hrel
    have HA := Lib.hid (And.intro hb ha)
    clear ha hb
    by_cases hlt : k < n
    · have b1 : (k : Int) < n := by omega
      obtain ⟨b, off, rfl, hat⟩ := (R1.out.below HA.out.1).2 (by omega)
      obtain ⟨c0, c1, c2⟩ := hat k hlt
      clear hat
      obtain ⟨x, hx⟩ : ∃ x, l.getD k z3 = x := ⟨_, rfl⟩
      have HX := Lib.hid hx
      rw [hx] at c0 c1 c2
      clear hx
      obtain ⟨x0, x1, x2⟩ := x
      have e0 := (BX.out.below HA.out.1).c0
      have e1 := (BX.out.below HA.out.1).c1
      have MM := Lib.hid (fun hc : Fit N l => (show okTri N (x0, x1, x2) by rw [← HX.out]; exact hc.2.2.2 _ (getD3_mem (show k < l.length by rw [HR.out.1]; exact hlt))))
      go_wp2_with fail
      go_quiet (fail)
      have e0q : (wr.drewN nq).cell? ⟨g, 0, none⟩ = some (.int .i64 N) := e0
      have C9 := Lib.hid (HA.out.1.trans (Reading.below (w' := wr.drewN nq) ⟨nq, rfl⟩))
      generalize wr.drewN nq = wq at *
      have B9 := Lib.hid (B1.out.trans (C9.out.mono B1.out.size))
      by_cases g0 : x0 < 0
      · go_wp2_with fail
        go_ret
        exact ⟨told_f fun hc => by have h9 := MM.out hc; simp only [okTri, inN] at h9; omega, B9.out⟩
      by_cases g1 : N ≤ x0
      · go_wp2_with fail
        go_ret
        exact ⟨told_f fun hc => by have h9 := MM.out hc; simp only [okTri, inN] at h9; omega, B9.out⟩
      by_cases g2 : x1 < 0
      · go_wp2_with fail
        go_ret
        exact ⟨told_f fun hc => by have h9 := MM.out hc; simp only [okTri, inN] at h9; omega, B9.out⟩
      by_cases g3 : N ≤ x1
      · go_wp2_with fail
        go_ret
        exact ⟨told_f fun hc => by have h9 := MM.out hc; simp only [okTri, inN] at h9; omega, B9.out⟩
      by_cases g4 : x2 < 0
      · go_wp2_with fail
        go_ret
        exact ⟨told_f fun hc => by have h9 := MM.out hc; simp only [okTri, inN] at h9; omega, B9.out⟩
      by_cases g5 : N ≤ x2
      · go_wp2_with fail
        go_ret
        exact ⟨told_f fun hc => by have h9 := MM.out hc; simp only [okTri, inN] at h9; omega, B9.out⟩
      by_cases g6 : x0 = x1
      · have f6 : (x0 == x1) = true := by simpa using g6
        have G := Lib.hid g6
        clear g6
        go_wp2_with fail
        go_ret
        exact ⟨told_f fun hc => (MM.out hc).2.2.2.1 G.out, B9.out⟩
      have f6 : (x0 == x1) = false := by simpa using g6
      have G6 := Lib.hid g6
      clear g6
      by_cases g7 : x1 = x2
      · have f7 : (x1 == x2) = true := by simpa using g7
        have G := Lib.hid g7
        clear g7
        go_wp2_with fail
        go_ret
        exact ⟨told_f fun hc => (MM.out hc).2.2.2.2.1 G.out, B9.out⟩
      have f7 : (x1 == x2) = false := by simpa using g7
      have G7 := Lib.hid g7
      clear g7
      by_cases g8 : x0 = x2
      · have f8 : (x0 == x2) = true := by simpa using g8
        have G := Lib.hid g8
        clear g8
        go_wp2_with fail
        go_ret
        exact ⟨told_f fun hc => (MM.out hc).2.2.2.2.2 G.out, B9.out⟩
      have f8 : (x0 == x2) = false := by simpa using g8
      have G8 := Lib.hid g8
      clear g8
      have h0 : okTri N (x0, x1, x2) := by
        simp only [okTri, inN]
        exact ⟨⟨by omega, by omega⟩, ⟨by omega, by omega⟩, ⟨by omega, by omega⟩, G6.out, G7.out, G8.out⟩
      have HO := Lib.hid h0
      clear h0
      go_wp2_with fail
      refine ⟨⟨C9.out, k + 1, by omega, by go_num, fun j hj => ?_⟩, by simp [intOf]; omega⟩
      rcases Nat.lt_or_ge j k with h3 | h3
      · exact HA.out.2 j h3
      · obtain rfl : j = k := by omega
        rw [HX.out]; exact HO.out
    · obtain rfl : k = n := by omega
      have b1 : ¬ (k : Int) < k := by omega
      have e1 := (BX.out.below HA.out.1).c1
      go_wp2
      go_ret
      exact ⟨told_t ⟨HB.out.1, HB.out.2.1, by have := HR.out.1; have := HB.out.2.2; omega, fun x hx => by
        obtain ⟨i, hi, rfl⟩ := mem3_getD hx
        exact HA.out.2 i (by rw [← HR.out.1]; exact hi)⟩, B1.out.trans (HA.out.1.mono B1.out.size)⟩
end Go.Proofs.Ytfdoemebongdbaa
