/- Layer 8: whether two soups, two lists of numbers, two lists of edges are the same. -/
import Derived.Test.YtelbmjbjpgcdaaaSouEq
namespace Go.Proofs.Ytelbmjbjpgcdaaa
open Go.RowKit

def SameAt (w : World) (n : Nat) (a b : List Tr) (i : Value) (wr : World) : Prop := Below w.heap.size w wr ∧ ∃ k : Nat, k ≤ n ∧ i = .int .i64 (k : Int) ∧ ∀ j, j < k → a.getD j z3 = b.getD j z3
def SameTold (w : World) (p : Prop) [Decidable p] (e : Ending) (w' : World) : Prop := e = .returned (.bool (decide p)) ∧ Below w.heap.size w w'
theorem agg3_ne (x y : Tr) : (x.1 == y.1 && (x.2.1 == y.2.1 && x.2.2 == y.2.2)) = decide (x = y) := by
  rw [Bool.eq_iff_iff]; simp only [Bool.and_eq_true, beq_iff_eq, decide_eq_true_eq, Prod.ext_iff]

set_option maxHeartbeats 4000000 in
set_option maxRecDepth 100000 in
theorem ssame_any (w : World) (N M : Int) (A B : Option Addr) (n c m d : Nat) (a b : List Tr) (ha : T3 w A n a) (hb : T3 w B m b) (hn : n ≤ 140737488351232) :
    Calls Try.prog 17 #[.agg #[.int .i64 N, .slice A n c], .agg #[.int .i64 M, .slice B m d]] w (SameTold w (N = M ∧ a = b)) := by
  have HA := Lib.hid ha
  have HB := Lib.hid hb
  clear ha hb
  by_cases h1 : N = M
  case neg =>
    have f1 : (N == M) = false := by simpa using h1
    have H1 := Lib.hid h1
    clear h1
    go_enter Try.func17, Try.ntmps17
    go_wp2
    go_ret
    exact ⟨told_f fun hc => H1.out hc.1, up1 (up1 (Below.refl _ w) _) _⟩
  subst h1
  by_cases h2 : n = m
  case neg =>
    have f2 : ((n : Int) == (m : Int)) = false := by simp; omega
    have H2 := Lib.hid h2
    clear h2
    go_enter Try.func17, Try.ntmps17
    go_wp2
    go_ret
    exact ⟨told_f fun hc => H2.out (by rw [← HA.out.1, ← HB.out.1, hc.2]), up1 (up1 (Below.refl _ w) _) _⟩
  subst h2
  have bw := up1 (up1 (Below.refl _ w) (.cells #[.int .i64 N, .slice A n c] 24)) (.cells #[.int .i64 N, .slice B n d] 24)
  have bx : Bx ((w.alloc (.cells #[.int .i64 N, .slice A n c] 24)).alloc (.cells #[.int .i64 N, .slice B n d] 24)) w.heap.size N A n c := (Bx.made w N A n c).below ((Below.refl _ _).alloc (Nat.le_refl _) _)
  have by' : Bx ((w.alloc (.cells #[.int .i64 N, .slice A n c] 24)).alloc (.cells #[.int .i64 N, .slice B n d] 24)) (w.heap.size + 1) N B n d := by
    have := Bx.made (w.alloc (.cells #[.int .i64 N, .slice A n c] 24)) N B n d
    rwa [World.size_alloc] at this
  go_enter Try.func17, Try.ntmps17
  go_wp2_with fail
  obtain ⟨w1, hw1⟩ : ∃ w1, (w.alloc (.cells #[.int .i64 N, .slice A n c] 24)).alloc (.cells #[.int .i64 N, .slice B n d] 24) = w1 := ⟨_, rfl⟩
  rw [hw1] at bw bx by'
  simp only [hw1]
  obtain ⟨g, hg⟩ : ∃ g, w.heap.size = g := ⟨_, rfl⟩
  have BW := Lib.hid bw
  rw [hg] at bx by'
  simp only [hg]
  have RA := Lib.hid (HA.out.below BW.out)
  have RB := Lib.hid (HB.out.below BW.out)
  have BX := Lib.hid bx
  have BY := Lib.hid by'
  clear bw bx by' hw1 hg
  go_loopw [24] (SameAt w1 n a b) (fun i _ => n - (intOf i).toNat)
  case atStart => exact ⟨Below.refl _ _, 0, Nat.zero_le _, rfl, fun j hj => absurd hj (by omega)⟩
  case round =>
    obtain ⟨hb, k, hk, rfl, ha⟩ := hrel
    have HR := Lib.hid (And.intro hb ha)
    clear ha hb
    by_cases hlt : k < n
    · have b1 : (k : Int) < n := by omega
      obtain ⟨ba, oa, rfl, hat⟩ := (RA.out.below HR.out.1).2 (by omega)
      obtain ⟨c0, c1, c2⟩ := hat k hlt
      obtain ⟨bb, ob, rfl, hbt⟩ := (RB.out.below (HR.out.1.trans ((Below.refl _ wr).alloc (Nat.le_refl _) (.cells #[.int .i64 (a.getD k z3).1, .int .i64 (a.getD k z3).2.1, .int .i64 (a.getD k z3).2.2] 41)|>.mono HR.out.1.size))).2 (by omega)
      obtain ⟨d0, d1, d2⟩ := hbt k hlt
      clear hat hbt
      obtain ⟨x, hx⟩ : ∃ x, a.getD k z3 = x := ⟨_, rfl⟩
      obtain ⟨y, hy⟩ : ∃ y, b.getD k z3 = y := ⟨_, rfl⟩
      have HX := Lib.hid (And.intro hx hy)
      rw [hx] at c0 c1 c2 d0 d1 d2
      rw [hy] at d0 d1 d2
      clear hx hy
      obtain ⟨x0, x1, x2⟩ := x
      obtain ⟨y0, y1, y2⟩ := y
      go_wp2_with fail
      have q0 : (wr.alloc (.cells #[.int .i64 x0, .int .i64 x1, .int .i64 x2] 41)).heap[wr.heap.size]? = some (.cells #[.int .i64 x0, .int .i64 x1, .int .i64 x2] 41 (0, 0)) := heap_alloc_new wr _
      have bq := (Below.refl _ wr).alloc (Nat.le_refl _) (.cells #[.int .i64 x0, .int .i64 x1, .int .i64 x2] 41)
      obtain ⟨q, hq⟩ : ∃ q, wr.heap.size = q := ⟨_, rfl⟩
      obtain ⟨w2, hw2⟩ : ∃ w2, wr.alloc (.cells #[.int .i64 x0, .int .i64 x1, .int .i64 x2] 41) = w2 := ⟨_, rfl⟩
      have B2 := Lib.hid (HR.out.1.trans (bq.mono HR.out.1.size))
      rw [hw2] at q0 B2 d0 d1 d2
      simp only [hw2, hq]
      rw [hq] at q0
      have q1 := cell_in q0 0
      have q2 := cell_in q0 1
      have q3 := cell_in q0 2
      simp only [List.getElem?_toArray, List.getElem?_cons_zero, List.getElem?_cons_succ] at q1 q2 q3
      have e1 := (BY.out.below B2.out).c1
      have B3 := Lib.hid (BW.out.trans (B2.out.mono BW.out.size))
      clear q0 bq hw2 hq c0 c1 c2
      have gd := fun op u v m => run_eqGuard_agg (P := Try.prog) (w2.drewN m) op 41 u v #[.int .i64 x0, .int .i64 x1, .int .i64 x2] #[.int .i64 y0, .int .i64 y1, .int .i64 y2] Try.eqGuardType41
      have nq := fun m => eqIn3 (w2.drewN m) x0 x1 x2 y0 y1 y2
      by_cases hxy : (x0, x1, x2) = (y0, y1, y2)
      · rw [(eq3_iff (x0, x1, x2) (y0, y1, y2)).2 hxy] at nq
        have HE := Lib.hid hxy
        clear hxy
        go_quiet (fail)
        go_wp2_with fail
        refine ⟨⟨B2.out.trans (Reading.below ⟨_, rfl⟩), k + 1, by omega, by go_num, fun j hj => ?_⟩, by simp [intOf]; omega⟩
        rcases Nat.lt_or_ge j k with h3 | h3
        · exact HR.out.2 j h3
        · obtain rfl : j = k := by omega
          rw [HX.out.1, HX.out.2]; exact HE.out
      · rw [eq3_no (x := (x0, x1, x2)) (y := (y0, y1, y2)) hxy] at nq
        have HE := Lib.hid hxy
        clear hxy
        go_quiet (fail)
        go_wp2_with fail
        go_ret
        exact ⟨told_f fun hc => HE.out (by rw [← HX.out.1, ← HX.out.2, hc.2]), B3.out.trans (Reading.below ⟨_, rfl⟩)⟩
    · obtain rfl : k = n := by omega
      have b1 : ¬ (k : Int) < k := by omega
      go_wp2
      go_ret
      exact ⟨told_t ⟨rfl, ext_getD (by rw [HA.out.1, HB.out.1]) fun i hi => HR.out.2 i (by rw [← HA.out.1]; exact hi)⟩, BW.out.trans (HR.out.1.mono BW.out.size)⟩
end Go.Proofs.Ytelbmjbjpgcdaaa
