/- Layer 12: the document's answers: has a triangle a vertex, does one stand on three. -/
import Derived.Test.YtmflacmgffpjoaaGA
import Derived.Test.YtmflacmgffpjoaaGK
namespace Go.Proofs.Ytmflacmgffpjoaa
open Go.RowKit

set_option maxHeartbeats 2000000 in
set_option maxRecDepth 100000 in
theorem r12has_any (w : World) (x0 x1 x2 v : Int) : Calls Try.prog 48 #[.agg #[.int .i64 x0, .int .i64 x1, .int .i64 x2], .int .i64 v] w (DecTold w (hasV (x0, x1, x2) v)) := by
  obtain ⟨w1, hw1⟩ : ∃ w1, w.alloc (.cells #[.int .i64 x0, .int .i64 x1, .int .i64 x2] 53) = w1 := ⟨_, rfl⟩
  have b1 : Below w.heap.size w w1 := by rw [← hw1]; exact (Below.refl _ w).alloc (Nat.le_refl _) _
  obtain ⟨q, hq⟩ : ∃ q, w.heap.size = q := ⟨_, rfl⟩
  have q0 : w1.heap[q]? = some (.cells #[.int .i64 x0, .int .i64 x1, .int .i64 x2] 53 (0, 0)) := by rw [← hw1, ← hq]; exact heap_alloc_new w _
  have c0 : w1.cell? ⟨q, 0, none⟩ = some (.int .i64 x0) := by rw [cell_in q0]; rfl
  have c1 : w1.cell? ⟨q, 1, none⟩ = some (.int .i64 x1) := by rw [cell_in q0]; rfl
  have c2 : w1.cell? ⟨q, 2, none⟩ = some (.int .i64 x2) := by rw [cell_in q0]; rfl
  have B := Lib.hid b1
  clear b1 q0
  have key : ∀ d : Bool, (d = true ↔ hasV (x0, x1, x2) v) → Calls Try.prog 48 #[.agg #[.int .i64 x0, .int .i64 x1, .int .i64 x2], .int .i64 v] w fun e w' => e = .returned (.bool d) ∧ Below w.heap.size w w' := by
    intro d hd
    by_cases h0 : x0 = v
    · obtain rfl : d = true := hd.2 (.inl h0)
      subst h0
      clear hd
      go_enter Try.func48, Try.ntmps48
      go_wp2
      go_ret
      exact ⟨rfl, B.out⟩
    · have e0 : (x0 == v) = false := by simpa using h0
      by_cases h1 : x1 = v
      · obtain rfl : d = true := hd.2 (.inr (.inl h1))
        subst h1
        clear hd
        go_enter Try.func48, Try.ntmps48
        go_wp2
        go_ret
        exact ⟨rfl, B.out⟩
      · have e1 : (x1 == v) = false := by simpa using h1
        obtain rfl : d = (x2 == v) := by
          rw [Bool.eq_iff_iff, hd, beq_iff_eq]
          exact ⟨fun h => h.elim (fun h => absurd h h0) fun h => h.elim (fun h => absurd h h1) id, fun h => .inr (.inr h)⟩
        clear hd
        go_enter Try.func48, Try.ntmps48
        go_wp2
        go_ret
        exact ⟨rfl, B.out⟩
  exact key _ (by simp)

def HasAll (t : Tr) (x y z : Int) : Prop := hasV t x ∧ hasV t y ∧ hasV t z
instance (t : Tr) (x y z : Int) : Decidable (HasAll t x y z) := inferInstanceAs (Decidable (_ ∧ _))
def OnL (l : List Tr) (x y z : Int) : Prop := ∃ t ∈ l, HasAll t x y z
def OnR (w1 : World) (n : Nat) (l : List Tr) (x y z : Int) (i : Value) (wr : World) : Prop := Below w1.heap.size w1 wr ∧ ∃ k : Nat, k ≤ n ∧ i = .int .i64 (k : Int) ∧ ∀ j, j < k → ¬ HasAll (l.getD j z3) x y z
set_option maxHeartbeats 8000000 in
set_option maxRecDepth 100000 in
theorem r12on_any (w : World) (N : Int) (A : Option Addr) (n c : Nat) (l : List Tr) (ht : T3 w A n l) (hn : n ≤ 1000000) (x y z : Int) (bb : Bool) (hbb : bb = true ↔ OnL l x y z) : Calls Try.prog 31 #[.agg #[.int .i64 N, .slice A n c], .int .i64 x, .int .i64 y, .int .i64 z] w (BoolTold10 w bb) := by
  obtain ⟨w1, hw1⟩ : ∃ w1, w.alloc (.cells #[.int .i64 N, .slice A n c] 24) = w1 := ⟨_, rfl⟩
  obtain ⟨g, hg⟩ : ∃ g, w.heap.size = g := ⟨_, rfl⟩
  have b1 : Below w.heap.size w w1 := by rw [← hw1]; exact (Below.refl _ w).alloc (Nat.le_refl _) _
  have x1 : Bx w1 g N A n c := by rw [← hw1, ← hg]; exact Bx.made w N A n c
  have HL := Lib.hid ht
  have B1 := Lib.hid b1
  have HS := Lib.hid (fun W (b : Below w1.heap.size w1 W) => (show W.cell? ⟨g, 0, none⟩ = some (.int .i64 N) ∧ W.cell? ⟨g, 1, none⟩ = some (.slice A n c) from ⟨(x1.below b).c0, (x1.below b).c1⟩))
  have HBB := Lib.hid hbb
  clear b1 x1 ht hbb
  go_enter Try.func31, Try.ntmps31
  go_wp2_with fail
  clear hw1 hg
  go_loopw [9] (OnR w1 n l x y z) (fun i _ => n - (intOf i).toNat)
  case atStart => exact ⟨Below.refl _ _, 0, Nat.zero_le _, rfl, fun j hj => absurd hj (by omega)⟩
  case round =>
    obtain ⟨hb, k, hk, rfl, hno⟩ := hrel
    have HB := Lib.hid hb
    have HN := Lib.hid hno
    have h0 := HS.out wr hb
    by_cases hlt : k < n
    case neg =>
      obtain rfl : k = n := by omega
      have b1 : ¬ (k : Int) < (k : Int) := by omega
      have HF := Lib.hid (show bb = false from by
        rw [Bool.eq_false_iff]
        intro e
        obtain ⟨t, ht, hh⟩ := HBB.out.1 e
        obtain ⟨i, hi, rfl⟩ := mem3_getD ht
        exact HN.out i (by rw [← HL.out.1]; exact hi) hh)
      clear hb hno
      go_wp2
      go_ret
      exact ⟨by rw [HF.out]; rfl, up2 B1.out HB.out⟩
    have b1 : (k : Int) < (n : Int) := by omega
    have b2 : 0 ≤ (k : Int) := by omega
    obtain ⟨bA, off, rfl, hat⟩ := (HL.out.below (up2 B1.out hb)).2 (by omega)
    obtain ⟨c0, c1, c2⟩ := hat k hlt
    obtain ⟨x0, hx0⟩ : ∃ v, (l.getD k z3).1 = v := ⟨_, rfl⟩
    obtain ⟨x1, hx1⟩ : ∃ v, (l.getD k z3).2.1 = v := ⟨_, rfl⟩
    obtain ⟨x2, hx2⟩ : ∃ v, (l.getD k z3).2.2 = v := ⟨_, rfl⟩
    have HT := Lib.hid (show l.getD k z3 = (x0, x1, x2) by rw [← hx0, ← hx1, ← hx2])
    rw [hx0] at c0
    rw [hx1] at c1
    rw [hx2] at c2
    have HC := Lib.hid (fun W (h : Below wr.heap.size wr W) => (show (W.cell? ⟨g, 0, none⟩ = some (.int .i64 N) ∧ W.cell? ⟨g, 1, none⟩ = some (.slice (some ⟨bA, off, none⟩) n c)) ∧ W.cell? ⟨bA, off + k * 3, none⟩ = some (.int .i64 x0) ∧ W.cell? ⟨bA, off + k * 3 + 1, none⟩ = some (.int .i64 x1) ∧ W.cell? ⟨bA, off + k * 3 + 2, none⟩ = some (.int .i64 x2) from
      ⟨HS.out W (up2 HB.out h), (h.cell (World.block_lt_of_cell? _ _ c0)).trans c0, (h.cell (World.block_lt_of_cell? _ _ c1)).trans c1, (h.cell (World.block_lt_of_cell? _ _ c2)).trans c2⟩))
    have KH := Lib.hid (fun W v => (r12has_any W x0 x1 x2 v).mono fun e w9 h => (show BoolTold10 W (decide (hasV (x0, x1, x2) v)) e w9 from h))
    clear hb hno hat hx0 hx1 hx2
    have K1 := Lib.hid (KH.out wr x)
    have next : ∀ (w5 : World), Below wr.heap.size wr w5 → ¬ HasAll (x0, x1, x2) x y z → Below w1.heap.size w1 w5 ∧ ∀ j, j < k + 1 → ¬ HasAll (l.getD j z3) x y z := fun w5 b5 hh => ⟨up2 HB.out b5, fun j hj => by
      rcases (show j < k ∨ j = k by omega) with h | rfl
      · exact HN.out j h
      · rw [HT.out]; exact hh⟩
    have NX := Lib.hid next
    clear next
    by_cases h1 : hasV (x0, x1, x2) x
    case neg =>
      rw [decide_eq_false h1] at K1
      have H1 := Lib.hid (show ¬ HasAll (x0, x1, x2) x y z from fun h => h1 h.1)
      clear h1
      go_wp2_with fail
      refine K1.out.mono ?_
      rintro e w5 ⟨rfl, b5⟩
      have H5 := Lib.hid (NX.out w5 b5 H1.out)
      clear b5
      go_wp2_with fail
      exact ⟨⟨H5.out.1, k + 1, by omega, by go_num, H5.out.2⟩, by simp [intOf]; omega⟩
    rw [decide_eq_true h1] at K1
    go_wp2_with fail
    refine K1.out.mono ?_
    rintro e w5 ⟨rfl, b5⟩
    obtain ⟨⟨g0, g1⟩, d0, d1, d2⟩ := HC.out w5 b5
    have B5 := Lib.hid b5
    have K2 := Lib.hid (KH.out w5 y)
    clear b5 h0 c0 c1 c2
    by_cases h2 : hasV (x0, x1, x2) y
    case neg =>
      rw [decide_eq_false h2] at K2
      have H1 := Lib.hid (show ¬ HasAll (x0, x1, x2) x y z from fun h => h2 h.2.1)
      clear h1 h2
      go_wp2_with fail
      refine K2.out.mono ?_
      rintro e w6 ⟨rfl, b6⟩
      have H5 := Lib.hid (NX.out w6 (up2 B5.out b6) H1.out)
      clear b6
      go_wp2_with fail
      exact ⟨⟨H5.out.1, k + 1, by omega, by go_num, H5.out.2⟩, by simp [intOf]; omega⟩
    rw [decide_eq_true h2] at K2
    go_wp2_with fail
    refine K2.out.mono ?_
    rintro e w6 ⟨rfl, b6⟩
    have b65 := up2 B5.out b6
    obtain ⟨⟨g0, g1⟩, d0, d1, d2⟩ := HC.out w6 b65
    have B6 := Lib.hid b65
    have K3 := Lib.hid (KH.out w6 z)
    clear b6 b65
    by_cases h3 : hasV (x0, x1, x2) z
    · rw [decide_eq_true h3] at K3
      have HF := Lib.hid (show bb = true from HBB.out.2 ⟨_, getD3_mem (show k < l.length by rw [HL.out.1]; exact hlt), by rw [HT.out]; exact ⟨h1, h2, h3⟩⟩)
      clear h1 h2 h3
      go_wp2_with fail
      refine K3.out.mono ?_
      rintro e w7 ⟨rfl, b7⟩
      have B7 := Lib.hid (up2 B6.out b7)
      clear b7
      go_wp2_with fail
      go_ret
      exact ⟨by rw [HF.out]; rfl, up2 B1.out (up2 HB.out B7.out)⟩
    · rw [decide_eq_false h3] at K3
      have H1 := Lib.hid (show ¬ HasAll (x0, x1, x2) x y z from fun h => h3 h.2.2)
      clear h1 h2 h3
      go_wp2_with fail
      refine K3.out.mono ?_
      rintro e w7 ⟨rfl, b7⟩
      have H5 := Lib.hid (NX.out w7 (up2 B6.out b7) H1.out)
      clear b7
      go_wp2_with fail
      exact ⟨⟨H5.out.1, k + 1, by omega, by go_num, H5.out.2⟩, by simp [intOf]; omega⟩
end Go.Proofs.Ytmflacmgffpjoaa
