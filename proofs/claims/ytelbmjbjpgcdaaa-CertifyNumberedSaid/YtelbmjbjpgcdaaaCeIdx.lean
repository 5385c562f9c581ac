/- Layer 9: the examiner of the kind Index. -/
import Derived.Test.YtelbmjbjpgcdaaaCeSeen
import Derived.Deep.RegionHeld3
import Derived.Laws.Cover1
namespace Go.Proofs.Ytelbmjbjpgcdaaa
open Go.RowKit

/-- What is told of the kind Index. -/
def indexW (N : Int) (tl : List Tr) : List Wt := if N < 0 ∨ 4096 < N ∨ 8192 < tl.length then [(1, -1, 0)] else idxW 1 (fun t => decide (badT N t)) tl
theorem bad_cases {N x0 x1 x2 : Int} : badT N (x0, x1, x2) ↔ (x0 < 0 ∨ x1 < 0 ∨ x2 < 0) ∨ N ≤ x0 ∨ N ≤ x1 ∨ N ≤ x2 := by
  unfold badT inN
  simp only
  omega
set_option maxHeartbeats 4000000 in
set_option maxRecDepth 100000 in
theorem cindex_any {f : FuncId} {caps : List Value} {ws : List Wt} {go : List Wt → Bool} {S : Nat → Prop} {Inv : List Wt → World → Prop} (H : Taker f caps ws go S Inv) (w : World) (g : Nat) (N : Int) (A : Option Addr) (n c : Nat) (m : Option Nat) (tl : List Tr) (hs : Seen S g N A n c m tl w) (hi : Inv [] w)
    (hws : ws = indexW N tl) (hn : n ≤ 1000000) : Calls Try.prog 36 #[.pointer (some ⟨g, 0, none⟩), .func (.func f) #[] caps.toArray] w (Ended ws go S Inv w) := by
  have HS := Lib.hid hs
  have HI := Lib.hid hi
  have hl := hs.t3.1
  have c1 := hs.c1
  have c0 := hs.c0
  have hen := H.enter
  by_cases hr : N < 0 ∨ 4096 < N ∨ 8192 < n
  · have hw : ws = [(1, -1, 0)] := by rw [hws, indexW, if_pos (by rw [hl]; exact hr)]
    have hc := (TriSt.mk hi (AllGo.nil go) (Chg.refl S w)).hand H (l' := [(1, -1, 0)]) (x := (1, -1, 0)) rfl (by rw [hw]; exact List.prefix_refl _)
    obtain ⟨bb, hb⟩ : ∃ bb, go [(1, -1, 0)] = bb := ⟨_, rfl⟩
    rw [hb] at hc
    have HC := Lib.hid hc
    have HW := Lib.hid hw
    clear hc hb hw hs hi hws hl
    by_cases h1 : N < 0
    · go_enter Try.func36, Try.ntmps36
      go_wp2_with fail
      refine HC.out.mono ?_
      rintro e w2 ⟨rfl, hy, hn, _⟩
      have HY := Lib.hid (And.intro hy hn)
      clear hy hn
      go_wp2
      refine bodyPost_ret (results_none rfl _ _ _) rfl ?_
      cases bb
      · exact ⟨rfl, HY.out.2 rfl⟩
      · have := HY.out.1 rfl
        exact ⟨rfl, _, .inl ⟨HW.out.symm, this.all⟩, this.inv, this.chg⟩
    by_cases h2 : 4096 < N
    · go_enter Try.func36, Try.ntmps36
      go_wp2_with fail
      refine HC.out.mono ?_
      rintro e w2 ⟨rfl, hy, hn, _⟩
      have HY := Lib.hid (And.intro hy hn)
      clear hy hn
      go_wp2
      refine bodyPost_ret (results_none rfl _ _ _) rfl ?_
      cases bb
      · exact ⟨rfl, HY.out.2 rfl⟩
      · have := HY.out.1 rfl
        exact ⟨rfl, _, .inl ⟨HW.out.symm, this.all⟩, this.inv, this.chg⟩
    have h3 : (8192 : Int) < n := by omega
    go_enter Try.func36, Try.ntmps36
    go_wp2_with fail
    refine HC.out.mono ?_
    rintro e w2 ⟨rfl, hy, hn, _⟩
    have HY := Lib.hid (And.intro hy hn)
    clear hy hn
    go_wp2
    refine bodyPost_ret (results_none rfl _ _ _) rfl ?_
    cases bb
    · exact ⟨rfl, HY.out.2 rfl⟩
    · have := HY.out.1 rfl
      exact ⟨rfl, _, .inl ⟨HW.out.symm, this.all⟩, this.inv, this.chg⟩
  have HW := Lib.hid (show ws = idxP 1 (fun t => decide (badT N t)) tl n by rw [hws, indexW, if_neg (by rw [hl]; exact hr), ← hl, idxP_all])
  have r0 : ¬ N < 0 := by omega
  have r1 : ¬ 4096 < N := by omega
  have r2 : ¬ (8192 : Int) < n := by omega
  clear hs hi hws hl hr
  go_enter Try.func36, Try.ntmps36
  go_wp2_with fail
  go_loopw [39] (TriAt S Inv go (idxP 1 (fun t => decide (badT N t)) tl) n w) (fun i _ => n - (intOf i).toNat)
  case atStart => exact ⟨0, Nat.zero_le _, rfl, HI.out, AllGo.nil _, Chg.refl _ _⟩
  case round =>
    obtain ⟨k, hk, rfl, hst⟩ := hrel
    have HR := Lib.hid hst
    clear hst
    by_cases hlt : k < n
    · have b1 : (k : Int) < n := by omega
      obtain ⟨b, off, rfl, hat⟩ := (HS.out.chg HR.out.chg).t3.2 (by omega)
      obtain ⟨c0, c1', c2⟩ := hat k hlt
      clear hat
      obtain ⟨x, hx⟩ : ∃ x, tl.getD k z3 = x := ⟨_, rfl⟩
      rw [hx] at c0 c1' c2
      have HX := Lib.hid hx
      clear hx
      obtain ⟨x0, x1, x2⟩ := x
      obtain ⟨w1, hw1⟩ : ∃ w1, wr.alloc (.cells #[.int .i64 x0, .int .i64 x1, .int .i64 x2] 41) = w1 := ⟨_, rfl⟩
      have b1' : Below wr.heap.size wr w1 := by rw [← hw1]; exact (Below.refl _ wr).alloc (Nat.le_refl _) _
      obtain ⟨q, hq⟩ : ∃ q, wr.heap.size = q := ⟨_, rfl⟩
      have q0 : w1.heap[q]? = some (.cells #[.int .i64 x0, .int .i64 x1, .int .i64 x2] 41 (0, 0)) := by rw [← hw1, ← hq]; exact heap_alloc_new wr _
      have q1 := cell_in q0 0
      have q2 := cell_in q0 1
      have q3 := cell_in q0 2
      simp only [List.getElem?_toArray, List.getElem?_cons_zero, List.getElem?_cons_succ] at q1 q2 q3
      have R1 := Lib.hid (HR.out.below H b1')
      clear b1' q0
      have e0 := (HS.out.chg R1.out.chg).c0
      obtain ⟨mn, hmn⟩ : ∃ mn, (if x2 < (if x1 < x0 then x1 else x0) then x2 else (if x1 < x0 then x1 else x0)) = mn := ⟨_, rfl⟩
      obtain ⟨mx, hmx⟩ : ∃ mx, (if x2 > (if x1 > x0 then x1 else x0) then x2 else (if x1 > x0 then x1 else x0)) = mx := ⟨_, rfl⟩
      have rmn := fun W => run_min_int3 (P := Try.prog) W #[3, 3, 3] 3 .i64 .i64 .i64 x0 x1 x2
      have rmx := fun W => run_max_int3 (P := Try.prog) W #[3, 3, 3] 3 .i64 .i64 .i64 x0 x1 x2
      rw [hmn] at rmn
      rw [hmx] at rmx
      have m0 : mn < 0 ↔ x0 < 0 ∨ x1 < 0 ∨ x2 < 0 := by rw [← hmn]; split <;> split at * <;> omega
      have m1 : N ≤ mx ↔ N ≤ x0 ∨ N ≤ x1 ∨ N ≤ x2 := by rw [← hmx]; split <;> split at * <;> omega
      have M := Lib.hid (And.intro m0 m1)
      clear hmn hmx m0 m1
      by_cases h0 : mn < 0
      · have HT := Lib.hid (show badT N (x0, x1, x2) from bad_cases.2 (.inl (M.out.1.1 h0)))
        have d1 : decide (mn < 0) = true := by simp [h0]
        have e1 : idxP 1 (fun t => decide (badT N t)) tl (k + 1) = idxP 1 (fun t => decide (badT N t)) tl k ++ [(1, (k : Int), 0)] := idxP_yes (by rw [HX.out]; exact decide_eq_true HT.out)
        have hc := fun (W : World) (hW : Reading w1 W) => (R1.out.below H hW.below).hand H e1 (by rw [HW.out]; exact idxP_pre _ _ _ (by omega))
        obtain ⟨bb, hb⟩ : ∃ bb, go (idxP 1 (fun t => decide (badT N t)) tl (k + 1)) = bb := ⟨_, rfl⟩
        simp only [hb] at hc
        have HC := Lib.hid hc
        clear hc hb e1
        go_wp2_with fail
        go_quiet (fail)
        go_wp2_with fail
        refine (HC.out _ ⟨_, rfl⟩).mono ?_
        rintro e w2 ⟨rfl, hy, hn, _⟩
        have HY := Lib.hid (And.intro hy hn)
        clear hy hn
        cases bb
        · go_wp2_with fail
          refine bodyPost_ret (results_none rfl _ _ _) rfl ?_
          exact ⟨rfl, HY.out.2 (by trivial)⟩
        · go_wp2_with fail
          exact ⟨⟨k + 1, by omega, by go_num, HY.out.1 (by trivial)⟩, by simp [intOf]; omega⟩
      have d1 : decide (mn < 0) = false := by simp; omega
      by_cases h1 : N ≤ mx
      · have HT := Lib.hid (show badT N (x0, x1, x2) from bad_cases.2 (.inr (M.out.2.1 h1)))
        have d2 : decide (mx ≥ N) = true := by simp [h1]
        have e1 : idxP 1 (fun t => decide (badT N t)) tl (k + 1) = idxP 1 (fun t => decide (badT N t)) tl k ++ [(1, (k : Int), 0)] := idxP_yes (by rw [HX.out]; exact decide_eq_true HT.out)
        have hc := fun (W : World) (hW : Reading w1 W) => (R1.out.below H hW.below).hand H e1 (by rw [HW.out]; exact idxP_pre _ _ _ (by omega))
        obtain ⟨bb, hb⟩ : ∃ bb, go (idxP 1 (fun t => decide (badT N t)) tl (k + 1)) = bb := ⟨_, rfl⟩
        simp only [hb] at hc
        have HC := Lib.hid hc
        clear hc hb e1
        go_wp2_with fail
        go_quiet (fail)
        go_wp2_with fail
        refine (HC.out _ ⟨_, rfl⟩).mono ?_
        rintro e w2 ⟨rfl, hy, hn, _⟩
        have HY := Lib.hid (And.intro hy hn)
        clear hy hn
        cases bb
        · go_wp2_with fail
          refine bodyPost_ret (results_none rfl _ _ _) rfl ?_
          exact ⟨rfl, HY.out.2 (by trivial)⟩
        · go_wp2_with fail
          exact ⟨⟨k + 1, by omega, by go_num, HY.out.1 (by trivial)⟩, by simp [intOf]; omega⟩
      have HT := Lib.hid (show ¬ badT N (x0, x1, x2) from fun h => (bad_cases.1 h).elim (fun h => h0 (M.out.1.2 h)) (fun h => h1 (M.out.2.2 h)))
      have d2 : decide (mx ≥ N) = false := by simp; omega
      go_wp2_with fail
      go_quiet (fail)
      go_wp2_with fail
      refine ⟨⟨k + 1, by omega, by go_num, ?_⟩, by simp [intOf]; omega⟩
      rw [idxP_no (by rw [HX.out]; exact decide_eq_false HT.out)]
      exact R1.out.below H (Reading.below ⟨_, rfl⟩)
    · obtain rfl : k = n := by omega
      have b1 : ¬ (k : Int) < k := by omega
      go_wp2
      refine bodyPost_ret (results_none rfl _ _ _) rfl ?_
      exact ⟨rfl, _, .inl ⟨HW.out.symm, HR.out.all⟩, HR.out.inv, HR.out.chg⟩
end Go.Proofs.Ytelbmjbjpgcdaaa
