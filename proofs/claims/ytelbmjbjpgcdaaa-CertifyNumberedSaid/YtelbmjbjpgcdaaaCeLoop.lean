/- Layer 9: the examiner of the kind Loop. -/
import Derived.Test.YtelbmjbjpgcdaaaCeSeen
import Derived.Deep.RegionHeld3
namespace Go.Proofs.Ytelbmjbjpgcdaaa
open Go.RowKit

set_option maxHeartbeats 4000000 in
set_option maxRecDepth 100000 in
theorem cloop_any {f : FuncId} {caps : List Value} {ws : List Wt} {go : List Wt → Bool} {S : Nat → Prop} {Inv : List Wt → World → Prop} (H : Taker f caps ws go S Inv) (w : World) (g : Nat) (N : Int) (A : Option Addr) (n c : Nat) (m : Option Nat) (tl : List Tr) (hs : Seen S g N A n c m tl w) (hi : Inv [] w)
    (hws : ws = idxW 2 (fun t => decide (loopT t)) tl) (hn : n ≤ 1000000) : Calls Try.prog 37 #[.pointer (some ⟨g, 0, none⟩), .func (.func f) #[] caps.toArray] w (Ended ws go S Inv w) := by
  have HS := Lib.hid hs
  have HI := Lib.hid hi
  have hl := hs.t3.1
  have HW := Lib.hid (show ws = idxP 2 (fun t => decide (loopT t)) tl n by rw [hws, ← hl, idxP_all])
  have c1 := hs.c1
  have hen := H.enter
  clear hs hi hws hl
  go_enter Try.func37, Try.ntmps37
  go_wp2_with fail
  go_loopw [13] (TriAt S Inv go (idxP 2 (fun t => decide (loopT t)) tl) n w) (fun i _ => n - (intOf i).toNat)
  case atStart => exact ⟨0, Nat.zero_le _, rfl, HI.out, AllGo.nil _, Chg.refl _ _⟩
  case round =>
    obtain ⟨k, hk, rfl, hst⟩ := hrel
    have HR := Lib.hid hst
    clear hst
    by_cases hlt : k < n
    · have b1 : (k : Int) < n := by omega
      obtain ⟨b, off, rfl, hat⟩ := (HS.out.chg HR.out.chg).t3.2 (by omega)
      obtain ⟨c0, c1', c2⟩ := hat k hlt
      clear hat
      obtain ⟨x, hx⟩ : ∃ x, tl.getD k z3 = x := ⟨_, rfl⟩
      rw [hx] at c0 c1' c2
      have HX := Lib.hid hx
      clear hx
      obtain ⟨x0, x1, x2⟩ := x
      obtain ⟨w1, hw1⟩ : ∃ w1, wr.alloc (.cells #[.int .i64 x0, .int .i64 x1, .int .i64 x2] 41) = w1 := ⟨_, rfl⟩
      have b1' : Below wr.heap.size wr w1 := by rw [← hw1]; exact (Below.refl _ wr).alloc (Nat.le_refl _) _
      obtain ⟨q, hq⟩ : ∃ q, wr.heap.size = q := ⟨_, rfl⟩
      have q0 : w1.heap[q]? = some (.cells #[.int .i64 x0, .int .i64 x1, .int .i64 x2] 41 (0, 0)) := by rw [← hw1, ← hq]; exact heap_alloc_new wr _
      have q1 := cell_in q0 0
      have q2 := cell_in q0 1
      have q3 := cell_in q0 2
      simp only [List.getElem?_toArray, List.getElem?_cons_zero, List.getElem?_cons_succ] at q1 q2 q3
      have R1 := Lib.hid (HR.out.below H b1')
      clear b1' q0
      by_cases h0 : x0 = x1
      · have HT := Lib.hid (show loopT (x0, x1, x2) from .inl h0)
        subst h0
        have e1 : idxP 2 (fun t => decide (loopT t)) tl (k + 1) = idxP 2 (fun t => decide (loopT t)) tl k ++ [(2, (k : Int), 0)] := idxP_yes (by rw [HX.out]; exact decide_eq_true HT.out)
        have hc := R1.out.hand H e1 (by rw [HW.out]; exact idxP_pre _ _ _ (by omega))
        obtain ⟨bb, hb⟩ : ∃ bb, go (idxP 2 (fun t => decide (loopT t)) tl (k + 1)) = bb := ⟨_, rfl⟩
        rw [hb] at hc
        have HC := Lib.hid hc
        clear hc hb e1
        go_wp2_with fail
        refine HC.out.mono ?_
        rintro e w2 ⟨rfl, hy, hn, _⟩
        have HY := Lib.hid (And.intro hy hn)
        clear hy hn
        cases bb
        · go_wp2_with fail
          refine bodyPost_ret (results_none rfl _ _ _) rfl ?_
          exact ⟨rfl, HY.out.2 (by trivial)⟩
        · go_wp2_with fail
          exact ⟨⟨k + 1, by omega, by go_num, HY.out.1 (by trivial)⟩, by simp [intOf]; omega⟩
      by_cases h1 : x1 = x2
      · have HT := Lib.hid (show loopT (x0, x1, x2) from .inr (.inl h1))
        subst h1
        have e1 : idxP 2 (fun t => decide (loopT t)) tl (k + 1) = idxP 2 (fun t => decide (loopT t)) tl k ++ [(2, (k : Int), 0)] := idxP_yes (by rw [HX.out]; exact decide_eq_true HT.out)
        have hc := R1.out.hand H e1 (by rw [HW.out]; exact idxP_pre _ _ _ (by omega))
        obtain ⟨bb, hb⟩ : ∃ bb, go (idxP 2 (fun t => decide (loopT t)) tl (k + 1)) = bb := ⟨_, rfl⟩
        rw [hb] at hc
        have HC := Lib.hid hc
        clear hc hb e1
        go_wp2_with fail
        refine HC.out.mono ?_
        rintro e w2 ⟨rfl, hy, hn, _⟩
        have HY := Lib.hid (And.intro hy hn)
        clear hy hn
        cases bb
        · go_wp2_with fail
          refine bodyPost_ret (results_none rfl _ _ _) rfl ?_
          exact ⟨rfl, HY.out.2 (by trivial)⟩
        · go_wp2_with fail
          exact ⟨⟨k + 1, by omega, by go_num, HY.out.1 (by trivial)⟩, by simp [intOf]; omega⟩
      by_cases h2 : x2 = x0
      · have HT := Lib.hid (show loopT (x0, x1, x2) from .inr (.inr h2))
        subst h2
        have e1 : idxP 2 (fun t => decide (loopT t)) tl (k + 1) = idxP 2 (fun t => decide (loopT t)) tl k ++ [(2, (k : Int), 0)] := idxP_yes (by rw [HX.out]; exact decide_eq_true HT.out)
        have hc := R1.out.hand H e1 (by rw [HW.out]; exact idxP_pre _ _ _ (by omega))
        obtain ⟨bb, hb⟩ : ∃ bb, go (idxP 2 (fun t => decide (loopT t)) tl (k + 1)) = bb := ⟨_, rfl⟩
        rw [hb] at hc
        have HC := Lib.hid hc
        clear hc hb e1
        go_wp2_with fail
        refine HC.out.mono ?_
        rintro e w2 ⟨rfl, hy, hn, _⟩
        have HY := Lib.hid (And.intro hy hn)
        clear hy hn
        cases bb
        · go_wp2_with fail
          refine bodyPost_ret (results_none rfl _ _ _) rfl ?_
          exact ⟨rfl, HY.out.2 (by trivial)⟩
        · go_wp2_with fail
          exact ⟨⟨k + 1, by omega, by go_num, HY.out.1 (by trivial)⟩, by simp [intOf]; omega⟩
      have HT := Lib.hid (show ¬ loopT (x0, x1, x2) from fun h => h.elim h0 fun h => h.elim h1 h2)
      go_wp2_with fail
      refine ⟨⟨k + 1, by omega, by go_num, ?_⟩, by simp [intOf]; omega⟩
      rw [idxP_no (by rw [HX.out]; exact decide_eq_false HT.out)]
      exact R1.out
    · obtain rfl : k = n := by omega
      have b1 : ¬ (k : Int) < k := by omega
      go_wp2
      refine bodyPost_ret (results_none rfl _ _ _) rfl ?_
      exact ⟨rfl, _, .inl ⟨HW.out.symm, HR.out.all⟩, HR.out.inv, HR.out.chg⟩
end Go.Proofs.Ytelbmjbjpgcdaaa
