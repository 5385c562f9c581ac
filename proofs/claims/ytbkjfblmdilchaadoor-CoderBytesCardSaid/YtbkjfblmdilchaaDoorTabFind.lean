/- Find: the symbol of a number, by halving; or none. -/
import Derived.Test.YtbkjfblmdilchaaDoorTabIs
namespace Go.Proofs.YtbkjfblmdilchaaDoor
open Go.RowKit

set_option maxHeartbeats 1000000 in
set_option maxRecDepth 100000 in
theorem clo_any (w : World) (bt bx g q cap : Nat) (c : List Int) (x : Int) (k : Nat) (h : TIs w g q cap c) (hk : k < c.length)
    (h1 : w.cell? ⟨bt, 0, none⟩ = some (.pointer (some ⟨g, 0, none⟩))) (h2 : w.cell? ⟨bx, 0, none⟩ = some (.int .i64 x)) :
    Calls Tryd.prog 56 #[.int .i64 (k : Int), .pointer (some ⟨bt, 0, none⟩), .pointer (some ⟨bx, 0, none⟩)] w fun e w' => e = .returned (.bool (decide (x < low c (k + 1)))) ∧ Reading w w' := by
  have c0 := h.head
  have ck := h.at k hk
  have e1 : (k : Int) < c.length := by omega
  clear h
  generalize low c (k + 1) = s at *
  generalize c.length = n at *
  go_enter Tryd.func56, Tryd.ntmps56
  go_wp2
  go_quiet (fail)
  go_wp2
  go_ret
  exact ⟨rfl, _, rfl⟩

def SearchAt (w : World) (n k : Nat) (i j : Value) (wr : World) : Prop := ∃ lo hi : Nat, i = .int .i64 (lo : Int) ∧ j = .int .i64 (hi : Int) ∧ lo ≤ k ∧ k ≤ hi ∧ hi ≤ n ∧ Reading w wr

set_option maxHeartbeats 2000000 in
set_option maxRecDepth 100000 in
theorem search_any (w : World) (n : Nat) (a b : Value) (p : Nat → Bool) (k : Nat) (hn : n ≤ 1000000) (hk : k ≤ n) (hlo : ∀ t, t < k → p t = false) (hhi : ∀ t, k ≤ t → t < n → p t = true)
    (hf : ∀ w1, Reading w w1 → ∀ i : Nat, i < n → Calls Tryd.prog 56 #[.int .i64 (i : Int), a, b] w1 fun e w' => e = .returned (.bool (p i)) ∧ Reading w1 w') :
    Calls Tryd.prog 55 #[.int .i64 (n : Int), .func (.func 56) #[] #[a, b]] w fun e w' => e = .returned (.int .i64 (k : Int)) ∧ Reading w w' := by
  have HF := Lib.hid hf
  have H1 := Lib.hid hlo
  have H2 := Lib.hid hhi
  clear hf hlo hhi
  go_enter Tryd.func55, Tryd.ntmps55
  go_wp2_with fail
  go_loopw [5, 6] (SearchAt w n k) (fun i j _ => (intOf j).toNat - (intOf i).toNat)
  case atStart => exact ⟨0, n, rfl, rfl, Nat.zero_le _, hk, Nat.le_refl _, 0, rfl⟩
  case round =>
    obtain ⟨lo, hi, rfl, rfl, h1, h2, h3, hr⟩ := hrel
    by_cases hlt : lo < hi
    · have hc := HF.out wr hr ((lo + hi) / 2) (by omega)
      have HR := Lib.hid hr
      clear hr
      have hltz : (lo : Int) < hi := by omega
      rw [show (((lo + hi) / 2 : Nat) : Int) = ((lo : Int) + (hi : Int)) / 2 by omega] at hc
      cases hp : p ((lo + hi) / 2) <;> rw [hp] at hc
      · have hmid : (lo + hi) / 2 < k := by
          rcases Nat.lt_or_ge ((lo + hi) / 2) k with h | h
          · exact h
          · have := H2.out _ h (by omega); rw [hp] at this; cases this
        have HC := Lib.hid hc
        clear hp hc
        go_wp2_with fail
        refine HC.out.mono ?_
        rintro e w1 ⟨rfl, b1⟩
        have B1 := Lib.hid b1
        clear b1
        go_wp2_with fail
        refine ⟨⟨(lo + hi) / 2 + 1, hi, by rw [show ((lo : Int) + (hi : Int)) / 2 + 1 = (((lo + hi) / 2 + 1 : Nat) : Int) by omega], rfl, by omega, h2, h3, HR.out.trans B1.out⟩, ?_⟩
        simp [intOf]; omega
      · have hmid : k ≤ (lo + hi) / 2 := by
          rcases Nat.lt_or_ge ((lo + hi) / 2) k with h | h
          · have := H1.out _ h; rw [hp] at this; cases this
          · exact h
        have HC := Lib.hid hc
        clear hp hc
        go_wp2_with fail
        refine HC.out.mono ?_
        rintro e w1 ⟨rfl, b1⟩
        have B1 := Lib.hid b1
        clear b1
        go_wp2_with fail
        refine ⟨⟨lo, (lo + hi) / 2, rfl, by rw [show ((lo : Int) + (hi : Int)) / 2 = (((lo + hi) / 2 : Nat) : Int) by omega], h1, hmid, by omega, HR.out.trans B1.out⟩, ?_⟩
        simp [intOf]; omega
    · obtain rfl : hi = lo := by omega
      obtain rfl : hi = k := by omega
      have HR := Lib.hid hr
      clear hr
      have hnl : ¬ (hi : Int) < hi := by omega
      go_wp2
      go_ret
      exact ⟨rfl, HR.out⟩

theorem two_boxes (w : World) (a b : Value) (t u : TypeId) :
    Below w.heap.size w ((w.alloc (.cells #[a] t)).alloc (.cells #[b] u)) ∧ ((w.alloc (.cells #[a] t)).alloc (.cells #[b] u)).cell? ⟨w.heap.size, 0, none⟩ = some a ∧ ((w.alloc (.cells #[a] t)).alloc (.cells #[b] u)).cell? ⟨w.heap.size + 1, 0, none⟩ = some b := by
  have h1 : (w.alloc (.cells #[a] t)).heap[w.heap.size]? = some (.cells #[a] t (0, 0)) := heap_alloc_new _ _
  have h2 : ((w.alloc (.cells #[a] t)).alloc (.cells #[b] u)).heap[w.heap.size + 1]? = some (.cells #[b] u (0, 0)) := by
    have := heap_alloc_new (w.alloc (.cells #[a] t)) (.cells #[b] u)
    simpa using this
  refine ⟨((Below.refl _ _).alloc (Nat.le_refl _) _).alloc (by simp) _, ?_, ?_⟩
  · rw [cell_in (cs := #[a]) (t := t)]
    · rfl
    · rw [Below.heap_alloc _ _ _ (heap_lt h1)]; exact h1
  · rw [cell_in h2]; rfl

/-- x is not below the total, or negative. -/
theorem find_out (w : World) (g q cap : Nat) (c : List Int) (x : Int) (h : TIs w g q cap c) (ok : Ok c) (hx : x < 0 ∨ c.sum ≤ x) :
    Calls Tryd.prog 42 #[.pointer (some ⟨g, 0, none⟩), .int .i64 x] w fun e w' => e = .returned (.tuple #[.int .i64 0, .bool false]) ∧ Below w.heap.size w w' := by
  obtain ⟨b0, k1, k2⟩ := two_boxes w (.pointer (some ⟨g, 0, none⟩)) (.int .i64 x) 33 3
  have T0 := h.below b0
  have KT := Lib.hid (fun m => total_any _ g q cap c (T0.read ⟨m, rfl⟩) ok.pos ok.few)
  have B0 := Lib.hid b0
  clear T0 b0 h ok
  generalize c.sum = s at *
  by_cases h0 : x < 0
  · have d0 : decide (x < 0) = true := by simpa using h0
    clear hx
    go_enter Tryd.func42, Tryd.ntmps42
    go_wp2_with fail
    go_quiet (fail)
    go_wp2
    go_ret2
    exact ⟨rfl, B0.out.trans (Reading.below ⟨_, rfl⟩)⟩
  · have hx : s ≤ x := by omega
    have d0 : decide (x < 0) = false := by simpa using h0
    have d1 : decide (s ≤ x) = true := by simpa using hx
    go_enter Tryd.func42, Tryd.ntmps42
    go_wp2_with fail
    go_quiet ((go_at_call 41; exact Calls.quiet_of (KT.out _)))
    go_wp2
    go_ret2
    exact ⟨rfl, B0.out.trans (Reading.below ⟨_, rfl⟩)⟩

theorem find_nil (w : World) : Calls Tryd.prog 42 #[.pointer none, .int .i64 0] w fun e w' => e = .returned (.tuple #[.int .i64 0, .bool false]) ∧ Below w.heap.size w w' := by
  obtain ⟨b0, k1, k2⟩ := two_boxes w (.pointer none) (.int .i64 0) 33 3
  have KT := Lib.hid (fun m => total_nil (((w.alloc (.cells #[.pointer none] 33)).alloc (.cells #[.int .i64 0] 3)).drewN m))
  have B0 := Lib.hid b0
  clear b0
  go_enter Tryd.func42, Tryd.ntmps42
  go_wp2_with fail
  go_quiet ((go_at_call 41; exact Calls.quiet_of (KT.out _)))
  go_wp2
  go_ret2
  exact ⟨rfl, B0.out.trans (Reading.below ⟨_, rfl⟩)⟩

theorem find_ok (w : World) (g q cap : Nat) (c : List Int) (x : Int) (k : Nat) (h : TIs w g q cap c) (ok : Ok c) (hk : k < c.length) (h1 : low c k ≤ x) (h2 : x < low c (k + 1)) :
    Calls Tryd.prog 42 #[.pointer (some ⟨g, 0, none⟩), .int .i64 x] w fun e w' => e = .returned (.tuple #[.int .i64 (k : Int), .bool true]) ∧ Below w.heap.size w w' := by
  obtain ⟨b0, k1, k2⟩ := two_boxes w (.pointer (some ⟨g, 0, none⟩)) (.int .i64 x) 33 3
  have T0 := h.below b0
  have KT := Lib.hid (fun m => total_any _ g q cap c (T0.read ⟨m, rfl⟩) ok.pos ok.few)
  have B0 := Lib.hid b0
  have hlo : ∀ t, t < k → decide (x < low c (t + 1)) = false := fun t ht => by
    have := low_le ok.zero (t + 1) k (by omega)
    simp; omega
  have hhi : ∀ t, k ≤ t → t < c.length → decide (x < low c (t + 1)) = true := fun t ht _ => by
    have := low_le ok.zero (k + 1) (t + 1) (by omega)
    simp; omega
  have d0 : decide (x < 0) = false := by
    have := low_nonneg ok.zero k
    simp; omega
  have d1 : decide (c.sum ≤ x) = false := by
    have := low_sum ok.zero (k + 1)
    simp; omega
  have KS := Lib.hid (fun W (b : Reading _ W) => search_any W c.length (.pointer (some ⟨w.heap.size, 0, none⟩)) (.pointer (some ⟨w.heap.size + 1, 0, none⟩)) (fun t => decide (x < low c (t + 1))) k (by have := ok.few; omega) (by omega) hlo hhi
    (fun w1 b1 i hi => clo_any w1 w.heap.size (w.heap.size + 1) g q cap c x i (T0.read (b.trans b1)) hi
      (by obtain ⟨m, rfl⟩ := b.trans b1; exact k1) (by obtain ⟨m, rfl⟩ := b.trans b1; exact k2)))
  have H0 := Lib.hid (fun W (b : Reading _ W) => (T0.read b).head)
  have K1 := Lib.hid (fun W (b : Reading ((w.alloc (.cells #[.pointer (some ⟨g, 0, none⟩)] 33)).alloc (.cells #[.int .i64 x] 3)) W) => show W.cell? ⟨w.heap.size, 0, none⟩ = some (.pointer (some ⟨g, 0, none⟩)) by obtain ⟨m, rfl⟩ := b; exact k1)
  clear T0 b0 h ok hlo hhi h1 h2
  generalize c.sum = s at *
  generalize c.length = n at *
  go_enter Tryd.func42, Tryd.ntmps42
  go_wp2_with fail
  go_quiet ((go_at_call 41; exact Calls.quiet_of (KT.out _)))
  have d2 := H0.out (((w.alloc (.cells #[.pointer (some ⟨g, 0, none⟩)] 33)).alloc (.cells #[.int .i64 x] 3)).drewN nq) ⟨nq, rfl⟩
  have d3 := K1.out (((w.alloc (.cells #[.pointer (some ⟨g, 0, none⟩)] 33)).alloc (.cells #[.int .i64 x] 3)).drewN nq) ⟨nq, rfl⟩
  have KS1 := Lib.hid (KS.out (((w.alloc (.cells #[.pointer (some ⟨g, 0, none⟩)] 33)).alloc (.cells #[.int .i64 x] 3)).drewN nq) ⟨nq, rfl⟩)
  have B1 := Lib.hid (B0.out.trans (Reading.below (B := w.heap.size) (w' := (((w.alloc (.cells #[.pointer (some ⟨g, 0, none⟩)] 33)).alloc (.cells #[.int .i64 x] 3)).drewN nq)) ⟨nq, rfl⟩))
  generalize (((w.alloc (.cells #[.pointer (some ⟨g, 0, none⟩)] 33)).alloc (.cells #[.int .i64 x] 3)).drewN nq) = W at *
  have hmf : ∀ (fn : Fn) (first cap : Array Value) (w : World), (Instr.makeFunc fn first cap).run Tryd.prog w = .ok (.func fn first cap) w := fun _ _ _ _ => rfl
  go_wp2_with fail
  refine KS1.out.mono ?_
  rintro e w1 ⟨rfl, b1⟩
  have B2 := Lib.hid (B1.out.trans b1.below)
  clear b1
  go_wp2
  go_ret2
  exact ⟨rfl, B2.out⟩
end Go.Proofs.YtbkjfblmdilchaaDoor
