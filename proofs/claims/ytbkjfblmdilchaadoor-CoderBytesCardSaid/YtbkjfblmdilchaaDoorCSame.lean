/- The document's Same, Sum and Right; New of counts that are in order. -/
import Derived.Test.YtbkjfblmdilchaaDoorCFin
import Derived.Test.YtbkjfblmdilchaaDoorTabNew
namespace Go.Proofs.YtbkjfblmdilchaaDoor
open Go.RowKit

theorem Reads.byte {w : World} {A : Option Addr} {n : Nat} {l : List Nat} (h : Reads w A n (bts l)) (k : Nat) (hk : k < n) : ∃ ad, A = some ad ∧ w.cell? (ad.add k) = some (.int .u8 ((l.getD k 0 : Nat) : Int)) := by
  obtain ⟨ad, hA, hc⟩ := h.2 (by omega)
  have hl := h.1
  rw [length_bts] at hl
  exact ⟨ad, hA, hc k _ (bts_at l k (by omega))⟩
theorem Reads.lenB {w : World} {A : Option Addr} {n : Nat} {l : List Nat} (h : Reads w A n (bts l)) : l.length = n := by have := h.1; rwa [length_bts] at this

def SameAt4 (w : World) (a b : List Nat) (n : Nat) (i : Value) (wr : World) : Prop := ∃ k : Nat, k ≤ n ∧ i = .int .i64 (k : Int) ∧ a.take k = b.take k ∧ Reading w wr

theorem take_eq_succ {a b : List Nat} {k : Nat} (ha : k < a.length) (hb : k < b.length) (h : a.take k = b.take k) : a.take (k + 1) = b.take (k + 1) ↔ a.getD k 0 = b.getD k 0 := by
  rw [List.take_succ_eq_append_getElem ha, List.take_succ_eq_append_getElem hb, h, List.getD_eq_getElem?_getD, List.getD_eq_getElem?_getD, List.getElem?_eq_getElem ha, List.getElem?_eq_getElem hb]
  simp only [List.append_cancel_left_eq, List.cons.injEq, and_true, Option.getD_some]

set_option maxHeartbeats 1600000 in
set_option maxRecDepth 100000 in
theorem same4_any (w : World) (A A' : Option Addr) (n n' c c' : Nat) (a b : List Nat) (h : Reads w A n (bts a)) (h' : Reads w A' n' (bts b)) (hn : n ≤ 140737488355328) (hn' : n' ≤ 140737488355328) :
    Calls Tryd.prog 17 #[.slice A n c, .slice A' n' c'] w fun e w' => e = .returned (.bool (decide (a = b))) ∧ Reading w w' := by
  have la := h.lenB
  have lb := h'.lenB
  by_cases hl : n = n'
  · subst hl
    have HR := Lib.hid (⟨h, h', la, lb⟩ : Reads w A n (bts a) ∧ Reads w A' n (bts b) ∧ a.length = n ∧ b.length = n)
    clear h h' la lb
    go_enter Tryd.func17, Tryd.ntmps17
    go_wp2_with fail
    go_loopw [5] (SameAt4 w a b n) (fun i _ => n - (intOf i).toNat)
    case atStart => exact ⟨0, Nat.zero_le _, rfl, by simp, Reading.refl w⟩
    case round =>
      obtain ⟨k, hk, rfl, ht, hr⟩ := hrel
      by_cases hlt : k < n
      · obtain ⟨ad, rfl, d1⟩ := (HR.out.1.read hr).byte k hlt
        obtain ⟨ad', rfl, d2⟩ := (HR.out.2.1.read hr).byte k hlt
        have HT := Lib.hid (take_eq_succ (by rw [HR.out.2.2.1]; exact hlt) (by rw [HR.out.2.2.2]; exact hlt) ht)
        generalize hx : a.getD k 0 = x at *
        generalize hy : b.getD k 0 = y at *
        have HX := Lib.hid (⟨hx, hy, hr, ht⟩ : a.getD k 0 = x ∧ b.getD k 0 = y ∧ Reading w wr ∧ a.take k = b.take k)
        have b1 : (k : Int) < n := by omega
        clear hx hy hr ht
        by_cases hxy : x = y
        · have HT2 := Lib.hid (HT.out.2 hxy)
          subst hxy
          have t : ((x : Int) != (x : Int)) = false := by simp
          go_wp2_with fail
          go_quiet (fail)
          go_wp2
          exact ⟨⟨k + 1, by omega, by go_num, HT2.out, HX.out.2.2.1.trans ⟨_, rfl⟩⟩, by simp [intOf]; omega⟩
        · have t : ((x : Int) != (y : Int)) = true := by simp; omega
          have hne : decide (a = b) = false := by
            rw [decide_eq_false_iff_not]
            intro e
            have h1 := HX.out.1
            rw [e, HX.out.2.1] at h1
            exact hxy h1.symm
          have HNE := Lib.hid hne
          clear hne
          go_wp2_with fail
          go_quiet (fail)
          go_wp2
          go_ret
          exact ⟨by rw [HNE.out]; rfl, HX.out.2.2.1.trans ⟨_, rfl⟩⟩
      · have hkn : k = n := by omega
        have hne : decide (a = b) = true := by
          rw [decide_eq_true_iff]
          rw [hkn, List.take_of_length_le (by rw [HR.out.2.2.1]; exact Nat.le_refl _), List.take_of_length_le (by rw [HR.out.2.2.2]; exact Nat.le_refl _)] at ht
          exact ht
        have HNE := Lib.hid hne
        have HX := Lib.hid hr
        have b1 : ¬ (k : Int) < n := by omega
        clear hr ht hkn hne
        go_wp2
        go_ret
        exact ⟨by rw [HNE.out]; rfl, HX.out⟩
  · have hne : decide (a = b) = false := by
      rw [decide_eq_false_iff_not]
      intro e
      rw [e] at la
      omega
    rw [hne]
    have t : ((n : Int) != (n' : Int)) = true := by simp; omega
    clear h h' la lb
    go_enter Tryd.func17, Tryd.ntmps17
    go_wp2
    go_ret
    exact ⟨rfl, Reading.refl w⟩

def SumAt (l : List Int) (m : Nat) (s i : Value) : Prop := ∃ k : Nat, k ≤ m ∧ i = .int .i64 (k : Int) ∧ s = .int .i64 (low l k)

set_option maxHeartbeats 1600000 in
set_option maxRecDepth 100000 in
theorem sum4_any (w : World) (A : Option Addr) (n c : Nat) (l : List Int) (m : Nat) (h : Reads w A n (ints l)) (hm : m ≤ n) (hn : n ≤ 256) (hb : ∀ x ∈ l, 1 ≤ x ∧ x ≤ 65536) :
    Calls Tryd.prog 33 #[.slice A n c, .int .i64 (m : Int)] w fun e w' => e = .returned (.int .i64 (low l m)) ∧ Reading w w' := by
  have hll := h.len
  have HB := Lib.hid (show ∀ k, k ≤ l.length → 0 ≤ low l k ∧ low l k ≤ 65536 * k by
    intro k hk
    induction k with
    | zero => rw [low_zero]; omega
    | succ k ih =>
      have h1 := ih (by omega)
      have h2 : 1 ≤ l.getD k 0 ∧ l.getD k 0 ≤ 65536 := by
        have := hb l[k] (List.getElem_mem (by omega))
        simpa [List.getElem?_eq_getElem (by omega : k < l.length)] using this
      rw [low_succ]
      omega)
  have HR := Lib.hid (⟨h, hll⟩ : Reads w A n (ints l) ∧ l.length = n)
  clear h hll hb
  go_enter Tryd.func33, Tryd.ntmps33
  go_wp2_with fail
  go_loop [5, 6] (SumAt l m) (fun _ i => m - (intOf i).toNat)
  case atStart => exact ⟨0, Nat.zero_le _, rfl, by rw [low_zero]⟩
  case round =>
    obtain ⟨k, hk, rfl, rfl⟩ := hrel
    by_cases hlt : k < m
    · obtain ⟨ad, rfl, d1⟩ := HR.out.1.int k (by omega)
      have b1 := HB.out k (by have := HR.out.2; omega)
      have b2 := HB.out (k + 1) (by have := HR.out.2; omega)
      have hs := low_succ l k
      generalize l.getD k 0 = x at *
      have HS := Lib.hid hs
      rw [hs] at b2
      clear hs
      generalize hA : low l k = a at *
      have HA := Lib.hid hA
      clear hA
      have t1 : (k : Int) < m := by omega
      have t2 : (k : Int) < n := by omega
      have e1 : IntKind.i64.wrap (a + x) = a + x := IntWalk.i64_in _ (by omega)
      go_wp2_with fail
      refine ⟨⟨k + 1, by omega, by go_num, ?_⟩, by simp [intOf]; omega⟩
      rw [HS.out]
    · obtain rfl : k = m := by omega
      have t1 : ¬ (k : Int) < k := by omega
      go_wp2
      go_ret
      exact ⟨rfl, Reading.refl w⟩
end Go.Proofs.YtbkjfblmdilchaaDoor
