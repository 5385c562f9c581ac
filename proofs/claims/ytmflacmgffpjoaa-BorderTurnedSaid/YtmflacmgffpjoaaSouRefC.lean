/- The document's answers for layer 8: a list of numbers each once. -/
import Derived.Test.YtmflacmgffpjoaaGM
import Derived.Deep.RegionHeld3
namespace Go.Proofs.Ytmflacmgffpjoaa
open Go.RowKit

theorem ind_sum (m : Nat) (x : Int) : ((List.range m).map (fun (v : Nat) => if x = (v : Int) then (1 : Nat) else 0)).sum = if 0 ≤ x ∧ x < m then 1 else 0 := by
  induction m with
  | zero =>
    have h0 : ¬ (0 ≤ x ∧ x < ((0 : Nat) : Int)) := by omega
    rw [if_neg h0]; rfl
  | succ m ih =>
    rw [List.range_succ, List.map_append, List.sum_append, ih]
    simp only [List.map_cons, List.map_nil, List.sum_cons, List.sum_nil]
    by_cases h1 : x = (m : Int)
    · have a : ¬ (0 ≤ x ∧ x < (m : Int)) := by omega
      have b : 0 ≤ x ∧ x < ((m + 1 : Nat) : Int) := by omega
      rw [if_neg a, if_pos h1, if_pos b]; rfl
    · by_cases h2 : 0 ≤ x ∧ x < (m : Int)
      · have b : 0 ≤ x ∧ x < ((m + 1 : Nat) : Int) := by omega
        rw [if_pos h2, if_neg h1, if_pos b]; rfl
      · have b : ¬ (0 ≤ x ∧ x < ((m + 1 : Nat) : Int)) := by omega
        rw [if_neg h2, if_neg h1, if_neg b]; rfl
theorem sum_add (l : List Nat) (f g : Nat → Nat) : (l.map (fun v => f v + g v)).sum = (l.map f).sum + (l.map g).sum := by
  induction l with
  | nil => rfl
  | cons a l ih => simp only [List.map_cons, List.sum_cons, ih]; omega
theorem sum_count (m : Nat) (to : List Int) : ((List.range m).map (fun (v : Nat) => to.count (v : Int))).sum = to.countP (fun x => decide (0 ≤ x ∧ x < (m : Int))) := by
  induction to with
  | nil =>
    have : ∀ l : List Nat, (l.map (fun _ => 0)).sum = 0 := by
      intro l
      induction l with
      | nil => rfl
      | cons a l ih => rw [List.map_cons, List.sum_cons, ih]
    exact this (List.range m)
  | cons x to ih =>
    have e : (List.range m).map (fun (v : Nat) => (x :: to).count (v : Int)) = (List.range m).map (fun (v : Nat) => to.count (v : Int) + (if x = (v : Int) then 1 else 0)) := by
      refine List.map_congr_left fun v _ => ?_
      rw [List.count_cons]
      simp
    rw [e, sum_add (List.range m) (fun (v : Nat) => to.count (v : Int)) (fun (v : Nat) => if x = (v : Int) then 1 else 0), ih, ind_sum, List.countP_cons]
    simp
theorem all_ones (m : Nat) (f : Nat → Nat) (h : ∀ v, v < m → f v ≤ 1) (hs : ((List.range m).map f).sum = m) : ∀ v, v < m → f v = 1 := by
  induction m with
  | zero => intro v hv; omega
  | succ m ih =>
    rw [List.range_succ, List.map_append, List.sum_append] at hs
    simp only [List.map_cons, List.map_nil, List.sum_cons, List.sum_nil] at hs
    have hle : ∀ k, (∀ v, v < k → f v ≤ 1) → ((List.range k).map f).sum ≤ k := by
      intro k
      induction k with
      | zero => intro _; simp
      | succ k ihk =>
        intro hk
        rw [List.range_succ, List.map_append, List.sum_append]
        simp only [List.map_cons, List.map_nil, List.sum_cons, List.sum_nil]
        have := ihk (fun v hv => hk v (by omega))
        have := hk k (by omega)
        omega
    have h1 := hle m (fun v hv => h v (by omega))
    have h2 := h m (by omega)
    intro v hv
    by_cases e : v = m
    · subst e; omega
    · exact ih (fun v hv => h v (by omega)) (by omega) v (by omega)
theorem sum_ones (m : Nat) (f : Nat → Nat) (h : ∀ v, v < m → f v = 1) : ((List.range m).map f).sum = m := by
  induction m with
  | zero => rfl
  | succ m ih =>
    rw [List.range_succ, List.map_append, List.sum_append, ih (fun v hv => h v (by omega))]
    simp [h m (by omega)]
theorem isPerm_iff (m : Nat) (to : List Int) (hl : to.length = m) : IsPerm m to ↔ ∀ v : Nat, v < m → to.count (v : Int) = 1 := by
  constructor
  · rintro ⟨_, ha, hn⟩
    refine all_ones m (fun v => to.count (v : Int)) (fun v _ => List.nodup_iff_count.1 hn _) ?_
    rw [sum_count, List.countP_eq_length.2 ?_, hl]
    intro x hx
    simpa [inN] using ha x hx
  · intro h
    have hs := sum_ones m (fun v => to.count (v : Int)) h
    rw [sum_count] at hs
    have hin : allIn m to := by
      have := List.countP_eq_length.1 (hs.trans hl.symm)
      intro x hx
      simpa [inN] using this x hx
    refine ⟨by omega, hin, List.nodup_iff_count.2 fun x => ?_⟩
    by_cases hx : x ∈ to
    · have := hin x hx
      have e : ((x.toNat : Nat) : Int) = x := by have := this.1; omega
      have := h x.toNat (by have := this.2; omega)
      rw [e] at this
      omega
    · rw [List.count_eq_zero_of_not_mem hx]; omega

def PermAt (w : World) (m : Nat) (to : List Int) (i : Value) (wr : World) : Prop := w = wr ∧ ∃ k : Nat, k ≤ m ∧ i = .int .i64 (k : Int) ∧ ∀ v : Nat, v < k → to.count (v : Int) = 1
def CountAt (w : World) (m : Nat) (to : List Int) (v : Nat) (c i : Value) (wr : World) : Prop := w = wr ∧ ∃ k : Nat, k ≤ m ∧ i = .int .i64 (k : Int) ∧ c = .int .i64 (((to.take k).count (v : Int) : Nat) : Int)
def PermTold (w : World) (N : Int) (to : List Int) (e : Ending) (w' : World) : Prop := e = .returned (.bool (decide (IsPerm N to))) ∧ w' = w
theorem take_succ_getDi (l : List Int) (k : Nat) (h : k < l.length) : l.take (k + 1) = l.take k ++ [l.getD k 0] := by
  rw [List.take_add_one, List.getD_eq_getElem?_getD, List.getElem?_eq_getElem h]; rfl

set_option maxHeartbeats 4000000 in
set_option maxRecDepth 100000 in
theorem rperm_at (w : World) (A : Option Addr) (m c : Nat) (to : List Int) (N : Int) (h : Reads w A m (ints to)) (hn : (m : Int) = N → m ≤ 1000000) :
    Calls Try.prog 27 #[.slice A m c, .int .i64 N] w (PermTold w N to) := by
  have HR := Lib.hid h
  clear h
  by_cases hN : (m : Int) = N
  case neg =>
    have t1 : ((m : Int) != N) = true := by simpa using hN
    have HN := Lib.hid hN
    clear hN
    go_enter Try.func27, Try.ntmps27
    go_wp2
    go_ret
    exact ⟨told_f fun hc => HN.out (by rw [← HR.out.len]; exact hc.1), rfl⟩
  have hn := hn hN
  subst hN
  go_enter Try.func27, Try.ntmps27
  go_wp2_with fail
  go_loopw [5] (PermAt w m to) (fun i _ => m - (intOf i).toNat)
  case atStart => exact ⟨rfl, 0, Nat.zero_le _, rfl, fun v hv => absurd hv (by omega)⟩
  case round =>
    obtain ⟨rfl, k, hk, rfl, hcn⟩ := hrel
    have HC := Lib.hid hcn
    clear hcn
    by_cases hlt : k < m
    · have b1 : (k : Int) < m := by omega
      go_wp2_with fail
      go_loopw [6, 7] (CountAt w m to k) (fun _ i _ => m - (intOf i).toNat)
      case atStart => exact ⟨rfl, 0, Nat.zero_le _, rfl, rfl⟩
      case round =>
        obtain ⟨rfl, j, hj, rfl, rfl⟩ := hrel
        by_cases hlt2 : j < m
        · have b2 : (j : Int) < m := by omega
          have hjl : j < to.length := by rw [HR.out.len]; exact hlt2
          obtain ⟨ad, rfl, c0⟩ := HR.out.int j hlt2
          have E := take_succ_getDi to j hjl
          obtain ⟨x, hx⟩ : ∃ x, to.getD j 0 = x := ⟨_, rfl⟩
          rw [hx] at c0 E
          have hcle : (to.take j).count (k : Int) ≤ j := Nat.le_trans List.count_le_length (List.length_take_le _ _)
          have E2 : (to.take (j + 1)).count (k : Int) = (to.take j).count (k : Int) + (if x = (k : Int) then 1 else 0) := by rw [E, List.count_append]; simp [List.count_singleton]
          obtain ⟨cn, hcn⟩ : ∃ cn, (to.take j).count (k : Int) = cn := ⟨_, rfl⟩
          rw [hcn] at hcle E2
          simp only [hcn]
          have HE := Lib.hid E2
          clear E E2 hx hcn hjl
          by_cases hxk : x = (k : Int)
          · subst hxk
            go_wp2_with fail
            refine ⟨⟨rfl, j + 1, by omega, by go_num, ?_⟩, by simp [intOf]; omega⟩
            rw [HE.out, if_pos rfl]
            go_num
          · have f1 : (x == (k : Int)) = false := by simpa using hxk
            have HX := Lib.hid hxk
            clear hxk
            go_wp2_with fail
            refine ⟨⟨rfl, j + 1, by omega, by go_num, ?_⟩, by simp [intOf]; omega⟩
            rw [HE.out, if_neg HX.out, Nat.add_zero]
        · obtain rfl : j = m := by omega
          have b2 : ¬ (j : Int) < j := by omega
          rw [List.take_of_length_le (by rw [HR.out.len]; exact Nat.le_refl _)]
          obtain ⟨cn, hcn⟩ : ∃ cn, to.count (k : Int) = cn := ⟨_, rfl⟩
          simp only [hcn]
          have HCN := Lib.hid hcn
          clear hcn
          by_cases h1 : cn = 1
          · subst h1
            go_wp2_with fail
            refine ⟨⟨rfl, k + 1, by omega, by go_num, fun v hv => ?_⟩, by simp [intOf]; omega⟩
            rcases Nat.lt_or_ge v k with h3 | h3
            · exact HC.out v h3
            · obtain rfl : v = k := by omega
              exact HCN.out
          · have f1 : ((cn : Int) != 1) = true := by simp; omega
            have H1 := Lib.hid h1
            clear h1
            go_wp2_with fail
            go_ret
            exact ⟨told_f fun hc => H1.out (by rw [← HCN.out]; exact (isPerm_iff j to HR.out.len).1 hc k hlt), rfl⟩
    · obtain rfl : k = m := by omega
      have b1 : ¬ (k : Int) < k := by omega
      go_wp2
      go_ret
      exact ⟨told_t ((isPerm_iff k to HR.out.len).2 HC.out), rfl⟩
theorem rperm_any (w : World) (A : Option Addr) (m c : Nat) (to : List Int) (N : Int) (h : Reads w A m (ints to)) (hn : m ≤ 1000000) :
    Calls Try.prog 27 #[.slice A m c, .int .i64 N] w (PermTold w N to) := rperm_at w A m c to N h fun _ => hn
end Go.Proofs.Ytmflacmgffpjoaa
