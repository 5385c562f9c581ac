/- The document's Low, Count and Find of a list of counts. -/
import Derived.Test.YtjacjgchbpghiaaTabRef
namespace Go.Proofs.Ytjacjgchbpghiaa
open Go.RowKit

theorem Reads.take {w : World} {A : Option Addr} {n : Nat} {l : List Int} (h : Reads w A n (ints l)) (k : Nat) (hk : k ≤ n) : Reads w A k (ints (l.take k)) := by
  have hl := h.len
  refine ⟨by rw [length_ints, List.length_take]; omega, fun h0 => ?_⟩
  obtain ⟨ad, hA, hc⟩ := h.2 (by omega)
  refine ⟨ad, hA, fun j u hu => hc j u ?_⟩
  have hj : j < k := by
    have := (List.getElem?_eq_some_iff.1 hu).1
    rw [length_ints, List.length_take] at this
    omega
  rw [← hu]
  simp [ints, hj]
theorem take_sum (l : List Int) (k : Nat) : (l.take k).sum = low l k := rfl

theorem rlow_any (w : World) (A : Option Addr) (n c : Nat) (l : List Int) (x : Int) (h : Reads w A n (ints l)) (hc : n ≤ c) (ok : Ok l) :
    Calls Try.prog 18 #[.slice A n c, .int .i64 x] w fun e w' => e = .returned (.int .i64 (lowOf l x)) ∧ Reading w w' := by
  have hl := h.len
  by_cases hh : 0 ≤ x ∧ x < l.length
  · obtain ⟨k, rfl⟩ : ∃ k : Nat, x = (k : Int) := ⟨x.toNat, by omega⟩
    have hk : k < n := by omega
    rw [lowOf_at l k (by omega)]
    obtain ⟨ad, rfl, c0⟩ := h.int 0 (by omega)
    have hb := ok.low_le' k
    have K := rtotal_any w (some ad) k c (l.take k) (h.take k (by omega)) (fun x hx => ok.zero x (List.mem_of_mem_take hx)) (by rw [take_sum]; omega) (by have := ok.few; omega)
    rw [take_sum] at K
    have HK := Lib.hid K
    have e1 : ¬ (k : Int) < 0 := by omega
    have e2 : (k : Int) < n := by omega
    have e3 : (k : Int) ≤ c := by omega
    have e4 : k ≤ c := by omega
    clear K h hl hh ok c0
    go_enter Try.func18, Try.ntmps18
    go_wp2_with fail
    refine HK.out.mono ?_
    rintro e w1 ⟨rfl, b1⟩
    have B1 := Lib.hid b1
    clear b1
    go_wp2
    go_ret
    exact ⟨rfl, B1.out⟩
  · rw [lowOf_out l x hh]
    by_cases h0 : x < 0
    · go_enter Try.func18, Try.ntmps18
      clear hl hh ok h
      go_wp2
      go_ret
      exact ⟨rfl, 0, rfl⟩
    · have h1 : (n : Int) ≤ x := by omega
      clear hl hh ok h
      go_enter Try.func18, Try.ntmps18
      go_wp2
      go_ret
      exact ⟨rfl, 0, rfl⟩

theorem rcount_any (w : World) (A : Option Addr) (n c : Nat) (l : List Int) (x : Int) (h : Reads w A n (ints l)) :
    Calls Try.prog 20 #[.slice A n c, .int .i64 x] w fun e w' => e = .returned (.int .i64 (cntOf l x)) ∧ Reading w w' := by
  have hl := h.len
  by_cases hh : 0 ≤ x ∧ x < l.length
  · obtain ⟨k, rfl⟩ : ∃ k : Nat, x = (k : Int) := ⟨x.toNat, by omega⟩
    have hk : k < n := by omega
    rw [cntOf_at l k (by omega)]
    obtain ⟨ad, rfl, ck⟩ := h.int k hk
    have e1 : ¬ (k : Int) < 0 := by omega
    have e2 : (k : Int) < n := by omega
    clear h hl hh
    generalize l.getD k 0 = y at *
    go_enter Try.func20, Try.ntmps20
    go_wp2
    go_ret
    exact ⟨rfl, 0, rfl⟩
  · rw [cntOf_out l x hh]
    by_cases h0 : x < 0
    · clear hl hh h
      go_enter Try.func20, Try.ntmps20
      go_wp2
      go_ret
      exact ⟨rfl, 0, rfl⟩
    · have h1 : (n : Int) ≤ x := by omega
      clear hl hh h
      go_enter Try.func20, Try.ntmps20
      go_wp2
      go_ret
      exact ⟨rfl, 0, rfl⟩
end Go.Proofs.Ytjacjgchbpghiaa
