/- Layer 9: slices.Index and slices.Contains of ints. -/
import Derived.Test.YtelbmjbjpgcdaaaArgInts
import Derived.Test.YtelbmjbjpgcdaaaSouPure
import Derived.BigQuiet
namespace Go.Proofs.Ytelbmjbjpgcdaaa
open Go.RowKit

/-- Where x stands first, or -1. -/
def FirstAt (l : List Int) (x k : Int) : Prop := (∃ i : Nat, k = (i : Int) ∧ i < l.length ∧ l.getD i 0 = x ∧ ∀ j, j < i → l.getD j 0 ≠ x) ∨ (k = -1 ∧ x ∉ l)
def IndexTold (w : World) (l : List Int) (x : Int) (e : Ending) (w' : World) : Prop := ∃ k : Int, e = .returned (.int .i64 k) ∧ FirstAt l x k ∧ w = w'
def IndexAt9 (w : World) (n : Nat) (l : List Int) (x : Int) (i : Value) (wr : World) : Prop := w = wr ∧ ∃ k : Nat, k ≤ n ∧ i = .int .i64 (k : Int) ∧ ∀ j, j < k → l.getD j 0 ≠ x

set_option maxHeartbeats 1600000 in
set_option maxRecDepth 100000 in
theorem indI_any (w : World) (A : Option Addr) (n c : Nat) (l : List Int) (x : Int) (h : Reads w A n (ints l)) (hn : n ≤ 1000000) : Calls Try.prog 47 #[.slice A n c, .int .i64 x] w (IndexTold w l x) := by
  have HR := Lib.hid h
  clear h
  go_enter Try.func47, Try.ntmps47
  go_wp2_with fail
  go_loopw [8] (IndexAt9 w n l x) (fun i _ => n - (intOf i).toNat)
  case atStart => exact ⟨rfl, 0, Nat.zero_le _, rfl, fun j hj => absurd hj (by omega)⟩
  case round =>
    obtain ⟨rfl, k, hk, rfl, ha⟩ := hrel
    have HA := Lib.hid ha
    clear ha
    by_cases hlt : k < n
    · obtain ⟨ad, rfl, c0⟩ := HR.out.int k hlt
      have b1 : (k : Int) < n := by omega
      obtain ⟨y, hy⟩ : ∃ y, l.getD k 0 = y := ⟨_, rfl⟩
      have HY := Lib.hid hy
      rw [hy] at c0
      clear hy
      by_cases h1 : x = y
      · have t1 : (x == y) = true := by simpa using h1
        have HX := Lib.hid h1
        clear h1
        go_wp2
        go_ret
        exact ⟨_, rfl, .inl ⟨k, rfl, by rw [HR.out.len]; exact hlt, by rw [HY.out, HX.out], HA.out⟩, rfl⟩
      · have t1 : (x == y) = false := by simpa using h1
        have HX := Lib.hid h1
        clear h1
        go_wp2_with fail
        refine ⟨⟨rfl, k + 1, by omega, by go_num, fun j hj => ?_⟩, by simp [intOf]; omega⟩
        rcases Nat.lt_or_ge j k with h3 | h3
        · exact HA.out j h3
        · obtain rfl : j = k := by omega
          rw [HY.out]; exact fun e => HX.out e.symm
    · obtain rfl : k = n := by omega
      have b1 : ¬ (k : Int) < k := by omega
      go_wp2
      go_ret
      refine ⟨_, rfl, .inr ⟨rfl, fun hm => ?_⟩, rfl⟩
      obtain ⟨i, hi, e⟩ := memi_getD hm
      exact HA.out i (by rw [← HR.out.len]; exact hi) e
set_option maxRecDepth 100000 in
theorem contI_any (w : World) (A : Option Addr) (n c : Nat) (l : List Int) (x : Int) (h : Reads w A n (ints l)) (hn : n ≤ 1000000) : Calls Try.prog 44 #[.slice A n c, .int .i64 x] w fun e w' => e = .returned (.bool (decide (x ∈ l))) ∧ w' = w := by
  have K := Lib.hid (indI_any w A n c l x h hn)
  clear h
  go_enter Try.func44, Try.ntmps44
  go_wp2_with fail
  refine K.out.mono ?_
  rintro e w1 ⟨k, rfl, hk, rfl⟩
  rcases hk with ⟨i, rfl, hi, hx, _⟩ | ⟨rfl, hx⟩
  · have hm : x ∈ l := by rw [← hx]; exact getDi_mem hi
    have E := Lib.hid (show decide (x ∈ l) = true by simpa using hm)
    have i0 : (0 : Int) ≤ i := by omega
    clear hx hm
    go_wp2
    go_ret
    exact ⟨by rw [E.out]; try simp, rfl⟩
  · have E := Lib.hid (show decide (x ∈ l) = false by simpa using hx)
    clear hx
    go_wp2
    go_ret
    exact ⟨by rw [E.out]; rfl, rfl⟩
end Go.Proofs.Ytelbmjbjpgcdaaa
