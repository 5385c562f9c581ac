/- The sizes of a container (layer 7): tableSize, headerSize, fits. -/
import Derived.Test.YtngambkbpdjddaaBoxMem
namespace Go.Proofs.Ytngambkbpdjddaa
open Go.RowKit

set_option maxRecDepth 100000 in
theorem tsize_any (w : World) (n : Nat) (hn : n ≤ 1000000) : Calls Try.prog 39 #[.int .i64 (n : Int)] w fun e w' => e = .returned (.int .i64 ((9 * n + 4 : Nat) : Int)) ∧ w = w' := by
  go_enter Try.func39, Try.ntmps39
  go_wp2
  go_ret
  exact ⟨by go_num, rfl⟩
set_option maxRecDepth 100000 in
theorem hsize_any (w : World) (n : Nat) (hn : n ≤ 1000000) : Calls Try.prog 30 #[.int .i64 (n : Int)] w fun e w' => e = .returned (.int .i64 ((14 + 9 * n : Nat) : Int)) ∧ w = w' := by
  have K := Lib.hid (tsize_any w n hn)
  go_enter Try.func30, Try.ntmps30
  go_wp2_with fail
  refine K.out.mono ?_
  rintro e w1 ⟨rfl, rfl⟩
  go_wp2
  go_ret
  exact ⟨by go_num, rfl⟩

theorem offs_succ (l : List (Nat × List Nat)) (i : Nat) : offs l (i + 1) = offs l i + (l.getD i (0, [])).2.length := rfl
theorem offs_mono (l : List (Nat × List Nat)) {i j : Nat} (h : i ≤ j) (hj : j ≤ l.length) : offs l i ≤ offs l j := by
  induction j with
  | zero => obtain rfl : i = 0 := by omega
            exact Nat.le_refl _
  | succ j ih =>
    rcases Nat.lt_or_ge i (j + 1) with h1 | h1
    · have := ih (by omega) (by omega)
      rw [offs_succ l j]
      omega
    · obtain rfl : i = j + 1 := by omega
      exact Nat.le_refl _

def FitsAt (w : World) (n : Nat) (l : List (Nat × List Nat)) (r i : Value) (wr : World) : Prop :=
  ∃ k : Nat, k ≤ n ∧ i = .int .i64 (k : Int) ∧ (∃ R : Int, r = .int .i64 R ∧ R = 4194304 - 2 * (14 + 9 * n) - 8 - offs l k ∧ 0 ≤ R) ∧ Below w.heap.size w wr

set_option maxHeartbeats 1600000 in
set_option maxRecDepth 100000 in
/-- Few chunks fit: fits tells so. -/
theorem fits_ok (w : World) (A : Option Addr) (n c : Nat) (l : List (Nat × List Nat)) (h : Chunks w A n l) (hn : n ≤ 1024) (hz : 36 + 18 * n + offs l n ≤ 4194304) :
    Calls Try.prog 21 #[.slice A n c] w fun e w' => e = .returned (.bool true) ∧ Below w.heap.size w w' := by
  have HS := Lib.hid h
  have HZ := Lib.hid hz
  have KH := Lib.hid (hsize_any w n (by omega))
  clear h hz
  go_enter Try.func21, Try.ntmps21
  go_wp2_with fail
  refine KH.out.mono ?_
  rintro e w1 ⟨rfl, rfl⟩
  go_wp2_with fail
  go_loopw [3, 14] (FitsAt w n l) (fun _ i _ => n - (intOf i).toNat)
  case atStart => exact ⟨0, Nat.zero_le _, rfl, ⟨_, rfl, by have := HZ.out; show _ = _ - (0 : Int); omega, by have := HZ.out; omega⟩, Below.refl _ _⟩
  case round =>
    obtain ⟨k, hk, rfl, ⟨R, rfl, hR, hR0⟩, hb⟩ := hrel
    by_cases hlt : k < n
    · obtain ⟨b, off, rfl⟩ := HS.out.ad (by omega)
      obtain ⟨Ai, ci, c0, c1, h2, h3, hr⟩ := (HS.out.below hb).at k hlt
      have b1 : (k : Int) < n := by omega
      have hof := offs_succ l k
      have hle := offs_mono l (show k + 1 ≤ n by omega) (by rw [HS.out.len]; exact Nat.le_refl _)
      have hz := HZ.out
      obtain ⟨m, hm⟩ : ∃ m, (l.getD k (0, [])).2.length = m := ⟨_, rfl⟩
      rw [hm] at c1 h3 hof
      generalize (l.getD k (0, [])).1 = kd at *
      have HB := Lib.hid hb
      have t2 : ¬ R < (m : Int) := by omega
      have N := Lib.hid (show R - m = 4194304 - 2 * (14 + 9 * n) - 8 - offs l (k + 1) ∧ 0 ≤ R - m by omega)
      have t4 : R ≤ 4194304 := by omega
      clear hr h2 hm hb hof hle hz hR
      go_wp2_with fail
      refine ⟨⟨k + 1, by omega, by go_num, ⟨_, rfl, N.out⟩, ?_⟩, by simp [intOf]; omega⟩
      exact up1 HB.out _
    · obtain rfl : k = n := by omega
      have b1 : ¬ (k : Int) < k := by omega
      have HB := Lib.hid hb
      clear hb
      go_wp2
      go_ret
      exact ⟨rfl, HB.out⟩
end Go.Proofs.Ytngambkbpdjddaa
