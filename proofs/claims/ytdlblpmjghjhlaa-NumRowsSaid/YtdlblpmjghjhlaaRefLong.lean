/- The document's long form and width. -/
import Derived.Test.YtdlblpmjghjhlaaStr
import Derived.Test.YtdlblpmjghjhlaaNum
namespace Go.Proofs.Ytdlblpmjghjhlaa
open Go.RowKit

def DigitsAt (n : Nat) (k x : Value) : Prop := ∃ j : Nat, j + bitLen (n / 2 ^ j) = bitLen n ∧ 1 ≤ n / 2 ^ j ∧ k = .int .i64 (j : Int) ∧ x = .int .u64 ((n / 2 ^ j : Nat) : Int)
def NoughtsAt (k : Nat) (s i : Value) : Prop := ∃ j : Nat, j ≤ k ∧ s = .string (str (List.replicate j false)) ∧ i = .int .i64 (j : Int)

set_option maxHeartbeats 1000000 in
set_option maxRecDepth 100000 in
theorem long_over (w : World) (n : Nat) (h : 4294967296 < n) :
    Calls Try.prog 13 #[.int .u64 (n : Int)] w fun e w' => e = .returned (.string ⟨#[]⟩) ∧ w = w' := by
  have h1 : (4294967296 : Int) < n := by omega
  go_enter Try.func13, Try.ntmps13
  go_wp2
  go_ret
  exact ⟨rfl, rfl⟩

set_option maxHeartbeats 1000000 in
set_option maxRecDepth 100000 in
theorem long_ok (w : World) (n : Nat) (h : n ≤ 4294967296) :
    Calls Try.prog 13 #[.int .u64 (n : Int)] w fun e w' => e = .returned (.string (str (gamma n))) ∧ w = w' := by
  have h1 : (n : Int) ≤ 4294967296 := by omega
  have hd := gamma_small n h
  obtain ⟨d, hg⟩ : ∃ d, bitLen (n + 1) = d + 1 := ⟨bitLen (n + 1) - 1, by have := digits_pos (n + 1) (by omega); omega⟩
  have HE := Lib.hid (show gamma n = List.replicate d false ++ bitsOf (n + 1) (d + 1) by rw [gamma, hg, Nat.add_sub_cancel])
  have HG := Lib.hid hg
  have hd2 : d ≤ 32 := by omega
  clear hd hg
  go_enter Try.func13, Try.ntmps13
  go_wp2
  go_loop [3, 4] (DigitsAt (n + 1)) (fun k _ => 33 - (intOf k).toNat)
  case atStart => exact ⟨0, by simp, by simp, rfl, by simp⟩
  case round =>
    obtain ⟨j, hj, hx, rfl, rfl⟩ := hrel
    rw [HG.out] at hj
    have hb : (n + 1) / 2 ^ j ≤ 4294967297 := Nat.le_trans (Nat.div_le_self _ _) (by omega)
    have HS := Lib.hid (show (n + 1) / 2 ^ (j + 1) = (n + 1) / 2 ^ j / 2 by rw [Nat.pow_succ, Nat.div_div_eq_div_mul])
    have HJ := Lib.hid hj
    have hp := digits_pos ((n + 1) / 2 ^ j) (by omega)
    clear hj
    generalize (n + 1) / 2 ^ j = x at *
    have hj2 : j ≤ 32 := by have := HJ.out; omega
    by_cases hlt : 1 < x
    · have h2 : (1 : Int) < x := by omega
      have HH := Lib.hid (digits_half x (by omega))
      go_wp2
      refine ⟨⟨j + 1, ?_, ?_, rfl, ?_⟩, by simp [intOf]; omega⟩
      · rw [HS.out, HG.out]; have := HH.out; have := HJ.out; omega
      · rw [HS.out]; omega
      · rw [HS.out]; congr 1
    · obtain rfl : x = 1 := by omega
      have hjd : j = d := by have := HJ.out; rw [show bitLen 1 = 1 by decide] at this; omega
      subst hjd
      clear HJ HS hp
      go_wp2
      go_loop [5, 6] (NoughtsAt j) (fun _ i => j - (intOf i).toNat)
      case atStart => exact ⟨0, Nat.zero_le _, rfl, rfl⟩
      case round =>
        obtain ⟨i, hi, rfl, rfl⟩ := hrel
        by_cases hil : i < j
        · have ha := str_add Try.prog w (List.replicate i false) [false] (by simp; omega) (by simp)
          rw [← List.replicate_succ', ← str_nought] at ha
          go_wp2
          exact ⟨⟨i + 1, hil, rfl, rfl⟩, by simp [intOf]; omega⟩
        · obtain rfl : i = j := by omega
          have ha := str_add Try.prog w (List.replicate i false) (bitsOf (n + 1) (i + 1)) (by simp; omega) (by rw [length_bitsOf]; omega)
          rw [← HE.out] at ha
          go_wp2_with fail
          refine (binary_any w (n + 1) (i + 1) (by omega) (by omega)).mono ?_
          rintro e w1 ⟨rfl, rfl⟩
          go_wp2
          go_ret
          exact ⟨rfl, rfl⟩

def WideAt (n : Nat) (k x : Value) : Prop := ∃ j : Nat, j + bitLen (n / 2 ^ j) = bitLen n ∧ k = .int .i64 (j : Int) ∧ x = .int .i64 ((n / 2 ^ j : Nat) : Int)

set_option maxHeartbeats 1000000 in
set_option maxRecDepth 100000 in
theorem rwidth_any (w : World) (b : Int) (h0 : -9223372036854775808 ≤ b) (hb : b < 9223372036854775808) :
    Calls Try.prog 23 #[.int .i64 b] w fun e w' => e = .returned (.int .i64 (wide b : Nat)) ∧ w = w' := by
  by_cases h : 1 ≤ b
  · obtain ⟨n, rfl⟩ : ∃ n : Nat, b = (n : Int) + 1 := ⟨(b - 1).toNat, by omega⟩
    have HW := Lib.hid (show wide ((n : Int) + 1) = bitLen n by rw [wide]; congr 1)
    have hl := digits_le n 63 (by omega)
    go_enter Try.func23, Try.ntmps23
    go_wp2
    go_loop [3, 4] (WideAt n) (fun k _ => 64 - (intOf k).toNat)
    case atStart => exact ⟨0, by simp, rfl, by simp⟩
    case round =>
      obtain ⟨j, hj, rfl, rfl⟩ := hrel
      have hx : n / 2 ^ j ≤ n := Nat.div_le_self _ _
      have HS := Lib.hid (show n / 2 ^ (j + 1) = n / 2 ^ j / 2 by rw [Nat.pow_succ, Nat.div_div_eq_div_mul])
      have HJ := Lib.hid hj
      have hj2 : j ≤ 63 := by omega
      clear hj
      generalize n / 2 ^ j = x at *
      by_cases hlt : 0 < x
      · have h2 : (0 : Int) < x := by omega
        have HH := Lib.hid (digits_half x (by omega))
        go_wp2
        refine ⟨⟨j + 1, ?_, rfl, ?_⟩, by simp [intOf]; omega⟩
        · rw [HS.out]; have := HH.out; have := HJ.out; omega
        · rw [HS.out]; congr 1
      · obtain rfl : x = 0 := by omega
        have HK := Lib.hid (show j = bitLen n by have := HJ.out; rw [show bitLen 0 = 0 by decide] at this; omega)
        have ht : 1 ≤ (n : Int) + 1 := by omega
        clear HJ HS h0 hb h hl hx hlt
        go_wp2
        go_ret
        rw [HW.out, ← HK.out]
        exact ⟨rfl, rfl⟩
  · have HW := Lib.hid (show wide b = 0 by rw [wide, show b.toNat - 1 = 0 by omega]; decide)
    by_cases hm : b = -9223372036854775808
    · obtain ⟨n, hn⟩ : ∃ n : Nat, n = 9223372036854775807 := ⟨_, rfl⟩
      have e1 : wrap64 (b - 1) = (n : Int) := by rw [hm, hn]; unfold wrap64; decide
      have h1 : b < 1 := by omega
      have hl := digits_le n 63 (by omega)
      have hn2 : n ≤ 9223372036854775807 := by omega
      clear hn hm h h0 hb
      go_enter Try.func23, Try.ntmps23
      go_wp2
      go_loop [3, 4] (WideAt n) (fun k _ => 64 - (intOf k).toNat)
      case atStart => exact ⟨0, by simp, rfl, by simp [e1]⟩
      case round =>
        obtain ⟨j, hj, rfl, rfl⟩ := hrel
        have hx : n / 2 ^ j ≤ n := Nat.div_le_self _ _
        have HS := Lib.hid (show n / 2 ^ (j + 1) = n / 2 ^ j / 2 by rw [Nat.pow_succ, Nat.div_div_eq_div_mul])
        have HJ := Lib.hid hj
        have hj2 : j ≤ 63 := by omega
        clear hj
        generalize n / 2 ^ j = x at *
        by_cases hlt : 0 < x
        · have h2 : (0 : Int) < x := by omega
          have HH := Lib.hid (digits_half x (by omega))
          go_wp2
          refine ⟨⟨j + 1, ?_, rfl, ?_⟩, by simp [intOf]; omega⟩
          · rw [HS.out]; have := HH.out; have := HJ.out; omega
          · rw [HS.out]; congr 1
        · obtain rfl : x = 0 := by omega
          clear HJ HS
          go_wp2
          go_ret
          rw [HW.out]
          exact ⟨rfl, rfl⟩
    · have h1 : b - 1 ≤ 0 := by omega
      go_enter Try.func23, Try.ntmps23
      go_wp2
      refine wp_loop_rounds 1 ?_
      rw [rounds_succ]
      go_wp2
      go_ret
      rw [HW.out]
      exact ⟨rfl, rfl⟩
end Go.Proofs.Ytdlblpmjghjhlaa
