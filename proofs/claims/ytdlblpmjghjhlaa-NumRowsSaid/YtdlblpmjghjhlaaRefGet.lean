/- The document's Get: what comes next in a text of bits. -/
import Derived.Test.YtdlblpmjghjhlaaStr
import Derived.Test.YtdlblpmjghjhlaaNumGet
namespace Go.Proofs.Ytdlblpmjghjhlaa
open Go.RowKit

def StepAt (z : Nat) (i : Value) : Prop := ∃ j : Nat, j ≤ z ∧ i = .int .i64 (j : Int)

theorem told_part (bs : List Bool) (z : Nat) (he : 2 * z + 1 ≤ bs.length) (h1 : bs.getD z false = true) : num ((bs.take (2 * z + 1)).drop z) = told bs 0 z + 1 := by
  have hz : z < bs.length := by omega
  have e : (bs.take (2 * z + 1)).drop z = true :: ((bs.drop (0 + z + 1)).take z) := by
    rw [List.drop_take, show 2 * z + 1 - z = z + 1 by omega, List.drop_eq_getElem_cons hz, List.take_succ_cons, Nat.zero_add]
    congr 1
    simpa [List.getElem?_eq_getElem hz] using h1
  rw [e, num_cons, told]
  have hp : 1 ≤ 2 ^ z := Nat.two_pow_pos z
  rw [List.length_take, List.length_drop, Nat.min_eq_left (by omega)]
  simp
  omega
theorem told_lt (bs : List Bool) (k z : Nat) (hz : z ≤ 32) (he : k + 2 * z + 1 ≤ bs.length) : told bs k z < 8589934592 := by
  have h := num_lt ((bs.drop (k + z + 1)).take z)
  rw [List.length_take, List.length_drop, Nat.min_eq_left (by omega)] at h
  have hp : 2 ^ z ≤ 2 ^ 32 := Nat.pow_le_pow_right (by omega) hz
  unfold told
  omega

set_option maxHeartbeats 1000000 in
set_option maxRecDepth 100000 in
theorem rget_end (w : World) (bs : List Bool) (hz : bs.length ≤ 32) (h0 : ∀ j, j < bs.length → bs.getD j false = false) :
    Calls Try.prog 20 #[.string (str bs)] w fun e w' => e = .returned (.tuple #[.int .u64 0, .int .i64 0, .int .i64 4]) ∧ w = w' := by
  have hsz := size_str bs
  have H0 := Lib.hid h0
  clear h0
  generalize hm : bs.length = m at *
  have HM := Lib.hid hm
  clear hm
  go_enter Try.func20, Try.ntmps20
  go_wp2
  go_loop [5] (StepAt m) (fun i => m + 1 - (intOf i).toNat)
  case atStart => exact ⟨0, Nat.zero_le _, rfl⟩
  case round =>
    obtain ⟨j, hj, rfl⟩ := hrel
    by_cases hlt : j < m
    · have hi := str_index w bs j (by rw [HM.out]; omega)
      rw [H0.out j hlt] at hi
      have hc : (((ch false).toNat : Int) == 49) = false := by decide
      have h32 : (j : Int) + 1 ≤ 32 := by omega
      have hjm : (j : Int) < m := by omega
      go_wp2
      exact ⟨⟨j + 1, hlt, rfl⟩, by simp [intOf]; omega⟩
    · obtain rfl : j = m := by omega
      go_wp2
      go_ret3
      exact ⟨rfl, rfl⟩

set_option maxHeartbeats 1000000 in
set_option maxRecDepth 100000 in
theorem rget_form (w : World) (bs : List Bool) (hz : 33 ≤ bs.length) (h0 : ∀ j, j < 33 → bs.getD j false = false) :
    Calls Try.prog 20 #[.string (str bs)] w fun e w' => e = .returned (.tuple #[.int .u64 0, .int .i64 0, .int .i64 3]) ∧ w = w' := by
  have hsz := size_str bs
  have H0 := Lib.hid h0
  clear h0
  generalize hm : bs.length = m at *
  have HM := Lib.hid hm
  clear hm
  go_enter Try.func20, Try.ntmps20
  go_wp2
  go_loop [5] (StepAt 32) (fun i => 32 + 1 - (intOf i).toNat)
  case atStart => exact ⟨0, Nat.zero_le _, rfl⟩
  case round =>
    obtain ⟨j, hj, rfl⟩ := hrel
    by_cases hlt : j < 32
    · have hi := str_index w bs j (by rw [HM.out]; omega)
      rw [H0.out j (by omega)] at hi
      have hc : (((ch false).toNat : Int) == 49) = false := by decide
      have hjm : (j : Int) < m := by omega
      have h33 : (j : Int) + 1 ≤ 32 := by omega
      go_wp2
      exact ⟨⟨j + 1, hlt, rfl⟩, by simp [intOf]; omega⟩
    · have hi := str_index w bs j (by rw [HM.out]; omega)
      rw [H0.out j (by omega)] at hi
      have hc : (((ch false).toNat : Int) == 49) = false := by decide
      have hjm : (j : Int) < m := by omega
      have h33 : (32 : Int) < (j : Int) + 1 := by omega
      go_wp2
      go_ret3
      exact ⟨rfl, rfl⟩

set_option maxHeartbeats 1000000 in
set_option maxRecDepth 100000 in
theorem rget_short (w : World) (bs : List Bool) (z : Nat) (hz : z ≤ 32) (hl : z < bs.length) (h0 : ∀ j, j < z → bs.getD j false = false) (h1 : bs.getD z false = true) (hs : bs.length < 2 * z + 1) :
    Calls Try.prog 20 #[.string (str bs)] w fun e w' => e = .returned (.tuple #[.int .u64 0, .int .i64 0, .int .i64 4]) ∧ w = w' := by
  have hsz := size_str bs
  have H0 := Lib.hid h0
  have H1 := Lib.hid h1
  clear h0 h1
  generalize hm : bs.length = m at *
  have HM := Lib.hid hm
  clear hm
  go_enter Try.func20, Try.ntmps20
  go_wp2
  go_loop [5] (StepAt z) (fun i => z + 1 - (intOf i).toNat)
  case atStart => exact ⟨0, Nat.zero_le _, rfl⟩
  case round =>
    obtain ⟨j, hj, rfl⟩ := hrel
    by_cases hlt : j < z
    · have hi := str_index w bs j (by rw [HM.out]; omega)
      rw [H0.out j hlt] at hi
      have hc : (((ch false).toNat : Int) == 49) = false := by decide
      have h32 : (j : Int) + 1 ≤ 32 := by omega
      have hjm : (j : Int) < m := by omega
      go_wp2
      exact ⟨⟨j + 1, hlt, rfl⟩, by simp [intOf]; omega⟩
    · obtain rfl : j = z := by omega
      have hi := str_index w bs j (by rw [HM.out]; omega)
      rw [H1.out] at hi
      have hc : (((ch true).toNat : Int) == 49) = true := by decide
      have hjm : (j : Int) < m := by omega
      have hs2 : (m : Int) < 2 * j + 1 := by omega
      go_wp2
      go_ret3
      exact ⟨rfl, rfl⟩

set_option maxHeartbeats 1000000 in
set_option maxRecDepth 100000 in
theorem rget_over (w : World) (bs : List Bool) (z : Nat) (hz : z ≤ 32) (hl : z < bs.length) (h0 : ∀ j, j < z → bs.getD j false = false) (h1 : bs.getD z false = true) (hs : 2 * z + 1 ≤ bs.length) (hv : 4294967296 < told bs 0 z) :
    Calls Try.prog 20 #[.string (str bs)] w fun e w' => e = .returned (.tuple #[.int .u64 0, .int .i64 0, .int .i64 3]) ∧ w = w' := by
  have hsz := size_str bs
  have H0 := Lib.hid h0
  have H1 := Lib.hid h1
  clear h0 h1
  generalize hm : bs.length = m at *
  have HM := Lib.hid hm
  clear hm
  go_enter Try.func20, Try.ntmps20
  go_wp2
  go_loop [5] (StepAt z) (fun i => z + 1 - (intOf i).toNat)
  case atStart => exact ⟨0, Nat.zero_le _, rfl⟩
  case round =>
    obtain ⟨j, hj, rfl⟩ := hrel
    by_cases hlt : j < z
    · have hi := str_index w bs j (by rw [HM.out]; omega)
      rw [H0.out j hlt] at hi
      have hc : (((ch false).toNat : Int) == 49) = false := by decide
      have h32 : (j : Int) + 1 ≤ 32 := by omega
      have hjm : (j : Int) < m := by omega
      go_wp2
      exact ⟨⟨j + 1, hlt, rfl⟩, by simp [intOf]; omega⟩
    · obtain rfl : j = z := by omega
      have hi := str_index w bs j (by rw [HM.out]; omega)
      rw [H1.out] at hi
      have hc : (((ch true).toNat : Int) == 49) = true := by decide
      have hjm : (j : Int) < m := by omega
      have hs2 : 2 * (j : Int) + 1 ≤ m := by omega
      have ht := told_lt bs 0 j hz (by rw [HM.out]; omega)
      have HT := Lib.hid (told_part bs j (by rw [HM.out]; omega) H1.out)
      have hcut := str_cut w bs j (2 * j + 1) (2 * (j : Int) + 1) (by omega) (by omega) (by rw [HM.out]; omega)
      go_wp2_with fail
      refine (value_any w ((bs.take (2 * j + 1)).drop j) (by rw [List.length_drop, List.length_take]; omega)).mono ?_
      rintro e w1 ⟨rfl, rfl⟩
      rw [HT.out]
      generalize htt : told bs 0 j = t at *
      have HQ := Lib.hid htt
      clear htt
      have h2 : (4294967296 : Int) < t := by omega
      go_wp2
      go_ret3
      exact ⟨rfl, rfl⟩

set_option maxHeartbeats 1000000 in
set_option maxRecDepth 100000 in
theorem rget_ok (w : World) (bs : List Bool) (z : Nat) (hz : z ≤ 32) (hl : z < bs.length) (h0 : ∀ j, j < z → bs.getD j false = false) (h1 : bs.getD z false = true) (hs : 2 * z + 1 ≤ bs.length) (hv : told bs 0 z ≤ 4294967296) :
    Calls Try.prog 20 #[.string (str bs)] w fun e w' => e = .returned (.tuple #[.int .u64 (told bs 0 z : Nat), .int .i64 ((2 * z + 1 : Nat) : Int), .int .i64 0]) ∧ w = w' := by
  have hsz := size_str bs
  have H0 := Lib.hid h0
  have H1 := Lib.hid h1
  clear h0 h1
  generalize hm : bs.length = m at *
  have HM := Lib.hid hm
  clear hm
  go_enter Try.func20, Try.ntmps20
  go_wp2
  go_loop [5] (StepAt z) (fun i => z + 1 - (intOf i).toNat)
  case atStart => exact ⟨0, Nat.zero_le _, rfl⟩
  case round =>
    obtain ⟨j, hj, rfl⟩ := hrel
    by_cases hlt : j < z
    · have hi := str_index w bs j (by rw [HM.out]; omega)
      rw [H0.out j hlt] at hi
      have hc : (((ch false).toNat : Int) == 49) = false := by decide
      have h32 : (j : Int) + 1 ≤ 32 := by omega
      have hjm : (j : Int) < m := by omega
      go_wp2
      exact ⟨⟨j + 1, hlt, rfl⟩, by simp [intOf]; omega⟩
    · obtain rfl : j = z := by omega
      have hi := str_index w bs j (by rw [HM.out]; omega)
      rw [H1.out] at hi
      have hc : (((ch true).toNat : Int) == 49) = true := by decide
      have hjm : (j : Int) < m := by omega
      have hs2 : 2 * (j : Int) + 1 ≤ m := by omega
      have ht := told_lt bs 0 j hz (by rw [HM.out]; omega)
      have HT := Lib.hid (told_part bs j (by rw [HM.out]; omega) H1.out)
      have hcut := str_cut w bs j (2 * j + 1) (2 * (j : Int) + 1) (by omega) (by omega) (by rw [HM.out]; omega)
      go_wp2_with fail
      refine (value_any w ((bs.take (2 * j + 1)).drop j) (by rw [List.length_drop, List.length_take]; omega)).mono ?_
      rintro e w1 ⟨rfl, rfl⟩
      rw [HT.out]
      generalize htt : told bs 0 j = t at *
      have HQ := Lib.hid htt
      clear htt
      have h2 : (t : Int) ≤ 4294967296 := by omega
      go_wp2
      go_ret3
      rw [HQ.out]
      exact ⟨rfl, rfl⟩

end Go.Proofs.Ytdlblpmjghjhlaa
