/- Bits as texts of 0 and 1. -/
import Derived.Test.YtdlblpmjghjhlaaGamma
import Derived.Test.YtdlblpmjghjhlaaRows
import Derived.WalkKit
import Derived.Lib.Hide
namespace Go.Proofs.Ytdlblpmjghjhlaa
open Go.RowKit

def ch (b : Bool) : UInt8 := if b then 49 else 48
/-- The text of bits. -/
def str (bs : List Bool) : ByteArray := ⟨(bs.map ch).toArray⟩
theorem size_str (bs : List Bool) : (str bs).size = bs.length := by show (bs.map ch).toArray.size = _; simp
theorem str_append (a b : List Bool) : str a ++ str b = str (a ++ b) := by
  unfold str; rw [ByteArray.mk_append_mk, List.map_append]
theorem str_one : (⟨#[49]⟩ : ByteArray) = str [true] := rfl
theorem str_nought : (⟨#[48]⟩ : ByteArray) = str [false] := rfl
theorem str_none : (⟨#[]⟩ : ByteArray) = str [] := rfl
theorem ch_inj (a b : Bool) (h : ch a = ch b) : a = b := by revert h; cases a <;> cases b <;> decide
theorem str_inj (a b : List Bool) (h : str a = str b) : a = b := by
  have h1 : (a.map ch).toArray = (b.map ch).toArray := congrArg ByteArray.data h
  have h2 : a.map ch = b.map ch := by simpa using congrArg Array.toList h1
  exact (List.map_inj_right (fun x y e => ch_inj x y e)).1 h2
theorem str_add (P : Program) (w : World) (a b : List Bool) (ha : a.length ≤ 1000) (hb : b.length ≤ 1000) : (Op.stringOp .add (str a) (str b)).run P w = .ok (.string (str (a ++ b))) w := by
  rw [run_string_add_sum w _ _ (by rw [size_str, size_str]; omega), str_append]
theorem str_at (bs : List Bool) (i : Nat) (h : i < (str bs).size) : ((str bs)[i]'h).toNat = (ch (bs.getD i false)).toNat := by
  have hi : i < bs.length := by rwa [size_str] at h
  have : (str bs)[i]'h = ch (bs.getD i false) := by
    have e : (str bs)[i]'h = (bs.map ch)[i]'(by simpa using hi) := rfl
    rw [e, List.getElem_map, List.getD_eq_getElem?_getD, List.getElem?_eq_getElem hi, Option.getD_some]
  rw [this]
theorem str_index (w : World) (bs : List Bool) (i : Nat) (h : i < bs.length) : (Instr.index 9 (.string (str bs)) (.int .i64 (i : Int))).run Try.prog w = .ok (.int .u8 ((ch (bs.getD i false)).toNat : Int)) w := by
  have hs : i < (str bs).size := by rw [size_str]; exact h
  rw [run_index_string w 9 (str bs) .i64 i Try.underlying9, dif_pos ⟨by omega, by omega⟩]
  have := str_at bs i hs
  simp only [Int.toNat_natCast, this]
theorem str_slice (bs : List Bool) (a b : Nat) : (str bs).extract a b = str ((bs.take b).drop a) := by
  unfold str
  apply ByteArray.ext
  simp [List.drop_take]

theorem str_cut (w : World) (bs : List Bool) (a b : Nat) (z : Int) (hz : (b : Int) = z) (ha : a ≤ b) (hb : b ≤ bs.length) :
    (Instr.slice 9 (.string (str bs)) (some (.int .i64 (a : Int))) (some (.int .i64 z)) none).run Try.prog w = .ok (.string (str ((bs.take b).drop a))) w := by
  subst hz
  rw [← str_slice]
  have h1 : b ≤ (str bs).size := by rw [size_str]; exact hb
  simp [Instr.slice, run_underlying Try.underlying9, Instr.sliceBounds, run_sliceBound, ha, h1]
theorem str_head (w : World) (bs : List Bool) (b : Nat) (hb : b ≤ bs.length) :
    (Instr.slice 9 (.string (str bs)) none (some (.int .i64 (b : Int))) none).run Try.prog w = .ok (.string (str (bs.take b))) w := by
  rw [run_slice_string_h w 9 (str bs) Try.underlying9 .i64 b (by omega) (by rw [size_str]; omega), show str (bs.take b) = str ((bs.take b).drop 0) by simp, ← str_slice]
  rfl
theorem str_tail (w : World) (bs : List Bool) (a : Nat) (ha : a ≤ bs.length) :
    (Instr.slice 9 (.string (str bs)) (some (.int .i64 (a : Int))) none none).run Try.prog w = .ok (.string (str (bs.drop a))) w := by
  rw [run_slice_string_l w 9 (str bs) Try.underlying9 .i64 a (by omega) (by rw [size_str]; omega), show str (bs.drop a) = str ((bs.take bs.length).drop a) by simp, ← str_slice, size_str]
  rfl

def BinaryAt (v n : Nat) (x s i : Value) : Prop := ∃ k : Nat, k ≤ n ∧ x = .int .u64 ((v / 2 ^ k : Nat) : Int) ∧ s = .string (str (bitsOf v k)) ∧ i = .int .i64 (k : Int)

set_option maxHeartbeats 1000000 in
set_option maxRecDepth 100000 in
theorem binary_any (w : World) (v n : Nat) (hv : v < 18446744073709551616) (hn : n ≤ 64) :
    Calls Try.prog 25 #[.int .u64 (v : Int), .int .i64 (n : Int)] w fun e w' => e = .returned (.string (str (bitsOf v n))) ∧ w = w' := by
  go_enter Try.func25, Try.ntmps25
  go_wp2
  go_loop [0, 5, 6] (BinaryAt v n) (fun _ _ i => n - (intOf i).toNat)
  case atStart => exact ⟨0, Nat.zero_le _, by simp, rfl, rfl⟩
  case round =>
    obtain ⟨k, hk, rfl, rfl, rfl⟩ := hrel
    by_cases hlt : k < n
    · have hx : v / 2 ^ k < 18446744073709551616 := Nat.lt_of_le_of_lt (Nat.div_le_self _ _) hv
      have hy : v / 2 ^ (k + 1) = v / 2 ^ k / 2 := by rw [Nat.pow_succ, Nat.div_div_eq_div_mul]
      have hb : v.testBit k = decide (v / 2 ^ k % 2 = 1) := Nat.testBit_eq_decide_div_mod_eq
      have HY := Lib.hid hy
      have HB := Lib.hid hb
      have ha := fun b => str_add Try.prog w [b] (bitsOf v k) (by simp) (by rw [length_bitsOf]; omega)
      clear hy hb
      generalize v / 2 ^ k = x at *
      by_cases hbit : x % 2 = 1
      · have h1 : ((x : Int) % 2 == 1) = true := by simp; omega
        have a1 := ha true
        rw [← str_one] at a1
        clear ha
        go_wp2
        refine ⟨⟨k + 1, hlt, ?_, ?_, rfl⟩, by simp [intOf]; omega⟩
        · rw [HY.out]; congr 1
        · rw [bitsOf_succ, HB.out]; simp [hbit]
      · have h1 : ((x : Int) % 2 == 1) = false := by simp; omega
        have a1 := ha false
        rw [← str_nought] at a1
        clear ha
        go_wp2
        refine ⟨⟨k + 1, hlt, ?_, ?_, rfl⟩, by simp [intOf]; omega⟩
        · rw [HY.out]; congr 1
        · rw [bitsOf_succ, HB.out]; simp [hbit]
    · obtain rfl : k = n := by omega
      go_wp2
      go_ret
      exact ⟨rfl, rfl⟩

def ValueAt (bs : List Bool) (x i : Value) : Prop := ∃ k : Nat, k ≤ bs.length ∧ x = .int .u64 (num (bs.take k) : Nat) ∧ i = .int .i64 (k : Int)

set_option maxHeartbeats 1000000 in
set_option maxRecDepth 100000 in
theorem value_any (w : World) (bs : List Bool) (hn : bs.length ≤ 64) :
    Calls Try.prog 27 #[.string (str bs)] w fun e w' => e = .returned (.int .u64 (num bs : Nat)) ∧ w = w' := by
  have hsz := size_str bs
  have HS := Lib.hid hsz
  generalize hm : bs.length = m at *
  have HM := Lib.hid hm
  clear hm
  go_enter Try.func27, Try.ntmps27
  go_wp2
  go_loop [3, 4] (ValueAt bs) (fun _ i => m - (intOf i).toNat)
  case atStart => exact ⟨0, Nat.zero_le _, rfl, rfl⟩
  case round =>
    obtain ⟨k, hk, rfl, rfl⟩ := hrel
    rw [HM.out] at hk
    by_cases hlt : k < m
    · have hi := str_index w bs k (by rw [HM.out]; exact hlt)
      have hl : num (bs.take k) < 9223372036854775808 := by
        have h1 := num_lt (bs.take k)
        have h2 : 2 ^ (bs.take k).length ≤ 2 ^ 63 := Nat.pow_le_pow_right (by omega) (by rw [List.length_take]; omega)
        omega
      have HN := Lib.hid (show num (bs.take (k + 1)) = 2 * num (bs.take k) + (bs.getD k false).toNat by
        rw [List.take_succ_eq_append_getElem (by rw [HM.out]; exact hlt), num_snoc]
        simp [List.getElem?_eq_getElem (show k < bs.length by rw [HM.out]; exact hlt)])
      generalize num (bs.take k) = x at *
      generalize bs.getD k false = b at *
      cases b
      · have hc : (((ch false).toNat : Int) == 49) = false := by decide
        go_wp2
        refine ⟨⟨k + 1, by rw [HM.out]; exact hlt, ?_, rfl⟩, by simp [intOf]; omega⟩
        rw [HN.out]; rfl
      · have hc : (((ch true).toNat : Int) == 49) = true := by decide
        go_wp2
        refine ⟨⟨k + 1, by rw [HM.out]; exact hlt, ?_, rfl⟩, by simp [intOf]; omega⟩
        rw [HN.out]; rfl
    · obtain rfl : k = m := by omega
      go_wp2
      go_ret
      rw [List.take_of_length_le (by rw [HM.out]; exact Nat.le_refl _)]
      exact ⟨rfl, rfl⟩
end Go.Proofs.Ytdlblpmjghjhlaa
