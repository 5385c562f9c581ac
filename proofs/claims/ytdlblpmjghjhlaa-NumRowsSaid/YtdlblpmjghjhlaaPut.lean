/- Writer.Put: a value and a width that fit are appended; else ErrRange, and nothing turns. -/
import Derived.Test.YtdlblpmjghjhlaaPushed
import Derived.BigQuiet
import Derived.Deep.QuietTactic
namespace Go.Proofs.Ytdlblpmjghjhlaa
open Go.RowKit

theorem put_width (w : World) (g : Nat) (v n : Int) (h : n < 0 ∨ 64 < n) :
    Calls Try.prog 35 #[.pointer (some ⟨g, 0, none⟩), .int .u64 v, .int .i64 n] w fun e w' => e = .returned (.int .i64 2) ∧ w = w' := by
  rcases h with h | h
  · go_enter Try.func35, Try.ntmps35
    go_wp2
    go_ret
    exact ⟨rfl, rfl⟩
  · have h0 : ¬ n < 0 := by omega
    go_enter Try.func35, Try.ntmps35
    go_wp2
    go_ret
    exact ⟨rfl, rfl⟩

theorem div_cast (v n : Nat) : (v : Int) / 2 ^ n = ((v / 2 ^ n : Nat) : Int) := by push_cast; rfl
theorem div_ne (v n : Nat) (h : 2 ^ n ≤ v) : ((v : Int) / 2 ^ n != 0) = true := by
  rw [div_cast, bne_iff_ne]
  have := Nat.div_pos h (Nat.two_pow_pos n)
  omega
theorem div_eq (v n : Nat) (h : v < 2 ^ n) : ((v : Int) / 2 ^ n != 0) = false := by
  rw [div_cast, Nat.div_eq_of_lt h]; rfl

theorem put_wide (w : World) (g : Nat) (v n : Nat) (hn : n ≤ 64) (h : 2 ^ n ≤ v) :
    Calls Try.prog 35 #[.pointer (some ⟨g, 0, none⟩), .int .u64 v, .int .i64 n] w fun e w' => e = .returned (.int .i64 2) ∧ w = w' := by
  have h0 : ¬ (n : Int) < 0 := by omega
  have h1 : ¬ (64 : Int) < (n : Int) := by omega
  have h2 := div_ne v n h
  clear h
  go_enter Try.func35, Try.ntmps35
  go_wp2
  go_ret
  exact ⟨rfl, rfl⟩

theorem arg_eq (v k : Nat) (hv : v < 18446744073709551616) : bits BinOp.and IntKind.u64 ((v : Int) / 2 ^ k) 1 % 256 = ((v.testBit k).toNat : Int) := by
  have hq : v / 2 ^ k < 18446744073709551616 := Nat.lt_of_le_of_lt (Nat.div_le_self _ _) hv
  have h := u64_and_nat (v / 2 ^ k) 1 hq (by omega)
  rw [div_cast]
  rw [show (1 : Int) = ((1 : Nat) : Int) from rfl, h, nat_mask1, Nat.toNat_testBit]
  omega
theorem length_bitsOf (v n : Nat) : (bitsOf v n).length = n := by simp [bitsOf]
theorem take_bitsOf (v n k : Nat) (h : k < n) : (bitsOf v n).take (k + 1) = (bitsOf v n).take k ++ [v.testBit (n - 1 - k)] := by
  rw [List.take_succ_eq_append_getElem (by rw [length_bitsOf]; exact h)]
  simp [bitsOf]

def PutAt (w : World) (B g : Nat) (u : Value) (bs : List Bool) (v n : Nat) (i : Value) (wr : World) : Prop :=
  ∃ k : Nat, k ≤ n ∧ i = .int .i64 k ∧ Wrote w wr B g u (bs ++ (bitsOf v n).take k)

set_option maxHeartbeats 800000 in
theorem put_ok (w : World) (B g : Nat) (u : Value) (bs : List Bool) (v n : Nat) (hn : n ≤ 64) (hv : v < 2 ^ n) (h : WIs w B g u bs) (hB : B ≤ w.heap.size) (hl : bs.length + n ≤ 33554432) :
    Calls Try.prog 35 #[.pointer (some ⟨g, 0, none⟩), .int .u64 v, .int .i64 n] w fun e w' => e = .returned (.int .i64 0) ∧ Wrote w w' B g u (bs ++ bitsOf v n) := by
  have h0 : ¬ (n : Int) < 0 := by omega
  have h1 : ¬ (64 : Int) < (n : Int) := by omega
  have h2 := div_eq v n hv
  have c1 : w.cell? ⟨g, 1, none⟩ = some (.int .i64 (bs.length : Int)) := by rw [cell_in h.blk]; rfl
  have h3 : ¬ (33554432 : Int) - bs.length < n := by omega
  have HW := Lib.hid h
  clear h
  go_enter Try.func35, Try.ntmps35
  go_wp2
  go_loopw [31] (PutAt w B g u bs v n) (fun i _ => n - (intOf i).toNat)
  case atStart => exact ⟨0, Nat.zero_le _, rfl, u, by simpa using HW.out, Kept.refl _ _ _, Moved.refl _ _⟩
  case round =>
    obtain ⟨k, hk, rfl, u', hu', hkept, hmov⟩ := hrel
    have H1 := Lib.hid hu'
    have H2 := Lib.hid hkept
    have H3 := Lib.hid hmov
    clear hu' hkept hmov c1
    by_cases hlt : k < n
    · have b1 : (0 : Int) ≤ (n : Int) - 1 - k := by omega
      go_wp2_with fail
      rw [arg_eq v (n - 1 - k) (Nat.lt_of_lt_of_le hv (by
        have := Nat.pow_le_pow_right (n := 2) (by omega) hn
        omega))]
      refine (push_any wr B g u' _ (v.testBit (n - 1 - k)) H1.out (Nat.le_trans hB H2.out.size) (by
        have := length_bitsOf v n
        simp; omega)).mono ?_
      rintro e w1 ⟨rfl, hw1⟩
      have H4 := Lib.hid hw1
      clear hw1
      go_wp2
      go_roundw
      case rel =>
        refine ⟨k + 1, by omega, by go_num, ?_⟩
        rw [take_bitsOf v n k hlt, ← List.append_assoc]
        exact Wrote.trans H2.out H3.out H4.out
      case measure => simp [intOf]; omega
    · go_wp2
      go_ret
      refine ⟨rfl, u', ?_, H2.out, H3.out⟩
      have := H1.out
      rwa [List.take_of_length_le (by rw [length_bitsOf]; omega)] at this
end Go.Proofs.Ytdlblpmjghjhlaa
