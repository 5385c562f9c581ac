/- num.Size, Width, Put and Fixed, in words of bits. -/
import Derived.Test.YtdlblpmjghjhlaaGamma
import Derived.Test.YtdlblpmjghjhlaaLen64
import Derived.Test.YtdlblpmjghjhlaaTell
import Derived.Test.YtdlblpmjghjhlaaNil
namespace Go.Proofs.Ytdlblpmjghjhlaa
open Go.RowKit

theorem len64_int (w : World) (x : Int) (n : Nat) (hx : x = (n : Int)) (hn : n < 18446744073709551616) :
    Calls Try.prog 34 #[.int .u64 x] w fun e w' => e = .returned (.int .i64 (bitLen n : Nat)) ∧ w = w' := by
  subst hx; exact len64_any w n hn

set_option maxHeartbeats 1000000 in
set_option maxRecDepth 100000 in
theorem size_ok (w : World) (n : Nat) (hn : n ≤ 4294967296) :
    Calls Try.prog 15 #[.int .u64 (n : Int)] w fun e w' => e = .returned (.int .i64 ((gamma n).length : Nat)) ∧ w = w' := by
  have hd := gamma_small n hn
  have hp := digits_pos (n + 1) (by omega)
  have hl := Lib.hid (length_gamma n)
  have h1 : (n : Int) ≤ 4294967296 := by omega
  generalize hg : bitLen (n + 1) = d at *
  have HG := Lib.hid hg
  clear hg
  go_enter Try.func15, Try.ntmps15
  go_wp2_with fail
  refine (len64_int w _ (n + 1) (by omega) (by omega)).mono ?_
  rintro e w1 ⟨rfl, rfl⟩
  rw [HG.out]
  go_wp2
  go_ret
  refine ⟨congrArg Ending.returned (congrArg (Value.int IntKind.i64) ?_), rfl⟩
  have := hl.out
  omega

set_option maxHeartbeats 1000000 in
set_option maxRecDepth 100000 in
theorem size_over (w : World) (n : Nat) (hn : 4294967296 < n) :
    Calls Try.prog 15 #[.int .u64 (n : Int)] w fun e w' => e = .returned (.int .i64 0) ∧ w = w' := by
  have h1 : (4294967296 : Int) < n := by omega
  go_enter Try.func15, Try.ntmps15
  go_wp2
  go_ret
  exact ⟨rfl, rfl⟩

/-- The width of a bound. -/
def wide (b : Int) : Nat := bitLen (b.toNat - 1)
theorem gamma_form (n : Nat) : gamma n = bitsOf 0 (bitLen (n + 1) - 1) ++ bitsOf (n + 1) (bitLen (n + 1)) := by rw [bitsOf_zero]; rfl

set_option maxHeartbeats 1000000 in
set_option maxRecDepth 100000 in
theorem width_any (w : World) (b : Int) (hb : b < 9223372036854775808) :
    Calls Try.prog 24 #[.int .i64 b] w fun e w' => e = .returned (.int .i64 (wide b : Nat)) ∧ w = w' := by
  by_cases h : b ≤ 1
  · go_enter Try.func24, Try.ntmps24
    go_wp2
    go_ret
    refine ⟨congrArg Ending.returned (congrArg (Value.int IntKind.i64) ?_), rfl⟩
    rw [wide, show b.toNat - 1 = 0 by omega]; rfl
  · have h1 : 1 < b := by omega
    go_enter Try.func24, Try.ntmps24
    go_wp2_with fail
    refine (len64_int w _ (b.toNat - 1) (by omega) (by omega)).mono ?_
    rintro e w1 ⟨rfl, rfl⟩
    go_wp2
    go_ret
    exact ⟨rfl, rfl⟩
theorem wide_le (b : Int) (hb : b < 9223372036854775808) : wide b ≤ 63 := digits_le _ _ (by omega)
theorem wide_lt (b v : Int) (h : v < b) (h0 : 0 < b) : v.toNat < 2 ^ wide b := Nat.lt_of_le_of_lt (by omega) (digits_lt (b.toNat - 1))

theorem nput_nil (w : World) (n : Int) : Calls Try.prog 12 #[.pointer none, .int .u64 n] w fun e w' => e = .returned (.int .i64 1) ∧ w = w' := by
  go_enter Try.func12, Try.ntmps12
  go_wp2
  go_ret
  exact ⟨rfl, rfl⟩
theorem nput_range (w : World) (g n : Nat) (hn : 4294967296 < n) : Calls Try.prog 12 #[.pointer (some ⟨g, 0, none⟩), .int .u64 (n : Int)] w fun e w' => e = .returned (.int .i64 2) ∧ w = w' := by
  have h1 : (4294967296 : Int) < n := by omega
  go_enter Try.func12, Try.ntmps12
  go_wp2
  go_ret
  exact ⟨rfl, rfl⟩

set_option maxHeartbeats 1000000 in
set_option maxRecDepth 100000 in
theorem nput_ok (w : World) (B g : Nat) (v : Value) (bs : List Bool) (n : Nat) (hn : n ≤ 4294967296) (h : WIs w B g v bs) (hB : B ≤ w.heap.size) (hl : bs.length + 65 ≤ 33554432) :
    Calls Try.prog 12 #[.pointer (some ⟨g, 0, none⟩), .int .u64 (n : Int)] w fun e w' => e = .returned (.int .i64 0) ∧ Wrote w w' B g v (bs ++ gamma n) := by
  have hd := gamma_small n hn
  have hp := digits_pos (n + 1) (by omega)
  have h1 : (n : Int) ≤ 4294967296 := by omega
  have HL := Lib.hid (length_gamma n)
  have HN := Lib.hid (digits_lt (n + 1))
  have HE := Lib.hid (gamma_form n)
  generalize hg : bitLen (n + 1) = d at *
  have HG := Lib.hid hg
  have HW := Lib.hid h
  generalize hz : (gamma n).length = z at *
  have HZ := Lib.hid hz
  have hz2 : z ≤ 65 := by have := HL.out; omega
  generalize hm : bs.length = m at *
  have HM := Lib.hid hm
  clear hg h hz hm
  have t1 : (z : Int) ≤ 33554432 - m := by omega
  go_enter Try.func12, Try.ntmps12
  go_wp2_with fail
  refine (size_ok w n hn).mono ?_
  rintro e w1 ⟨rfl, rfl⟩
  rw [HZ.out]
  go_wp2_with fail
  refine (len_any w B g v bs HW.out).mono ?_
  rintro e w1 ⟨rfl, rfl⟩
  rw [HM.out]
  go_wp2_with fail
  refine (len64_int w _ (n + 1) (by omega) (by omega)).mono ?_
  rintro e w1 ⟨rfl, rfl⟩
  rw [HG.out]
  obtain ⟨k, rfl⟩ : ∃ k, d = k + 1 := ⟨d - 1, by omega⟩
  go_wp2_with fail
  refine (put_ok w B g v bs 0 k (by omega) (Nat.two_pow_pos k) HW.out hB (by rw [HM.out]; omega)).mono ?_
  rintro e w1 ⟨rfl, v1, g1, k1, m1⟩
  have W1 := Lib.hid g1
  have K1 := Lib.hid k1
  have M1 := Lib.hid m1
  clear g1 k1 m1
  go_wp2_with fail
  refine (put_ok w1 B g v1 _ (n + 1) (k + 1) (by omega) HN.out W1.out (Nat.le_trans hB K1.out.size) (by rw [List.length_append, HM.out, length_bitsOf]; omega)).mono ?_
  rintro e w2 ⟨rfl, h2⟩
  have H2 := Lib.hid (h2.trans K1.out M1.out)
  clear h2
  go_wp2
  go_ret
  refine ⟨rfl, ?_⟩
  rw [HE.out, ← List.append_assoc]
  exact H2.out

theorem fixed_nil (w : World) (v b : Int) : Calls Try.prog 22 #[.pointer none, .int .i64 v, .int .i64 b] w fun e w' => e = .returned (.int .i64 1) ∧ w = w' := by
  go_enter Try.func22, Try.ntmps22
  go_wp2
  go_ret
  exact ⟨rfl, rfl⟩
theorem fixed_range (w : World) (g : Nat) (v b : Int) (h : v < 0 ∨ b ≤ v) : Calls Try.prog 22 #[.pointer (some ⟨g, 0, none⟩), .int .i64 v, .int .i64 b] w fun e w' => e = .returned (.int .i64 2) ∧ w = w' := by
  by_cases h0 : v < 0
  · clear h
    go_enter Try.func22, Try.ntmps22
    go_wp2
    go_ret
    exact ⟨rfl, rfl⟩
  · have h1 : b ≤ v := by omega
    have h2 : 0 ≤ v := by omega
    clear h h0
    go_enter Try.func22, Try.ntmps22
    go_wp2
    go_ret
    exact ⟨rfl, rfl⟩

set_option maxHeartbeats 1000000 in
set_option maxRecDepth 100000 in
theorem fixed_ok (w : World) (B g : Nat) (u : Value) (bs : List Bool) (v : Nat) (b : Int) (hv : (v : Int) < b) (hb : b < 9223372036854775808) (h : WIs w B g u bs) (hB : B ≤ w.heap.size) (hl : bs.length + 64 ≤ 33554432) :
    Calls Try.prog 22 #[.pointer (some ⟨g, 0, none⟩), .int .i64 (v : Int), .int .i64 b] w fun e w' => e = .returned (.int .i64 0) ∧ Wrote w w' B g u (bs ++ bitsOf v (wide b)) := by
  have HW := Lib.hid h
  have HL := Lib.hid hl
  have hd := wide_le b hb
  have HD := Lib.hid (show v < 2 ^ wide b from by have := wide_lt b v hv (by omega); simpa using this)
  clear h hl
  go_enter Try.func22, Try.ntmps22
  go_wp2_with fail
  refine (width_any w b hb).mono ?_
  rintro e w1 ⟨rfl, rfl⟩
  go_wp2_with fail
  refine (put_ok w B g u bs v (wide b) (by omega) HD.out HW.out hB (by have := HL.out; omega)).mono ?_
  rintro e w1 ⟨rfl, h1⟩
  have H1 := Lib.hid h1
  clear h1
  go_wp2
  go_ret
  exact ⟨rfl, H1.out⟩
end Go.Proofs.Ytdlblpmjghjhlaa
