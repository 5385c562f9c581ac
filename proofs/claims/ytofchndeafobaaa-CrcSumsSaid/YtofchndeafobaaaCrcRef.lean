/- The document's Sum (layer 6): bit by bit. -/
import Derived.Test.YtofchndeafobaaaCrcUpd
namespace Go.Proofs.Ytofchndeafobaaa
open Go.RowKit

def RSumAt (w : World) (n : Nat) (l : List Nat) (x i : Value) (wr : World) : Prop :=
  w = wr ∧ ∃ k : Nat, k ≤ n ∧ i = .int .i64 (k : Int) ∧ x = .int .u32 ((crcReg 4294967295 (l.take k) : Nat) : Int)
def RBitAt (w : World) (y : Nat) (x k : Value) (wr : World) : Prop :=
  w = wr ∧ ∃ j : Nat, j ≤ 8 ∧ k = .int .i64 (j : Int) ∧ x = .int .u32 ((it6 j y : Nat) : Int)

set_option maxHeartbeats 2000000 in
set_option maxRecDepth 100000 in
theorem rsum_any (w : World) (A : Option Addr) (n c : Nat) (l : List Nat) (h : Reads w A n (bts l)) (hd : Dig l) (hn : n ≤ 1000000) :
    Calls Try.prog 13 #[.slice A n c] w fun e w' => e = .returned (.int .u32 ((crcSum l : Nat) : Int)) ∧ w = w' := by
  have HR := Lib.hid h
  have HL := Lib.hid h.lenB
  have HD := Lib.hid hd
  clear h hd
  go_enter Try.func13, Try.ntmps13
  go_wp2_with fail
  go_loopw [3, 4] (RSumAt w n l) (fun _ i _ => n - (intOf i).toNat)
  case atStart => exact ⟨rfl, 0, Nat.zero_le _, rfl, rfl⟩
  case round =>
    obtain ⟨rfl, k, hk, rfl, rfl⟩ := hrel
    by_cases hlt : k < n
    · obtain ⟨ad, rfl, ck⟩ := HR.out.byte k hlt
      have hkl : k < l.length := by rw [HL.out]; exact hlt
      have hdk := dig_at HD.out k
      have hx := crcReg_lt (dig_take HD.out k) 4294967295 (by omega)
      have HN := Lib.hid (show crcReg 4294967295 (l.take (k + 1)) = byteIn (crcReg 4294967295 (l.take k)) (l.getD k 0) by rw [take_getD l k hkl, crcReg_snoc])
      generalize crcReg 4294967295 (l.take k) = x at *
      generalize l.getD k 0 = d at *
      have HY := Lib.hid (show byteIn x d = it6 8 (x ^^^ d) from rfl)
      have hy : x ^^^ d < 4294967296 := Nat.xor_lt_two_pow (n := 32) hx (by omega)
      have e0 : IntKind.u32.wrap (d : Int) = (d : Int) := IntWalk.u32_in _ (by omega)
      have e1 : bits .xor .u32 (x : Int) (d : Int) = ((x ^^^ d : Nat) : Int) := u32_xor_nat x d hx (by omega)
      generalize x ^^^ d = y at *
      have K := Lib.hid (fun w j => rstep_any w (it6 j y) (it6_lt j y hy))
      have t1 : (k : Int) < n := by omega
      clear hy hx hdk hkl
      go_wp2_with fail
      go_loopw [3, 5] (RBitAt w y) (fun _ i _ => 8 - (intOf i).toNat)
      case atStart => exact ⟨rfl, 0, by omega, rfl, rfl⟩
      case round =>
        obtain ⟨rfl, j, hj, rfl, rfl⟩ := hrel
        by_cases hlt8 : j < 8
        · have t2 : (j : Int) < 8 := by omega
          have KJ := K.out w j
          rw [← it6_succ] at KJ
          have HK := Lib.hid KJ
          clear KJ
          generalize hg : it6 (j + 1) y = z at *
          have HZ := Lib.hid hg
          clear hg
          go_wp2_with fail
          refine HK.out.mono ?_
          rintro e w1 ⟨rfl, rfl⟩
          go_wp2_with fail
          exact ⟨⟨rfl, j + 1, by omega, by go_num, by rw [HZ.out]⟩, by simp [intOf]; omega⟩
        · obtain rfl : j = 8 := by omega
          have t2 : ¬ ((8 : Nat) : Int) < 8 := by omega
          go_wp2_with fail
          exact ⟨⟨rfl, k + 1, by omega, by go_num, by rw [HN.out, HY.out]⟩, by simp [intOf]; omega⟩
    · obtain rfl : k = n := by omega
      have t1 : ¬ (k : Int) < k := by omega
      rw [List.take_of_length_le (by rw [HL.out]; exact Nat.le_refl _)]
      have hx := crcReg_lt HD.out 4294967295 (by omega)
      have HS : Hid (crcSum l = 4294967295 - crcReg 4294967295 l) := Lib.hid rfl
      generalize crcReg 4294967295 l = x at *
      have e9 : IntKind.u32.wrap (4294967295 - (x : Int)) = 4294967295 - (x : Int) := IntWalk.u32_in _ (by omega)
      go_wp2
      go_ret
      exact ⟨by rw [HS.out, show ((4294967295 - x : Nat) : Int) = 4294967295 - (x : Int) by omega]; exact rfl, rfl⟩
end Go.Proofs.Ytofchndeafobaaa
