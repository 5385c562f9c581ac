/- same answers 1 of a table and its counts. -/
import Derived.Test.YtjacjgchbpghiaaTabRefB
namespace Go.Proofs.Ytjacjgchbpghiaa
open Go.RowKit

def SameAt3 (w : World) (c : List Int) (n : Nat) (s i : Value) (wr : World) : Prop := ∃ k : Nat, k ≤ n ∧ i = .int .i64 (k : Int) ∧ s = .int .i64 (low c k) ∧ Reading w wr

set_option maxHeartbeats 2000000 in
theorem same_true (w : World) (g q cap : Nat) (A : Option Addr) (n cp : Nat) (c : List Int) (h : TIs w g q cap c) (ok : Ok c) (hr : Reads w A n (ints c)) :
    Calls Try.prog 16 #[.pointer (some ⟨g, 0, none⟩), .slice A n cp] w fun e w' => e = .returned (.int .i64 1) ∧ Reading w w' := by
  have hl := hr.len
  have hfew := ok.few
  have K1 := symbols_any w g q cap c h
  rw [hl] at K1 hfew
  have HK1 := Lib.hid K1
  have HK2 := Lib.hid (fun W (b : Reading w W) => total_any W g q cap c (h.read b) ok.pos ok.few)
  have HK3 := Lib.hid (fun W (b : Reading w W) => rtotal_any W A n cp c (hr.read b) ok.zero (by have := ok.total; omega) (by omega))
  have HK4 := Lib.hid (fun W (b : Reading w W) (k : Nat) => count_any W g q cap c (k : Int) (h.read b) ok)
  have HK5 := Lib.hid (fun W (b : Reading w W) (k : Nat) => low_any W g q cap c (k : Int) (h.read b) ok.few)
  have HR := Lib.hid hr
  have HOK := Lib.hid ok
  have HL := Lib.hid hl
  have t1 : ((n : Int) != (n : Int)) = false := by simp
  clear h ok hr hl K1
  obtain ⟨S, hS⟩ : ∃ S, c.sum = S := ⟨_, rfl⟩
  rw [hS] at HK2 HK3
  have t2 : (S != S) = false := by simp
  clear hS
  go_enter Try.func16, Try.ntmps16
  go_wp2_with fail
  refine HK1.out.mono ?_
  rintro e w1 ⟨rfl, b1⟩
  have B1 := Lib.hid b1
  clear b1
  go_wp2_with fail
  refine (HK2.out w1 B1.out).mono ?_
  rintro e w2 ⟨rfl, b2⟩
  have B2 := Lib.hid (B1.out.trans b2)
  clear b2
  go_wp2_with fail
  refine (HK3.out w2 B2.out).mono ?_
  rintro e w3 ⟨rfl, b3⟩
  have B3 := Lib.hid (B2.out.trans b3)
  clear b3
  go_wp2_with fail
  go_loopw [5, 6] (SameAt3 w c n) (fun _ i _ => n - (intOf i).toNat)
  case atStart => exact ⟨0, Nat.zero_le _, rfl, by rw [low_zero], B3.out⟩
  case round =>
    obtain ⟨k, hk, rfl, rfl, hb⟩ := hrel
    by_cases hlt : k < n
    · have hkc : k < c.length := by rw [HL.out]; exact hlt
      obtain ⟨ad, rfl, ck⟩ := (HR.out.read hb).int k hlt
      have k4 := fun m => HK4.out (wr.drewN m) (hb.trans ⟨m, rfl⟩) k
      have k5 := fun m => HK5.out (wr.drewN m) (hb.trans ⟨m, rfl⟩) k
      rw [cntOf_at c k hkc] at k4
      rw [lowOf_at c k hkc] at k5
      have H4 := Lib.hid k4
      have H5 := Lib.hid k5
      have s1 := low_succ c k
      have b4 := HOK.out.low_le' k
      have b5 := HOK.out.low_le' (k + 1)
      rw [s1] at b5
      have HS := Lib.hid s1
      have HB := Lib.hid hb
      clear k4 k5 s1 hb
      have hkn : (k : Int) < n := by omega
      generalize c.getD k 0 = y at *
      generalize low c k = t at *
      have d1 : (y != y) = false := by simp
      have d2 : (t != t) = false := by simp
      have e6 : IntKind.i64.wrap (t + y) = t + y := IntWalk.i64_in _ (by omega)
      go_wp2_with fail
      go_quiet ((first | (go_at_call 19; exact Calls.quiet_of (H4.out _)) | (go_at_call 17; exact Calls.quiet_of (H5.out _))))
      have cn : (wr.drewN nq).cell? (ad.add k) = some (.int .i64 y) := ck
      have BN := Lib.hid (HB.out.trans (show Reading wr (wr.drewN nq) from ⟨nq, rfl⟩))
      generalize wr.drewN nq = W at *
      go_wp2_with fail
      exact ⟨⟨k + 1, by omega, by go_num, by rw [HS.out], BN.out⟩, by simp [intOf]; omega⟩
    · obtain rfl : k = n := by omega
      have HB := Lib.hid hb
      clear hb
      have hnl : ¬ (k : Int) < k := by omega
      go_wp2
      go_ret
      exact ⟨rfl, HB.out⟩
end Go.Proofs.Ytjacjgchbpghiaa
