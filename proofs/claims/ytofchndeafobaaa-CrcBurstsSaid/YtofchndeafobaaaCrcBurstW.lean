/- The document's Burst (layer 6): from the first to the last bit in which two texts of one length are unlike. -/
import Derived.Test.YtofchndeafobaaaCrcUpd
import Derived.BigQuiet
namespace Go.Proofs.Ytofchndeafobaaa
open Go.RowKit

def BurstAt (w : World) (n Z : Nat) (f l i : Value) (wr : World) : Prop :=
  Reading w wr ∧ ∃ (k : Nat) (F L : Int), k ≤ n ∧ i = .int .i64 (k : Int) ∧ f = .int .i64 F ∧ l = .int .i64 L ∧ BurstSt Z (8 * k) F L
def BurstBitAt (w : World) (i Z : Nat) (f l k : Value) (wr : World) : Prop :=
  Reading w wr ∧ ∃ (j : Nat) (F L : Int), j ≤ 8 ∧ k = .int .i64 (j : Int) ∧ f = .int .i64 F ∧ l = .int .i64 L ∧ BurstSt Z (8 * i + j) F L
/-- How many bits, by the first and the last. -/
def burstOf (F L : Int) : Int := if F < 0 then 0 else L - F + 1
def BurstIs (w : World) (Z n : Nat) (e : Ending) (w' : World) : Prop := ∃ F L, e = .returned (.int .i64 (burstOf F L)) ∧ BurstSt Z (8 * n) F L ∧ Reading w w'
theorem BurstSt.bounds {Z t : Nat} {F L : Int} (h : BurstSt Z t F L) (ht : t ≤ 8000000) : -1 ≤ F ∧ F ≤ 8000000 ∧ -1 ≤ L ∧ L ≤ 8000000 := by
  rcases h with ⟨h1, h2, _⟩ | ⟨p, q, h1, h2, h3, h4, _⟩ <;> omega

set_option maxHeartbeats 4000000 in
set_option maxRecDepth 100000 in
theorem burst_any (w : World) (A A' : Option Addr) (n c c' : Nat) (a b : List Nat) (h : Reads w A n (bts a)) (h' : Reads w A' n (bts b)) (ha : Dig a) (hb : Dig b) (hn : n ≤ 1000) :
    Calls Try.prog 17 #[.slice A n c, .slice A' n c'] w (BurstIs w (leNum a ^^^ leNum b) n) := by
  have HR := Lib.hid h
  have HR' := Lib.hid h'
  have HDF := Lib.hid (fun i k (hk : k < 8) => diff_num ha hb i k hk)
  have HA := Lib.hid (And.intro ha hb)
  generalize leNum a ^^^ leNum b = Z at *
  clear h h' ha hb
  go_enter Try.func17, Try.ntmps17
  go_wp2_with fail
  go_loopw [5, 6, 7] (BurstAt w n Z) (fun _ _ i _ => n - (intOf i).toNat)
  case atStart => exact ⟨Reading.refl w, 0, _, _, Nat.zero_le _, rfl, rfl, rfl, burst_start Z⟩
  case round =>
    obtain ⟨hw, i, F, L, hi, rfl, rfl, rfl, hst⟩ := hrel
    have hbd := hst.bounds (by omega)
    have HW := Lib.hid hw
    have HS := Lib.hid hst
    clear hw hst
    by_cases hlt : i < n
    · obtain ⟨ad, rfl, ckw⟩ := HR.out.byte i hlt
      obtain ⟨ad', rfl, ckw'⟩ := HR'.out.byte i hlt
      have hda := dig_at HA.out.1 i
      have hdb := dig_at HA.out.2 i
      have HDI := Lib.hid (HDF.out i)
      generalize a.getD i 0 = x at *
      generalize b.getD i 0 = y at *
      have CK := Lib.hid (And.intro ckw ckw')
      clear ckw ckw'
      have t1 : (i : Int) < n := by omega
      go_wp2_with fail
      go_loopw [5, 6, 8] (BurstBitAt w i Z) (fun _ _ k _ => 8 - (intOf k).toNat)
      case atStart => exact ⟨HW.out, 0, _, _, by omega, rfl, rfl, rfl, HS.out⟩
      case round =>
        obtain ⟨hw, j, F, L, hj, rfl, rfl, rfl, hst⟩ := hrel
        have hbd := hst.bounds (by omega)
        have HW2 := Lib.hid hw
        have HS2 := Lib.hid hst
        clear hst
        by_cases hlt8 : j < 8
        · have cx := (hw.below.cell (B := w.heap.size) (World.block_lt_of_cell? _ _ CK.out.1)).trans CK.out.1
          have cy := (hw.below.cell (B := w.heap.size) (World.block_lt_of_cell? _ _ CK.out.2)).trans CK.out.2
          clear hw
          have e1 : bits .xor .u8 (x : Int) (y : Int) = ((x ^^^ y : Nat) : Int) := u8_xor_nat x y hda hdb
          have hxy : x ^^^ y < 256 := Nat.xor_lt_two_pow (n := 8) hda hdb
          have hdf := HDI.out j hlt8
          obtain ⟨v, hv⟩ : ∃ v, (x ^^^ y) / 2 ^ j = v := ⟨_, rfl⟩
          rw [hv] at hdf
          have hvlt : v < 256 := by rw [← hv]; exact Nat.lt_of_le_of_lt (Nat.div_le_self _ _) hxy
          obtain ⟨X, hX⟩ : ∃ X : Int, X = ((x ^^^ y : Nat) : Int) := ⟨_, rfl⟩
          obtain ⟨V, hV⟩ : ∃ V : Int, V = (v : Int) := ⟨_, rfl⟩
          have e3 : X / 2 ^ j = V := by rw [hX, hV, ← hv]; simp
          rw [← hX] at e1
          have e2 : IntKind.u64.wrap (j : Int) = (j : Int) := by simp [IntKind.wrap, IntKind.bits, IntKind.signed]; omega
          have b0 : 0 ≤ V ∧ V < 256 := by omega
          have b1 : 0 ≤ X ∧ X < 256 := by omega
          have t2 : (j : Int) < 8 := by omega
          have HX := Lib.hid (And.intro hX (And.intro hV hv))
          have e5 : IntKind.i64.wrap (8 * (i : Int)) = 8 * (i : Int) := IntWalk.i64_in _ (by omega)
          have e6 : IntKind.i64.wrap (8 * (i : Int) + j) = 8 * (i : Int) + j := IntWalk.i64_in _ (by omega)
          by_cases hz : Z.testBit (8 * i + j) = true
          · have e4 : V % 2 = 1 := by rw [hz] at hdf; simp at hdf; omega
            have N := Lib.hid (burst_set HS2.out hz)
            clear hX hV hv hdf hz hxy hvlt
            by_cases hf : F < 0
            · rw [if_pos hf] at N
              go_wp2_with fail
              go_quiet (fail)
              go_wp2_with fail
              exact ⟨⟨HW2.out.trans ⟨_, rfl⟩, j + 1, _, _, by omega, by go_num, rfl, rfl, by have := N.out; rwa [show ((8 * i + j : Nat) : Int) = 8 * (i : Int) + j by omega] at this⟩, by simp [intOf]; omega⟩
            · rw [if_neg hf] at N
              go_wp2_with fail
              go_quiet (fail)
              go_wp2_with fail
              exact ⟨⟨HW2.out.trans ⟨_, rfl⟩, j + 1, _, _, by omega, by go_num, rfl, rfl, by have := N.out; rwa [show ((8 * i + j : Nat) : Int) = 8 * (i : Int) + j by omega] at this⟩, by simp [intOf]; omega⟩
          · have hz2 : Z.testBit (8 * i + j) = false := by simpa using hz
            have e4 : V % 2 = 0 := by rw [hz2] at hdf; simp at hdf; omega
            have N := Lib.hid (burst_clear HS2.out hz2)
            clear hX hV hv hdf hz hz2 hxy hvlt
            go_wp2_with fail
            go_quiet (fail)
            go_wp2_with fail
            exact ⟨⟨HW2.out.trans ⟨_, rfl⟩, j + 1, _, _, by omega, by go_num, rfl, rfl, N.out⟩, by simp [intOf]; omega⟩
        · obtain rfl : j = 8 := by omega
          have t2 : ¬ ((8 : Nat) : Int) < 8 := by omega
          clear hw
          go_wp2_with fail
          exact ⟨⟨HW2.out, i + 1, F, L, by omega, by go_num, rfl, rfl, by rw [show 8 * (i + 1) = 8 * i + 8 by omega]; exact HS2.out⟩, by simp [intOf]; omega⟩
    · obtain rfl : i = n := by omega
      have t1 : ¬ (i : Int) < i := by omega
      by_cases hf : F < 0
      · have N := Lib.hid (show burstOf F L = 0 by unfold burstOf; rw [if_pos hf])
        go_wp2
        go_ret
        exact ⟨F, L, by rw [N.out]; rfl, HS.out, HW.out⟩
      · have N := Lib.hid (show burstOf F L = L - F + 1 by unfold burstOf; rw [if_neg hf])
        go_wp2
        go_ret
        exact ⟨F, L, by rw [N.out]; rfl, HS.out, HW.out⟩
end Go.Proofs.Ytofchndeafobaaa
