/- math/bits.Len64 tells the number of binary digits of any uint64. -/
import Derived.Test.YtjbfgajognnmiaaDoorRows
import Derived.Lib.Strings
import Derived.Lib.Slices
import Derived.Lib.Small
import Derived.Lib.Walk
import Derived.Lib.BitFns
import Derived.Laws.MathBits
namespace Go.Proofs.YtjbfgajognnmiaaDoor

set_option maxRecDepth 1000000 in
theorem fold_tab : ({ data := (([0, 1, 2, 2, 3, 3, 3, 3, 4, 4, 4, 4, 4, 4, 4, 4, 5, 5, 5, 5, 5, 5, 5, 5, 5, 5, 5, 5, 5, 5, 5, 5, 6, 6, 6, 6, 6, 6, 6, 6, 6, 6, 6, 6, 6, 6, 6, 6, 6, 6, 6, 6, 6, 6, 6, 6, 6, 6, 6, 6, 6, 6, 6, 6].append [7, 7, 7, 7, 7, 7, 7, 7, 7, 7, 7, 7, 7, 7, 7, 7, 7, 7, 7, 7, 7, 7, 7, 7, 7, 7, 7, 7, 7, 7, 7, 7, 7, 7, 7, 7, 7, 7, 7, 7, 7, 7, 7, 7, 7, 7, 7, 7, 7, 7, 7, 7, 7, 7, 7, 7, 7, 7, 7, 7, 7, 7, 7, 7]).append ([8, 8, 8, 8, 8, 8, 8, 8, 8, 8, 8, 8, 8, 8, 8, 8, 8, 8, 8, 8, 8, 8, 8, 8, 8, 8, 8, 8, 8, 8, 8, 8, 8, 8, 8, 8, 8, 8, 8, 8, 8, 8, 8, 8, 8, 8, 8, 8, 8, 8, 8, 8, 8, 8, 8, 8, 8, 8, 8, 8, 8, 8, 8, 8].append [8, 8, 8, 8, 8, 8, 8, 8, 8, 8, 8, 8, 8, 8, 8, 8, 8, 8, 8, 8, 8, 8, 8, 8, 8, 8, 8, 8, 8, 8, 8, 8, 8, 8, 8, 8, 8, 8, 8, 8, 8, 8, 8, 8, 8, 8, 8, 8, 8, 8, 8, 8, 8, 8, 8, 8, 8, 8, 8, 8, 8, 8, 8, 8])).toArray } : ByteArray) = Lib.len8tab := by decide +kernel

theorem digits_eq : ∀ (x : Nat), x < 18446744073709551616 → Lib.bitLen x = Go.bitLen x := by
  intro x
  induction x using Nat.strongRecOn with
  | _ x ih =>
    intro hx
    by_cases h0 : x = 0
    · subst h0; decide
    · rw [Lib.bitLen_half x h0 (by omega)]
      by_cases h1 : x / 2 = 0
      · have : x = 1 := by omega
        subst this; decide
      · rw [ih (x / 2) (by omega) (by omega), Go.bitLen_shift x 1 (by simpa using h1)]

theorem digits_of (n k : Nat) (m : Int) (hn : n < 18446744073709551616) (hm : m = ((n / 2 ^ k : Nat) : Int)) (h8 : m < 256) (hk : k = 0 ∨ 2 ^ k ≤ n) :
    ∃ l : Nat, Lib.len8 (m % 256) = (l : Int) ∧ l ≤ 8 ∧ k + l = Go.bitLen n := by
  have e : m % 256 = m := Int.emod_eq_of_lt (by rw [hm]; exact Int.natCast_nonneg _) h8
  have h0 : 0 ≤ m := by rw [hm]; exact Int.natCast_nonneg _
  refine ⟨Lib.bitLen m.toNat, ?_, Lib.bitLen_le8' m h0 (by omega), ?_⟩
  · rw [e]; exact Lib.len8_of m h0 (by omega)
  · have et : m.toNat = n / 2 ^ k := by rw [hm]; rfl
    rw [et, ← digits_eq n hn]
    rcases hk with rfl | hk
    · simp
    · exact (Lib.bitLen_shift k n hk hn).symm

set_option maxHeartbeats 4000000 in
set_option maxRecDepth 100000 in
theorem len64_any (w : World) (n : Nat) (hn : n < 18446744073709551616) :
    Calls Tryd.prog 69 #[.int .u64 (n : Int)] w fun e w' => e = .returned (.int .i64 (Go.bitLen n : Nat)) ∧ w = w' := by
  go_enter Tryd.func69, Tryd.ntmps69
  simp only [fold_tab]
  go_wp2
  all_goals go_ret
  all_goals refine ⟨congrArg Ending.returned (congrArg (Value.int IntKind.i64) ?_), rfl⟩
  · obtain ⟨l, e, h8, h⟩ := digits_of n 56 ((n : Int) / 4294967296 / 65536 / 256) hn (by omega) (by omega) (by omega)
    simp only [e]; omega
  · obtain ⟨l, e, h8, h⟩ := digits_of n 48 ((n : Int) / 4294967296 / 65536) hn (by omega) (by omega) (by omega)
    simp only [e]; omega
  · obtain ⟨l, e, h8, h⟩ := digits_of n 40 ((n : Int) / 4294967296 / 256) hn (by omega) (by omega) (by omega)
    simp only [e]; omega
  · obtain ⟨l, e, h8, h⟩ := digits_of n 32 ((n : Int) / 4294967296) hn (by omega) (by omega) (by omega)
    simp only [e]; omega
  · obtain ⟨l, e, h8, h⟩ := digits_of n 24 ((n : Int) / 65536 / 256) hn (by omega) (by omega) (by omega)
    simp only [e]; omega
  · obtain ⟨l, e, h8, h⟩ := digits_of n 16 ((n : Int) / 65536) hn (by omega) (by omega) (by omega)
    simp only [e]; omega
  · obtain ⟨l, e, h8, h⟩ := digits_of n 8 ((n : Int) / 256) hn (by omega) (by omega) (by omega)
    simp only [e]; omega
  · obtain ⟨l, e, h8, h⟩ := digits_of n 0 (n : Int) hn (by omega) (by omega) (by omega)
    simp only [e]; omega
end Go.Proofs.YtjbfgajognnmiaaDoor
