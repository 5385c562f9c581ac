/- Layer 12: the document's answers: a corner's vertex, the next corner, the one ahead. -/
import Derived.Test.YtmflacmgffpjoaaGK
import Derived.Test.YtmflacmgffpjoaaGP
import Derived.Test.YtmflacmgffpjoaaGM
import Derived.BigQuiet
import Derived.Handy
import Derived.IntWalk
namespace Go.Proofs.Ytmflacmgffpjoaa
open Go.RowKit

set_option maxRecDepth 100000 in
theorem r12next_any (w : World) (k : Nat) (hk : k ≤ 1000000000) : Calls Try.prog 40 #[.int .i64 (k : Int)] w (IntSame w (nxt k : Int)) := by
  obtain ⟨r, hr⟩ : ∃ r, k % 3 = r := ⟨_, rfl⟩
  obtain ⟨s, hs⟩ : ∃ s, (r + 1) % 3 = s := ⟨_, rfl⟩
  have tm : Int.tmod (k : Int) 3 = (r : Int) := by rw [Int.tmod_eq_emod_of_nonneg (by omega)]; omega
  have tm2 : Int.tmod ((r : Int) + 1) 3 = (s : Int) := by rw [Int.tmod_eq_emod_of_nonneg (by omega)]; omega
  have w1 : IntKind.i64.wrap ((k : Int) - (r : Int)) = (k : Int) - (r : Int) := IntWalk.i64_in _ (by omega)
  have w2 : IntKind.i64.wrap ((r : Int) + 1) = (r : Int) + 1 := IntWalk.i64_in _ (by omega)
  have w3 : IntKind.i64.wrap ((k : Int) - (r : Int) + (s : Int)) = (k : Int) - (r : Int) + (s : Int) := IntWalk.i64_in _ (by omega)
  have HF := Lib.hid (show ((nxt k : Nat) : Int) = (k : Int) - (r : Int) + (s : Int) by unfold nxt; split <;> omega)
  clear hr hs
  go_enter Try.func40, Try.ntmps40
  go_wp2
  go_ret
  exact ⟨by rw [HF.out]; rfl, rfl⟩
set_option maxRecDepth 100000 in
theorem r12prev_any (w : World) (k : Nat) (hk : k ≤ 1000000000) : Calls Try.prog 41 #[.int .i64 (k : Int)] w (IntSame w (prv k : Int)) := by
  obtain ⟨r, hr⟩ : ∃ r, k % 3 = r := ⟨_, rfl⟩
  obtain ⟨s, hs⟩ : ∃ s, (r + 2) % 3 = s := ⟨_, rfl⟩
  have tm : Int.tmod (k : Int) 3 = (r : Int) := by rw [Int.tmod_eq_emod_of_nonneg (by omega)]; omega
  have tm2 : Int.tmod ((r : Int) + 2) 3 = (s : Int) := by rw [Int.tmod_eq_emod_of_nonneg (by omega)]; omega
  have w1 : IntKind.i64.wrap ((k : Int) - (r : Int)) = (k : Int) - (r : Int) := IntWalk.i64_in _ (by omega)
  have w2 : IntKind.i64.wrap ((r : Int) + 2) = (r : Int) + 2 := IntWalk.i64_in _ (by omega)
  have w3 : IntKind.i64.wrap ((k : Int) - (r : Int) + (s : Int)) = (k : Int) - (r : Int) + (s : Int) := IntWalk.i64_in _ (by omega)
  have HF := Lib.hid (show ((prv k : Nat) : Int) = (k : Int) - (r : Int) + (s : Int) by unfold prv; split <;> omega)
  clear hr hs
  go_enter Try.func41, Try.ntmps41
  go_wp2
  go_ret
  exact ⟨by rw [HF.out]; rfl, rfl⟩
set_option maxHeartbeats 2000000 in
set_option maxRecDepth 100000 in
theorem r12v_any (w : World) (N : Int) (A : Option Addr) (n c : Nat) (l : List Tr) (ht : T3 w A n l) (hn : n ≤ 1000000) (k : Nat) (hk : k < 3 * n) : Calls Try.prog 39 #[.agg #[.int .i64 N, .slice A n c], .int .i64 (k : Int)] w (IntTold w (vtx l k)) := by
  obtain ⟨w1, hw1⟩ : ∃ w1, w.alloc (.cells #[.int .i64 N, .slice A n c] 24) = w1 := ⟨_, rfl⟩
  obtain ⟨g, hg⟩ : ∃ g, w.heap.size = g := ⟨_, rfl⟩
  have b1 : Below w.heap.size w w1 := by rw [← hw1]; exact (Below.refl _ w).alloc (Nat.le_refl _) _
  have x1 : Bx w1 g N A n c := by rw [← hw1, ← hg]; exact Bx.made w N A n c
  have e1 := x1.c1
  obtain ⟨d, hd⟩ : ∃ d, k / 3 = d := ⟨_, rfl⟩
  have hdn : d < n := by omega
  obtain ⟨bA, off, rfl, hat⟩ := (ht.below b1).2 (by have := ht.1; omega)
  obtain ⟨c0, c1, c2⟩ := hat d hdn
  have td : Int.tdiv (k : Int) 3 = (d : Int) := by rw [Int.tdiv_eq_ediv_of_nonneg (by omega)]; omega
  have hdn' : (d : Int) < n := by omega
  have B1 := Lib.hid b1
  have HV : ∀ r, k % 3 = r → vtx l k = cor3 (l.getD d z3) r := fun r h => by unfold vtx; rw [hd, h]
  rcases (show k % 3 = 0 ∨ k % 3 = 1 ∨ k % 3 = 2 by omega) with h | h | h
  · have tm : Int.tmod (k : Int) 3 = 0 := by rw [Int.tmod_eq_emod_of_nonneg (by omega)]; omega
    rw [HV 0 h]
    clear b1 x1 ht hat hd h HV
    go_enter Try.func39, Try.ntmps39
    go_wp2
    go_ret
    exact ⟨rfl, B1.out⟩
  · have tm : Int.tmod (k : Int) 3 = 1 := by rw [Int.tmod_eq_emod_of_nonneg (by omega)]; omega
    rw [HV 1 h]
    clear b1 x1 ht hat hd h HV
    go_enter Try.func39, Try.ntmps39
    go_wp2
    go_ret
    exact ⟨rfl, B1.out⟩
  · have tm : Int.tmod (k : Int) 3 = 2 := by rw [Int.tmod_eq_emod_of_nonneg (by omega)]; omega
    rw [HV 2 h]
    clear b1 x1 ht hat hd h HV
    go_enter Try.func39, Try.ntmps39
    go_wp2
    go_ret
    exact ⟨rfl, B1.out⟩
end Go.Proofs.Ytmflacmgffpjoaa
