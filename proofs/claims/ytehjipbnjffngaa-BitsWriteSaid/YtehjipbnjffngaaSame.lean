/- same answers true of two slices that hold the same bytes. -/
import Derived.Test.YtehjipbnjffngaaTell
namespace Go.Proofs.Ytehjipbnjffngaa
open Go.RowKit

def SameAt (w : World) (n : Nat) (i : Value) (wr : World) : Prop := ∃ k : Nat, k ≤ n ∧ i = .int .i64 k ∧ Same w w wr

theorem same_none (w : World) (A1 A2 : Option Addr) (c1 c2 : Nat) : Calls Try.prog 16 #[.slice A1 0 c1, .slice A2 0 c2] w fun e w' => e = .returned (.bool true) ∧ Same w w w' := by
  go_enter Try.func16, Try.ntmps16
  go_wp2
  go_loop [13] (fun i => i = .int .i64 0) (fun _ => 0)
  case atStart => rfl
  case round =>
    subst hrel
    go_wp2
    go_ret
    exact ⟨rfl, rfl, rfl, rfl, rfl⟩

set_option maxHeartbeats 800000 in
theorem same_some (w : World) (a1 a2 : Addr) (n c1 c2 : Nat) (xs : List Nat) (hl : xs.length = n) (hn : n ≤ 140737488355328)
    (h1 : ∀ j u, (u8s xs)[j]? = some u → w.cell? (a1.add j) = some u) (h2 : ∀ j u, (u8s xs)[j]? = some u → w.cell? (a2.add j) = some u) :
    Calls Try.prog 16 #[.slice (some a1) n c1, .slice (some a2) n c2] w fun e w' => e = .returned (.bool true) ∧ Same w w w' := by
  have H1 := Lib.hid h1
  have H2 := Lib.hid h2
  have HL := Lib.hid hl
  clear h1 h2 hl
  go_enter Try.func16, Try.ntmps16
  go_wp2
  go_loopw [13] (SameAt w n) (fun i _ => n - (intOf i).toNat)
  case atStart => exact ⟨0, Nat.zero_le _, rfl, rfl, rfl, rfl, rfl⟩
  case round =>
    obtain ⟨k, hk, rfl, hs⟩ := hrel
    by_cases hlt : k < n
    · have hx : (u8s xs)[k]? = some (.int .u8 ((xs[k]'(by rw [HL.out]; exact hlt) : Nat) : Int)) := by
        simp [u8s, HL.out, hlt]
      have d1 := (same_cell hs _).trans (H1.out k _ hx)
      have d2 := (same_cell hs _).trans (H2.out k _ hx)
      generalize (xs[k]'(by rw [HL.out]; exact hlt) : Nat) = x at *
      have t : ((x : Int) != (x : Int)) = false := by simp
      have b1 : (k : Int) < n := by omega
      have HS := Lib.hid hs
      clear hs hx
      go_wp2_with fail
      go_quiet (fail)
      go_wp2
      refine ⟨⟨k + 1, by omega, by go_num, HS.out.heap, HS.out.os, HS.out.tape, HS.out.output⟩, by simp [intOf]; omega⟩
    · have HS := Lib.hid hs
      clear hs
      go_wp2
      go_ret
      exact ⟨rfl, HS.out⟩

theorem same_any (w : World) (A1 A2 : Option Addr) (n c1 c2 : Nat) (xs : List Nat) (hn : n ≤ 140737488355328) (h1 : Reads w A1 n (u8s xs)) (h2 : Reads w A2 n (u8s xs)) :
    Calls Try.prog 16 #[.slice A1 n c1, .slice A2 n c2] w fun e w' => e = .returned (.bool true) ∧ Same w w w' := by
  by_cases h0 : n = 0
  · subst h0; exact same_none w A1 A2 c1 c2
  · obtain ⟨a1, rfl, g1⟩ := h1.2 (by omega)
    obtain ⟨a2, rfl, g2⟩ := h2.2 (by omega)
    exact same_some w a1 a2 n c1 c2 xs (by have := h1.1; rwa [length_u8s] at this) hn g1 g2
end Go.Proofs.Ytehjipbnjffngaa
