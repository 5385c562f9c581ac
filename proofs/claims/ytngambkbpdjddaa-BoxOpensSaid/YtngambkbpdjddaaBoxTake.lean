/- What is taken from either end (layer 7): fromStart, fromEnd and their closures; bytes.HasPrefix. -/
import Derived.Test.YtngambkbpdjddaaBoxCut
import Derived.Test.YtngambkbpdjddaaMStr
namespace Go.Proofs.Ytngambkbpdjddaa
open Go.RowKit

/-- A closure's answer: z bytes from p on, if s + z bytes are there. -/
def Took (w : World) (A : Option Addr) (n c s z p : Nat) (e : Ending) (w' : World) : Prop :=
  w = w' ∧ (s + z ≤ n → e = .returned (.tuple #[.slice (cutA A c p) z (c - p), .bool true])) ∧ (n < s + z → e = .returned (.tuple #[.slice none 0 0, .bool false]))

set_option maxHeartbeats 800000 in
set_option maxRecDepth 100000 in
theorem takeS_any (w : World) (bx : Nat) (A : Option Addr) (n c s z : Nat) (S Z : Int) (hS : S = s) (hZ : Z = z) (hs : s ≤ 10000000) (hz : z ≤ 10000000) (hc : n ≤ c) (h : w.cell? ⟨bx, 0, none⟩ = some (.slice A n c)) :
    Calls Try.prog 48 #[.int .i64 S, .int .i64 Z, .pointer (some ⟨bx, 0, none⟩)] w (Took w A n c s z s) := by
  by_cases hlt : s + z ≤ n
  · have t1 : ¬ (n : Int) < S + Z := by omega
    have hr := fun W => run_cut A n c s z S (S + Z) hS (by omega) (by omega) W
    have b1 : 0 ≤ S ∧ S ≤ 10000000 := by omega
    have b2 : 0 ≤ Z ∧ Z ≤ 10000000 := by omega
    have HLT := Lib.hid hlt
    clear hS hZ hlt
    generalize hAA : cutA A c s = A' at *
    generalize hcc : c - s = c' at *
    have HC := Lib.hid (And.intro hAA hcc)
    clear hcc hAA
    go_enter Try.func48, Try.ntmps48
    go_wp2
    go_ret2
    exact ⟨rfl, fun _ => by rw [HC.out.1, HC.out.2]; rfl, fun h => absurd HLT.out (by omega)⟩
  · have t1 : (n : Int) < S + Z := by omega
    have b1 : 0 ≤ S ∧ S ≤ 10000000 := by omega
    have b2 : 0 ≤ Z ∧ Z ≤ 10000000 := by omega
    have HLT := Lib.hid hlt
    clear hS hZ hlt
    go_enter Try.func48, Try.ntmps48
    go_wp2
    go_ret2
    exact ⟨rfl, fun h => absurd h HLT.out, fun _ => rfl⟩

set_option maxHeartbeats 800000 in
set_option maxRecDepth 100000 in
theorem takeE_any (w : World) (bx : Nat) (A : Option Addr) (n c s z : Nat) (S Z : Int) (hS : S = s) (hZ : Z = z) (hs : s ≤ 10000000) (hz : z ≤ 10000000) (hn : n ≤ 10000000) (hc : n ≤ c) (h : w.cell? ⟨bx, 0, none⟩ = some (.slice A n c)) :
    Calls Try.prog 50 #[.int .i64 S, .int .i64 Z, .pointer (some ⟨bx, 0, none⟩)] w (Took w A n c s z (n - s - z)) := by
  by_cases hlt : s + z ≤ n
  · have t1 : ¬ (n : Int) - S < Z := by omega
    have hr := fun W => run_cut A n c (n - s - z) z ((n : Int) - S - Z) ((n : Int) - S) (by omega) (by omega) (by omega) W
    have b1 : 0 ≤ S ∧ S ≤ 10000000 := by omega
    have b2 : 0 ≤ Z ∧ Z ≤ 10000000 := by omega
    have HLT := Lib.hid hlt
    clear hS hZ hlt
    generalize hAA : cutA A c (n - s - z) = A' at *
    generalize hcc : c - (n - s - z) = c' at *
    have HC := Lib.hid (And.intro hAA hcc)
    clear hcc hAA
    go_enter Try.func50, Try.ntmps50
    go_wp2
    go_ret2
    exact ⟨rfl, fun _ => by rw [HC.out.1, HC.out.2]; rfl, fun h => absurd HLT.out (by omega)⟩
  · have t1 : (n : Int) - S < Z := by omega
    have b1 : 0 ≤ S ∧ S ≤ 10000000 := by omega
    have b2 : 0 ≤ Z ∧ Z ≤ 10000000 := by omega
    have HLT := Lib.hid hlt
    clear hS hZ hlt
    go_enter Try.func50, Try.ntmps50
    go_wp2
    go_ret2
    exact ⟨rfl, fun h => absurd h HLT.out, fun _ => rfl⟩

/-- A closure over these bytes. -/
def Over (w : World) (F : FuncId) (v : Value) (e : Ending) (w' : World) : Prop := ∃ bx, e = .returned (.func (.func F) #[] #[.pointer (some ⟨bx, 0, none⟩)]) ∧ w'.cell? ⟨bx, 0, none⟩ = some v ∧ Below w.heap.size w w'
set_option maxRecDepth 100000 in
theorem fromS_any (w : World) (A : Option Addr) (n c : Nat) : Calls Try.prog 28 #[.slice A n c] w (Over w 48 (.slice A n c)) := by
  have hmf : ∀ (fn : Fn) (first cap : Array Value) (w : World), (Instr.makeFunc fn first cap).run Try.prog w = .ok (.func fn first cap) w := fun _ _ _ _ => rfl
  go_enter Try.func28, Try.ntmps28
  go_wp2
  go_ret
  exact ⟨_, rfl, by rw [cell_in (heap_alloc_last w _)]; rfl, mk_below _ _⟩
set_option maxRecDepth 100000 in
theorem fromE_any (w : World) (A : Option Addr) (n c : Nat) : Calls Try.prog 31 #[.slice A n c] w (Over w 50 (.slice A n c)) := by
  have hmf : ∀ (fn : Fn) (first cap : Array Value) (w : World), (Instr.makeFunc fn first cap).run Try.prog w = .ok (.func fn first cap) w := fun _ _ _ _ => rfl
  go_enter Try.func31, Try.ntmps31
  go_wp2
  go_ret
  exact ⟨_, rfl, by rw [cell_in (heap_alloc_last w _)]; rfl, mk_below _ _⟩

set_option maxHeartbeats 800000 in
set_option maxRecDepth 100000 in
theorem hasPre_any (w : World) (A A' : Option Addr) (n c c' : Nat) (l p : List Nat) (h : Reads w A n (bts l)) (h' : Reads w A' 4 (bts p)) (hd : Dig l) (hp : Dig p) (h4 : 4 ≤ n) (hc : n ≤ c) :
    Calls Try.prog 45 #[.slice A n c, .slice A' 4 c'] w fun e w' => e = .returned (.bool (decide (seg l 0 4 = p))) ∧ w = w' := by
  have t1 : (4 : Int) ≤ n := by omega
  have t2 : decide ((4 : Int) ≤ n) = true := by simp; omega
  have hr := fun W => run_head A n c 4 4 rfl (by omega) W
  have K := Lib.hid (bequal_any w A A' 4 4 c c' (seg l 0 4) p (h.head 4 h4) h' (dig_seg hd _ _) hp)
  clear h h' hd hp
  generalize decide (seg l 0 4 = p) = r at *
  go_enter Try.func45, Try.ntmps45
  go_wp2_with fail
  refine K.out.mono ?_
  rintro e w1 ⟨rfl, rfl⟩
  go_wp2
  go_ret
  exact ⟨rfl, rfl⟩
end Go.Proofs.Ytngambkbpdjddaa
