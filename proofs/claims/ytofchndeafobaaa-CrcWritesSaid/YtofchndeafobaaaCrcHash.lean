/- Hash (layer 6): Write and Sum, of a nil one too. -/
import Derived.Test.YtofchndeafobaaaCrcUpd
namespace Go.Proofs.Ytofchndeafobaaa
open Go.RowKit

/-- A Hash with the sum s lies in block g. -/
def HIs (w : World) (g s : Nat) : Prop := w.heap[g]? = some (.cells #[.int .u32 (s : Int)] 31 (0, 0))
theorem HIs.below {w w' : World} {g s : Nat} (h : HIs w g s) (hb : Below w.heap.size w w') : HIs w' g s := (hb.block g (heap_lt h)).trans h
theorem HIs.cell {w : World} {g s : Nat} (h : HIs w g s) : w.cell? ⟨g, 0, none⟩ = some (.int .u32 (s : Int)) := by rw [cell_in h]; rfl
theorem HIs.set {w : World} {g s : Nat} (h : HIs w g s) (t : Nat) : HIs (w.setCell ⟨g, 0, none⟩ (.int .u32 (t : Int))) g t := by
  have := heap_set h 0 (.int .u32 (t : Int))
  simpa [HIs] using this

set_option maxHeartbeats 800000 in
set_option maxRecDepth 100000 in
theorem hwrite_any (w : World) (g s : Nat) (A : Option Addr) (n c : Nat) (l : List Nat) (hg : HIs w g s) (h : Reads w A n (bts l)) (hd : Dig l) (hs : s < 4294967296) (hn : n ≤ 1000000) :
    Calls Try.prog 15 #[.pointer (some ⟨g, 0, none⟩), .slice A n c] w fun e w' => e = .returned (.tuple #[]) ∧ HIs w' g (crcUpd s l) ∧ Chg (· = g) w w' := by
  have K := Lib.hid (cupdate_any w A n c l s h hd hs hn)
  have c0 := hg.cell
  have HG := Lib.hid hg
  generalize crcUpd s l = u at *
  clear h hd hg
  go_enter Try.func15, Try.ntmps15
  go_wp2_with fail
  refine K.out.mono ?_
  rintro e w1 ⟨rfl, b1⟩
  have B1 := Lib.hid b1
  have G1 := Lib.hid (HG.out.below b1)
  have c1 := (HG.out.below b1).cell
  have f1 := frozen_in (HG.out.below b1) 0
  clear b1
  go_wp2
  go_end0
  exact ⟨rfl, G1.out.set u, (Chg.of_below B1.out).set _ _ (by exact rfl)⟩

set_option maxHeartbeats 800000 in
set_option maxRecDepth 100000 in
theorem hwrite_nil (w : World) (A : Option Addr) (n c : Nat) : Calls Try.prog 15 #[.pointer none, .slice A n c] w fun e w' => e = .returned (.tuple #[]) ∧ w = w' := by
  go_enter Try.func15, Try.ntmps15
  go_wp2
  refine bodyPost_ret (results_none rfl _ _ _) rfl ?_
  exact ⟨rfl, rfl⟩

set_option maxHeartbeats 800000 in
set_option maxRecDepth 100000 in
theorem hsum_any (w : World) (g s : Nat) (hg : HIs w g s) : Calls Try.prog 16 #[.pointer (some ⟨g, 0, none⟩)] w fun e w' => e = .returned (.int .u32 (s : Int)) ∧ w = w' := by
  have c0 := hg.cell
  clear hg
  go_enter Try.func16, Try.ntmps16
  go_wp2
  go_ret
  exact ⟨rfl, rfl⟩
set_option maxHeartbeats 800000 in
set_option maxRecDepth 100000 in
theorem hsum_nil (w : World) : Calls Try.prog 16 #[.pointer none] w fun e w' => e = .returned (.int .u32 0) ∧ Below w.heap.size w w' := by
  have K := Lib.hid (csum_nil w)
  go_enter Try.func16, Try.ntmps16
  go_wp2_with fail
  refine K.out.mono ?_
  rintro e w1 ⟨rfl, b1⟩
  have B1 := Lib.hid b1
  clear b1
  go_wp2
  go_ret
  exact ⟨rfl, B1.out⟩
end Go.Proofs.Ytofchndeafobaaa
