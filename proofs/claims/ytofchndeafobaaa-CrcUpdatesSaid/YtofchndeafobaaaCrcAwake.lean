/- awake of the law of layer 6: the sums of the text 123456789 and of nothing. -/
import Derived.Test.YtofchndeafobaaaCrcUpd
import Derived.Lib.SlBytesConst
namespace Go.Proofs.Ytofchndeafobaaa
open Go.RowKit

def text9 : List Nat := [49, 50, 51, 52, 53, 54, 55, 56, 57]
theorem sum_text9 : crcSum text9 = 3421780262 := by decide +kernel
theorem dig_text9 : Dig text9 := by intro d hd; simp [text9] at hd; omega

theorem Reads.of_marked {w : World} {q : Nat} {xs : List Value} {t : TypeId} {fr : Nat × Nat} (h : w.heap[q]? = some (.cells xs.toArray t fr)) : Reads w (some ⟨q, 0, none⟩) xs.length xs :=
  ⟨rfl, fun _ => ⟨_, rfl, fun j u hj => by
    rw [add_zero_addr, cell_of_row w q j xs.toArray t fr h]; simpa using hj⟩⟩

set_option maxHeartbeats 800000 in
set_option maxRecDepth 100000 in
theorem awake6_true (w : World) : Calls Try.prog 11 #[] w fun e w' => e = .returned (.bool true) ∧ Below w.heap.size w w' := by
  have B0 := Lib.hid (mk_below w (.cells (bts text9).toArray 5 (9, 10)))
  have R0 := Reads.of_marked (heap_alloc_last w (.cells (bts text9).toArray 5 (9, 10)))
  have kc := fun (w : World) (C : Array Value) (n c : Nat) => Lib.run_convert_bytes_const (P := Try.prog) w 22 5 C n c Try.underlying22 Try.underlying5
  have K := csum_any _ _ _ 9 text9 R0 dig_text9 (by rw [length_bts]; decide)
  rw [sum_text9] at K
  have K1 := Lib.hid K
  clear R0 K
  go_enter Try.func11, Try.ntmps11
  go_wp2_with fail
  refine Calls.mono K1.out ?_
  rintro e w1 ⟨rfl, b1⟩
  have B1 := Lib.hid (B0.out.trans (b1.mono B0.out.size))
  clear b1
  go_wp2_with fail
  refine (csum_nil w1).mono ?_
  rintro e w2 ⟨rfl, b2⟩
  have B2 := Lib.hid (B1.out.trans (b2.mono B1.out.size))
  clear b2
  go_wp2
  go_ret
  exact ⟨rfl, B2.out⟩
end Go.Proofs.Ytofchndeafobaaa
