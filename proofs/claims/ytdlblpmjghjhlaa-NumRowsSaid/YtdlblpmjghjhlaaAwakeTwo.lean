/- The document's examples of layer 2 come out as the chapter says: awake answers true, and turns nothing that was there. -/
import Derived.Test.YtdlblpmjghjhlaaLawTwo
namespace Go.Proofs.Ytdlblpmjghjhlaa
open Go.RowKit

def ex2 (k : Nat) : List Bool := (List.range k).flatMap gamma
theorem ex2_succ (k : Nat) : ex2 (k + 1) = ex2 k ++ gamma k := by simp [ex2, List.range_succ]
theorem ex2_len : ∀ k : Fin 5, (ex2 k.val).length ≤ 12 := by decide +kernel
theorem ex2_all : ex2 4 = [true, false, true, false, false, true, true, false, false, true, false, false] := by decide +kernel
theorem ex2_str : str (ex2 4) = ⟨#[49, 48, 49, 48, 48, 49, 49, 48, 48, 49, 48, 48]⟩ := by rw [ex2_all]; rfl
theorem width_ex (w : World) : Calls Try.prog 24 #[.int .i64 5] w fun e w' => e = .returned (.int .i64 3) ∧ w = w' := by
  have := width_any w 5 (by decide)
  rwa [show wide 5 = 3 by decide +kernel] at this
theorem zig_ex (w : World) : Calls Try.prog 30 #[.int .i64 (-2)] w fun e w' => e = .returned (.int .u64 3) ∧ w = w' := zig_any w (-2) (by decide) (by decide)
theorem zag_ex (w : World) : Calls Try.prog 32 #[.int .u64 3] w fun e w' => e = .returned (.int .i64 (-2)) ∧ w = w' := zag_any w 3 (by decide) (by decide)
theorem size_ex (w : World) : Calls Try.prog 15 #[.int .u64 3] w fun e w' => e = .returned (.int .i64 5) ∧ w = w' := by
  have := size_ok w 3 (by decide)
  rwa [show (gamma 3).length = 5 by decide +kernel] at this

def four : Array Value := #[.int .u64 0, .int .u64 1, .int .u64 2, .int .u64 3]
theorem four_at (k : Nat) (h : k < 4) : four[k]? = some (.int .u64 (k : Int)) := by
  match k, h with
  | 0, _ => rfl
  | 1, _ => rfl
  | 2, _ => rfl
  | 3, _ => rfl

theorem WIs.own_other {w : World} {B g q : Nat} {v : Value} {bs : List Bool} {cs : Array Value} {t : TypeId} (h : WIs w B g v bs) (hq : w.heap[q]? = some (.cells cs t (0, 0))) (ht : 5 ≠ t) : v.ownBlock ≠ some q := by
  rcases h.row.2 with ⟨rfl, _⟩ | ⟨p, cap, cur, rfl, _, hh, _⟩
  · simp [Value.ownBlock]
  · intro e
    have e' : p = q := by simpa [Value.ownBlock] using e
    subst e'
    rw [hh] at hq
    injection hq with hq
    injection hq with _ e2
    exact ht e2

def AwakeAt (w : World) (i : Value) (wr : World) : Prop :=
  ∃ (k : Nat) (v : Value), k ≤ 4 ∧ i = .int .i64 (k : Int) ∧ WIs wr w.heap.size w.heap.size v (ex2 k) ∧ wr.heap[w.heap.size + 1]? = some (.cells four 22 (0, 0)) ∧ Below w.heap.size w wr

set_option maxHeartbeats 2000000 in
set_option maxRecDepth 100000 in
theorem awake_true (w : World) : Calls Try.prog 11 #[] w fun e w' => e = .returned (.bool true) ∧ Below w.heap.size w w' := by
  have w0 := WIs.new w w.heap.size
  have b0 : Below w.heap.size w (w.alloc (.cells #[.slice none 0 0, .int .i64 0] 27)) := (Below.refl _ _).alloc (Nat.le_refl _) _
  have W0 := Lib.hid w0
  have B0 := Lib.hid b0
  clear w0 b0
  go_enter Try.func11, Try.ntmps11
  go_wp2_with fail
  go_loopw [8] (AwakeAt w) (fun i _ => 4 - (intOf i).toNat)
  case atStart =>
    refine ⟨0, .slice none 0 0, by omega, rfl, W0.out.below ((Below.refl _ _).alloc (Nat.le_refl _) _), ?_, B0.out.alloc B0.out.size _⟩
    have := heap_alloc_new (w.alloc (.cells #[.slice none 0 0, .int .i64 0] 27)) (.cells four 22)
    rwa [show (w.alloc (.cells #[.slice none 0 0, .int .i64 0] 27)).heap.size = w.heap.size + 1 by simp] at this
  case round =>
    obtain ⟨k, v, hk, rfl, hw, hc, hb⟩ := hrel
    have HW := Lib.hid hw
    have HC := Lib.hid hc
    have HB := Lib.hid hb
    clear hw hc hb
    by_cases hlt : k < 4
    · have hcell : wr.cell? ⟨w.heap.size + 1, k, none⟩ = some (.int .u64 (k : Int)) := by rw [cell_in HC.out]; exact four_at k hlt
      have hl := ex2_len ⟨k, by omega⟩
      have HL := Lib.hid (show (ex2 k).length ≤ 12 from hl)
      clear hl
      go_wp2_with fail
      refine (nput_ok wr w.heap.size w.heap.size v (ex2 k) k (by omega) HW.out HB.out.size (by have := HL.out; omega)).mono ?_
      rintro e w1 ⟨rfl, v1, h1, k1, m1⟩
      have W1 := Lib.hid (show WIs w1 w.heap.size w.heap.size v1 (ex2 (k + 1)) by rw [ex2_succ]; exact h1)
      have B1 := Lib.hid (HB.out.trans (k1.below (B := w.heap.size) (Nat.le_refl _) HB.out.size HW.out.own_ge))
      have C1 := Lib.hid ((k1.block _ (heap_lt HC.out) (by omega) (HW.out.own_other HC.out (by decide)).symm).trans HC.out)
      clear h1 k1 m1
      go_wp2
      exact ⟨⟨k + 1, v1, hlt, rfl, W1.out, C1.out, B1.out⟩, by simp [intOf]; omega⟩
    · obtain rfl : k = 4 := by omega
      go_wp2_with fail
      refine (written_any wr w.heap.size w.heap.size v (ex2 4) HW.out (Nat.le_trans (ex2_len 4) (by omega))).mono ?_
      rintro e w1 ⟨rfl, b1⟩
      rw [ex2_str]
      have B1 := Lib.hid (HB.out.trans (b1.mono HB.out.size))
      clear b1
      go_wp2_with fail
      refine (width_ex w1).mono ?_
      rintro e w2 ⟨rfl, rfl⟩
      go_wp2_with fail
      refine (zig_ex w1).mono ?_
      rintro e w2 ⟨rfl, rfl⟩
      go_wp2_with fail
      refine (zag_ex w1).mono ?_
      rintro e w2 ⟨rfl, rfl⟩
      go_wp2_with fail
      refine (size_ex w1).mono ?_
      rintro e w2 ⟨rfl, rfl⟩
      go_wp2
      go_ret
      exact ⟨rfl, B1.out⟩
end Go.Proofs.Ytdlblpmjghjhlaa
