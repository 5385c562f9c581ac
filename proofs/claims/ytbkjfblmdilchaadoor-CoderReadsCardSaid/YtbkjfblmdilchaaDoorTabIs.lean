/- What a table holds in memory; Symbols, has, Total, Low and Count of a table and of none. -/
import Derived.Test.YtbkjfblmdilchaaDoorTabList
import Derived.BigQuiet
import Derived.Deep.QuietTactic
namespace Go.Proofs.YtbkjfblmdilchaaDoor
open Go.RowKit

/-- A table's struct lies in block g; its sums lie in block q, and are those of the counts c. -/
structure TIs (w : World) (g q cap : Nat) (c : List Int) : Prop where
  blk : w.heap[g]? = some (.cells #[.slice (some ⟨q, 0, none⟩) c.length cap] 83 (0, 0))
  row : ∃ rest : List Value, w.heap[q]? = some (.cells (ints (ends c) ++ rest).toArray 3 (0, 0))

section
variable {w w' : World} {g q cap : Nat} {c : List Int}
theorem TIs.lt (h : TIs w g q cap c) : g < w.heap.size := heap_lt h.blk
theorem TIs.lt' (h : TIs w g q cap c) : q < w.heap.size := by obtain ⟨r, hr⟩ := h.row; exact heap_lt hr
theorem TIs.ne (h : TIs w g q cap c) : g ≠ q := by
  intro e
  subst e
  obtain ⟨r, hr⟩ := h.row
  have := h.blk
  rw [hr] at this
  injection this with this
  injection this with _ ht
  exact absurd ht (by decide)
theorem TIs.keep (h : TIs w g q cap c) (h1 : w'.heap[g]? = w.heap[g]?) (h2 : w'.heap[q]? = w.heap[q]?) : TIs w' g q cap c :=
  ⟨h1.trans h.blk, by obtain ⟨r, hr⟩ := h.row; exact ⟨r, h2.trans hr⟩⟩
theorem TIs.below (h : TIs w g q cap c) (hb : Below w.heap.size w w') : TIs w' g q cap c := h.keep (hb.block g h.lt) (hb.block q h.lt')
theorem TIs.read (h : TIs w g q cap c) (hb : Reading w w') : TIs w' g q cap c := h.below hb.below
theorem TIs.head (h : TIs w g q cap c) : w.cell? ⟨g, 0, none⟩ = some (.slice (some ⟨q, 0, none⟩) c.length cap) := by rw [cell_in h.blk]; rfl
theorem TIs.at (h : TIs w g q cap c) (k : Nat) (hk : k < c.length) : w.cell? ⟨q, k, none⟩ = some (.int .i64 (low c (k + 1))) := by
  obtain ⟨r, hr⟩ := h.row
  rw [cell_in hr]
  have h1 : k < (ints (ends c)).length := by rw [length_ints, length_ends]; exact hk
  have h2 := ends_at c k hk
  rw [List.getElem?_toArray, List.getElem?_append_left h1]
  simp [ints, h2]
end

theorem symbols_any (w : World) (g q cap : Nat) (c : List Int) (h : TIs w g q cap c) :
    Calls Tryd.prog 27 #[.pointer (some ⟨g, 0, none⟩)] w fun e w' => e = .returned (.int .i64 (c.length : Int)) ∧ Reading w w' := by
  have c0 := h.head
  clear h
  generalize c.length = n at *
  go_enter Tryd.func27, Tryd.ntmps27
  go_wp2
  go_ret
  exact ⟨rfl, 0, rfl⟩
theorem symbols_nil (w : World) : Calls Tryd.prog 27 #[.pointer none] w fun e w' => e = .returned (.int .i64 0) ∧ Reading w w' := by
  go_enter Tryd.func27, Tryd.ntmps27
  go_wp2
  go_ret
  exact ⟨rfl, 0, rfl⟩

theorem has_any (w : World) (g q cap : Nat) (c : List Int) (x : Int) (h : TIs w g q cap c) :
    Calls Tryd.prog 43 #[.pointer (some ⟨g, 0, none⟩), .int .i64 x] w fun e w' => e = .returned (.bool (decide (0 ≤ x ∧ x < c.length))) ∧ Reading w w' := by
  have K := Lib.hid (symbols_any w g q cap c h)
  clear h
  generalize c.length = n at *
  by_cases h0 : 0 ≤ x
  · have e0 : decide (0 ≤ x ∧ x < n) = decide (x < n) := by simp [h0]
    rw [e0]
    clear e0
    go_enter Tryd.func43, Tryd.ntmps43
    go_wp2_with fail
    refine K.out.mono ?_
    rintro e w1 ⟨rfl, b1⟩
    have B1 := Lib.hid b1
    clear b1
    go_wp2
    go_ret
    exact ⟨rfl, B1.out⟩
  · have e0 : decide (0 ≤ x ∧ x < n) = false := by simp [h0]
    rw [e0]
    clear e0
    go_enter Tryd.func43, Tryd.ntmps43
    go_wp2
    go_ret
    exact ⟨rfl, 0, rfl⟩
theorem has_nil (w : World) : Calls Tryd.prog 43 #[.pointer none, .int .i64 0] w fun e w' => e = .returned (.bool false) ∧ Reading w w' := by
  have K := Lib.hid (symbols_nil w)
  go_enter Tryd.func43, Tryd.ntmps43
  go_wp2_with fail
  refine K.out.mono ?_
  rintro e w1 ⟨rfl, b1⟩
  have B1 := Lib.hid b1
  clear b1
  go_wp2
  go_ret
  exact ⟨rfl, B1.out⟩

theorem total_any (w : World) (g q cap : Nat) (c : List Int) (h : TIs w g q cap c) (h0 : 0 < c.length) (hm : c.length ≤ 256) :
    Calls Tryd.prog 41 #[.pointer (some ⟨g, 0, none⟩)] w fun e w' => e = .returned (.int .i64 c.sum) ∧ Reading w w' := by
  obtain ⟨m, hc⟩ : ∃ m, c.length = m + 1 := ⟨c.length - 1, by omega⟩
  have K := symbols_any w g q cap c h
  have cx := fun w' (b : Reading w w') => (h.read b).at m (by omega)
  have c0 := fun w' (b : Reading w w') => (h.read b).head
  rw [low_all c (m + 1) (by omega)] at cx
  have HX := Lib.hid cx
  have H0 := Lib.hid c0
  have KH := Lib.hid K
  clear h cx c0 K
  rw [hc] at KH H0
  have hm2 : m < 256 := by omega
  clear hm h0 hc
  generalize c.sum = s at *
  go_enter Tryd.func41, Tryd.ntmps41
  go_wp2_with fail
  refine KH.out.mono ?_
  rintro e w1 ⟨rfl, b1⟩
  have k0 := H0.out w1 b1
  have kx := HX.out w1 b1
  have B1 := Lib.hid b1
  clear b1
  have e1 : IntKind.i64.wrap (m : Int) = (m : Int) := IntWalk.i64_in _ (by omega)
  have e3 : (m : Int) < (m : Int) + 1 := by omega
  have e4 : (((m + 1 : Nat) : Int) == 0) = false := by simp; omega
  have e5 : (((m : Int) + 1) == 0) = false := by simp; omega
  go_wp2
  go_quiet (fail)
  go_wp2
  go_ret
  exact ⟨rfl, B1.out.trans ⟨_, rfl⟩⟩
theorem total_nil (w : World) : Calls Tryd.prog 41 #[.pointer none] w fun e w' => e = .returned (.int .i64 0) ∧ Reading w w' := by
  have K := Lib.hid (symbols_nil w)
  go_enter Tryd.func41, Tryd.ntmps41
  go_wp2_with fail
  refine K.out.mono ?_
  rintro e w1 ⟨rfl, b1⟩
  have B1 := Lib.hid b1
  clear b1
  go_wp2
  go_ret
  exact ⟨rfl, B1.out⟩
end Go.Proofs.YtbkjfblmdilchaaDoor
