/- Layer 9: the document's: has a triangle an edge, a vertex; have two an edge in common. -/
import Derived.Test.YtelbmjbjpgcdaaaCerPure
import Derived.Test.YtelbmjbjpgcdaaaSouSame
import Derived.Test.YtelbmjbjpgcdaaaSouFill
namespace Go.Proofs.Ytelbmjbjpgcdaaa
open Go.RowKit

def DecTold (w : World) (P : Prop) [Decidable P] (e : Ending) (w' : World) : Prop := e = .returned (.bool (decide P)) ∧ Below w.heap.size w w'
theorem bool_dec {b : Bool} {P : Prop} [Decidable P] (h : b = true ↔ P) : b = decide P := by
  cases b
  · have : ¬ P := fun hp => by have := h.2 hp; cases this
    simp [this]
  · have := h.1 rfl
    simp [this]

set_option maxHeartbeats 2000000 in
set_option maxRecDepth 100000 in
theorem r9has_any (w : World) (x0 x1 x2 v : Int) : Calls Try.prog 28 #[.agg #[.int .i64 x0, .int .i64 x1, .int .i64 x2], .int .i64 v] w (DecTold w (hasV (x0, x1, x2) v)) := by
  obtain ⟨w1, hw1⟩ : ∃ w1, w.alloc (.cells #[.int .i64 x0, .int .i64 x1, .int .i64 x2] 41) = w1 := ⟨_, rfl⟩
  have b1 : Below w.heap.size w w1 := by rw [← hw1]; exact (Below.refl _ w).alloc (Nat.le_refl _) _
  obtain ⟨q, hq⟩ : ∃ q, w.heap.size = q := ⟨_, rfl⟩
  have q0 : w1.heap[q]? = some (.cells #[.int .i64 x0, .int .i64 x1, .int .i64 x2] 41 (0, 0)) := by rw [← hw1, ← hq]; exact heap_alloc_new w _
  have c0 : w1.cell? ⟨q, 0, none⟩ = some (.int .i64 x0) := by rw [cell_in q0]; rfl
  have c1 : w1.cell? ⟨q, 1, none⟩ = some (.int .i64 x1) := by rw [cell_in q0]; rfl
  have c2 : w1.cell? ⟨q, 2, none⟩ = some (.int .i64 x2) := by rw [cell_in q0]; rfl
  have B := Lib.hid b1
  clear b1 q0
  have key : ∀ d : Bool, (d = true ↔ hasV (x0, x1, x2) v) → Calls Try.prog 28 #[.agg #[.int .i64 x0, .int .i64 x1, .int .i64 x2], .int .i64 v] w fun e w' => e = .returned (.bool d) ∧ Below w.heap.size w w' := by
    intro d hd
    by_cases h0 : x0 = v
    · obtain rfl : d = true := hd.2 (.inl h0)
      subst h0
      clear hd
      go_enter Try.func28, Try.ntmps28
      go_wp2
      go_ret
      exact ⟨rfl, B.out⟩
    · have e0 : (x0 == v) = false := by simpa using h0
      by_cases h1 : x1 = v
      · obtain rfl : d = true := hd.2 (.inr (.inl h1))
        subst h1
        clear hd
        go_enter Try.func28, Try.ntmps28
        go_wp2
        go_ret
        exact ⟨rfl, B.out⟩
      · have e1 : (x1 == v) = false := by simpa using h1
        obtain rfl : d = (x2 == v) := by
          rw [Bool.eq_iff_iff, hd, beq_iff_eq]
          exact ⟨fun h => h.elim (fun h => absurd h h0) fun h => h.elim (fun h => absurd h h1) id, fun h => .inr (.inr h)⟩
        clear hd
        go_enter Try.func28, Try.ntmps28
        go_wp2
        go_ret
        exact ⟨rfl, B.out⟩
  exact key _ (by simp)

set_option maxHeartbeats 4000000 in
set_option maxRecDepth 100000 in
theorem r9edge_any (w : World) (x0 x1 x2 a b : Int) : Calls Try.prog 32 #[.agg #[.int .i64 x0, .int .i64 x1, .int .i64 x2], .int .i64 a, .int .i64 b] w (DecTold w (hasE (x0, x1, x2) a b)) := by
  obtain ⟨w1, hw1⟩ : ∃ w1, w.alloc (.cells #[.int .i64 x0, .int .i64 x1, .int .i64 x2] 41) = w1 := ⟨_, rfl⟩
  have b1 : Below w.heap.size w w1 := by rw [← hw1]; exact (Below.refl _ w).alloc (Nat.le_refl _) _
  obtain ⟨q, hq⟩ : ∃ q, w.heap.size = q := ⟨_, rfl⟩
  have q0 : w1.heap[q]? = some (.cells #[.int .i64 x0, .int .i64 x1, .int .i64 x2] 41 (0, 0)) := by rw [← hw1, ← hq]; exact heap_alloc_new w _
  have c0 : w1.cell? ⟨q, 0, none⟩ = some (.int .i64 x0) := by rw [cell_in q0]; rfl
  have c1 : w1.cell? ⟨q, 1, none⟩ = some (.int .i64 x1) := by rw [cell_in q0]; rfl
  have c2 : w1.cell? ⟨q, 2, none⟩ = some (.int .i64 x2) := by rw [cell_in q0]; rfl
  have B := Lib.hid b1
  clear b1 q0
  have key : ∀ (p0 p1 p2 r0 r1 r2 d : Bool), (x0 == a) = p0 → (x1 == a) = p1 → (x2 == a) = p2 → (x0 == b) = r0 → (x1 == b) = r1 → (x2 == b) = r2 → d = (p0 && r1 || p1 && r2 || p2 && r0) → Calls Try.prog 32 #[.agg #[.int .i64 x0, .int .i64 x1, .int .i64 x2], .int .i64 a, .int .i64 b] w fun e w' => e = .returned (.bool d) ∧ Below w.heap.size w w' := by
    intro p0 p1 p2 r0 r1 r2 d e0 e1 e2 f0 f1 f2 hd
    have HD := Lib.hid hd
    clear hd
    cases p0 <;> cases p1 <;> cases p2 <;> cases r0 <;> cases r1 <;> cases r2 <;>
      (go_enter Try.func32, Try.ntmps32
       go_wp2
       go_ret
       exact ⟨by rw [HD.out]; rfl, B.out⟩)
  exact key _ _ _ _ _ _ _ rfl rfl rfl rfl rfl rfl (by
    rw [Bool.eq_iff_iff]
    simp only [decide_eq_true_eq, Bool.or_eq_true, Bool.and_eq_true, beq_iff_eq]
    unfold hasE
    exact or_assoc.symm)
end Go.Proofs.Ytelbmjbjpgcdaaa
