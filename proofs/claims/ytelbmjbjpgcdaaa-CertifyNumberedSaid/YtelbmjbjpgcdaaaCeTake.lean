/- Layer 9: closures that are handed witnesses one by one; certify's own. -/
import Derived.Test.YtelbmjbjpgcdaaaSouSame
import Derived.Test.YtelbmjbjpgcdaaaSouFill
import Derived.Test.YtelbmjbjpgcdaaaCerPure
import Derived.Test.YtelbmjbjpgcdaaaBts
import Derived.BigQuiet
namespace Go.Proofs.Ytelbmjbjpgcdaaa
open Go.RowKit

/-- A witness as a value. -/
abbrev wv (x : Wt) : Value := .agg #[.int .i64 x.1, .int .i64 x.2.1, .int .i64 x.2.2]
/-- The blocks of S are as they were. -/
def Sam (S : Nat → Prop) (w w' : World) : Prop := ∀ b, S b → w'.heap[b]? = w.heap[b]?
theorem Sam.trans {S : Nat → Prop} {w w1 w2 : World} (h : Sam S w w1) (k : Sam S w1 w2) : Sam S w w2 := fun b hb => (k b hb).trans (h b hb)
theorem Sam.of_below {S : Nat → Prop} {w w1 : World} (h : Below w.heap.size w w1) (hs : ∀ b, S b → b < w.heap.size) : Sam S w w1 := fun b hb => h.block b (hs b hb)
theorem Sam.of_set {S : Nat → Prop} (w : World) (p : Addr) (u : Value) (h : ¬ S p.block) : Sam S w (w.setCell p u) := fun b hb => Below.heap_setCell w p u b (fun e => h (e ▸ hb))
theorem Sam.mono {S T : Nat → Prop} {w w1 : World} (h : Sam S w w1) (hs : ∀ b, T b → S b) : Sam T w w1 := fun b hb => h b (hs b hb)
/-- A closure that takes the witnesses of ws one by one, in a state of its own; 'go' tells whether it wants more. -/
structure Taker (f : FuncId) (caps : List Value) (ws : List Wt) (go : List Wt → Bool) (S : Nat → Prop) (Inv : List Wt → World → Prop) : Prop where
  call : ∀ l x w, l ++ [x] <+: ws → Inv l w → Calls Try.prog f (wv x :: caps).toArray w fun e w' => e = .returned (.bool (go (l ++ [x]))) ∧ Inv (l ++ [x]) w' ∧ Chg S w w'
  keep : ∀ l w w', Inv l w → Sam S w w' → Inv l w'
  lt : ∀ l w, Inv l w → ∀ b, S b → b < w.heap.size
  enter : ∀ args w, (callFunc f args).run Try.prog w = .ok (.enter f args) w

theorem chg_set3 {S : Nat → Prop} {w w1 : World} {q : Nat} (h : Chg S w w1) (hq : S q) (a b c : Value) : Chg S w (((w1.setCell ⟨q, 0, none⟩ a).setCell ⟨q, 1, none⟩ b).setCell ⟨q, 2, none⟩ c) := ((h.set ⟨q, 0, none⟩ a hq).set ⟨q, 1, none⟩ b hq).set ⟨q, 2, none⟩ c hq
set_option maxRecDepth 100000 in
theorem cAll1_any (w : World) (q : Nat) (k : Nat) (x : Wt) (h : w.heap[q]? = some (.cells #[.int .i64 (k : Int)] 3 (0, 0))) (hk : k ≤ 1000000000) :
    Calls Try.prog 24 #[wv x, .pointer (some ⟨q, 0, none⟩)] w fun e w' => e = .returned (.bool true) ∧ w'.heap[q]? = some (.cells #[.int .i64 ((k + 1 : Nat) : Int)] 3 (0, 0)) ∧ Chg (fun b => b = q) w w' := by
  have b0 := (Below.refl _ w).alloc (Nat.le_refl _) (.cells #[.int .i64 x.1, .int .i64 x.2.1, .int .i64 x.2.2] 35)
  have h1 := (b0.block q (heap_lt h)).trans h
  have c1 : (w.alloc (.cells #[.int .i64 x.1, .int .i64 x.2.1, .int .i64 x.2.2] 35)).cell? ⟨q, 0, none⟩ = some (.int .i64 (k : Int)) := by rw [cell_in h1]; rfl
  have f1 := frozen_in h1 0
  have H1 := Lib.hid h1
  have B0 := Lib.hid b0
  clear h1 b0 h
  go_enter Try.func24, Try.ntmps24
  go_wp2
  go_ret
  refine ⟨rfl, ?_, (Chg.of_below B0.out).set _ _ rfl⟩
  rw [heap_set H1.out 0 _]
  simp

theorem fields_wit : (Try.prog.fieldsOf 35).toList.map (fun f => (f.name, f.type, f.offset)) = [("Kind", 3, 0), ("A", 3, 1), ("B", 3, 2)] := by kernel_rfl
theorem eqFields3 (w : World) (d : Nat) (fs : List Field) (hfs : fs.map (fun f => (f.name, f.type, f.offset)) = [("Kind", 3, 0), ("A", 3, 1), ("B", 3, 2)]) (x0 x1 x2 y0 y1 y2 : Int) :
    (Op.eqFields (d + 1) #[.int .i64 x0, .int .i64 x1, .int .i64 x2] #[.int .i64 y0, .int .i64 y1, .int .i64 y2] fs).run Try.prog w = .ok (x0 == y0 && (x1 == y1 && x2 == y2)) w := by
  obtain ⟨f0, f1, f2, rfl⟩ : ∃ f0 f1 f2, fs = [f0, f1, f2] := by
    rcases fs with _ | ⟨f0, _ | ⟨f1, _ | ⟨f2, _ | ⟨f3, r⟩⟩⟩⟩
    · simp at hfs
    · simp at hfs
    · simp at hfs
    · exact ⟨_, _, _, rfl⟩
    · simp at hfs
  have h := hfs
  simp only [List.map_cons, List.map_nil, List.cons.injEq, Prod.mk.injEq, and_true] at h
  obtain ⟨⟨n0, t0, o0⟩, ⟨n1, t1, o1⟩, n2, t2, o2⟩ := h
  have m0 : f0.name ≠ "_" := by rw [n0]; decide
  have m1 : f1.name ≠ "_" := by rw [n1]; decide
  have m2 : f2.name ≠ "_" := by rw [n2]; decide
  have u3 := Try.underlying3
  have p0 := part_int w #[.int .i64 x0, .int .i64 x1, .int .i64 x2] 0 x0 rfl
  have r0 := part_int w #[.int .i64 y0, .int .i64 y1, .int .i64 y2] 0 y0 rfl
  have s0 := run_equalIn_int (P := Try.prog) w d 3 .i64 .i64 x0 y0 u3
  have p1 := part_int w #[.int .i64 x0, .int .i64 x1, .int .i64 x2] 1 x1 rfl
  have r1 := part_int w #[.int .i64 y0, .int .i64 y1, .int .i64 y2] 1 y1 rfl
  have s1 := run_equalIn_int (P := Try.prog) w d 3 .i64 .i64 x1 y1 u3
  have p2 := part_int w #[.int .i64 x0, .int .i64 x1, .int .i64 x2] 2 x2 rfl
  have r2 := part_int w #[.int .i64 y0, .int .i64 y1, .int .i64 y2] 2 y2 rfl
  have s2 := run_equalIn_int (P := Try.prog) w d 3 .i64 .i64 x2 y2 u3
  simp only [Op.eqFields, Sem.run_bind, Sem.run_ite, ne_eq, m0, m1, m2, not_false_eq_true, if_true, t0, t1, t2, o0, o1, o2, p0, r0, s0, Result.andThen_ok]
  cases h0 : (x0 == y0) <;> cases h1 : (x1 == y1) <;> cases h2 : (x2 == y2) <;> simp [p1, r1, s1, h1, p2, r2, s2, h2]
theorem under_wit : Try.prog.underlying 35 = some (.struct (Try.prog.fieldsOf 35)) := by kernel_rfl
theorem stood_wit : Try.prog.stoodInHeld 35 = false := by kernel_rfl
theorem eqInW (w : World) (x y : Wt) : (Op.equalIn 10000 35 (wv x) (wv y)).run Try.prog w = .ok (x.1 == y.1 && (x.2.1 == y.2.1 && x.2.2 == y.2.2)) w := by
  rw [show (10000 : Nat) = 9998 + 1 + 1 from rfl, run_equalIn_struct w (9998 + 1) _ _ _ under_wit stood_wit, eqFields3 w 9998 _ fields_wit]
theorem eqlW (w : World) (x0 x1 x2 y0 y1 y2 : Int) : (binOp .eql 35 (.agg #[.int .i64 x0, .int .i64 x1, .int .i64 x2]) (.agg #[.int .i64 y0, .int .i64 y1, .int .i64 y2])).run Try.prog w = .ok (.bool (x0 == y0 && (x1 == y1 && x2 == y2))) w := by
  rw [run_eql_struct, eqInW w (x0, x1, x2) (y0, y1, y2)]; rfl

set_option maxRecDepth 100000 in
theorem cCheck1_any (w : World) (q : Nat) (x y : Wt) (h : w.heap[q]? = some (.cells #[.int .i64 y.1, .int .i64 y.2.1, .int .i64 y.2.2] 35 (0, 0))) :
    Calls Try.prog 30 #[wv x, .pointer (some ⟨q, 0, none⟩)] w fun e w' => e = .returned (.bool false) ∧ w'.heap[q]? = some (.cells #[.int .i64 x.1, .int .i64 x.2.1, .int .i64 x.2.2] 35 (0, 0)) ∧ Chg (fun b => b = q) w w' := by
  have b0 := (Below.refl _ w).alloc (Nat.le_refl _) (.cells #[.int .i64 x.1, .int .i64 x.2.1, .int .i64 x.2.2] 35)
  have h1 := (b0.block q (heap_lt h)).trans h
  have z0 : (w.alloc (.cells #[.int .i64 x.1, .int .i64 x.2.1, .int .i64 x.2.2] 35)).cell? ⟨q, 0, none⟩ = some (.int .i64 y.1) := by rw [cell_in h1]; rfl
  have z1 : (w.alloc (.cells #[.int .i64 x.1, .int .i64 x.2.1, .int .i64 x.2.2] 35)).cell? ⟨q, 1, none⟩ = some (.int .i64 y.2.1) := by rw [cell_in h1]; rfl
  have z2 : (w.alloc (.cells #[.int .i64 x.1, .int .i64 x.2.1, .int .i64 x.2.2] 35)).cell? ⟨q, 2, none⟩ = some (.int .i64 y.2.2) := by rw [cell_in h1]; rfl
  have f0 := frozen_in h1 0
  have f1 := frozen_in h1 1
  have f2 := frozen_in h1 2
  have H1 := Lib.hid h1
  have B0 := Lib.hid b0
  clear h1 b0 h
  go_enter Try.func30, Try.ntmps30
  go_wp2
  go_ret
  exact ⟨rfl, set3 H1.out, chg_set3 (S := fun b => b = q) (Chg.of_below B0.out) rfl _ _ _⟩

set_option maxHeartbeats 1000000 in
set_option maxRecDepth 100000 in
theorem cTrue1_any (w : World) (p q : Nat) (x y : Wt) (b : Bool) (hp : w.heap[p]? = some (.cells #[.int .i64 y.1, .int .i64 y.2.1, .int .i64 y.2.2] 35 (0, 0))) (hq : w.heap[q]? = some (.cells #[.bool b] 4 (0, 0))) :
    Calls Try.prog 31 #[wv x, .pointer (some ⟨p, 0, none⟩), .pointer (some ⟨q, 0, none⟩)] w fun e w' => e = .returned (.bool (!decide (x = y))) ∧ w'.heap[q]? = some (.cells #[.bool (decide (x = y))] 4 (0, 0)) ∧ Chg (fun b => b = q) w w' := by
  obtain ⟨x0, x1, x2⟩ := x
  obtain ⟨y0, y1, y2⟩ := y
  simp only at hp
  have key : ∀ d : Bool, d = decide ((x0, x1, x2) = (y0, y1, y2)) → Calls Try.prog 31 #[.agg #[.int .i64 x0, .int .i64 x1, .int .i64 x2], .pointer (some ⟨p, 0, none⟩), .pointer (some ⟨q, 0, none⟩)] w fun e w' => e = .returned (.bool (!d)) ∧ w'.heap[q]? = some (.cells #[.bool d] 4 (0, 0)) ∧ Chg (fun b => b = q) w w' := by
    have b0 := (Below.refl _ w).alloc (Nat.le_refl _) (.cells #[.int .i64 x0, .int .i64 x1, .int .i64 x2] 35)
    have h1 := (b0.block q (heap_lt hq)).trans hq
    have h2 := (b0.block p (heap_lt hp)).trans hp
    have z0 : (w.alloc (.cells #[.int .i64 x0, .int .i64 x1, .int .i64 x2] 35)).cell? ⟨p, 0, none⟩ = some (.int .i64 y0) := by rw [cell_in h2]; rfl
    have z1 : (w.alloc (.cells #[.int .i64 x0, .int .i64 x1, .int .i64 x2] 35)).cell? ⟨p, 1, none⟩ = some (.int .i64 y1) := by rw [cell_in h2]; rfl
    have z2 : (w.alloc (.cells #[.int .i64 x0, .int .i64 x1, .int .i64 x2] 35)).cell? ⟨p, 2, none⟩ = some (.int .i64 y2) := by rw [cell_in h2]; rfl
    have c0 : (w.alloc (.cells #[.int .i64 x0, .int .i64 x1, .int .i64 x2] 35)).cell? ⟨q, 0, none⟩ = some (.bool b) := by rw [cell_in h1]; rfl
    have f0 := frozen_in h1 0
    have H1 := Lib.hid h1
    have B0 := Lib.hid b0
    clear h1 b0 hp hq h2
    intro d hd
    by_cases e0 : x0 = y0
    · subst e0
      by_cases e1 : x1 = y1
      · subst e1
        by_cases e2 : x2 = y2
        · subst e2
          obtain rfl : d = true := by rw [hd]; simp
          clear hd
          go_enter Try.func31, Try.ntmps31
          go_wp2
          go_ret
          refine ⟨rfl, ?_, (Chg.of_below B0.out).set _ _ rfl⟩
          rw [heap_set H1.out 0 _]
          simp
        · obtain rfl : d = false := by rw [hd]; simp [e2]
          clear hd
          go_enter Try.func31, Try.ntmps31
          go_wp2
          go_ret
          refine ⟨rfl, ?_, (Chg.of_below B0.out).set _ _ rfl⟩
          rw [heap_set H1.out 0 _]
          simp
      · obtain rfl : d = false := by rw [hd]; simp [e1]
        clear hd
        go_enter Try.func31, Try.ntmps31
        go_wp2
        go_ret
        refine ⟨rfl, ?_, (Chg.of_below B0.out).set _ _ rfl⟩
        rw [heap_set H1.out 0 _]
        simp
    · obtain rfl : d = false := by rw [hd]; simp [e0]
      clear hd
      go_enter Try.func31, Try.ntmps31
      go_wp2
      go_ret
      refine ⟨rfl, ?_, (Chg.of_below B0.out).set _ _ rfl⟩
      rw [heap_set H1.out 0 _]
      simp
  exact key _ rfl
theorem enter_All1 (args : Array Value) (w : World) : (callFunc 24 args).run Try.prog w = .ok (.enter 24 args) w := by kernel_rfl
theorem enter_All2 (args : Array Value) (w : World) : (callFunc 25 args).run Try.prog w = .ok (.enter 25 args) w := by kernel_rfl
theorem enter_Check1 (args : Array Value) (w : World) : (callFunc 30 args).run Try.prog w = .ok (.enter 30 args) w := by kernel_rfl
theorem enter_True1 (args : Array Value) (w : World) : (callFunc 31 args).run Try.prog w = .ok (.enter 31 args) w := by kernel_rfl

/-- All's first closure counts. -/
theorem all1_taker (q : Nat) (ws : List Wt) (hw : ws.length ≤ 1000000000) : Taker 24 [.pointer (some ⟨q, 0, none⟩)] ws (fun _ => true) (fun b => b = q) (fun l w => l.length ≤ ws.length ∧ w.heap[q]? = some (.cells #[.int .i64 (l.length : Int)] 3 (0, 0))) where
  call l x w hp hi := (cAll1_any w q l.length x hi.2 (by have := hi.1; omega)).mono fun e w' h => ⟨h.1, ⟨hp.length_le, by rw [h.2.1, List.length_append]; rfl⟩, h.2.2⟩
  keep l w w' hi hs := ⟨hi.1, (hs q rfl).trans hi.2⟩
  lt l w hi b hb := by subst hb; exact heap_lt hi.2
  enter := enter_All1
/-- Check's closure keeps the last one that it is handed, and wants no more. -/
def CheckSt (q : Nat) (l : List Wt) (w : World) : Prop := w.heap[q]? = some (.cells #[.int .i64 (l.getLastD (0, 0, 0)).1, .int .i64 (l.getLastD (0, 0, 0)).2.1, .int .i64 (l.getLastD (0, 0, 0)).2.2] 35 (0, 0))
theorem check1_taker (q : Nat) (ws : List Wt) : Taker 30 [.pointer (some ⟨q, 0, none⟩)] ws (fun _ => false) (fun b => b = q) (CheckSt q) where
  call l x w hp hi := (cCheck1_any w q x _ hi).mono fun e w' h => ⟨h.1, by unfold CheckSt; rw [List.getLastD_concat]; exact h.2.1, h.2.2⟩
  keep l w w' hi hs := (hs q rfl).trans hi
  lt l w hi b hb := by subst hb; exact heap_lt hi
  enter := enter_Check1
/-- True's closure: has the last one been the one that is sought? -/
structure TrueSt (p q : Nat) (y : Wt) (l : List Wt) (w : World) : Prop where
  want : w.heap[p]? = some (.cells #[.int .i64 y.1, .int .i64 y.2.1, .int .i64 y.2.2] 35 (0, 0))
  among : w.heap[q]? = some (.cells #[.bool (decide (l.getLast? = some y))] 4 (0, 0))
theorem true1_taker (p q : Nat) (hpq : p ≠ q) (y : Wt) (ws : List Wt) : Taker 31 [.pointer (some ⟨p, 0, none⟩), .pointer (some ⟨q, 0, none⟩)] ws (fun l => !decide (l.getLast? = some y)) (fun b => b = p ∨ b = q) (TrueSt p q y) where
  call l x w hp hi := (cTrue1_any w p q x y _ hi.want hi.among).mono fun e w' h => by
    have e0 : (decide ((l ++ [x]).getLast? = some y)) = decide (x = y) := by rw [List.getLast?_concat]; simp
    refine ⟨by rw [e0]; exact h.1, ⟨(h.2.2.far p (heap_lt hi.want) hpq).trans hi.want, by rw [e0]; exact h.2.1⟩, h.2.2.mono fun _ _ h => Or.inr h⟩
  keep l w w' hi hs := ⟨(hs p (Or.inl rfl)).trans hi.want, (hs q (Or.inr rfl)).trans hi.among⟩
  lt l w hi b hb := by
    rcases hb with rfl | rfl
    · exact heap_lt hi.want
    · exact heap_lt hi.among
  enter := enter_True1
end Go.Proofs.Ytelbmjbjpgcdaaa
