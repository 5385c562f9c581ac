/- The span of layer 4: width, part, small, even, grow and narrow, wherever it lies (second and third cell of a block). -/
import Derived.Test.YtbkjfblmdilchaaDoorTabFind
import Derived.Test.YtbkjfblmdilchaaDoorTabBump
import Derived.Test.YtbkjfblmdilchaaDoorIv
namespace Go.Proofs.YtbkjfblmdilchaaDoor
open Go.RowKit

/-- Of the old blocks only those of S may have been turned. -/
structure Chg (S : Nat → Prop) (w w' : World) : Prop where
  os : w'.os = w.os
  tape : w'.tape = w.tape
  output : w'.output = w.output
  size : w.heap.size ≤ w'.heap.size
  far : ∀ b, b < w.heap.size → ¬ S b → w'.heap[b]? = w.heap[b]?
theorem Chg.refl (S : Nat → Prop) (w : World) : Chg S w w := ⟨rfl, rfl, rfl, Nat.le_refl _, fun _ _ _ => rfl⟩
theorem Chg.trans {S : Nat → Prop} {w w1 w2 : World} (h : Chg S w w1) (k : Chg S w1 w2) : Chg S w w2 :=
  ⟨k.os.trans h.os, k.tape.trans h.tape, k.output.trans h.output, Nat.le_trans h.size k.size, fun b hb hs => (k.far b (Nat.lt_of_lt_of_le hb h.size) hs).trans (h.far b hb hs)⟩
theorem Chg.mono {S T : Nat → Prop} {w w1 : World} (h : Chg S w w1) (hst : ∀ b, b < w.heap.size → S b → T b) : Chg T w w1 :=
  ⟨h.os, h.tape, h.output, h.size, fun b hb hs => h.far b hb fun hx => hs (hst b hb hx)⟩
theorem Chg.below {S : Nat → Prop} {w w1 : World} {B : Nat} (h : Chg S w w1) (hB : B ≤ w.heap.size) (hs : ∀ b, S b → B ≤ b) : Below B w w1 :=
  ⟨h.os, h.tape, h.output, h.size, fun b hb => h.far b (by omega) fun hx => by have := hs b hx; omega⟩
theorem Chg.of_below {S : Nat → Prop} {w w1 : World} (h : Below w.heap.size w w1) : Chg S w w1 := ⟨h.os, h.tape, h.output, h.size, fun b hb _ => h.block b hb⟩
theorem Chg.of_read {S : Nat → Prop} {w w1 : World} (h : Reading w w1) : Chg S w w1 := .of_below h.below
theorem Chg.of_grown {S : Nat → Prop} {w w1 : World} {q : Option Nat} (h : w.grownBy w1 q) (hq : ∀ b, q = some b → S b) : Chg S w w1 :=
  ⟨h.os, h.tape, h.output, h.size, fun b hb hs => h.block b hb fun e => hs (hq b e.symm)⟩
theorem Chg.of_set {S : Nat → Prop} (w : World) (p : Addr) (u : Value) (h : S p.block) : Chg S w (w.setCell p u) :=
  ⟨rfl, rfl, rfl, by simp [World.setCell], fun b _ hs => Below.heap_setCell w p u b (fun e => hs (e ▸ h))⟩

/-- A span lies in block g behind the cell a. -/
def SIs (w : World) (g : Nat) (t : TypeId) (a : Value) (lo sz : Int) (rest : List Value) : Prop :=
  w.heap[g]? = some (.cells (a :: .int .u32 lo :: .int .u32 sz :: rest).toArray t (0, 0))
theorem SIs.lo {w : World} {g : Nat} {t : TypeId} {a : Value} {lo sz : Int} {rest : List Value} (h : SIs w g t a lo sz rest) : w.cell? ⟨g, 1, none⟩ = some (.int .u32 lo) := by rw [cell_in h]; rfl
theorem SIs.sz {w : World} {g : Nat} {t : TypeId} {a : Value} {lo sz : Int} {rest : List Value} (h : SIs w g t a lo sz rest) : w.cell? ⟨g, 2, none⟩ = some (.int .u32 sz) := by rw [cell_in h]; rfl
theorem SIs.lt {w : World} {g : Nat} {t : TypeId} {a : Value} {lo sz : Int} {rest : List Value} (h : SIs w g t a lo sz rest) : g < w.heap.size := heap_lt h
theorem SIs.setLo {w : World} {g : Nat} {t : TypeId} {a : Value} {lo sz : Int} {rest : List Value} (h : SIs w g t a lo sz rest) (x : Int) : SIs (w.setCell ⟨g, 1, none⟩ (.int .u32 x)) g t a x sz rest := by
  have := heap_set h 1 (.int .u32 x); simpa [SIs] using this
theorem SIs.setSz {w : World} {g : Nat} {t : TypeId} {a : Value} {lo sz : Int} {rest : List Value} (h : SIs w g t a lo sz rest) (x : Int) : SIs (w.setCell ⟨g, 2, none⟩ (.int .u32 x)) g t a lo x rest := by
  have := heap_set h 2 (.int .u32 x); simpa [SIs] using this
theorem SIs.keep {S : Nat → Prop} {w w' : World} {g : Nat} {t : TypeId} {a : Value} {lo sz : Int} {rest : List Value} (h : SIs w g t a lo sz rest) (hc : Chg S w w') (hs : ¬ S g) : SIs w' g t a lo sz rest := (hc.far g h.lt hs).trans h
theorem SIs.below {w w' : World} {g : Nat} {t : TypeId} {a : Value} {lo sz : Int} {rest : List Value} (h : SIs w g t a lo sz rest) (hc : Below w.heap.size w w') : SIs w' g t a lo sz rest := (hc.block g h.lt).trans h
theorem SIs.read {w w' : World} {g : Nat} {t : TypeId} {a : Value} {lo sz : Int} {rest : List Value} (h : SIs w g t a lo sz rest) (hc : Reading w w') : SIs w' g t a lo sz rest := h.below hc.below

def wid (sz : Int) : Int := if sz = 0 then 4294967296 else sz

set_option maxHeartbeats 800000 in
set_option maxRecDepth 100000 in
theorem width_any (w : World) (g : Nat) (t : TypeId) (a : Value) (lo sz : Int) (rest : List Value) (h : SIs w g t a lo sz rest) (h0 : 0 ≤ sz) (h1 : sz < 4294967296) :
    Calls Tryd.prog 47 #[.pointer (some ⟨g, 1, none⟩)] w fun e w' => e = .returned (.int .u64 (wid sz)) ∧ Reading w w' := by
  have c2 := h.sz
  clear h
  by_cases hz : sz = 0
  · subst hz
    rw [wid, if_pos rfl]
    go_enter Tryd.func47, Tryd.ntmps47
    go_wp2
    go_ret
    exact ⟨rfl, 0, rfl⟩
  · rw [wid, if_neg hz]
    have hb : (sz == 0) = false := by simp [hz]
    go_enter Tryd.func47, Tryd.ntmps47
    go_wp2
    go_ret
    exact ⟨rfl, 0, rfl⟩

set_option maxHeartbeats 800000 in
set_option maxRecDepth 100000 in
theorem small_any (w : World) (g : Nat) (t : TypeId) (a : Value) (lo sz : Int) (rest : List Value) (h : SIs w g t a lo sz rest) (h0 : 0 ≤ sz) (h1 : sz < 4294967296) :
    Calls Tryd.prog 30 #[.pointer (some ⟨g, 1, none⟩)] w fun e w' => e = .returned (.bool (decide (wid sz < 16777216))) ∧ Reading w w' := by
  have K := Lib.hid (width_any w g t a lo sz rest h h0 h1)
  clear h h0 h1
  generalize wid sz = r at *
  go_enter Tryd.func30, Tryd.ntmps30
  go_wp2_with fail
  refine K.out.mono ?_
  rintro e w1 ⟨rfl, b1⟩
  have B1 := Lib.hid b1
  clear b1
  go_wp2
  go_ret
  exact ⟨rfl, B1.out⟩

set_option maxHeartbeats 800000 in
set_option maxRecDepth 100000 in
theorem part_any (w : World) (g : Nat) (t : TypeId) (a : Value) (lo sz : Int) (rest : List Value) (h : SIs w g t a lo sz rest) (h0 : 0 ≤ sz) (h1 : sz < 4294967296)
    (gt q cap : Nat) (c : List Int) (ht : TIs w gt q cap c) (ok : Ok c) :
    Calls Tryd.prog 40 #[.pointer (some ⟨g, 1, none⟩), .pointer (some ⟨gt, 0, none⟩)] w fun e w' => e = .returned (.int .u64 (wid sz / c.sum)) ∧ Reading w w' := by
  have hw : 0 < wid sz ∧ wid sz ≤ 4294967296 := by unfold wid; split <;> omega
  have hs1 := ok.len_sum
  have hs2 := ok.total
  have hs3 := ok.pos
  have hn : c.sum ≠ 0 := by omega
  have K := Lib.hid (width_any w g t a lo sz rest h h0 h1)
  have K2 := Lib.hid (fun w' (b : Reading w w') => total_any w' gt q cap c (ht.read b) ok.pos ok.few)
  clear h h0 h1 ht ok
  generalize wid sz = r at *
  generalize c.sum = s at *
  have hs4 : 0 < s := by omega
  clear hs1 hs3
  have e1 : IntKind.u64.wrap s = s := IntWalk.u64_in _ (by omega)
  have e2 : (s == 0) = false := by simp [hn]
  have e3 : r.tdiv s = r / s := Int.tdiv_eq_ediv_of_nonneg (by omega)
  have hq : 0 ≤ r / s ∧ r / s ≤ r := ⟨Int.ediv_nonneg (by omega) (by omega), Int.ediv_le_self _ (by omega)⟩
  have e4 : IntKind.u64.wrap (r / s) = r / s := IntWalk.u64_in _ (by omega)
  go_enter Tryd.func40, Tryd.ntmps40
  go_wp2_with fail
  refine K.out.mono ?_
  rintro e w1 ⟨rfl, b1⟩
  have B1 := Lib.hid b1
  clear b1
  go_wp2_with fail
  refine (K2.out w1 B1.out).mono ?_
  rintro e w2 ⟨rfl, b2⟩
  have B2 := Lib.hid (B1.out.trans b2)
  clear b2
  go_wp2
  go_ret
  exact ⟨rfl, B2.out⟩
end Go.Proofs.YtbkjfblmdilchaaDoor
