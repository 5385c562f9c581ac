/- Texts laid one behind the other: CSpan, CGrow, CCarry, CEncIs, CEncNo, CBytes, CTake. -/
import Derived.Test.YtjbfgajognnmiaaDoorGTab
import Derived.Test.YtjbfgajognnmiaaDoorGIv
import Derived.StillTailTactics
import Derived.Laws.BitsAllLaws

/- The span of layer 4: width, part, small, even, grow and narrow, wherever it lies (second and third cell of a block). -/
namespace Go.Proofs.YtjbfgajognnmiaaDoor
open Go.RowKit

/-- Of the old blocks only those of S may have been turned. -/
structure Chg (S : Nat → Prop) (w w' : World) : Prop where
  os : w'.os = w.os
  tape : w'.tape = w.tape
  output : w'.output = w.output
  size : w.heap.size ≤ w'.heap.size
  far : ∀ b, b < w.heap.size → ¬ S b → w'.heap[b]? = w.heap[b]?
theorem Chg.refl (S : Nat → Prop) (w : World) : Chg S w w := ⟨rfl, rfl, rfl, Nat.le_refl _, fun _ _ _ => rfl⟩
theorem Chg.trans {S : Nat → Prop} {w w1 w2 : World} (h : Chg S w w1) (k : Chg S w1 w2) : Chg S w w2 :=
  ⟨k.os.trans h.os, k.tape.trans h.tape, k.output.trans h.output, Nat.le_trans h.size k.size, fun b hb hs => (k.far b (Nat.lt_of_lt_of_le hb h.size) hs).trans (h.far b hb hs)⟩
theorem Chg.mono {S T : Nat → Prop} {w w1 : World} (h : Chg S w w1) (hst : ∀ b, b < w.heap.size → S b → T b) : Chg T w w1 :=
  ⟨h.os, h.tape, h.output, h.size, fun b hb hs => h.far b hb fun hx => hs (hst b hb hx)⟩
theorem Chg.below {S : Nat → Prop} {w w1 : World} {B : Nat} (h : Chg S w w1) (hB : B ≤ w.heap.size) (hs : ∀ b, S b → B ≤ b) : Below B w w1 :=
  ⟨h.os, h.tape, h.output, h.size, fun b hb => h.far b (by omega) fun hx => by have := hs b hx; omega⟩
theorem Chg.of_below {S : Nat → Prop} {w w1 : World} (h : Below w.heap.size w w1) : Chg S w w1 := ⟨h.os, h.tape, h.output, h.size, fun b hb _ => h.block b hb⟩
theorem Chg.of_read {S : Nat → Prop} {w w1 : World} (h : Reading w w1) : Chg S w w1 := .of_below h.below
theorem Chg.of_grown {S : Nat → Prop} {w w1 : World} {q : Option Nat} (h : w.grownBy w1 q) (hq : ∀ b, q = some b → S b) : Chg S w w1 :=
  ⟨h.os, h.tape, h.output, h.size, fun b hb hs => h.block b hb fun e => hs (hq b e.symm)⟩
theorem Chg.of_set {S : Nat → Prop} (w : World) (p : Addr) (u : Value) (h : S p.block) : Chg S w (w.setCell p u) :=
  ⟨rfl, rfl, rfl, by simp [World.setCell], fun b _ hs => Below.heap_setCell w p u b (fun e => hs (e ▸ h))⟩

/-- A span lies in block g behind the cell a. -/
def SIs (w : World) (g : Nat) (t : TypeId) (a : Value) (lo sz : Int) (rest : List Value) : Prop :=
  w.heap[g]? = some (.cells (a :: .int .u32 lo :: .int .u32 sz :: rest).toArray t (0, 0))
theorem SIs.lo {w : World} {g : Nat} {t : TypeId} {a : Value} {lo sz : Int} {rest : List Value} (h : SIs w g t a lo sz rest) : w.cell? ⟨g, 1, none⟩ = some (.int .u32 lo) := by rw [cell_in h]; rfl
theorem SIs.sz {w : World} {g : Nat} {t : TypeId} {a : Value} {lo sz : Int} {rest : List Value} (h : SIs w g t a lo sz rest) : w.cell? ⟨g, 2, none⟩ = some (.int .u32 sz) := by rw [cell_in h]; rfl
theorem SIs.lt {w : World} {g : Nat} {t : TypeId} {a : Value} {lo sz : Int} {rest : List Value} (h : SIs w g t a lo sz rest) : g < w.heap.size := heap_lt h
theorem SIs.setLo {w : World} {g : Nat} {t : TypeId} {a : Value} {lo sz : Int} {rest : List Value} (h : SIs w g t a lo sz rest) (x : Int) : SIs (w.setCell ⟨g, 1, none⟩ (.int .u32 x)) g t a x sz rest := by
  have := heap_set h 1 (.int .u32 x); simpa [SIs] using this
theorem SIs.setSz {w : World} {g : Nat} {t : TypeId} {a : Value} {lo sz : Int} {rest : List Value} (h : SIs w g t a lo sz rest) (x : Int) : SIs (w.setCell ⟨g, 2, none⟩ (.int .u32 x)) g t a lo x rest := by
  have := heap_set h 2 (.int .u32 x); simpa [SIs] using this
theorem SIs.keep {S : Nat → Prop} {w w' : World} {g : Nat} {t : TypeId} {a : Value} {lo sz : Int} {rest : List Value} (h : SIs w g t a lo sz rest) (hc : Chg S w w') (hs : ¬ S g) : SIs w' g t a lo sz rest := (hc.far g h.lt hs).trans h
theorem SIs.below {w w' : World} {g : Nat} {t : TypeId} {a : Value} {lo sz : Int} {rest : List Value} (h : SIs w g t a lo sz rest) (hc : Below w.heap.size w w') : SIs w' g t a lo sz rest := (hc.block g h.lt).trans h
theorem SIs.read {w w' : World} {g : Nat} {t : TypeId} {a : Value} {lo sz : Int} {rest : List Value} (h : SIs w g t a lo sz rest) (hc : Reading w w') : SIs w' g t a lo sz rest := h.below hc.below

def wid (sz : Int) : Int := if sz = 0 then 4294967296 else sz

set_option maxHeartbeats 800000 in
set_option maxRecDepth 100000 in
theorem swidth_any (w : World) (g : Nat) (t : TypeId) (a : Value) (lo sz : Int) (rest : List Value) (h : SIs w g t a lo sz rest) (h0 : 0 ≤ sz) (h1 : sz < 4294967296) :
    Calls Tryd.prog 60 #[.pointer (some ⟨g, 1, none⟩)] w fun e w' => e = .returned (.int .u64 (wid sz)) ∧ Reading w w' := by
  have c2 := h.sz
  clear h
  by_cases hz : sz = 0
  · subst hz
    rw [wid, if_pos rfl]
    go_enter Tryd.func60, Tryd.ntmps60
    go_wp2
    go_ret
    exact ⟨rfl, 0, rfl⟩
  · rw [wid, if_neg hz]
    have hb : (sz == 0) = false := by simp [hz]
    go_enter Tryd.func60, Tryd.ntmps60
    go_wp2
    go_ret
    exact ⟨rfl, 0, rfl⟩

set_option maxHeartbeats 800000 in
set_option maxRecDepth 100000 in
theorem small_any (w : World) (g : Nat) (t : TypeId) (a : Value) (lo sz : Int) (rest : List Value) (h : SIs w g t a lo sz rest) (h0 : 0 ≤ sz) (h1 : sz < 4294967296) :
    Calls Tryd.prog 42 #[.pointer (some ⟨g, 1, none⟩)] w fun e w' => e = .returned (.bool (decide (wid sz < 16777216))) ∧ Reading w w' := by
  have K := Lib.hid (swidth_any w g t a lo sz rest h h0 h1)
  clear h h0 h1
  generalize wid sz = r at *
  go_enter Tryd.func42, Tryd.ntmps42
  go_wp2_with fail
  refine K.out.mono ?_
  rintro e w1 ⟨rfl, b1⟩
  have B1 := Lib.hid b1
  clear b1
  go_wp2
  go_ret
  exact ⟨rfl, B1.out⟩

set_option maxHeartbeats 800000 in
set_option maxRecDepth 100000 in
theorem part_any (w : World) (g : Nat) (t : TypeId) (a : Value) (lo sz : Int) (rest : List Value) (h : SIs w g t a lo sz rest) (h0 : 0 ≤ sz) (h1 : sz < 4294967296)
    (gt q cap : Nat) (c : List Int) (ht : TIs w gt q cap c) (ok : Ok c) :
    Calls Tryd.prog 57 #[.pointer (some ⟨g, 1, none⟩), .pointer (some ⟨gt, 0, none⟩)] w fun e w' => e = .returned (.int .u64 (wid sz / c.sum)) ∧ Reading w w' := by
  have hw : 0 < wid sz ∧ wid sz ≤ 4294967296 := by unfold wid; split <;> omega
  have hs1 := ok.len_sum
  have hs2 := ok.total
  have hs3 := ok.pos
  have hn : c.sum ≠ 0 := by omega
  have K := Lib.hid (swidth_any w g t a lo sz rest h h0 h1)
  have K2 := Lib.hid (fun w' (b : Reading w w') => total_any w' gt q cap c (ht.read b) ok.pos ok.few)
  clear h h0 h1 ht ok
  generalize wid sz = r at *
  generalize c.sum = s at *
  have hs4 : 0 < s := by omega
  clear hs1 hs3
  have e1 : IntKind.u64.wrap s = s := IntWalk.u64_in _ (by omega)
  have e2 : (s == 0) = false := by simp [hn]
  have e3 : r.tdiv s = r / s := Int.tdiv_eq_ediv_of_nonneg (by omega)
  have hq : 0 ≤ r / s ∧ r / s ≤ r := ⟨Int.ediv_nonneg (by omega) (by omega), Int.ediv_le_self _ (by omega)⟩
  have e4 : IntKind.u64.wrap (r / s) = r / s := IntWalk.u64_in _ (by omega)
  go_enter Tryd.func57, Tryd.ntmps57
  go_wp2_with fail
  refine K.out.mono ?_
  rintro e w1 ⟨rfl, b1⟩
  have B1 := Lib.hid b1
  clear b1
  go_wp2_with fail
  refine (K2.out w1 B1.out).mono ?_
  rintro e w2 ⟨rfl, b2⟩
  have B2 := Lib.hid (B1.out.trans b2)
  clear b2
  go_wp2
  go_ret
  exact ⟨rfl, B2.out⟩
end Go.Proofs.YtjbfgajognnmiaaDoor

/- The span of layer 4: even, grow and narrow. -/
namespace Go.Proofs.YtjbfgajognnmiaaDoor
open Go.RowKit

theorem Chg.read {S : Nat → Prop} {w w1 w2 : World} (h : Chg S w w1) (k : Reading w1 w2) : Chg S w w2 := h.trans (.of_read k)
theorem Chg.set {S : Nat → Prop} {w w1 : World} (h : Chg S w w1) (p : Addr) (u : Value) (hp : S p.block) : Chg S w (w1.setCell p u) := h.trans (.of_set w1 p u hp)

def Grew (w : World) (g : Nat) (t : TypeId) (a : Value) (lo sz : Int) (rest : List Value) (r : Int) (e : Ending) (w' : World) : Prop :=
  e = .returned (.int .u8 r) ∧ SIs w' g t a lo sz rest ∧ Chg (· = g) w w'

set_option maxHeartbeats 800000 in
set_option maxRecDepth 100000 in
theorem grow_any (w : World) (g : Nat) (t : TypeId) (a : Value) (lo sz : Int) (rest : List Value) (h : SIs w g t a lo sz rest) (h0 : 0 ≤ lo) (h1 : lo < 4294967296) (h2 : 0 ≤ sz) (h3 : sz < 16777216) :
    Calls Tryd.prog 43 #[.pointer (some ⟨g, 1, none⟩)] w (Grew w g t a (lo * 256 % 4294967296) (sz * 256) rest (lo / 16777216)) := by
  have c1 := h.lo
  have c2 := h.sz
  have f1 := frozen_in h 1
  have f2 := frozen_in h 2
  have H := Lib.hid h
  clear h
  go_enter Tryd.func43, Tryd.ntmps43
  go_wp2
  go_ret
  exact ⟨rfl, (H.out.setLo _).setSz _, ((Chg.refl _ w).set _ _ (by exact rfl)).set _ _ (by exact rfl)⟩

set_option maxHeartbeats 800000 in
set_option maxRecDepth 100000 in
theorem even_any (w : World) (g : Nat) (t : TypeId) (a : Value) (lo sz : Int) (rest : List Value) (h : SIs w g t a lo sz rest) (h0 : 0 ≤ lo) (h1 : lo < 4294967296) (h2 : 0 ≤ sz) (h3 : sz < 4294967296) :
    Calls Tryd.prog 48 #[.pointer (some ⟨g, 1, none⟩)] w fun e w' => e = .returned (.bool (decide (lo = 0 ∨ 4294967296 < lo + wid sz))) ∧ Reading w w' := by
  have c1 := h.lo
  have hw : 0 < wid sz ∧ wid sz ≤ 4294967296 := by unfold wid; split <;> omega
  have K := Lib.hid (fun m => swidth_any (w.drewN m) g t a lo sz rest (h.read ⟨m, rfl⟩) h2 h3)
  clear h h2 h3
  generalize wid sz = r at *
  by_cases hz : lo = 0
  · subst hz
    have hb : decide ((0 : Int) = 0 ∨ 4294967296 < 0 + r) = true := by simp
    rw [hb]
    have d : decide ((0:Int) = 0) = true := by simp
    go_enter Tryd.func48, Tryd.ntmps48
    go_wp2
    go_quiet ((go_at_call 60; exact Calls.quiet_of (K.out _)))
    go_wp2
    go_ret
    exact ⟨rfl, _, rfl⟩
  · have hb : decide (lo = 0 ∨ 4294967296 < lo + r) = decide (4294967296 < lo + r) := by simp [hz]
    rw [hb]
    have d : decide (lo = 0) = false := by simp [hz]
    have d2 : (lo == 0) = false := by simp [hz]
    go_enter Tryd.func48, Tryd.ntmps48
    go_wp2
    go_quiet ((go_at_call 60; exact Calls.quiet_of (K.out _)))
    go_wp2
    go_ret
    exact ⟨rfl, _, rfl⟩

/-- What the part of a symbol is worth, by the total, its low end and its count. -/
def newSz (r n l f : Int) : Int := if l + f = n then r - l * (r / n) else f * (r / n)
def Narrowed (w : World) (g : Nat) (t : TypeId) (a : Value) (lo sz : Int) (rest : List Value) (r : Int) (e : Ending) (w' : World) : Prop :=
  e = .returned (.int .u32 r) ∧ SIs w' g t a lo sz rest ∧ Chg (· = g) w w'

set_option maxHeartbeats 1600000 in
set_option maxRecDepth 100000 in
theorem narrow_any (w : World) (g : Nat) (t : TypeId) (a : Value) (lo sz : Int) (rest : List Value) (h : SIs w g t a lo sz rest) (h2 : 0 ≤ sz) (h3 : sz < 4294967296)
    (gt q cap : Nat) (c : List Int) (ht : TIs w gt q cap c) (ok : Ok c) (s : Nat) (hs : s < c.length) :
    Calls Tryd.prog 40 #[.pointer (some ⟨g, 1, none⟩), .pointer (some ⟨gt, 0, none⟩), .int .i64 (s : Int)] w
      (Narrowed w g t a ((lo + low c s * (wid sz / c.sum)) % 4294967296) (newSz (wid sz) c.sum (low c s) (c.getD s 0) % 4294967296) rest (low c s * (wid sz / c.sum))) := by
  have hw : 0 < wid sz ∧ wid sz ≤ 4294967296 := by unfold wid; split <;> omega
  have hs1 := ok.len_sum
  have hs2 := ok.total
  have hs3 := ok.pos
  have hl0 := (ok.low_le' s).1
  have hf0 := one_at ok.one s hs
  have hlf : low c s + c.getD s 0 ≤ c.sum := by rw [← low_succ]; exact low_sum ok.zero (s + 1)
  have KW := Lib.hid (fun w' (b : Reading w w') => swidth_any w' g t a lo sz rest (h.read b) h2 h3)
  have KP := Lib.hid (part_any w g t a lo sz rest h h2 h3 gt q cap c ht ok)
  have KT := Lib.hid (fun w' (b : Reading w w') => total_any w' gt q cap c (ht.read b) ok.pos ok.few)
  have KL := Lib.hid (fun w' (b : Reading w w') => low_any w' gt q cap c (s : Int) (ht.read b) ok.few)
  have KC := Lib.hid (fun w' (b : Reading w w') => count_any w' gt q cap c (s : Int) (ht.read b) ok)
  rw [lowOf_at c s hs] at KL
  rw [cntOf_at c s hs] at KC
  have H := Lib.hid (fun w' (b : Reading w w') => h.read b)
  clear h ht
  generalize wid sz = r at *
  have hn : 0 < c.sum := by omega
  generalize low c s = l at *
  generalize c.getD s 0 = f at *
  generalize c.sum = n at *
  have hp0 : 0 ≤ r / n := Int.ediv_nonneg (by omega) (by omega)
  have hpn : n * (r / n) ≤ r := Int.mul_ediv_self_le (by omega)
  have hlp0 : 0 ≤ l * (r / n) := Int.mul_nonneg hl0 hp0
  have hfp0 : 0 ≤ f * (r / n) := Int.mul_nonneg (by omega) hp0
  have hlfp : l * (r / n) + f * (r / n) ≤ r := by
    have : (l + f) * (r / n) ≤ n * (r / n) := Int.mul_le_mul_of_nonneg_right hlf hp0
    rw [Int.add_mul] at this
    omega
  have hlp1 : l * (r / n) < r := by
    by_cases hp : r / n = 0
    · rw [hp, Int.mul_zero]; omega
    · have : f * (r / n) ≥ 1 * (r / n) := Int.mul_le_mul_of_nonneg_right hf0 hp0
      omega
  have hfp1 : l + f ≠ n → f * (r / n) < 4294967296 := by
    intro hne
    by_cases hp : r / n = 0
    · rw [hp, Int.mul_zero]; omega
    · have h5 : (l + f + 1) * (r / n) ≤ n * (r / n) := Int.mul_le_mul_of_nonneg_right (by omega) hp0
      rw [Int.add_mul, Int.add_mul, Int.one_mul] at h5
      omega
  clear hpn hlfp ok
  generalize hP : l * (r / n) = lp at *
  have HF := Lib.hid hfp1
  have HP := Lib.hid hP
  clear hfp1 hP
  have m0 : IntKind.u64.wrap l = l := IntWalk.u64_in _ (by omega)
  have m1 : IntKind.u64.wrap f = f := IntWalk.u64_in _ (by omega)
  have m2 : IntKind.i64.wrap (l + f) = l + f := IntWalk.i64_in _ (by omega)
  unfold newSz
  rw [HP.out]
  generalize r / n = p at *
  generalize hR : f * p = fp at *
  have HR := Lib.hid hR
  clear hR
  have m3 : IntKind.u64.wrap lp = lp := IntWalk.u64_in _ (by omega)
  have m4 : IntKind.u32.wrap lp = lp := IntWalk.u32_in _ (by omega)
  by_cases hb : l + f = n
  · rw [if_pos hb]
    have hb2 : (l + f == n) = true := by simp [hb]
    have HB := Lib.hid hb
    clear hb
    have m5 : IntKind.u64.wrap (r - lp) = r - lp := IntWalk.u64_in _ (by omega)
    have m6 : IntKind.u32.wrap (r - lp) = (r - lp) % 4294967296 := by rw [IntKind.wrap_u32]
    go_enter Tryd.func40, Tryd.ntmps40
    go_wp2_with fail
    refine KP.out.mono ?_
    rintro e w1 ⟨rfl, b1⟩
    have B1 := Lib.hid b1
    clear b1
    go_wp2_with fail
    refine (KL.out w1 B1.out).mono ?_
    rintro e w2 ⟨rfl, b2⟩
    have B2 := Lib.hid (B1.out.trans b2)
    clear b2
    go_wp2_with fail
    refine (KC.out w2 B2.out).mono ?_
    rintro e w3 ⟨rfl, b3⟩
    have B3 := Lib.hid (B2.out.trans b3)
    clear b3
    have P1 : l * p = lp := HP.out
    have P2 : f * p = fp := HR.out
    go_wp2_with fail
    refine (KT.out w3 B3.out).mono ?_
    rintro e w4 ⟨rfl, b4⟩
    have B4 := Lib.hid (B3.out.trans b4)
    clear b4
    go_wp2_with fail
    refine (KW.out w4 B4.out).mono ?_
    rintro e w5 ⟨rfl, b5⟩
    have B5 := Lib.hid (B4.out.trans b5)
    clear b5
    have H5 := H.out w5 B5.out
    have c1 := H5.lo
    have c2 := H5.sz
    have f1 := frozen_in H5 1
    have f2 := frozen_in H5 2
    have HH := Lib.hid H5
    clear H5
    go_wp2
    go_ret
    exact ⟨rfl, (HH.out.setSz _).setLo _, (((Chg.refl _ w).read B5.out).set _ _ (by exact rfl)).set _ _ (by exact rfl)⟩
  · rw [if_neg hb]
    have hb2 : (l + f == n) = false := by simp [hb]
    have hx := HF.out hb
    have HB := Lib.hid hb
    clear hb
    have m5 : IntKind.u64.wrap fp = fp := IntWalk.u64_in _ (by omega)
    have m6 : IntKind.u32.wrap fp = fp % 4294967296 := by rw [IntKind.wrap_u32]
    go_enter Tryd.func40, Tryd.ntmps40
    go_wp2_with fail
    refine KP.out.mono ?_
    rintro e w1 ⟨rfl, b1⟩
    have B1 := Lib.hid b1
    clear b1
    go_wp2_with fail
    refine (KL.out w1 B1.out).mono ?_
    rintro e w2 ⟨rfl, b2⟩
    have B2 := Lib.hid (B1.out.trans b2)
    clear b2
    go_wp2_with fail
    refine (KC.out w2 B2.out).mono ?_
    rintro e w3 ⟨rfl, b3⟩
    have B3 := Lib.hid (B2.out.trans b3)
    clear b3
    have P1 : l * p = lp := HP.out
    have P2 : f * p = fp := HR.out
    go_wp2_with fail
    refine (KT.out w3 B3.out).mono ?_
    rintro e w4 ⟨rfl, b4⟩
    have B4 := Lib.hid (B3.out.trans b4)
    clear b4
    have H5 := H.out w4 B4.out
    have c1 := H5.lo
    have c2 := H5.sz
    have f1 := frozen_in H5 1
    have f2 := frozen_in H5 2
    have HH := Lib.hid H5
    clear H5
    go_wp2
    go_ret
    exact ⟨rfl, (HH.out.setSz _).setLo _, (((Chg.refl _ w).read B4.out).set _ _ (by exact rfl)).set _ _ (by exact rfl)⟩
end Go.Proofs.YtjbfgajognnmiaaDoor

/- carry of layer 4: one more, in a row of bytes. -/
namespace Go.Proofs.YtjbfgajognnmiaaDoor
open Go.RowKit

def bts (l : List Nat) : List Value := l.map fun d : Nat => .int .u8 (d : Int)
theorem length_bts (l : List Nat) : (bts l).length = l.length := by simp [bts]
theorem bts_append (a b : List Nat) : bts (a ++ b) = bts a ++ bts b := by simp [bts]
theorem bts_one (l : List Nat) : ∀ u ∈ bts l, u.oneCell' = true := by
  intro u hu
  simp only [bts, List.mem_map] at hu
  obtain ⟨x, _, rfl⟩ := hu
  rfl
theorem bts_at (l : List Nat) (k : Nat) (h : k < l.length) : (bts l)[k]? = some (.int .u8 ((l.getD k 0 : Nat) : Int)) := by
  simp [bts, List.getElem?_eq_getElem h]
/-- The bytes l lie at the start of block q. -/
def BRow (w : World) (q : Nat) (l : List Nat) (rest : List Value) : Prop := w.heap[q]? = some (.cells (bts l ++ rest).toArray 5 (0, 0))
theorem BRow.cell {w : World} {q : Nat} {l : List Nat} {rest : List Value} (h : BRow w q l rest) (k : Nat) (hk : k < l.length) : w.cell? ⟨q, k, none⟩ = some (.int .u8 ((l.getD k 0 : Nat) : Int)) := by
  rw [cell_in h, List.getElem?_toArray, List.getElem?_append_left (by rw [length_bts]; exact hk), bts_at l k hk]
theorem BRow.set {w : World} {q : Nat} {l : List Nat} {rest : List Value} (h : BRow w q l rest) (k x : Nat) (hk : k < l.length) : BRow (w.setCell ⟨q, k, none⟩ (.int .u8 (x : Int))) q (l.set k x) rest := by
  have := heap_set h k (.int .u8 (x : Int))
  rw [BRow, this, List.setIfInBounds_toArray, List.set_append_left _ _ (by rw [length_bts]; exact hk)]
  simp [bts, List.map_set]

def CarryAt (w : World) (q n V : Nat) (rest : List Value) (i : Value) (wr : World) : Prop :=
  ∃ (j : Nat) (D : List Nat), i = .int .i64 ((j : Int) - 1) ∧ j ≤ n ∧ D.length = n ∧ Dig D ∧ val D + 256 ^ (n - j) = V + 1 ∧ BRow wr q D rest ∧ Chg (· = q) w wr

set_option maxHeartbeats 2000000 in
set_option maxRecDepth 100000 in
theorem carry_any (w : World) (q n cap : Nat) (l : List Nat) (rest : List Value) (h : BRow w q l rest) (hn : l.length = n) (hd : Dig l) (hv : val l + 1 < 256 ^ n) (hm : n ≤ 1000000) :
    Calls Tryd.prog 41 #[.slice (some ⟨q, 0, none⟩) n cap] w fun e w' => e = .returned (.tuple #[]) ∧ BRow w' q (digs n (val l + 1)) rest ∧ Chg (· = q) w w' := by
  have HV := Lib.hid hv
  have HN := Lib.hid (⟨hn, hd, h⟩ : l.length = n ∧ Dig l ∧ BRow w q l rest)
  clear hv hn hd h
  go_enter Tryd.func41, Tryd.ntmps41
  go_wp2_with fail
  go_loopw [2] (CarryAt w q n (val l) rest) (fun i _ => (intOf i + 1).toNat)
  case atStart => exact ⟨n, l, rfl, Nat.le_refl _, HN.out.1, HN.out.2.1, by simp, HN.out.2.2, Chg.refl _ w⟩
  case round =>
    obtain ⟨j, D, rfl, hj, hl, hD, hval, hrow, hc⟩ := hrel
    have hv := HV.out
    rcases j with _ | j
    · exfalso
      rw [Nat.sub_zero] at hval
      omega
    · have hjn : j < n := by omega
      have ej : ((j + 1 : Nat) : Int) - 1 = (j : Int) := by omega
      rw [ej]
      have ck := hrow.cell j (by omega)
      have fk := frozen_in hrow j
      have bd := dig_at hD j
      have vs := val_set D j ((D.getD j 0 + 1) % 256) (by omega)
      have R2 := Lib.hid (hrow.set j ((D.getD j 0 + 1) % 256) (by omega))
      have D2 := Lib.hid (dig_set D j ((D.getD j 0 + 1) % 256) hD (by omega))
      have C2 := Lib.hid (hc.set ⟨q, j, none⟩ (.int .u8 ((((D.getD j 0 + 1) % 256 : Nat)) : Int)) (by exact rfl))
      have L2 := Lib.hid (show (D.set j ((D.getD j 0 + 1) % 256)).length = n by rw [List.length_set]; exact hl)
      have e1 : n - 1 - j = n - (j + 1) := by omega
      rw [hl, e1] at vs
      clear hrow hc hD
      generalize hd : D.getD j 0 = d at *
      have HD := Lib.hid hd
      clear hd
      by_cases hlt : d + 1 < 256
      · have em : (d + 1) % 256 = d + 1 := by omega
        rw [em] at vs R2 D2 C2 L2
        have V2 := Lib.hid (show val (D.set j (d + 1)) = val l + 1 by rw [Nat.add_mul] at vs; omega)
        clear em vs hval hv hl
        have t1 : (0:Int) ≤ (j : Int) := by omega
        have t2 : IntKind.u8.wrap ((d : Int) + 1) = ((d + 1 : Nat) : Int) := by rw [IntWalk.u8_in _ (by omega)]; omega
        have t3 : (((d + 1 : Nat) : Int) == 0) = false := by simp; omega
        have t4 : (j : Int) < n := by omega
        have t5 : ((d : Int) + 1 == 0) = false := by simp; omega
        go_wp2
        refine bodyPost_ret (results_none rfl _ _ _) rfl ?_
        refine ⟨rfl, ?_, C2.out⟩
        rw [← V2.out, ← L2.out, digs_val _ D2.out]
        exact R2.out
      · have hd : d = 255 := by omega
        subst hd
        have em : (255 + 1) % 256 = 0 := by decide
        rw [em] at vs R2 D2 C2 L2
        have V2 := Lib.hid (show val (D.set j 0) + 256 ^ (n - j) = val l + 1 by
          rw [show n - j = n - (j + 1) + 1 by omega, Nat.pow_succ]
          rw [Nat.zero_mul] at vs
          omega)
        clear em vs hval hv hl hlt
        have t1 : (0:Int) ≤ (j : Int) := by omega
        have t4 : (j : Int) < n := by omega
        go_wp2_with fail
        exact ⟨⟨j, D.set j 0, rfl, by omega, L2.out, D2.out, V2.out, R2.out, C2.out⟩, by simp [intOf]⟩
end Go.Proofs.YtjbfgajognnmiaaDoor

/- What an encoder holds in memory; narrowing by a symbol, in the words of intervals. -/
namespace Go.Proofs.YtjbfgajognnmiaaDoor
open Go.RowKit

theorem Tryd.infoU8 : (Tryd.prog.info? 5).map (fun i => (i.zero, i.size, i.bytes)) = some (some (.int .u8 0), 1, 1) := by kernel_rfl
/-- The part of a symbol. -/
def cut (x : Iv) (c : List Int) (s : Nat) : Iv := part x (tot c) (lowN c s) (cntN c s) (decide (s + 1 = c.length))
/-- By how much L increases. -/
def stp (x : Iv) (c : List Int) (s : Nat) : Nat := lowN c s * (x.R / tot c)
theorem cut_L (x : Iv) (c : List Int) (s : Nat) : (cut x c s).L = x.L + stp x c s := rfl
theorem cut_k (x : Iv) (c : List Int) (s : Nat) : (cut x c s).k = x.k := rfl
theorem come_cut (x : Iv) (c : List Int) (s : Nat) : come x c s = norm 3 (cut x c s) := rfl
theorem stp_cast {x : Iv} {c : List Int} (h : Ok c) (s : Nat) : low c s * ((x.R : Int) / c.sum) = ((stp x c s : Nat) : Int) := by
  rw [stp, Int.natCast_mul, Int.natCast_ediv, low_cast h, tot_cast h]
theorem last_iff {c : List Int} (h : Ok c) (s : Nat) (hs : s < c.length) : low c s + c.getD s 0 = c.sum ↔ s + 1 = c.length := by
  rw [← low_succ]
  constructor
  · intro he
    rcases Nat.lt_or_ge (s + 1) c.length with hlt | hge
    · have h1 := low_succ c (s + 1)
      have h2 := one_at h.one (s + 1) hlt
      have h3 := low_sum h.zero (s + 1 + 1)
      omega
    · omega
  · intro he
    exact low_all c (s + 1) (by omega)
theorem newSz_cast {x : Iv} {c : List Int} (h : Ok c) (s : Nat) (hs : s < c.length) : newSz (x.R : Int) c.sum (low c s) (c.getD s 0) = (((cut x c s).R : Nat) : Int) := by
  have h1 := mul_unit_le (x := x) h s
  have h2 := stp_cast (x := x) h s
  unfold newSz cut part
  by_cases hl : s + 1 = c.length
  · rw [if_pos ((last_iff h s hs).2 hl)]
    simp only [hl, decide_true, if_true]
    rw [h2]
    unfold stp
    omega
  · rw [if_neg (fun e => hl ((last_iff h s hs).1 e))]
    simp only [hl, decide_false, Bool.false_eq_true, if_false]
    rw [Int.natCast_mul, Int.natCast_ediv, cnt_cast h, tot_cast h]
theorem wid_cast (R : Nat) (h0 : 0 < R) (h1 : R ≤ 4294967296) : wid ((R % 4294967296 : Nat) : Int) = (R : Int) := by
  unfold wid; split <;> omega

theorem narrow_iv (w : World) (g : Nat) (t : TypeId) (a : Value) (x : Iv) (rest : List Value) (h : SIs w g t a ((x.L % 4294967296 : Nat) : Int) ((x.R % 4294967296 : Nat) : Int) rest) (h0 : 0 < x.R) (h1 : x.R ≤ 4294967296)
    (gt q cap : Nat) (c : List Int) (ht : TIs w gt q cap c) (ok : Ok c) (s : Nat) (hs : s < c.length) :
    Calls Tryd.prog 40 #[.pointer (some ⟨g, 1, none⟩), .pointer (some ⟨gt, 0, none⟩), .int .i64 (s : Int)] w
      (Narrowed w g t a (((cut x c s).L % 4294967296 : Nat) : Int) (((cut x c s).R % 4294967296 : Nat) : Int) rest ((stp x c s : Nat) : Int)) := by
  have := narrow_any w g t a _ _ rest h (by omega) (by omega) gt q cap c ht ok s hs
  rw [wid_cast _ h0 h1, newSz_cast ok s hs, stp_cast ok s] at this
  rw [cut_L]
  have e : ((x.L % 4294967296 : Nat) + (stp x c s : Nat) : Int) % 4294967296 = (((x.L + stp x c s) % 4294967296 : Nat) : Int) := by omega
  rw [e] at this
  rw [Int.natCast_emod (cut x c s).R]
  exact this

/-- The bytes ahead of the last four. -/
def ahd (x : Iv) : List Nat := digs x.k (x.L / 4294967296)
def up (x : Iv) : Iv := ⟨x.k + 1, x.L * 256, x.R * 256⟩
theorem ahd_up (x : Iv) : ahd (up x) = ahd x ++ [x.L % 4294967296 / 16777216] := by
  unfold ahd up
  show digs (x.k + 1) (x.L * 256 / 4294967296) = _
  rw [digs, show x.L * 256 / 4294967296 / 256 = x.L / 4294967296 by omega, show x.L * 256 / 4294967296 % 256 = x.L % 4294967296 / 16777216 by omega]
theorem length_ahd (x : Iv) : (ahd x).length = x.k := length_digs _ _
theorem dig_ahd (x : Iv) : Dig (ahd x) := dig_digs _ _

/-- An encoder lies in block g, its bytes in the row v. -/
structure EIs (w : World) (B g : Nat) (v : Value) (x : Iv) : Prop where
  sp : SIs w g 66 v ((x.L % 4294967296 : Nat) : Int) ((x.R % 4294967296 : Nat) : Int) []
  row : w.ownsRow B 5 1 v x.k (bts (ahd x))
  low : B ≤ g

theorem own_lt {w : World} {B n : Nat} {t : TypeId} {v : Value} {xs : List Value} (h : w.ownsRow B t 1 v n xs) (q : Nat) (hq : v.ownBlock = some q) : B ≤ q ∧ q < w.heap.size ∧ ∃ cur, w.heap[q]? = some (.cells cur t (0, 0)) := by
  rcases h.2 with ⟨h1, _⟩ | ⟨p, cap, cur, h1, hp, hh, _⟩
  · subst h1; cases hq
  · subst h1
    injection hq with hq
    subst hq
    exact ⟨hp, heap_lt hh, cur, hh⟩
theorem own_keep {S : Nat → Prop} {w w' : World} {B n : Nat} {t : TypeId} {v : Value} {xs : List Value} (h : w.ownsRow B t 1 v n xs) (hc : Chg S w w') (hs : ∀ q, v.ownBlock = some q → ¬ S q) : w'.ownsRow B t 1 v n xs := by
  refine ⟨h.1, ?_⟩
  rcases h.2 with h1 | ⟨p, cap, cur, h1, hp, hh, h3⟩
  · exact .inl h1
  · exact .inr ⟨p, cap, cur, h1, hp, (hc.far p (heap_lt hh) (hs p (by rw [h1]; rfl))).trans hh, h3⟩
theorem EIs.far {w : World} {B g : Nat} {v : Value} {x : Iv} (h : EIs w B g v x) : v.ownBlock ≠ some g := by
  intro e
  obtain ⟨_, _, cur, hc⟩ := own_lt h.row g e
  have := h.sp
  rw [SIs, hc] at this
  injection this with this
  injection this with _ ht
  exact absurd ht (by decide)
theorem EIs.lt {w : World} {B g : Nat} {v : Value} {x : Iv} (h : EIs w B g v x) : g < w.heap.size := h.sp.lt
theorem EIs.keep {S : Nat → Prop} {w w' : World} {B g : Nat} {v : Value} {x : Iv} (h : EIs w B g v x) (hc : Chg S w w') (hg : ¬ S g) (hs : ∀ q, v.ownBlock = some q → ¬ S q) : EIs w' B g v x :=
  ⟨h.sp.keep hc hg, own_keep h.row hc hs, h.low⟩
theorem EIs.below {w w' : World} {B g : Nat} {v : Value} {x : Iv} (h : EIs w B g v x) (hb : Below w.heap.size w w') : EIs w' B g v x :=
  h.keep (S := fun _ => False) (.of_below hb) id (fun _ _ => id)
theorem EIs.read {w w' : World} {B g : Nat} {v : Value} {x : Iv} (h : EIs w B g v x) (hb : Reading w w') : EIs w' B g v x := h.below hb.below

theorem Chg.trans' {S T : Nat → Prop} {w w1 w2 : World} (h : Chg S w w1) (k : Chg T w1 w2) (ht : ∀ b, b < w.heap.size → T b → S b) : Chg S w w2 :=
  ⟨k.os.trans h.os, k.tape.trans h.tape, k.output.trans h.output, Nat.le_trans h.size k.size, fun b hb hs => (k.far b (Nat.lt_of_lt_of_le hb h.size) fun hx => hs (ht b hb hx)).trans (h.far b hb hs)⟩
/-- The row v' is v's or a new one. -/
def Mvd (w : World) (v v' : Value) : Prop := ∀ q, v'.ownBlock = some q → v.ownBlock = some q ∨ w.heap.size ≤ q
theorem Mvd.refl (w : World) (v : Value) : Mvd w v v := fun _ h => .inl h
theorem Mvd.trans {w w1 : World} {v v1 v2 : Value} (h : Mvd w v v1) (hs : w.heap.size ≤ w1.heap.size) (k : Mvd w1 v1 v2) : Mvd w v v2 := fun q hq => by
  rcases k q hq with k | k
  · exact h q k
  · exact .inr (by omega)
/-- What an encoder's call may turn. -/
def ESet (g : Nat) (v : Value) (b : Nat) : Prop := b = g ∨ v.ownBlock = some b
/-- An encoder went on. -/
def Went (w : World) (B g : Nat) (v : Value) (x : Iv) (w' : World) : Prop := ∃ v', EIs w' B g v' x ∧ Chg (ESet g v) w w' ∧ Mvd w v v'
theorem Went.below {w w' : World} {B g : Nat} {v : Value} {x y : Iv} (h : Went w B g v x w') (h0 : EIs w B g v y) : Below B w w' := by
  obtain ⟨v', _, hc, _⟩ := h
  refine hc.below (by have := h0.lt; have := h0.low; omega) ?_
  rintro b (rfl | hb)
  · exact h0.low
  · exact (own_lt h0.row b hb).1

/-- The row of an encoder lies in a block, once there are bytes. -/
theorem own_block {w : World} {B n : Nat} {v : Value} {l : List Nat} (h : w.ownsRow B 5 1 v n (bts l)) (hn : 0 < n) : ∃ q cap rest, v = .slice (some ⟨q, 0, none⟩) n cap ∧ BRow w q l rest ∧ n ≤ cap ∧ cap ≤ maxLen ∧ (bts l ++ rest).length = cap ∧ B ≤ q := by
  rcases h.2 with ⟨_, h1⟩ | ⟨q, cap, cur, h1, hq, hh, hc, hm, hs, ht⟩
  · omega
  · refine ⟨q, cap, cur.toList.drop n, h1, ?_, hc, hm, ?_, hq⟩
    · rw [BRow, hh, ← ht, Nat.mul_one, List.take_append_drop, Array.toArray_toList]
    · rw [← ht, Nat.mul_one, List.take_append_drop, Array.length_toList]
      omega
theorem own_of_block {w : World} {B n q cap : Nat} {l : List Nat} {rest : List Value} (h : BRow w q l rest) (hl : l.length = n) (hc : n ≤ cap) (hm : cap ≤ maxLen) (hs : (bts l ++ rest).length = cap) (hq : B ≤ q) : w.ownsRow B 5 1 (.slice (some ⟨q, 0, none⟩) n cap) n (bts l) := by
  refine ⟨by rw [length_bts]; omega, .inr ⟨q, cap, _, rfl, hq, h, hc, hm, ?_, ?_⟩⟩
  · rw [List.size_toArray]; omega
  · rw [List.toList_toArray, Nat.mul_one, List.take_append_of_le_length (by rw [length_bts]; omega), List.take_of_length_le (by rw [length_bts]; omega)]
theorem norm_small (t : Nat) (x : Iv) (h : x.R < 16777216) : norm (t + 1) x = norm t (up x) := by rw [norm, if_pos h]; rfl
theorem norm_big (t : Nat) (x : Iv) (h : 16777216 ≤ x.R) : norm t x = x := by
  cases t with
  | zero => rfl
  | succ t => rw [norm, if_neg (by omega)]
end Go.Proofs.YtjbfgajognnmiaaDoor

/- Encode of layer 4 where it refuses; New. -/
namespace Go.Proofs.YtjbfgajognnmiaaDoor
open Go.RowKit

set_option maxHeartbeats 800000 in
set_option maxRecDepth 100000 in
theorem encode_nil (w : World) (t : Value) (s : Int) : Calls Tryd.prog 28 #[.pointer none, t, .int .i64 s] w fun e w' => e = .returned (.int .i64 1) ∧ Reading w w' := by
  go_enter Tryd.func28, Tryd.ntmps28
  go_wp2
  go_ret
  exact ⟨rfl, 0, rfl⟩
set_option maxHeartbeats 800000 in
set_option maxRecDepth 100000 in
theorem encode_notab (w : World) (p : Addr) (s : Int) : Calls Tryd.prog 28 #[.pointer (some p), .pointer none, .int .i64 s] w fun e w' => e = .returned (.int .i64 1) ∧ Reading w w' := by
  have K := Lib.hid (symbols_nil w)
  go_enter Tryd.func28, Tryd.ntmps28
  go_wp2_with fail
  refine K.out.mono ?_
  rintro e w1 ⟨rfl, b1⟩
  have B1 := Lib.hid b1
  clear b1
  go_wp2
  go_ret
  exact ⟨rfl, B1.out⟩
set_option maxHeartbeats 800000 in
set_option maxRecDepth 100000 in
theorem encode_range (w : World) (p : Addr) (gt q cap : Nat) (c : List Int) (ht : TIs w gt q cap c) (ok : Ok c) (s : Int) (hs : s < 0 ∨ c.length ≤ s) :
    Calls Tryd.prog 28 #[.pointer (some p), .pointer (some ⟨gt, 0, none⟩), .int .i64 s] w fun e w' => e = .returned (.int .i64 2) ∧ Reading w w' := by
  have KS := Lib.hid (fun w' (b : Reading w w') => symbols_any w' gt q cap c (ht.read b))
  have n1 := ok.pos
  have n2 := ok.few
  clear ht ok
  generalize c.length = n at *
  have t1 : ((n : Int) == 0) = false := by simp; omega
  by_cases h0 : s < 0
  · clear hs
    go_enter Tryd.func28, Tryd.ntmps28
    go_wp2_with fail
    refine (KS.out w (Reading.refl w)).mono ?_
    rintro e w1 ⟨rfl, b1⟩
    have B1 := Lib.hid b1
    clear b1
    go_wp2
    go_ret
    exact ⟨rfl, B1.out⟩
  · have h1 : (n : Int) ≤ s := by omega
    clear hs
    go_enter Tryd.func28, Tryd.ntmps28
    go_wp2_with fail
    refine (KS.out w (Reading.refl w)).mono ?_
    rintro e w1 ⟨rfl, b1⟩
    have B1 := Lib.hid b1
    clear b1
    go_wp2_with fail
    refine (KS.out w1 B1.out).mono ?_
    rintro e w2 ⟨rfl, b2⟩
    have B2 := Lib.hid (B1.out.trans b2)
    clear b2
    go_wp2
    go_ret
    exact ⟨rfl, B2.out⟩

def MadeEnc (w : World) (B : Nat) (e : Ending) (w' : World) : Prop :=
  ∃ g v, e = .returned (.pointer (some ⟨g, 0, none⟩)) ∧ EIs w' B g v firstIv ∧ Below w.heap.size w w' ∧ w.heap.size ≤ g ∧ v.ownBlock = none
set_option maxHeartbeats 800000 in
set_option maxRecDepth 100000 in
theorem cnew_any (w : World) (B : Nat) (hB : B ≤ w.heap.size) : Calls Tryd.prog 26 #[] w (MadeEnc w B) := by
  have HB := Lib.hid hB
  clear hB
  go_enter Tryd.func26, Tryd.ntmps26
  go_wp2
  go_ret
  refine ⟨_, .slice none 0 0, rfl, ⟨?_, World.ownsRow_nil _ _ _ _, HB.out⟩, ⟨rfl, rfl, rfl, by simp, fun b hb => Below.heap_alloc _ _ _ hb⟩, Nat.le_refl _, rfl⟩
  exact (Array.getElem?_push_size : (w.heap.push _)[w.heap.size]? = some _)
end Go.Proofs.YtjbfgajognnmiaaDoor

/- Rows of bytes of the library: slices.Clone and bytes.TrimRight by the byte 0. -/
namespace Go.Proofs.YtjbfgajognnmiaaDoor
open Go.RowKit

theorem empty_bytes (w : World) : (w.alloc (.cells #[] 5)).ownsRow w.heap.size 5 1 (.slice (some ⟨w.heap.size, 0, none⟩) 0 0) 0 [] :=
  World.ownsRow_made w #[] 0 (Nat.le_refl _) (by unfold maxLen; omega) (by simp)
theorem eqlB_nilIn (d : Nat) (w : World) (a : Option Addr) (n c : Nat) : (Op.equalIn (d + 1) 25 (.slice a n c) (.slice none 0 0)).run Tryd.prog w = .ok a.isNone w := by
  cases a <;> simp [Op.equalIn, run_underlying Tryd.underlying25]
theorem eqlB_nil (w : World) (a : Option Addr) (n c : Nat) : (binOp .eql 25 (.slice a n c) (.slice none 0 0)).run Tryd.prog w = .ok (.bool a.isNone) w := by
  have h : (Op.equal 25 (.slice a n c) (.slice none 0 0)).run Tryd.prog w = .ok a.isNone w := eqlB_nilIn 9999 w a n c
  simp [binOp, h]

/-- A row of its own with these bytes. -/
def OwnB (w : World) (n : Nat) (l : List Nat) (e : Ending) (w' : World) : Prop := ∃ v, e = .returned v ∧ w'.ownsRow w.heap.size 5 1 v n (bts l) ∧ Below w.heap.size w w'

set_option maxHeartbeats 800000 in
set_option maxRecDepth 100000 in
theorem cloneB_any (w : World) (A : Option Addr) (n c : Nat) (l : List Nat) (h : Reads w A n (bts l)) (hn : n ≤ 140737488351232) :
    Calls Tryd.prog 47 #[.slice A n c] w (OwnB w n l) := by
  have hq := eqlB_nil w A n c
  rcases A with _ | ad
  · have hn0 : n = 0 := by
      rcases Nat.eq_zero_or_pos n with h0 | h0
      · exact h0
      · obtain ⟨ad, he, _⟩ := h.2 h0; cases he
    subst hn0
    have hl : bts l = [] := List.eq_nil_of_length_eq_zero h.1
    have HL := Lib.hid hl
    clear h hl
    simp only [Option.isNone_none] at hq
    go_enter Tryd.func47, Tryd.ntmps47
    go_wp2
    go_ret
    refine ⟨_, rfl, ?_, Below.refl _ _⟩
    rw [HL.out]
    exact World.ownsRow_nil _ _ _ _
  · obtain ⟨i0, hi, hz0, hz1, hz2⟩ := info_parts Tryd.infoU8
    have HI := Lib.hid hi
    have HZ := Lib.hid (And.intro hz0 (And.intro hz1 hz2))
    have N1 := Lib.hid (empty_bytes w)
    have B1 := Lib.hid ((Below.refl w.heap.size w).alloc (Nat.le_refl _) (.cells #[] 5))
    have HR := Lib.hid (h.below ((Below.refl w.heap.size w).alloc (Nat.le_refl _) (.cells #[] 5)))
    clear h hi hz0 hz1 hz2
    simp only [Option.isNone_some] at hq
    go_enter Tryd.func47, Tryd.ntmps47
    go_wp2_with (at_builtin; refine wpList_append_reads rfl (.tmp 5) (.tmp 6) 25 rfl w.heap.size 5 i0 (.int .u8 0) 1 Tryd.underlying25 HI.out HZ.out rfl (.slice (some ⟨w.heap.size, 0, none⟩) 0 0) 0 [] rfl N1.out (some ad) n c (bts l) rfl HR.out (fun e => (nomatch e)) (bts_one l) ?b1 ?b2 ?b3 ?_)
    case b1 => unfold maxLen; omega
    case b2 => omega
    case b3 => simp
    intro v' w2 hown hgr
    have O := Lib.hid (show w2.ownsRow w.heap.size 5 1 v' n (bts l) by simpa using hown)
    have B2 := Lib.hid (own_grown_below B1.out hgr B1.out.size (fun k hk => by simp [Value.ownBlock] at hk; omega))
    clear hown hgr
    go_wp2
    go_ret
    exact ⟨v', rfl, O.out, B2.out⟩

/-- l up to m, and only noughts behind it. -/
def Trims (l : List Nat) (m : Nat) : Prop := m ≤ l.length ∧ (∀ j, m ≤ j → j < l.length → l.getD j 0 = 0) ∧ (m = 0 ∨ l.getD (m - 1) 0 ≠ 0)
def TrimAt (w : World) (ad : Addr) (c : Nat) (l : List Nat) (s : Value) (wr : World) : Prop := ∃ m : Nat, s = .slice (some ad) m c ∧ m ≤ l.length ∧ (∀ j, m ≤ j → j < l.length → l.getD j 0 = 0) ∧ Reading w wr
def Trimmed (w : World) (ad : Addr) (c : Nat) (l : List Nat) (e : Ending) (w' : World) : Prop := ∃ m : Nat, e = .returned (.slice (some ad) m c) ∧ Trims l m ∧ Reading w w'

set_option maxHeartbeats 1600000 in
set_option maxRecDepth 100000 in
theorem trimByte_any (w : World) (ad : Addr) (n c : Nat) (l : List Nat) (h : Reads w (some ad) n (bts l)) (hn : n ≤ 1000000) (hc : n ≤ c) (hd : Dig l) :
    Calls Tryd.prog 61 #[.slice (some ad) n c, .int .u8 0] w (Trimmed w ad c l) := by
  have hl : l.length = n := by have := h.1; rwa [length_bts] at this
  have HR := Lib.hid h
  have HD := Lib.hid hd
  have HL := Lib.hid hl
  clear h hd hl
  go_enter Tryd.func61, Tryd.ntmps61
  go_wp2_with fail
  go_loopw [0] (TrimAt w ad c l) (fun s _ => match s with | .slice _ m _ => m | _ => 0)
  case atStart => exact ⟨n, rfl, by rw [HL.out]; exact Nat.le_refl _, fun j h1 h2 => by have := HL.out; omega, Reading.refl w⟩
  case round =>
    obtain ⟨m, rfl, hm, hz, hr⟩ := hrel
    have hml := HL.out
    rcases m with _ | m
    · have Z := Lib.hid (⟨hz, hr⟩ : (∀ j, 0 ≤ j → j < l.length → l.getD j 0 = 0) ∧ Reading w wr)
      clear hz hr hm hml
      go_wp2
      go_ret
      exact ⟨0, rfl, ⟨Nat.zero_le _, Z.out.1, .inl rfl⟩, Z.out.2⟩
    · have ck : wr.cell? (ad.add m) = some (.int .u8 ((l.getD m 0 : Nat) : Int)) := by
        obtain ⟨ad', e, hc'⟩ := (HR.out.read hr).2 (by omega)
        injection e with e
        subst e
        exact hc' m _ (bts_at l m (by omega))
      have bd := dig_at HD.out m
      have Z := Lib.hid (⟨hm, hz, hr⟩ : m + 1 ≤ l.length ∧ (∀ j, m + 1 ≤ j → j < l.length → l.getD j 0 = 0) ∧ Reading w wr)
      have hmc : m < c := by omega
      have hmn : m < 1000000 := by omega
      clear hz hr hm hml
      generalize hdd : l.getD m 0 = d at *
      have HDD := Lib.hid hdd
      clear hdd
      have e1 : IntKind.i64.wrap (m : Int) = (m : Int) := IntWalk.i64_in _ (by omega)
      have e3 : (m : Int) < (m : Int) + 1 := by omega
      have e4 : (0 : Int) < (m : Int) + 1 := by omega
      have e5 : decide ((0 : Int) < (m : Int) + 1) = true := by simp
      by_cases h0 : d = 0
      · subst h0
        go_wp2_with fail
        refine ⟨⟨m, rfl, by have := Z.out.1; omega, fun j h1 h2 => ?_, Z.out.2.2⟩, Nat.lt_succ_self m⟩
        rcases Nat.eq_or_lt_of_le h1 with h3 | h3
        · rw [← h3]; exact HDD.out
        · exact Z.out.2.1 j h3 h2
      · have t1 : ((d : Int) == 0) = false := by simp; omega
        go_wp2
        go_ret
        exact ⟨m + 1, rfl, ⟨Z.out.1, Z.out.2.1, .inr (by rw [Nat.add_sub_cancel, HDD.out]; exact h0)⟩, Z.out.2.2⟩

set_option maxHeartbeats 1600000 in
set_option maxRecDepth 100000 in
theorem trim_any (w : World) (ad : Addr) (n c : Nat) (l : List Nat) (h : Reads w (some ad) n (bts l)) (hn : n ≤ 1000000) (hc : n ≤ c) (hd : Dig l) :
    Calls Tryd.prog 49 #[.slice (some ad) n c, .string ⟨#[0]⟩] w (Trimmed w ad c l) := by
  have hl : l.length = n := by have := h.1; rwa [length_bts] at this
  have K := Lib.hid (trimByte_any w ad n c l h hn hc hd)
  by_cases h0 : n = 0
  · subst h0
    have HL := Lib.hid hl
    clear h hd hl hc
    go_enter Tryd.func49, Tryd.ntmps49
    go_wp2
    go_ret
    exact ⟨0, rfl, ⟨Nat.zero_le _, fun j _ h2 => by have := HL.out; omega, .inl rfl⟩, Reading.refl w⟩
  · have t1 : ((n : Int) == 0) = false := by simp; omega
    clear h hd hl hc
    go_enter Tryd.func49, Tryd.ntmps49
    go_wp2_with fail
    refine K.out.mono ?_
    rintro e w1 ⟨m, rfl, h1, b1⟩
    have H1 := Lib.hid (⟨h1, b1⟩ : Trims l m ∧ Reading w w1)
    clear h1 b1
    go_wp2
    go_ret
    exact ⟨m, rfl, H1.out.1, H1.out.2⟩
theorem trim_nil (w : World) : Calls Tryd.prog 49 #[.slice none 0 0, .string ⟨#[0]⟩] w fun e w' => e = .returned (.slice none 0 0) ∧ Reading w w' := by
  go_enter Tryd.func49, Tryd.ntmps49
  go_wp2
  go_ret
  exact ⟨rfl, Reading.refl w⟩
end Go.Proofs.YtjbfgajognnmiaaDoor

/- A decoder's take: the next byte, or 0. -/
namespace Go.Proofs.YtjbfgajognnmiaaDoor
open Go.RowKit

theorem or_byte (x d : Nat) (hx : x < 4294967296) (hd : d < 256) : bits BinOp.or IntKind.u64 ((x : Int) * 256) (d : Int) = (x : Int) * 256 + (d : Int) := by
  have h1 : x * 256 ||| d = x * 256 + d := nat_join 8 _ _ (by omega) (by omega)
  have h2 := u64_or_nat (x * 256) d (by omega) (by omega)
  rw [h1] at h2
  rw [show ((x : Int) * 256) = ((x * 256 : Nat) : Int) by omega, h2]
  omega

/-- A decoder lies in block g, its bytes in the row pk: k symbols' worth of digits taken, ab above. -/
def DCell (w : World) (g : Nat) (pk : Value) (lo sz : Int) (k ab : Nat) : Prop := SIs w g 116 pk lo sz [.int .i64 (k : Int), .int .u64 (ab : Int)]
theorem DCell.k {w : World} {g : Nat} {pk : Value} {lo sz : Int} {k ab : Nat} (h : DCell w g pk lo sz k ab) : w.cell? ⟨g, 3, none⟩ = some (.int .i64 (k : Int)) := by rw [cell_in h]; rfl
theorem DCell.ab {w : World} {g : Nat} {pk : Value} {lo sz : Int} {k ab : Nat} (h : DCell w g pk lo sz k ab) : w.cell? ⟨g, 4, none⟩ = some (.int .u64 (ab : Int)) := by rw [cell_in h]; rfl
theorem DCell.pk {w : World} {g : Nat} {pk : Value} {lo sz : Int} {k ab : Nat} (h : DCell w g pk lo sz k ab) : w.cell? ⟨g, 0, none⟩ = some pk := by rw [cell_in h]; rfl
theorem DCell.setAb {w : World} {g : Nat} {pk : Value} {lo sz : Int} {k ab : Nat} (h : DCell w g pk lo sz k ab) (x : Nat) (y : Int) (hy : y = (x : Int)) : DCell (w.setCell ⟨g, 4, none⟩ (.int .u64 y)) g pk lo sz k x := by
  subst hy
  have := heap_set h 4 (.int .u64 (x : Int)); simpa [DCell, SIs] using this
theorem DCell.setK {w : World} {g : Nat} {pk : Value} {lo sz : Int} {k ab : Nat} (h : DCell w g pk lo sz k ab) (x : Nat) (y : Int) (hy : y = (x : Int)) : DCell (w.setCell ⟨g, 3, none⟩ (.int .i64 y)) g pk lo sz x ab := by
  subst hy
  have := heap_set h 3 (.int .i64 (x : Int)); simpa [DCell, SIs] using this
def Took (w : World) (g : Nat) (pk : Value) (lo sz : Int) (k ab : Nat) (e : Ending) (w' : World) : Prop := e = .returned (.tuple #[]) ∧ DCell w' g pk lo sz k ab ∧ Chg (· = g) w w'

theorem own_far {w : World} {B n g : Nat} {v : Value} {xs : List Value} {t : TypeId} {a : Value} {lo sz : Int} {rest : List Value} (h : w.ownsRow B 5 1 v n xs) (hs : SIs w g t a lo sz rest) (ht : t ≠ 5) : v.ownBlock ≠ some g := by
  intro e
  obtain ⟨_, _, cur, hc⟩ := own_lt h g e
  rw [SIs, hc] at hs
  injection hs with hs
  injection hs with _ h2
  exact ht h2.symm

set_option maxHeartbeats 1600000 in
set_option maxRecDepth 100000 in
theorem take_any (w : World) (B g : Nat) (pk : Value) (lo sz : Int) (k ab : Nat) (b : List Nat) (i : Nat) (h : DCell w g pk lo sz k ab) (ho : w.ownsRow B 5 1 pk b.length (bts b)) (hb : Dig b) (ha : ab < 4294967296) :
    Calls Tryd.prog 78 #[.pointer (some ⟨g, 0, none⟩), .int .i64 (i : Int)] w (Took w g pk lo sz k (ab * 256 + b.getD i 0)) := by
  obtain ⟨A, c, hv, hA, hR⟩ := Reads.of_own ho
  subst hv
  have c0 := h.pk
  have c4 := h.ab
  have f4 := frozen_in h 4
  have hfar := own_far ho h (by decide)
  have H1 := h.setAb (ab * 256) ((ab : Int) * 256) (by omega)
  have O1 := own_keep ho (Chg.of_set (S := (· = g)) w ⟨g, 4, none⟩ (.int .u64 ((ab : Int) * 256)) rfl) (fun p hp e => hfar (by rw [hp, e]))
  have C1 := Lib.hid (Chg.of_set (S := (· = g)) w ⟨g, 4, none⟩ (.int .u64 ((ab : Int) * 256)) rfl)
  have HH1 := Lib.hid H1
  have OO1 := Lib.hid O1
  have HB := Lib.hid hb
  clear h ho hR O1 hb
  by_cases hi : i < b.length
  · have t1 : (i : Int) < (b.length : Int) := by omega
    have HD := Lib.hid (dig_at HB.out i)
    have d0 := H1.pk
    have d4 := H1.ab
    have g4 := frozen_in H1 4
    obtain ⟨A', c', hv', _, hR'⟩ := Reads.of_own OO1.out
    injection hv' with h1 _ h3
    subst h1 h3
    obtain ⟨ad, rfl, hcell⟩ := hR'.2 (by omega)
    have dx := hcell i _ (bts_at b i hi)
    clear H1 hcell hR'
    have bd := HD.out
    generalize hdd : b.getD i 0 = d at *
    have HDD := Lib.hid hdd
    clear hdd
    generalize hbl : b.length = n at *
    have HBL := Lib.hid hbl
    clear hbl
    have eo := or_byte ab d ha bd
    have e6 : ((ab * 256 : Nat) : Int) = (ab : Int) * 256 := by omega
    rw [e6] at d4
    go_enter Tryd.func78, Tryd.ntmps78
    go_wp2_with fail
    generalize w.setCell ⟨g, 4, none⟩ (.int .u64 ((ab : Int) * 256)) = W at *
    go_still_tail 15, (by kernel_rfl)
    change wpList _ _ _ _ _ W.drew
    go_wp2
    go_end0
    refine ⟨rfl, ?_, ?_⟩
    · exact DCell.setAb (w := W.drew) HH1.out (ab * 256 + d) _ (by rw [eo]; omega)
    · exact (C1.out.read ⟨1, rfl⟩).set _ _ (by exact rfl)
  · have t1 : ¬ (i : Int) < (b.length : Int) := by omega
    have hz : b.getD i 0 = 0 := by rw [List.getD_eq_getElem?_getD, List.getElem?_eq_none (by omega)]; rfl
    rw [hz]
    have d0 := H1.pk
    clear H1 hz
    generalize hbl : b.length = n at *
    have HBL := Lib.hid hbl
    clear hbl
    go_enter Tryd.func78, Tryd.ntmps78
    go_wp2
    go_end0
    exact ⟨rfl, HH1.out, C1.out⟩
end Go.Proofs.YtjbfgajognnmiaaDoor
