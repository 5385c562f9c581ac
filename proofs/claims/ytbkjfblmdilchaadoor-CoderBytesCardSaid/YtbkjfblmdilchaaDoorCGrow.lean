/- The span of layer 4: even, grow and narrow. -/
import Derived.Test.YtbkjfblmdilchaaDoorCSpan
namespace Go.Proofs.YtbkjfblmdilchaaDoor
open Go.RowKit

theorem Chg.read {S : Nat → Prop} {w w1 w2 : World} (h : Chg S w w1) (k : Reading w1 w2) : Chg S w w2 := h.trans (.of_read k)
theorem Chg.set {S : Nat → Prop} {w w1 : World} (h : Chg S w w1) (p : Addr) (u : Value) (hp : S p.block) : Chg S w (w1.setCell p u) := h.trans (.of_set w1 p u hp)

def Grew (w : World) (g : Nat) (t : TypeId) (a : Value) (lo sz : Int) (rest : List Value) (r : Int) (e : Ending) (w' : World) : Prop :=
  e = .returned (.int .u8 r) ∧ SIs w' g t a lo sz rest ∧ Chg (· = g) w w'

set_option maxHeartbeats 800000 in
set_option maxRecDepth 100000 in
theorem grow_any (w : World) (g : Nat) (t : TypeId) (a : Value) (lo sz : Int) (rest : List Value) (h : SIs w g t a lo sz rest) (h0 : 0 ≤ lo) (h1 : lo < 4294967296) (h2 : 0 ≤ sz) (h3 : sz < 16777216) :
    Calls Tryd.prog 31 #[.pointer (some ⟨g, 1, none⟩)] w (Grew w g t a (lo * 256 % 4294967296) (sz * 256) rest (lo / 16777216)) := by
  have c1 := h.lo
  have c2 := h.sz
  have f1 := frozen_in h 1
  have f2 := frozen_in h 2
  have H := Lib.hid h
  clear h
  go_enter Tryd.func31, Tryd.ntmps31
  go_wp2
  go_ret
  exact ⟨rfl, (H.out.setLo _).setSz _, ((Chg.refl _ w).set _ _ (by exact rfl)).set _ _ (by exact rfl)⟩

set_option maxHeartbeats 800000 in
set_option maxRecDepth 100000 in
theorem even_any (w : World) (g : Nat) (t : TypeId) (a : Value) (lo sz : Int) (rest : List Value) (h : SIs w g t a lo sz rest) (h0 : 0 ≤ lo) (h1 : lo < 4294967296) (h2 : 0 ≤ sz) (h3 : sz < 4294967296) :
    Calls Tryd.prog 36 #[.pointer (some ⟨g, 1, none⟩)] w fun e w' => e = .returned (.bool (decide (lo = 0 ∨ 4294967296 < lo + wid sz))) ∧ Reading w w' := by
  have c1 := h.lo
  have hw : 0 < wid sz ∧ wid sz ≤ 4294967296 := by unfold wid; split <;> omega
  have K := Lib.hid (fun m => width_any (w.drewN m) g t a lo sz rest (h.read ⟨m, rfl⟩) h2 h3)
  clear h h2 h3
  generalize wid sz = r at *
  by_cases hz : lo = 0
  · subst hz
    have hb : decide ((0 : Int) = 0 ∨ 4294967296 < 0 + r) = true := by simp
    rw [hb]
    have d : decide ((0:Int) = 0) = true := by simp
    go_enter Tryd.func36, Tryd.ntmps36
    go_wp2
    go_quiet ((go_at_call 47; exact Calls.quiet_of (K.out _)))
    go_wp2
    go_ret
    exact ⟨rfl, _, rfl⟩
  · have hb : decide (lo = 0 ∨ 4294967296 < lo + r) = decide (4294967296 < lo + r) := by simp [hz]
    rw [hb]
    have d : decide (lo = 0) = false := by simp [hz]
    have d2 : (lo == 0) = false := by simp [hz]
    go_enter Tryd.func36, Tryd.ntmps36
    go_wp2
    go_quiet ((go_at_call 47; exact Calls.quiet_of (K.out _)))
    go_wp2
    go_ret
    exact ⟨rfl, _, rfl⟩

/-- What the part of a symbol is worth, by the total, its low end and its count. -/
def newSz (r n l f : Int) : Int := if l + f = n then r - l * (r / n) else f * (r / n)
def Narrowed (w : World) (g : Nat) (t : TypeId) (a : Value) (lo sz : Int) (rest : List Value) (r : Int) (e : Ending) (w' : World) : Prop :=
  e = .returned (.int .u32 r) ∧ SIs w' g t a lo sz rest ∧ Chg (· = g) w w'

set_option maxHeartbeats 1600000 in
set_option maxRecDepth 100000 in
theorem narrow_any (w : World) (g : Nat) (t : TypeId) (a : Value) (lo sz : Int) (rest : List Value) (h : SIs w g t a lo sz rest) (h2 : 0 ≤ sz) (h3 : sz < 4294967296)
    (gt q cap : Nat) (c : List Int) (ht : TIs w gt q cap c) (ok : Ok c) (s : Nat) (hs : s < c.length) :
    Calls Tryd.prog 28 #[.pointer (some ⟨g, 1, none⟩), .pointer (some ⟨gt, 0, none⟩), .int .i64 (s : Int)] w
      (Narrowed w g t a ((lo + low c s * (wid sz / c.sum)) % 4294967296) (newSz (wid sz) c.sum (low c s) (c.getD s 0) % 4294967296) rest (low c s * (wid sz / c.sum))) := by
  have hw : 0 < wid sz ∧ wid sz ≤ 4294967296 := by unfold wid; split <;> omega
  have hs1 := ok.len_sum
  have hs2 := ok.total
  have hs3 := ok.pos
  have hl0 := (ok.low_le' s).1
  have hf0 := one_at ok.one s hs
  have hlf : low c s + c.getD s 0 ≤ c.sum := by rw [← low_succ]; exact low_sum ok.zero (s + 1)
  have KW := Lib.hid (fun w' (b : Reading w w') => width_any w' g t a lo sz rest (h.read b) h2 h3)
  have KP := Lib.hid (part_any w g t a lo sz rest h h2 h3 gt q cap c ht ok)
  have KT := Lib.hid (fun w' (b : Reading w w') => total_any w' gt q cap c (ht.read b) ok.pos ok.few)
  have KL := Lib.hid (fun w' (b : Reading w w') => low_any w' gt q cap c (s : Int) (ht.read b) ok.few)
  have KC := Lib.hid (fun w' (b : Reading w w') => count_any w' gt q cap c (s : Int) (ht.read b) ok)
  rw [lowOf_at c s hs] at KL
  rw [cntOf_at c s hs] at KC
  have H := Lib.hid (fun w' (b : Reading w w') => h.read b)
  clear h ht
  generalize wid sz = r at *
  have hn : 0 < c.sum := by omega
  generalize low c s = l at *
  generalize c.getD s 0 = f at *
  generalize c.sum = n at *
  have hp0 : 0 ≤ r / n := Int.ediv_nonneg (by omega) (by omega)
  have hpn : n * (r / n) ≤ r := Int.mul_ediv_self_le (by omega)
  have hlp0 : 0 ≤ l * (r / n) := Int.mul_nonneg hl0 hp0
  have hfp0 : 0 ≤ f * (r / n) := Int.mul_nonneg (by omega) hp0
  have hlfp : l * (r / n) + f * (r / n) ≤ r := by
    have : (l + f) * (r / n) ≤ n * (r / n) := Int.mul_le_mul_of_nonneg_right hlf hp0
    rw [Int.add_mul] at this
    omega
  have hlp1 : l * (r / n) < r := by
    by_cases hp : r / n = 0
    · rw [hp, Int.mul_zero]; omega
    · have : f * (r / n) ≥ 1 * (r / n) := Int.mul_le_mul_of_nonneg_right hf0 hp0
      omega
  have hfp1 : l + f ≠ n → f * (r / n) < 4294967296 := by
    intro hne
    by_cases hp : r / n = 0
    · rw [hp, Int.mul_zero]; omega
    · have h5 : (l + f + 1) * (r / n) ≤ n * (r / n) := Int.mul_le_mul_of_nonneg_right (by omega) hp0
      rw [Int.add_mul, Int.add_mul, Int.one_mul] at h5
      omega
  clear hpn hlfp ok
  generalize hP : l * (r / n) = lp at *
  have HF := Lib.hid hfp1
  have HP := Lib.hid hP
  clear hfp1 hP
  have m0 : IntKind.u64.wrap l = l := IntWalk.u64_in _ (by omega)
  have m1 : IntKind.u64.wrap f = f := IntWalk.u64_in _ (by omega)
  have m2 : IntKind.i64.wrap (l + f) = l + f := IntWalk.i64_in _ (by omega)
  unfold newSz
  rw [HP.out]
  generalize r / n = p at *
  generalize hR : f * p = fp at *
  have HR := Lib.hid hR
  clear hR
  have m3 : IntKind.u64.wrap lp = lp := IntWalk.u64_in _ (by omega)
  have m4 : IntKind.u32.wrap lp = lp := IntWalk.u32_in _ (by omega)
  by_cases hb : l + f = n
  · rw [if_pos hb]
    have hb2 : (l + f == n) = true := by simp [hb]
    have HB := Lib.hid hb
    clear hb
    have m5 : IntKind.u64.wrap (r - lp) = r - lp := IntWalk.u64_in _ (by omega)
    have m6 : IntKind.u32.wrap (r - lp) = (r - lp) % 4294967296 := by rw [IntKind.wrap_u32]
    go_enter Tryd.func28, Tryd.ntmps28
    go_wp2_with fail
    refine KP.out.mono ?_
    rintro e w1 ⟨rfl, b1⟩
    have B1 := Lib.hid b1
    clear b1
    go_wp2_with fail
    refine (KL.out w1 B1.out).mono ?_
    rintro e w2 ⟨rfl, b2⟩
    have B2 := Lib.hid (B1.out.trans b2)
    clear b2
    go_wp2_with fail
    refine (KC.out w2 B2.out).mono ?_
    rintro e w3 ⟨rfl, b3⟩
    have B3 := Lib.hid (B2.out.trans b3)
    clear b3
    have P1 : l * p = lp := HP.out
    have P2 : f * p = fp := HR.out
    go_wp2_with fail
    refine (KT.out w3 B3.out).mono ?_
    rintro e w4 ⟨rfl, b4⟩
    have B4 := Lib.hid (B3.out.trans b4)
    clear b4
    go_wp2_with fail
    refine (KW.out w4 B4.out).mono ?_
    rintro e w5 ⟨rfl, b5⟩
    have B5 := Lib.hid (B4.out.trans b5)
    clear b5
    have H5 := H.out w5 B5.out
    have c1 := H5.lo
    have c2 := H5.sz
    have f1 := frozen_in H5 1
    have f2 := frozen_in H5 2
    have HH := Lib.hid H5
    clear H5
    go_wp2
    go_ret
    exact ⟨rfl, (HH.out.setSz _).setLo _, (((Chg.refl _ w).read B5.out).set _ _ (by exact rfl)).set _ _ (by exact rfl)⟩
  · rw [if_neg hb]
    have hb2 : (l + f == n) = false := by simp [hb]
    have hx := HF.out hb
    have HB := Lib.hid hb
    clear hb
    have m5 : IntKind.u64.wrap fp = fp := IntWalk.u64_in _ (by omega)
    have m6 : IntKind.u32.wrap fp = fp % 4294967296 := by rw [IntKind.wrap_u32]
    go_enter Tryd.func28, Tryd.ntmps28
    go_wp2_with fail
    refine KP.out.mono ?_
    rintro e w1 ⟨rfl, b1⟩
    have B1 := Lib.hid b1
    clear b1
    go_wp2_with fail
    refine (KL.out w1 B1.out).mono ?_
    rintro e w2 ⟨rfl, b2⟩
    have B2 := Lib.hid (B1.out.trans b2)
    clear b2
    go_wp2_with fail
    refine (KC.out w2 B2.out).mono ?_
    rintro e w3 ⟨rfl, b3⟩
    have B3 := Lib.hid (B2.out.trans b3)
    clear b3
    have P1 : l * p = lp := HP.out
    have P2 : f * p = fp := HR.out
    go_wp2_with fail
    refine (KT.out w3 B3.out).mono ?_
    rintro e w4 ⟨rfl, b4⟩
    have B4 := Lib.hid (B3.out.trans b4)
    clear b4
    have H5 := H.out w4 B4.out
    have c1 := H5.lo
    have c2 := H5.sz
    have f1 := frozen_in H5 1
    have f2 := frozen_in H5 2
    have HH := Lib.hid H5
    clear H5
    go_wp2
    go_ret
    exact ⟨rfl, (HH.out.setSz _).setLo _, (((Chg.refl _ w).read B4.out).set _ _ (by exact rfl)).set _ _ (by exact rfl)⟩
end Go.Proofs.YtbkjfblmdilchaaDoor
