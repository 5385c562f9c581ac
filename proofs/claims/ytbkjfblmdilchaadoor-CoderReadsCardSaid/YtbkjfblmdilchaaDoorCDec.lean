/- A decoder: NewDecoder and Done; those of none. -/
import Derived.Test.YtbkjfblmdilchaaDoorCTake
namespace Go.Proofs.YtbkjfblmdilchaaDoor
open Go.RowKit

/-- A decoder of the bytes b, behind the interval x. -/
structure DIs (w : World) (B g : Nat) (pk : Value) (x : Iv) (b : List Nat) : Prop where
  cell : DCell w g pk ((x.L % 4294967296 : Nat) : Int) ((x.R % 4294967296 : Nat) : Int) x.k (scale b (4 + x.k) - x.L)
  row : w.ownsRow B 5 1 pk b.length (bts b)
  low : B ≤ g
  dig : Dig b
  inside : Inside x b

section
variable {S : Nat → Prop} {w w' : World} {B g : Nat} {pk : Value} {x : Iv} {b : List Nat}
theorem DIs.lt (h : DIs w B g pk x b) : g < w.heap.size := SIs.lt h.cell
theorem DIs.far (h : DIs w B g pk x b) : pk.ownBlock ≠ some g := own_far h.row h.cell (by decide)
theorem DIs.keep (h : DIs w B g pk x b) (hc : Chg S w w') (hg : ¬ S g) (hs : ∀ q, pk.ownBlock = some q → ¬ S q) : DIs w' B g pk x b :=
  ⟨SIs.keep h.cell hc hg, own_keep h.row hc hs, h.low, h.dig, h.inside⟩
theorem DIs.below (h : DIs w B g pk x b) (hb : Below w.heap.size w w') : DIs w' B g pk x b := h.keep (S := fun _ => False) (.of_below hb) id (fun _ _ => id)
theorem DIs.read (h : DIs w B g pk x b) (hb : Reading w w') : DIs w' B g pk x b := h.below hb.below
end

def MadeDec (w : World) (B : Nat) (b : List Nat) (e : Ending) (w' : World) : Prop :=
  ∃ g pk, e = .returned (.pointer (some ⟨g, 0, none⟩)) ∧ DIs w' B g pk firstIv b ∧ Below w.heap.size w w' ∧ w.heap.size ≤ g ∧ ∀ q, pk.ownBlock = some q → w.heap.size ≤ q

def NewAtD (w : World) (B g : Nat) (pk : Value) (b : List Nat) (i : Value) (wr : World) : Prop :=
  ∃ j : Nat, j ≤ 4 ∧ i = .int .i64 (j : Int) ∧ DCell wr g pk 0 0 0 (scale b j) ∧ wr.ownsRow B 5 1 pk b.length (bts b) ∧ Chg (· = g) w wr

theorem scale_lt {b : List Nat} (hb : Dig b) (j : Nat) : scale b j < 256 ^ j := by
  have := val_lt (widen b j) (dig_widen hb j)
  rwa [length_widen] at this
theorem inside_firstIv {b : List Nat} (hb : Dig b) : Inside firstIv b := ⟨Nat.zero_le _, by have := scale_lt hb 4; exact Nat.lt_of_lt_of_le this (by decide)⟩

set_option maxHeartbeats 1600000 in
set_option maxRecDepth 100000 in
theorem newDec_any (w : World) (B : Nat) (A : Option Addr) (n c : Nat) (b : List Nat) (h : Reads w A n (bts b)) (hn : n ≤ 1000000) (hb : Dig b) (hB : B ≤ w.heap.size) :
    Calls Tryd.prog 20 #[.slice A n c] w (MadeDec w B b) := by
  have hl : b.length = n := by have := h.1; rwa [length_bts] at this
  have KC := Lib.hid (cloneB_any w A n c b h (by omega))
  have HB := Lib.hid (⟨hb, hB, hl⟩ : Dig b ∧ B ≤ w.heap.size ∧ b.length = n)
  clear h hb hB hl
  go_enter Tryd.func20, Tryd.ntmps20
  go_wp2_with fail
  refine KC.out.mono ?_
  rintro e w1 ⟨pk, rfl, o1, b1⟩
  have O1 := Lib.hid (⟨o1, b1⟩ : w1.ownsRow w.heap.size 5 1 pk n (bts b) ∧ Below w.heap.size w w1)
  obtain ⟨A1, c1, rfl, _, _⟩ := Reads.of_own o1
  clear o1 b1
  go_wp2_with fail
  generalize hpk : Value.slice A1 n c1 = pk at *
  have HPK := Lib.hid hpk
  clear hpk
  have N0 := Lib.hid (show NewAtD (w1.alloc (.cells #[pk, .int .u32 0, .int .u32 0, .int .i64 0, .int .u64 0] 76)) w.heap.size w1.heap.size pk b (.int .i64 0) (w1.alloc (.cells #[pk, .int .u32 0, .int .u32 0, .int .i64 0, .int .u64 0] 76)) by
    refine ⟨0, by omega, rfl, ?_, ?_, Chg.refl _ _⟩
    · rw [scale_zero]
      exact (Array.getElem?_push_size : (w1.heap.push _)[w1.heap.size]? = some _)
    · rw [HB.out.2.2]
      exact O1.out.1.alloc _)
  go_loopw [9] (NewAtD (w1.alloc (.cells #[pk, .int .u32 0, .int .u32 0, .int .i64 0, .int .u64 0] 76)) w.heap.size w1.heap.size pk b) (fun i _ => 4 - (intOf i).toNat)
  case atStart => exact N0.out
  case round =>
    obtain ⟨j, hj, rfl, hc, ho, hg⟩ := hrel
    have R := Lib.hid (⟨hc, ho, hg⟩ : DCell wr w1.heap.size pk 0 0 0 (scale b j) ∧ wr.ownsRow w.heap.size 5 1 pk b.length (bts b) ∧ Chg (· = w1.heap.size) (w1.alloc (.cells #[pk, .int .u32 0, .int .u32 0, .int .i64 0, .int .u64 0] 76)) wr)
    clear hc ho hg
    by_cases hlt : j < 4
    · have t1 : (j : Int) < 4 := by omega
      have KT := Lib.hid (take_any wr w.heap.size w1.heap.size pk 0 0 0 (scale b j) b j R.out.1 R.out.2.1 HB.out.1 (by
        have h1 := scale_lt HB.out.1 j
        have h2 : 256 ^ j ≤ 256 ^ 4 := Nat.pow_le_pow_right (by omega) (by omega)
        exact Nat.lt_of_lt_of_le h1 h2))
      rw [← scale_succ] at KT
      go_wp2_with fail
      refine KT.out.mono ?_
      rintro e w3 ⟨rfl, h3, b3⟩
      have T3 := Lib.hid (⟨h3, b3⟩ : DCell w3 w1.heap.size pk 0 0 0 (scale b (j + 1)) ∧ Chg (· = w1.heap.size) wr w3)
      clear h3 b3
      go_wp2_with fail
      refine ⟨⟨j + 1, by omega, by go_num, T3.out.1, own_keep R.out.2.1 T3.out.2 (fun p hp e => own_far R.out.2.1 R.out.1 (by decide) (by rw [hp, e])), R.out.2.2.trans T3.out.2⟩, by simp [intOf]; omega⟩
    · obtain rfl : j = 4 := by omega
      go_wp2
      go_ret
      have hA : w1.heap.size ≥ w.heap.size := O1.out.2.size
      refine ⟨_, pk, rfl, ⟨R.out.1, ?_, by have := HB.out; omega, HB.out.1, inside_firstIv HB.out.1⟩, ?_, hA, fun q hq => (own_lt R.out.2.1 q hq).1⟩
      · have ho := R.out.2.1
        refine ⟨ho.1, ?_⟩
        rcases ho.2 with h1 | ⟨p, cap, cur, h1, hp, hh, h3⟩
        · exact .inl h1
        · exact .inr ⟨p, cap, cur, h1, by have := HB.out.2.1; omega, hh, h3⟩
      · refine (O1.out.2.alloc hA _).trans (R.out.2.2.below (by simp; omega) (fun q hq => by rw [hq]; exact hA))

set_option maxHeartbeats 1600000 in
set_option maxRecDepth 100000 in
theorem done_any (w : World) (B g : Nat) (pk : Value) (x : Iv) (b : List Nat) (h : DIs w B g pk x b) (hx : x.Good) (hk : x.k ≤ 1000000) (hb : b.length ≤ 1000000) :
    Calls Tryd.prog 23 #[.pointer (some ⟨g, 0, none⟩)] w fun e w' => e = .returned (.bool (doneOf x b)) ∧ Reading w w' := by
  obtain ⟨A, c, hv, hA, hR⟩ := Reads.of_own h.row
  subst hv
  have c0 := h.cell.pk
  have c3 := h.cell.k
  have c4 := h.cell.ab
  have hd : evenIv x ↔ (((x.L % 4294967296 : Nat) : Int) = 0 ∨ 4294967296 < ((x.L % 4294967296 : Nat) : Int) + (x.R : Int)) := by unfold evenIv; omega
  have hde : decide (((x.L % 4294967296 : Nat) : Int) = 0 ∨ 4294967296 < ((x.L % 4294967296 : Nat) : Int) + (x.R : Int)) = decide (evenIv x) := decide_eq_decide.2 hd.symm
  have KE := Lib.hid (even_any w g 76 (.slice A b.length c) _ _ _ h.cell (by omega) (by omega) (by omega) (by omega))
  rw [wid_cast x.R (by have := hx.lo; omega) hx.hi, hde] at KE
  have H := Lib.hid h
  have HR := Lib.hid hR
  unfold doneOf
  clear h hd hde hR hx
  generalize hab : scale b (4 + x.k) - x.L = ab at *
  have HAB := Lib.hid hab
  clear hab
  generalize hkk : x.k = k at *
  have HKK := Lib.hid hkk
  clear hkk
  by_cases h1 : k < b.length
  · rw [if_pos h1]
    by_cases h2 : b.length = k + 1
    · rw [h2] at c0
      rw [decide_eq_true h2, Bool.true_and]
      have HL := Lib.hid h2
      clear h2 HR h1
      have t1 : (k : Int) < (k : Int) + 1 := by omega
      have t2 : IntKind.i64.wrap ((k : Int) + 1) = (k : Int) + 1 := IntWalk.i64_in _ (by omega)
      cases hev : decide (evenIv x)
      · rw [hev] at KE
        rw [Bool.not_false, Bool.true_and]
        clear hev
        go_enter Tryd.func23, Tryd.ntmps23
        go_wp2_with fail
        refine KE.out.mono ?_
        rintro e w1 ⟨rfl, b1⟩
        have d4 : w1.cell? ⟨g, 4, none⟩ = some (.int .u64 (ab : Int)) := by obtain ⟨m, rfl⟩ := b1; exact c4
        have B1 := Lib.hid b1
        clear b1
        go_wp2
        go_ret
        refine ⟨?_, B1.out⟩
        show Ending.returned (.bool (decide ((ab : Int) < 16777216))) = _
        rw [show decide ((ab : Int) < 16777216) = decide (ab < 16777216) from decide_eq_decide.2 (by omega)]
      · rw [hev] at KE
        rw [Bool.not_true, Bool.false_and]
        clear hev
        go_enter Tryd.func23, Tryd.ntmps23
        go_wp2_with fail
        refine KE.out.mono ?_
        rintro e w1 ⟨rfl, b1⟩
        have B1 := Lib.hid b1
        clear b1
        go_wp2
        go_ret
        exact ⟨rfl, B1.out⟩
    · rw [decide_eq_false h2, Bool.false_and, Bool.false_and]
      clear HR KE
      have t1 : (k : Int) < (b.length : Int) := by omega
      have t2 : IntKind.i64.wrap ((k : Int) + 1) = (k : Int) + 1 := IntWalk.i64_in _ (by omega)
      have t3 : ((b.length : Int) == (k : Int) + 1) = false := by simp; omega
      clear h1 h2
      generalize b.length = n at *
      go_enter Tryd.func23, Tryd.ntmps23
      go_wp2
      go_ret
      exact ⟨rfl, Reading.refl w⟩
  · rw [if_neg h1]
    clear KE
    by_cases h0 : b.length = 0
    · rw [decide_eq_true h0, Bool.true_or]
      rw [h0] at c0
      have t1 : ¬ (k : Int) < 0 := by omega
      clear HR h1 h0
      go_enter Tryd.func23, Tryd.ntmps23
      go_wp2
      go_ret
      exact ⟨rfl, Reading.refl w⟩
    · rw [decide_eq_false h0, Bool.false_or]
      obtain ⟨m, hm⟩ : ∃ m, b.length = m + 1 := ⟨b.length - 1, by omega⟩
      obtain ⟨ad, rfl, hcell⟩ := HR.out.2 (by omega)
      have cx := hcell m _ (bts_at b m (by omega))
      rw [hm] at c0
      rw [hm, Nat.add_sub_cancel]
      have hm2 : m < 1000000 := by omega
      have t1 : ¬ (k : Int) < (m : Int) + 1 := by omega
      have t2 : ¬ (k : Int) < ((m + 1 : Nat) : Int) := by omega
      have HM := Lib.hid hm
      clear hcell HR hm h1 h0 hb
      generalize b.getD m 0 = d at *
      have e1 : IntKind.i64.wrap (m : Int) = (m : Int) := IntWalk.i64_in _ (by omega)
      have e3 : (m : Int) < (m : Int) + 1 := by omega
      have e4 : (((m + 1 : Nat) : Int) == 0) = false := by simp; omega
      have e5 : (((m : Int) + 1) == 0) = false := by simp; omega
      go_enter Tryd.func23, Tryd.ntmps23
      go_wp2
      go_ret
      refine ⟨?_, Reading.refl w⟩
      by_cases hd : d = 0
      · subst hd; rfl
      · have h2 : ((d : Int) != 0) = true := by simp [hd]
        show Ending.returned (.bool ((d : Int) != 0)) = _
        rw [h2, decide_eq_false hd]; rfl
theorem done_nil (w : World) : Calls Tryd.prog 23 #[.pointer none] w fun e w' => e = .returned (.bool false) ∧ Reading w w' := by
  go_enter Tryd.func23, Tryd.ntmps23
  go_wp2
  go_ret
  exact ⟨rfl, Reading.refl w⟩
theorem decode_nil (w : World) (t : Value) : Calls Tryd.prog 22 #[.pointer none, t] w fun e w' => e = .returned (.tuple #[.int .i64 0, .int .i64 1]) ∧ Reading w w' := by
  go_enter Tryd.func22, Tryd.ntmps22
  go_wp2
  go_ret2
  exact ⟨rfl, Reading.refl w⟩
theorem decode_notab (w : World) (p : Addr) : Calls Tryd.prog 22 #[.pointer (some p), .pointer none] w fun e w' => e = .returned (.tuple #[.int .i64 0, .int .i64 1]) ∧ Reading w w' := by
  have K := Lib.hid (symbols_nil w)
  go_enter Tryd.func22, Tryd.ntmps22
  go_wp2_with fail
  refine K.out.mono ?_
  rintro e w1 ⟨rfl, b1⟩
  have B1 := Lib.hid b1
  clear b1
  go_wp2
  go_ret2
  exact ⟨rfl, B1.out⟩
end Go.Proofs.YtbkjfblmdilchaaDoor
