/- The parts of a container (layer 7): parts. -/
import Derived.Test.YtngambkbpdjddaaBoxData
namespace Go.Proofs.Ytngambkbpdjddaa
open Go.RowKit

/-- What is told of a chunk: its kind, its data, where they begin, whether they are whole. -/
structure PartV where
  kind : Nat
  data : List Nat
  at' : Int
  whole : Bool
/-- Part i by the table t, the data beginning at F. -/
def partV (l t : List Nat) (F : Int) (i : Nat) : PartV :=
  ⟨t.getD (9 * i) 0, if Whole l (F + toffs t i) (val (seg t (9 * i + 1) 4)) (leNum (seg t (9 * i + 5) 4)) then seg l (F + toffs t i).toNat (val (seg t (9 * i + 1) 4)) else [], F + toffs t i, decide (Whole l (F + toffs t i) (val (seg t (9 * i + 1) 4)) (leNum (seg t (9 * i + 5) 4)))⟩

/-- Parts, j of k, lie in block q; their data in rows of their own. -/
def PartsIs (w : World) (B q k j : Nat) (P : Nat → PartV) : Prop :=
  ∃ C : Array Value, w.heap[q]? = some (.cells C 42 (0, 0)) ∧ C.size = k * 4 ∧ ∀ i, i < j → ∃ v, C[i * 4]? = some (.int .u8 (((P i).kind : Nat) : Int)) ∧ C[i * 4 + 1]? = some v ∧ C[i * 4 + 2]? = some (.int .i64 (P i).at') ∧ C[i * 4 + 3]? = some (.bool (P i).whole) ∧ w.ownsRow B 5 1 v (P i).data.length (bts (P i).data)
theorem PartsIs.chg {S : Nat → Prop} {w w' : World} {B q k j : Nat} {P : Nat → PartV} (h : PartsIs w B q k j P) (hc : Chg S w w') (hq : ¬ S q) (hs : ∀ b, B ≤ b → (∃ cs, w.heap[b]? = some (.cells cs 5 (0, 0))) → ¬ S b) : PartsIs w' B q k j P := by
  obtain ⟨C, h1, h2, h3⟩ := h
  refine ⟨C, (hc.far q (heap_lt h1) hq).trans h1, h2, fun i hi => ?_⟩
  obtain ⟨v, c0, c1, c2, c3, ho⟩ := h3 i hi
  exact ⟨v, c0, c1, c2, c3, own_keep ho hc fun b hb => by
    obtain ⟨k1, k2, cs, k3⟩ := own_lt ho b hb
    exact hs b k1 ⟨cs, k3⟩⟩
theorem PartsIs.below {w w' : World} {B q k j : Nat} {P : Nat → PartV} (h : PartsIs w B q k j P) (hb : Below w.heap.size w w') : PartsIs w' B q k j P := h.chg (S := fun _ => False) (.of_below hb) id (fun _ _ _ => id)
theorem PartsIs.room {w : World} {B q k j : Nat} {P : Nat → PartV} (h : PartsIs w B q k j P) (i : Nat) (hi : i < k) : ∃ u0 u1 u2 u3, w.cell? ⟨q, i * 4, none⟩ = some u0 ∧ w.cell? ⟨q, i * 4 + 1, none⟩ = some u1 ∧ w.cell? ⟨q, i * 4 + 2, none⟩ = some u2 ∧ w.cell? ⟨q, i * 4 + 3, none⟩ = some u3 ∧ w.frozen? ⟨q, i * 4, none⟩ = false ∧ w.frozen? ⟨q, i * 4 + 1, none⟩ = false ∧ w.frozen? ⟨q, i * 4 + 2, none⟩ = false ∧ w.frozen? ⟨q, i * 4 + 3, none⟩ = false := by
  obtain ⟨C, h1, h2, h3⟩ := h
  rw [cell_in h1, cell_in h1, cell_in h1, cell_in h1]
  have e0 : i * 4 < C.size := by omega
  have e1 : i * 4 + 1 < C.size := by omega
  have e2 : i * 4 + 2 < C.size := by omega
  have e3 : i * 4 + 3 < C.size := by omega
  exact ⟨_, _, _, _, Array.getElem?_eq_getElem e0, Array.getElem?_eq_getElem e1, Array.getElem?_eq_getElem e2, Array.getElem?_eq_getElem e3, frozen_in h1 _, frozen_in h1 _, frozen_in h1 _, frozen_in h1 _⟩
/-- Four cells are written. -/
def set4 (w : World) (q o : Nat) (u0 u1 u2 u3 : Value) : World := (((w.setCell ⟨q, o, none⟩ u0).setCell ⟨q, o + 1, none⟩ u1).setCell ⟨q, o + 2, none⟩ u2).setCell ⟨q, o + 3, none⟩ u3
theorem chg_set4 (w : World) (q o : Nat) (u0 u1 u2 u3 : Value) : Chg (· = q) w (set4 w q o u0 u1 u2 u3) :=
  ((((Chg.refl (fun b => b = q) w).set ⟨q, o, none⟩ u0 (show q = q from rfl)).set ⟨q, o + 1, none⟩ u1 (show q = q from rfl)).set ⟨q, o + 2, none⟩ u2 (show q = q from rfl)).set ⟨q, o + 3, none⟩ u3 (show q = q from rfl)
theorem PartsIs.set {w : World} {B q k j : Nat} {P : Nat → PartV} (h : PartsIs w B q k j P) (hj : j < k) {u0 u1 u2 u3 : Value} (e0 : u0 = .int .u8 (((P j).kind : Nat) : Int)) (e2 : u2 = .int .i64 (P j).at') (e3 : u3 = .bool (P j).whole) (ho : w.ownsRow B 5 1 u1 (P j).data.length (bts (P j).data)) :
    PartsIs (set4 w q (j * 4) u0 u1 u2 u3) B q k (j + 1) P := by
  obtain ⟨C, h1, h2, h3⟩ := h
  have hkeep : ∀ {v n xs}, w.ownsRow B 5 1 v n xs → (set4 w q (j * 4) u0 u1 u2 u3).ownsRow B 5 1 v n xs := fun ho => own_keep ho (chg_set4 w q (j * 4) u0 u1 u2 u3) fun b hb e => own_neT ho h1 (by decide) (by rw [hb, e])
  refine ⟨_, heap_set (heap_set (heap_set (heap_set h1 _ u0) _ u1) _ u2) _ u3, by simpa using h2, fun i hi => ?_⟩
  subst e0 e2 e3
  rcases Nat.lt_or_ge i j with hlt | hge
  · obtain ⟨v, k0, k1, k2, k3, ho'⟩ := h3 i hlt
    refine ⟨v, ?_, ?_, ?_, ?_, hkeep ho'⟩
    · rw [Array.getElem?_setIfInBounds_ne (by omega), Array.getElem?_setIfInBounds_ne (by omega), Array.getElem?_setIfInBounds_ne (by omega), Array.getElem?_setIfInBounds_ne (by omega)]; exact k0
    · rw [Array.getElem?_setIfInBounds_ne (by omega), Array.getElem?_setIfInBounds_ne (by omega), Array.getElem?_setIfInBounds_ne (by omega), Array.getElem?_setIfInBounds_ne (by omega)]; exact k1
    · rw [Array.getElem?_setIfInBounds_ne (by omega), Array.getElem?_setIfInBounds_ne (by omega), Array.getElem?_setIfInBounds_ne (by omega), Array.getElem?_setIfInBounds_ne (by omega)]; exact k2
    · rw [Array.getElem?_setIfInBounds_ne (by omega), Array.getElem?_setIfInBounds_ne (by omega), Array.getElem?_setIfInBounds_ne (by omega), Array.getElem?_setIfInBounds_ne (by omega)]; exact k3
  · obtain rfl : i = j := by omega
    refine ⟨u1, ?_, ?_, ?_, ?_, hkeep ho⟩
    · rw [Array.getElem?_setIfInBounds_ne (by omega), Array.getElem?_setIfInBounds_ne (by omega), Array.getElem?_setIfInBounds_ne (by omega), Array.getElem?_setIfInBounds_self_of_lt (by omega)]
    · rw [Array.getElem?_setIfInBounds_ne (by omega), Array.getElem?_setIfInBounds_ne (by omega), Array.getElem?_setIfInBounds_self_of_lt (by simp; omega)]
    · rw [Array.getElem?_setIfInBounds_ne (by omega), Array.getElem?_setIfInBounds_self_of_lt (by simp; omega)]
    · rw [Array.getElem?_setIfInBounds_self_of_lt (by simp; omega)]
theorem Try.infoPart : (Try.prog.info? 42).map (fun i => (i.zero, i.size, i.bytes)) = some (some (.agg #[.int .u8 0, .slice none 0 0, .int .i64 0, .bool false]), 4, 48) := by kernel_rfl

theorem DataTold.part {w w' : World} {l : List Nat} {F : Int} {len s : Nat} {e : Ending} (h : DataTold w l F len s e w') :
    ∃ Av nv cv wh, e = .returned (.tuple #[.slice Av nv cv, .bool wh]) ∧ wh = decide (Whole l F len s) ∧ w'.ownsRow w.heap.size 5 1 (.slice Av nv cv) (if Whole l F len s then seg l F.toNat len else []).length (bts (if Whole l F len s then seg l F.toNat len else [])) ∧ Below w.heap.size w w' := by
  rcases h with ⟨hw, v, rfl, ho, hb⟩ | ⟨hw, rfl, hb⟩
  · obtain ⟨A, c, rfl, _, hr⟩ := Reads.of_own ho
    refine ⟨A, len, c, true, rfl, (decide_eq_true hw).symm, ?_, hb⟩
    rw [if_pos hw, hr.lenB]
    exact ho
  · refine ⟨none, 0, 0, false, rfl, (decide_eq_false hw).symm, ?_, hb⟩
    rw [if_neg hw]
    exact World.ownsRow_nil _ _ _ _

def PartsAt (w : World) (q k : Nat) (P : Nat → PartV) (F : Int) (t : List Nat) (f i : Value) (wr : World) : Prop :=
  ∃ j : Nat, j ≤ k ∧ i = .int .i64 (j : Int) ∧ f = .int .i64 (F + toffs t j) ∧ PartsIs wr w.heap.size q k j P ∧ Below w.heap.size w wr
def PartsTold (w : World) (k : Nat) (P : Nat → PartV) (e : Ending) (w' : World) : Prop :=
  ∃ q, e = .returned (.slice (some ⟨q, 0, none⟩) k k) ∧ PartsIs w' w.heap.size q k k P ∧ w.heap.size ≤ q ∧ Below w.heap.size w w'

set_option maxHeartbeats 3200000 in
set_option maxRecDepth 100000 in
theorem bparts_any (w : World) (A : Option Addr) (n c : Nat) (l : List Nat) (q1 k : Nat) (t : List Nat) (F : Int) (h : Reads w A n (bts l)) (hd : Dig l) (hc : n ≤ c) (hn : n ≤ 1000000) (hr : RowsIs w q1 k k t) (ht : Dig t) (hk : k < 65536) (hF : -400000000000000000 ≤ F) (hF2 : F ≤ 400000000000000000) :
    Calls Try.prog 29 #[.slice A n c, .slice (some ⟨q1, 0, none⟩) k k, .int .i64 F] w (PartsTold w k (partV l t F)) := by
  obtain ⟨i0, hi, hz0, hz1, hz2⟩ := info_parts Try.infoPart
  have HI := Lib.hid (And.intro hi (And.intro hz0 (And.intro hz1 (show i0.bytes * k ≤ 281474976710656 by rw [hz2]; omega))))
  have HR := Lib.hid hr
  have HT := Lib.hid ht
  have KD := Lib.hid (fun w' (b : Below w.heap.size w w') F' V0 L S len s hL hS hF' hF2' hl => dataAt_any w' A n c l F' V0 L S len s hL hS (h.below b) hd hc hn hF' hF2' hl)
  obtain ⟨P, hP⟩ : ∃ P, partV l t F = P := ⟨_, rfl⟩
  have HP := Lib.hid (fun i => show P i = partV l t F i by rw [hP])
  rw [hP]
  clear hi hz0 hz1 hz2 hr ht h hd hP
  go_enter Try.func29, Try.ntmps29
  go_wp2_with (refine wpList_make_full w rfl (.tmp 13) (.tmp 13) 32 rfl w.heap.size 42 i0 (.agg #[.int .u8 0, .slice none 0 0, .int .i64 0, .bool false]) 4 Try.underlying32 HI.out.1 HI.out.2.1 HI.out.2.2.1 .i64 .i64 (k : Int) (k : Int) k rfl rfl rfl rfl HI.out.2.2.2 ?m1 ?m2 ?_)
  case m1 => unfold maxLen; omega
  case m2 => exact Nat.le_refl _
  intro w7 own7 gr7
  have B7 := Lib.hid (show Below w.heap.size w w7 from ⟨gr7.os, gr7.tape, gr7.output, gr7.size, fun j hj => gr7.block j hj (fun e => (nomatch e))⟩)
  have R7 := Lib.hid (show PartsIs w7 w.heap.size w.heap.size k 0 P by
    rcases own7.2 with ⟨h1, h2⟩ | ⟨q, cap, cur, h1, hq, hh, h3, hm, hs, ht⟩
    · cases h1
    · injection h1 with h1 _ h3
      injection h1 with h1
      injection h1 with h1
      subst h1 h3
      exact ⟨cur, hh, hs, fun i hi => absurd hi (by omega)⟩)
  obtain ⟨q, hq⟩ : ∃ q, w.heap.size = q := ⟨_, rfl⟩
  have HQ := Lib.hid hq
  have R8 := Lib.hid (show PartsIs w7 w.heap.size q k 0 P by have := R7.out; rwa [← hq])
  clear R7 own7 gr7
  rw [hq]
  clear hq
  go_wp2_with fail
  go_loopw [2, 17] (PartsAt w q k P F t) (fun _ i _ => k - (intOf i).toNat)
  case atStart => exact ⟨0, Nat.zero_le _, rfl, by show _ = Value.int .i64 (F + 0); rw [Int.add_zero], R8.out, B7.out⟩
  case round =>
    obtain ⟨j, hj, rfl, rfl, hp, hb⟩ := hrel
    by_cases hlt : j < k
    · obtain ⟨c0, c1, c2⟩ := HR.out.cells j hlt
      replace c0 := (hb.cell (World.block_lt_of_cell? _ _ c0)).trans c0
      replace c1 := (hb.cell (World.block_lt_of_cell? _ _ c1)).trans c1
      replace c2 := (hb.cell (World.block_lt_of_cell? _ _ c2)).trans c2
      have hto := toffs_le HT.out j
      have hvl := val_seg_lt HT.out (9 * j + 1)
      have hs : toffs t (j + 1) = toffs t j + val (seg t (9 * j + 1) 4) := rfl
      have hpj := HP.out j
      unfold partV at hpj
      generalize t.getD (9 * j) 0 = x0 at *
      generalize val (seg t (9 * j + 1) 4) = x1 at *
      generalize leNum (seg t (9 * j + 5) 4) = x2 at *
      generalize toffs t j = a at *
      obtain ⟨F', hF'⟩ : ∃ F' : Int, F + (a : Int) = F' := ⟨_, rfl⟩
      rw [hF'] at hpj ⊢
      obtain ⟨V0, hV0⟩ : ∃ V : Int, V = x0 := ⟨_, rfl⟩
      obtain ⟨V1, hV1⟩ : ∃ V : Int, V = x1 := ⟨_, rfl⟩
      obtain ⟨V2, hV2⟩ : ∃ V : Int, V = x2 := ⟨_, rfl⟩
      rw [← hV0] at c0
      rw [← hV1] at c1
      rw [← hV2] at c2
      have B1 := up1 hb (.cells #[.int .u8 V0, .int .i64 V1, .int .u32 V2] 82)
      have X1 : (wr.alloc (.cells #[.int .u8 V0, .int .i64 V1, .int .u32 V2] 82)).heap[wr.heap.size]? = some (.cells #[.int .u8 V0, .int .i64 V1, .int .u32 V2] 82 (0, 0)) := heap_alloc_last wr _
      have P1 := Lib.hid (hp.below (mk_below wr (.cells #[.int .u8 V0, .int .i64 V1, .int .u32 V2] 82)))
      have bF : -500000000000000000 ≤ F' ∧ F' ≤ 900000000000000000 := by omega
      have K9 := Lib.hid (KD.out _ B1 F' (.int .u8 V0) V1 V2 x1 x2 hV1 hV2 (by omega) (by omega) hvl)
      have HB1 := Lib.hid (And.intro B1 X1)
      have HS := Lib.hid (And.intro hs (And.intro hF' (And.intro hV0 (And.intro hV1 hpj))))
      have b1 : (j : Int) < k := by omega
      have bV : 0 ≤ V1 ∧ V1 < 4294967296 := by omega
      clear hs hF' hV0 hV1 hV2 hpj B1 X1 hp hb
      go_wp2_with fail
      refine K9.out.mono ?_
      intro e w2 hdt
      obtain ⟨Av, nv, cv, wh, rfl, hwh, ho, b2⟩ := hdt.part
      have B2 := Lib.hid (up2 HB1.out.1 b2)
      have X2 := (b2.block wr.heap.size (heap_lt HB1.out.2)).trans HB1.out.2
      have P2 := P1.out.below b2
      have y0 : w2.cell? ⟨wr.heap.size, 0, none⟩ = some (.int .u8 V0) := by rw [cell_in X2]; rfl
      have y1 : w2.cell? ⟨wr.heap.size, 1, none⟩ = some (.int .i64 V1) := by rw [cell_in X2]; rfl
      obtain ⟨u0, u1, u2, u3, r0, r1, r2, r3, f0, f1, f2, f3⟩ := P2.room j hlt
      have hq : q ≠ wr.heap.size := by
        intro e
        obtain ⟨C, h1, _⟩ := P2
        rw [e, X2] at h1
        injection h1 with h1
        injection h1 with _ h1
        exact absurd h1 (by decide)
      have P3 := Lib.hid (P2.set (u0 := .int .u8 V0) (u1 := .slice Av nv cv) (u2 := .int .i64 F') (u3 := .bool wh) hlt (by rw [HS.out.2.2.2.2, HS.out.2.2.1]) (by rw [HS.out.2.2.2.2]) (by rw [HS.out.2.2.2.2, hwh]) (by rw [HS.out.2.2.2.2]; exact own_base ho HB1.out.1.size))
      have c9 : (set4 w2 q (j * 4) (.int .u8 V0) (.slice Av nv cv) (.int .i64 F') (.bool wh)).cell? ⟨wr.heap.size, 1, none⟩ = some (.int .i64 V1) := by
        refine (World.cell?_of_block ?_).trans y1
        exact (chg_set4 w2 q (j * 4) _ _ _ _).far _ (heap_lt X2) (fun e => hq e.symm)
      unfold set4 at c9
      have B9 := Lib.hid (show Below w.heap.size w (set4 w2 q (j * 4) (.int .u8 V0) (.slice Av nv cv) (.int .i64 F') (.bool wh)) from B2.out.trans ((chg_set4 w2 q (j * 4) _ _ _ _).below B2.out.size (fun b e => by rw [e, ← HQ.out]; exact Nat.le_refl _)))
      clear hwh ho b2 X2 P2 hdt
      go_wp2_with fail
      refine ⟨⟨j + 1, by omega, by go_num, ?_, P3.out, B9.out⟩, by simp [intOf]; omega⟩
      rw [HS.out.1, ← HS.out.2.1, HS.out.2.2.2.1]
      congr 1
      omega
    · obtain rfl : j = k := by omega
      have b1 : ¬ (j : Int) < j := by omega
      have HB := Lib.hid (And.intro hp hb)
      clear hp hb
      generalize F + (toffs t j : Int) = f at *
      go_wp2
      go_ret
      exact ⟨q, rfl, HB.out.1, by rw [HQ.out]; exact Nat.le_refl _, HB.out.2⟩
end Go.Proofs.Ytngambkbpdjddaa
