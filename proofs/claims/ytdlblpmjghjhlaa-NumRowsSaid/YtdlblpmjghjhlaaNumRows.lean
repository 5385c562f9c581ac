/- NumRows: of any uint32 (at most 30) and any bounds, numbers that are written one behind the other are read as they were, in their order, and no bit is left. No condition. -/
import Derived.Test.YtdlblpmjghjhlaaAwakeTwo
import Derived.Test.YtdlblpmjghjhlaaArgsNums
import Derived.Test.YtdlblpmjghjhlaaRowRead
namespace Go.Proofs.Ytdlblpmjghjhlaa.numRows
open Go.ChangeShapes Go.WideShapes Go.ChangeAt Go.RowKit

set_option maxHeartbeats 2000000 in
set_option maxRecDepth 100000 in
theorem many (w : World) (A C : Option Addr) (n c m d : Nat) (h : 30 < n) :
    Calls Try.prog 7 #[.slice A n c, .slice C m d] w fun e w' => e = .returned (.bool true) ∧ Below w.heap.size w w' := by
  have t0 : (30 : Int) < n := by omega
  go_enter Try.func7, Try.ntmps7
  go_wp2_with fail
  refine (awake_true w).mono ?_
  rintro e w1 ⟨rfl, b1⟩
  have B1 := Lib.hid b1
  clear b1
  go_wp2
  go_ret
  exact ⟨rfl, B1.out⟩

theorem cell_of {w : World} {ad : Addr} {k : IntKind} {xs : List Nat} {n : Nat} (hl : xs.length = n) (hc : ∀ j u, (nums k xs)[j]? = some u → w.cell? (ad.add j) = some u) (i : Nat) (hi : i < n) : w.cell? (ad.add i) = some (.int k (xs.getD i 0 : Nat)) := by
  refine hc i _ ?_
  have : i < xs.length := by omega
  simp [nums, List.getElem?_eq_getElem this]

def PutAt (w : World) (g : Nat) (ns bl : List Nat) (n : Nat) (s i : Value) (wr : World) : Prop :=
  ∃ (k : Nat) (v : Value), k ≤ n ∧ i = .int .i64 (k : Int) ∧ s = .int .i64 ((row ns bl k).length : Nat) ∧ WIs wr w.heap.size g v (row ns bl k) ∧ Below w.heap.size w wr
def GetAt (w : World) (r p : Nat) (ns bl : List Nat) (n : Nat) (i : Value) (wr : World) : Prop :=
  ∃ k : Nat, k ≤ n ∧ i = .int .i64 (k : Int) ∧ RIs wr r p (row ns bl n) (row ns bl k).length ∧ Below w.heap.size w wr

set_option maxHeartbeats 8000000 in
set_option maxRecDepth 100000 in
theorem few (w : World) (A C : Option Addr) (n c m d : Nat) (ns bl : List Nat) (hn : n ≤ 30) (hx : ∀ x ∈ ns, x ≤ 4294967295) (hy : ∀ x ∈ bl, x ≤ 65535) (h : Reads w A n (nums .u32 ns)) (hc : Reads w C m (nums .u16 bl)) :
    Calls Try.prog 7 #[.slice A n c, .slice C m d] w fun e w' => e = .returned (.bool true) ∧ Below w.heap.size w w' := by
  have t0 : (n : Int) ≤ 30 := by omega
  have hl1 : ns.length = n := by have := h.1; rwa [length_nums] at this
  have hl2 : bl.length = m := by have := hc.1; rwa [length_nums] at this
  have HX := Lib.hid (getD_le ns 4294967295 hx)
  have HY := Lib.hid (getD_le bl 65535 hy)
  have HA := Lib.hid h
  have HC := Lib.hid hc
  have L1 := Lib.hid hl1
  have L2 := Lib.hid hl2
  have HROW := Lib.hid (fun k => length_row ns bl (getD_le ns 4294967295 hx) (getD_le bl 65535 hy) k)
  clear h hc hl1 hl2 hx hy
  go_enter Try.func7, Try.ntmps7
  go_wp2_with fail
  refine (awake_true w).mono ?_
  rintro e w1 ⟨rfl, b1⟩
  have S1 := Lib.hid b1.size
  have W0 := Lib.hid (WIs.new w1 w.heap.size)
  have B1 := Lib.hid (b1.alloc b1.size (.cells #[.slice none 0 0, .int .i64 0] 27))
  clear b1
  go_wp2_with fail
  go_loopw [6, 27] (PutAt w w1.heap.size ns bl n) (fun _ i _ => n - (intOf i).toNat)
  case atStart => exact ⟨0, .slice none 0 0, Nat.zero_le _, rfl, rfl, W0.out, B1.out⟩
  case round =>
    obtain ⟨k, v, hk, rfl, rfl, hw, hb⟩ := hrel
    have HW := Lib.hid hw
    have HB := Lib.hid hb
    have hrk := HROW.out k
    have HS := Lib.hid (row_succ ns bl k)
    clear hw hb
    by_cases hlt : k < n
    · obtain ⟨ad, rfl, hca⟩ := HA.out.2 (by omega)
      have c0w := cell_of L1.out hca k hlt
      have c0 := (HB.out.cell (World.block_lt_of_cell? w _ c0w)).trans c0w
      have hx := HX.out k
      clear hca c0w
      generalize hnk : ns.getD k 0 = x at *
      have HNK := Lib.hid hnk
      clear hnk
      have hkn : (k : Int) < n := by omega
      by_cases hpos : 0 < bl.getD k 0
      · have hkm : k < m := by
          have := L2.out
          by_cases hh : k < m
          · exact hh
          · rw [List.getD_eq_getElem?_getD, List.getElem?_eq_none (by omega)] at hpos; simp at hpos
        obtain ⟨cd, rfl, hcc⟩ := HC.out.2 (by omega)
        have c1w := cell_of L2.out hcc k hkm
        have c1 := (HB.out.cell (World.block_lt_of_cell? w _ c1w)).trans c1w
        have hy := HY.out k
        clear hcc
        generalize hbk : bl.getD k 0 = y at *
        have HS2 := Lib.hid (show row ns bl (k + 1) = row ns bl k ++ bitsOf (x % y) (wide y) by rw [HS.out]; unfold code; rw [if_pos hpos])
        have HBK := Lib.hid hbk
        have C1W := Lib.hid c1w
        clear hbk c1w
        have hy0 : (0 : Int) < y := by omega
        have hkm2 : (k : Int) < m := by omega
        have hmod := Nat.mod_lt x hpos
        have HMOD := Lib.hid hmod
        have hwd := wide_le y (by omega)
        go_wp2_with fail
        rw [show (x : Int) % (y : Int) = ((x % y : Nat) : Int) by omega]
        refine (fixed_ok wr w.heap.size w1.heap.size v (row ns bl k) (x % y) y (by omega) (by omega) HW.out HB.out.size (by omega)).mono ?_
        rintro e w2 ⟨rfl, v2, h2, k2, m2⟩
        have W2 := Lib.hid (show WIs w2 w.heap.size w1.heap.size v2 (row ns bl (k + 1)) by rw [HS2.out]; exact h2)
        have B2 := Lib.hid (HB.out.trans (k2.below (B := w.heap.size) S1.out HB.out.size HW.out.own_ge))
        have c2 := (B2.out.cell (World.block_lt_of_cell? w _ C1W.out)).trans C1W.out
        clear h2 k2 m2
        go_wp2_with fail
        refine (width_any w2 y (by omega)).mono ?_
        rintro e w3 ⟨rfl, rfl⟩
        generalize hrl : (row ns bl k).length = rl at *
        have HRL := Lib.hid hrl
        clear hrl
        go_wp2_with fail
        refine ⟨⟨k + 1, v2, hlt, rfl, ?_, W2.out, B2.out⟩, by simp [intOf]; omega⟩
        rw [HS2.out, List.length_append, length_bitsOf, HRL.out, Int.natCast_add]
      · have HS2 := Lib.hid (show row ns bl (k + 1) = row ns bl k ++ gamma x by rw [HS.out]; unfold code; rw [if_neg hpos])
        have hlg := length_gamma x
        have hgs := gamma_small x (by omega)
        have HLG := Lib.hid (show (gamma x).length ≤ 65 by omega)
        clear hlg hgs
        by_cases hkm : k < m
        · obtain ⟨cd, rfl, hcc⟩ := HC.out.2 (by omega)
          have c1w := cell_of L2.out hcc k hkm
          rw [show bl.getD k 0 = 0 by omega] at c1w
          have c1 := (HB.out.cell (World.block_lt_of_cell? w _ c1w)).trans c1w
          clear hcc c1w hpos
          have hkm2 : (k : Int) < m := by omega
          go_wp2_with fail
          refine (nput_ok wr w.heap.size w1.heap.size v (row ns bl k) x (by omega) HW.out HB.out.size (by omega)).mono ?_
          rintro e w2 ⟨rfl, v2, h2, k2, m2⟩
          have W2 := Lib.hid (show WIs w2 w.heap.size w1.heap.size v2 (row ns bl (k + 1)) by rw [HS2.out]; exact h2)
          have B2 := Lib.hid (HB.out.trans (k2.below (B := w.heap.size) S1.out HB.out.size HW.out.own_ge))
          clear h2 k2 m2
          go_wp2_with fail
          refine (size_ok w2 x (by omega)).mono ?_
          rintro e w3 ⟨rfl, rfl⟩
          generalize hrl : (row ns bl k).length = rl at *
          have HRL := Lib.hid hrl
          clear hrl
          have hgl := HLG.out
          generalize hgm : (gamma x).length = gm at *
          have HGM := Lib.hid hgm
          clear hgm
          go_wp2_with fail
          refine ⟨⟨k + 1, v2, hlt, rfl, ?_, W2.out, B2.out⟩, by simp [intOf]; omega⟩
          rw [HS2.out, List.length_append, HGM.out, HRL.out, Int.natCast_add]
        · have hkm2 : ¬ (k : Int) < m := by omega
          clear hpos
          go_wp2_with fail
          refine (nput_ok wr w.heap.size w1.heap.size v (row ns bl k) x (by omega) HW.out HB.out.size (by omega)).mono ?_
          rintro e w2 ⟨rfl, v2, h2, k2, m2⟩
          have W2 := Lib.hid (show WIs w2 w.heap.size w1.heap.size v2 (row ns bl (k + 1)) by rw [HS2.out]; exact h2)
          have B2 := Lib.hid (HB.out.trans (k2.below (B := w.heap.size) S1.out HB.out.size HW.out.own_ge))
          clear h2 k2 m2
          go_wp2_with fail
          refine (size_ok w2 x (by omega)).mono ?_
          rintro e w3 ⟨rfl, rfl⟩
          generalize hrl : (row ns bl k).length = rl at *
          have HRL := Lib.hid hrl
          clear hrl
          have hgl := HLG.out
          generalize hgm : (gamma x).length = gm at *
          have HGM := Lib.hid hgm
          clear hgm
          go_wp2_with fail
          refine ⟨⟨k + 1, v2, hlt, rfl, ?_, W2.out, B2.out⟩, by simp [intOf]; omega⟩
          rw [HS2.out, List.length_append, HGM.out, HRL.out, Int.natCast_add]
    · obtain rfl : k = n := by omega
      have HL := Lib.hid hrk
      have HN := Lib.hid (show (row ns bl k).length ≤ 33554432 by omega)
      generalize hrl : (row ns bl k).length = rl at *
      have HRL := Lib.hid hrl
      clear hrl HS
      go_wp2_with fail
      refine (len_any wr w.heap.size w1.heap.size v (row ns bl k) HW.out).mono ?_
      rintro e w2 ⟨rfl, rfl⟩
      rw [HRL.out]
      go_wp2_with fail
      refine (bytes_any wr w.heap.size w1.heap.size v (row ns bl k) HW.out (by rw [HRL.out]; omega)).mono ?_
      rintro e w2 ⟨rfl, r2, b2⟩
      have W2 := Lib.hid (HW.out.below b2)
      have R2 := Lib.hid (Reads.of_bytes r2)
      have B2 := Lib.hid (HB.out.trans (b2.mono HB.out.size))
      clear r2 b2
      go_wp2_with fail
      refine (len_any w2 w.heap.size w1.heap.size v (row ns bl k) W2.out).mono ?_
      rintro e w3 ⟨rfl, rfl⟩
      go_wp2_with fail
      refine (nr_ok w2 _ _ (row ns bl k) (by rw [HRL.out]; omega) R2.out).mono ?_
      rintro e w3 ⟨r, p, rfl, h3, b3, g3, _⟩
      have R3 := Lib.hid h3
      have B3 := Lib.hid (B2.out.trans (b3.mono B2.out.size))
      have G3 := Lib.hid (Nat.le_trans B2.out.size g3)
      clear h3 b3 g3
      go_wp2_with fail
      go_loopw [95] (GetAt w r p ns bl k) (fun i _ => k - (intOf i).toNat)
      case atStart => exact ⟨0, Nat.zero_le _, rfl, R3.out, B3.out⟩
      case round =>
        obtain ⟨j, hj, rfl, hr, hb⟩ := hrel
        have R := Lib.hid hr
        have HB2 := Lib.hid hb
        have HS := Lib.hid (row_succ ns bl j)
        clear hr hb
        by_cases hlt : j < k
        · obtain ⟨ad, rfl, hca⟩ := HA.out.2 (by omega)
          have c0w := cell_of L1.out hca j hlt
          have c0 := (HB2.out.cell (World.block_lt_of_cell? w _ c0w)).trans c0w
          have hx := HX.out j
          obtain ⟨rest, hd⟩ := drop_row ns bl j k hlt
          clear hca c0w
          generalize hnk : ns.getD j 0 = x at *
          have hjn : (j : Int) < k := by omega
          clear hnk
          by_cases hpos : 0 < bl.getD j 0
          · have hkm : j < m := by
              have := L2.out
              by_cases hh : j < m
              · exact hh
              · rw [List.getD_eq_getElem?_getD, List.getElem?_eq_none (by omega)] at hpos; simp at hpos
            obtain ⟨cd, rfl, hcc⟩ := HC.out.2 (by omega)
            have c1w := cell_of L2.out hcc j hkm
            have c1 := (HB2.out.cell (World.block_lt_of_cell? w _ c1w)).trans c1w
            have hy := HY.out j
            clear hcc
            generalize hbk : bl.getD j 0 = y at *
            have hco : code x y = bitsOf (x % y) (wide y) := by unfold code; rw [if_pos hpos]
            have hmod := Nat.mod_lt x hpos
            have HS2 := Lib.hid (show (row ns bl (j + 1)).length = (row ns bl j).length + wide y by rw [HS.out, hco, List.length_append, length_bitsOf])
            rw [hco] at hd
            have KU := unfixed_row _ r p (row ns bl k) rest (row ns bl j).length (x % y) y R.out (by omega) (by omega) (by omega) hd
            rw [show ((x % y : Nat) : Int) = (x : Int) % (y : Int) by omega, ← HS2.out] at KU
            have KH := Lib.hid KU
            have C1W := Lib.hid c1w
            clear hbk c1w hd hco KU hmod
            have hy0 : (0 : Int) < y := by omega
            have hkm2 : (j : Int) < m := by omega
            go_wp2_with fail
            refine KH.out.mono ?_
            rintro e w5 ⟨rfl, h5, g5⟩
            have R5 := Lib.hid h5
            have B5 := Lib.hid (HB2.out.trans (grown_below g5 HB2.out.size G3.out))
            have c2 := (B5.out.cell (World.block_lt_of_cell? w _ C1W.out)).trans C1W.out
            clear h5 g5
            go_wp2_with fail
            exact ⟨⟨j + 1, hlt, rfl, R5.out, B5.out⟩, by simp [intOf]; omega⟩
          · have hco : code x (bl.getD j 0) = gamma x := by unfold code; rw [if_neg hpos]
            have HS2 := Lib.hid (show (row ns bl (j + 1)).length = (row ns bl j).length + (gamma x).length by rw [HS.out, hco, List.length_append])
            rw [hco] at hd
            have KU := nget_row _ r p (row ns bl k) rest (row ns bl j).length x R.out (by omega) hd
            rw [← HS2.out] at KU
            have KH := Lib.hid KU
            clear KU hd hco
            by_cases hkm : j < m
            · obtain ⟨cd, rfl, hcc⟩ := HC.out.2 (by omega)
              have c1w := cell_of L2.out hcc j hkm
              rw [show bl.getD j 0 = 0 by omega] at c1w
              have c1 := (HB2.out.cell (World.block_lt_of_cell? w _ c1w)).trans c1w
              clear hcc c1w hpos
              have hkm2 : (j : Int) < m := by omega
              go_wp2_with fail
              refine KH.out.mono ?_
              rintro e w5 ⟨rfl, h5, g5⟩
              have R5 := Lib.hid h5
              have B5 := Lib.hid (HB2.out.trans (grown_below g5 HB2.out.size G3.out))
              clear h5 g5
              go_wp2_with fail
              exact ⟨⟨j + 1, hlt, rfl, R5.out, B5.out⟩, by simp [intOf]; omega⟩
            · have hkm2 : ¬ (j : Int) < m := by omega
              clear hpos
              go_wp2_with fail
              refine KH.out.mono ?_
              rintro e w5 ⟨rfl, h5, g5⟩
              have R5 := Lib.hid h5
              have B5 := Lib.hid (HB2.out.trans (grown_below g5 HB2.out.size G3.out))
              clear h5 g5
              go_wp2_with fail
              exact ⟨⟨j + 1, hlt, rfl, R5.out, B5.out⟩, by simp [intOf]; omega⟩
        · obtain rfl : j = k := by omega
          go_wp2_with fail
          refine (left_any _ r p (row ns bl j) _ R.out).mono ?_
          rintro e w5 ⟨rfl, s5⟩
          have B5 := Lib.hid (HB2.out.trans s5.below)
          clear s5
          rw [HRL.out, Int.sub_self]
          go_wp2
          go_ret
          exact ⟨rfl, B5.out⟩

theorem walk (A : Option Addr) (n c : Nat) (ns : List Nat) (C : Option Addr) (m d : Nat) (bl : List Nat) (w : World) (hx : ∀ x ∈ ns, x ≤ 4294967295) (h : Reads w A n (nums .u32 ns)) (hy : ∀ x ∈ bl, x ≤ 65535) (hc : Reads w C m (nums .u16 bl)) :
    Calls Try.prog 7 #[.slice A n c, .slice C m d] w fun e w' => e = .returned (.bool true) ∧ Below w.heap.size w w' := by
  by_cases hN : 30 < n
  · exact many w A C n c m d hN
  · exact few w A C n c m d ns bl (by omega) hx hy h hc

set_option maxRecDepth 100000 in
theorem lifted (os : Os) (started : os.Started) (H : Type) (enc : TypeId × Value → H) :
    ReturnsInHanded {} Try.checked os 7 .any (Rows.numRowsSpec.pre6 enc Try.prog Try.f7 Rows.numRowsRow.domain false) (Rows.numRowsSpec.post enc Try.prog Try.f7 false true false false) := by
  refine returnsInHanded_of_change (C := Try.checked) own_knob started (by kernel_rfl) Try.func7
    (ChangeSpec.witness6 (enc := enc) (C := Try.checked) false ⟨#[], #[.slice none 0 0, .slice none 0 0], []⟩ 8 (by kernel_rfl) (by kernel_rfl) (by kernel_rfl) (by kernel_rfl)) ?_
  intro W base args ds gs before hval0 hW hcnd _
  have hval : ∀ (j : Nat) t v, Try.f7.params[j]? = some t → args[j]? = some v → Value.okWide Try.prog W .any base t v := hval0
  have hW' := hW
  obtain ⟨p, q, hA0, hV, rfl, hfz, hnd⟩ := hW
  have hA : DataW.TrodAll enc Try.prog W 0 (fun _ => true) true Try.f7.params.toList args.toList ds p := hA0
  rw [Try.params7] at hA hval
  obtain ⟨v0, vs0, d0, ds0, p0, q0, hargs, rfl, rfl, h0, r0⟩ := trodAll_cons hA
  obtain ⟨v1, vs1, d1, ds1, p1, q1, rfl, rfl, rfl, h1, r1⟩ := trodAll_cons r0
  obtain ⟨rfl, rfl, rfl⟩ := trodAll_nil r1
  obtain rfl : args = #[v0, v1] := by cases args; simp_all
  obtain ⟨rfl, rfl⟩ := trodVars_none hV
  obtain ⟨a0, len0, cap0, rfl⟩ := okWide_slice Try.underlying51 (hval 0 51 v0 rfl rfl)
  have lt0 : ∀ x ∈ p0, x.block < W.heap.size := by obtain ⟨m, hm⟩ := h0; exact DataW.trod_lt m _ _ _ hm
  obtain ⟨_, xs0, hx0, hr0⟩ := arg_u32s h0
  obtain ⟨a1, len1, cap1, rfl⟩ := okWide_slice Try.underlying52 (hval 1 52 v1 rfl rfl)
  have lt1 : ∀ x ∈ p1, x.block < W.heap.size := by obtain ⟨m, hm⟩ := h1; exact DataW.trod_lt m _ _ _ hm
  obtain ⟨_, xs1, hx1, hr1⟩ := arg_u16s h1
  clear hA0 hval0
  refine (walk a0 len0 cap0 xs0 a1 len1 cap1 xs1 W hx0 hr0 hx1 hr1).mono fun e W' ⟨he, bel⟩ => ?_
  subst he
  exact ⟨_, rfl, _, _, _, [], _, [], hW', trodAll_mk1 (shut_bool Try.underlying4 _), (trodAll_cons_mk (Below.trod laid_out (by kernel_rfl) (of_decide_eq_true (by kernel_rfl)) h0 bel lt0) (trodAll_cons_mk (Below.trod laid_out (by kernel_rfl) (of_decide_eq_true (by kernel_rfl)) h1 bel lt1) trodAll_mk0)), rfl, bel.frame _, fun h => by cases h⟩

theorem over : Rows.numRowsRow.holds Try.pinned (OpenSpec.ofChange Rows.numRowsSpec) :=
  OpenClaim.holds_of_wide 7 Try.f7 rfl rfl rfl rfl rfl rfl rfl ⟨rfl, rfl, rfl, rfl, rfl⟩ rfl rfl rfl rfl rfl (by kernel_rfl) Try.func7 (by kernel_rfl)
    (of_decide_eq_true (by kernel_rfl)) (by unfold Func.isWrapper; first | (rw [if_pos (by decide +kernel)]; kernel_rfl) | (rw [if_neg (by decide +kernel)]; exact ⟨rfl, rfl⟩))
    (fun os started H enc _ => lifted os started H enc)

theorem proved : Rows.NumRowsSaid := over
end Go.Proofs.Ytdlblpmjghjhlaa.numRows
