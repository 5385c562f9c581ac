/- Layer 8: the document's Join. -/
import Derived.Test.YtfdoemebongdbaaSouJoin
import Derived.Test.YtfdoemebongdbaaSouRFit
import Derived.StillTailTactics
namespace Go.Proofs.Ytfdoemebongdbaa
open Go.RowKit

def R1At (w : World) (r ob n : Nat) (L : List (Int × List Tr)) (i : Value) (wr : World) : Prop := ∃ k, k ≤ n ∧ i = .int .i64 ((k : Nat) : Int) ∧ Below w.heap.size w wr ∧ Bx wr r 0 none 0 0 ∧ Bx wr ob 0 none 0 0 ∧ AllFit L k
def R3At (w : World) (r ob : Nat) (M : Int) (J : List Tr) (n : Nat) (l : List Tr) (i : Value) (wr : World) : Prop := ∃ t v, t ≤ n ∧ i = .int .i64 ((t : Nat) : Int) ∧ JSt w wr r ob M (J ++ (l.take t).map (shT M)) v
theorem JSt.none {w x : World} {r ob : Nat} (hb : Below w.heap.size w x) (hr : Bx x r 0 none 0 0) (ho : Bx x ob 0 none 0 0) (hw : w.heap.size ≤ r) (hw' : w.heap.size ≤ ob) (hn : r ≠ ob) :
    JSt w x r ob 0 [] (.slice none 0 0) := ⟨hb, hr, ho, World.ownsRow_nil _ _ _ _, hw', hw, hn⟩

set_option maxHeartbeats 16000000 in
set_option maxRecDepth 100000 in
theorem rjoin_any (w : World) (A : Option Addr) (n c : Nat) (L : List (Int × List Tr)) (h : Soups w A n L) (hn : n ≤ 6) (hl : ∀ x ∈ L, x.2.length ≤ 1000) :
    Calls Try.prog 28 #[.slice A n c] w (JoinTold w n L) := by
  have HL := Lib.hid h
  have HC := Lib.hid (cntT_le L hl)
  have hlen : ∀ k, k < n → (L.getD k zS).2.length ≤ 1000 := fun k hk => hl _ (by rw [List.getD_eq_getElem?_getD, List.getElem?_eq_getElem (show k < L.length by rw [h.1]; exact hk)]; exact List.getElem_mem _)
  have HE := Lib.hid hlen
  clear h hl hlen
  go_enter Try.func28, Try.ntmps28
  go_wp2_with fail
  have S0 : R1At w w.heap.size (w.heap.size + 1) n L (.int .i64 0) ((w.alloc (.cells #[.int .i64 0, .slice none 0 0] 24)).alloc (.cells #[.int .i64 0, .slice none 0 0] 24)) := by
    refine ⟨0, Nat.zero_le _, rfl, up1 (up1 (Below.refl _ w) _) _, ?_, ?_, fun j hj => absurd hj (by omega)⟩
    · exact (Bx.made w 0 none 0 0).below ((Below.refl _ _).alloc (Nat.le_refl _) _)
    · have q := Bx.made (w.alloc (.cells #[.int .i64 0, .slice none 0 0] 24)) 0 none 0 0
      rwa [World.size_alloc] at q
  have SS := Lib.hid S0
  obtain ⟨ob, ho⟩ : ∃ ob, w.heap.size + 1 = ob := ⟨_, rfl⟩
  have hro : w.heap.size ≠ ob := by omega
  have hwo : w.heap.size ≤ ob := by omega
  rw [ho] at SS
  simp only [ho]
  clear S0 ho
  obtain ⟨r, hr⟩ : ∃ r, w.heap.size = r := ⟨_, rfl⟩
  have HR := Lib.hid (show w.heap.size ≤ r ∧ w.heap.size ≤ ob ∧ r ≠ ob from ⟨by omega, hwo, by omega⟩)
  rw [hr] at SS
  simp only [hr]
  clear hr hro hwo
  go_loopw [5] (R1At w r ob n L) (fun i _ => n - (intOf i).toNat)
  case atStart => exact SS.out
  case round =>
    obtain ⟨k, hk, rfl, hb, hres, hob, hfit⟩ := hrel
    have HB := Lib.hid (And.intro hb (And.intro hres (And.intro hob hfit)))
    clear hb hres hob hfit
    by_cases hlt : k < n
    · have b1 : (k : Int) < n := by omega
      obtain ⟨b, off, rfl, hat⟩ := (HL.out.below HB.out.1).2 (by omega)
      obtain ⟨Ai, ci, c0, c1, ht⟩ := hat k hlt
      clear hat
      have hle := HE.out k hlt
      obtain ⟨x, hx⟩ : ∃ x, L.getD k zS = x := ⟨_, rfl⟩
      have HX := Lib.hid hx
      rw [hx] at c0 c1 ht hle
      clear hx
      obtain ⟨Nk, lk⟩ := x
      obtain ⟨nk, hnk⟩ : ∃ nk, lk.length = nk := ⟨_, rfl⟩
      simp only [hnk] at c1 ht hle
      have KF := Lib.hid (rfits_any wr Nk Ai nk ci lk ht (by omega))
      clear hnk ht
      go_wp2_with fail
      refine KF.out.mono ?_
      rintro e w3 ⟨rfl, b3⟩
      have B3 := Lib.hid (up2 HB.out.1 b3)
      have R3 := Lib.hid (HB.out.2.1.below b3)
      have O3 := Lib.hid (HB.out.2.2.1.below b3)
      clear b3
      by_cases hf : Fit Nk lk
      · simp only [decide_eq_true hf]
        have HFK := Lib.hid hf
        clear hf
        go_wp2_with fail
        refine ⟨⟨k + 1, by omega, by go_num, B3.out, R3.out, O3.out, fun j hj => ?_⟩, by simp [intOf]; omega⟩
        rcases Nat.lt_or_ge j k with h3 | h3
        · exact HB.out.2.2.2 j h3
        · obtain rfl : j = k := by omega
          rw [HX.out]; exact HFK.out
      · simp only [decide_eq_false hf]
        have z0 := R3.out.c0
        have z1 := R3.out.c1
        have f0 := frozen_in R3.out 0
        have f1 := frozen_in R3.out 1
        have HFK := Lib.hid hf
        clear hf
        go_wp2_with fail
        refine bodyPost_ret (results_row2 rfl _ _ r 24 _ (0, 0) _ rfl (errS_row R3.out) Try.underlying24 rfl (by kernel_rfl)) rfl (.inl ⟨fun hc => HFK.out ?_, rfl, below_set2 B3.out HR.out.1 _ _⟩)
        have := hc k hlt
        rwa [HX.out] at this
    · obtain rfl : k = n := by omega
      have b1 : ¬ (k : Int) < k := by omega
      have J0 := Lib.hid (JSt.none HB.out.1 HB.out.2.1 HB.out.2.2.1 HR.out.1 HR.out.2.1 HR.out.2.2)
      have HAF := Lib.hid HB.out.2.2.2
      clear HB
      go_wp2_with fail
      go_loopw [6] (J2At w r ob k L) (fun i _ => k - (intOf i).toNat)
      case atStart => exact ⟨0, _, Nat.zero_le _, rfl, J0.out⟩
      case round =>
        obtain ⟨j, v, hj, rfl, hst⟩ := hrel
        have HS := Lib.hid hst
        obtain ⟨Av, cv, rfl⟩ := ownK_form hst.own
        clear hst
        by_cases hlt2 : j < k
        · have b2 : (j : Int) < k := by omega
          obtain ⟨b, off, rfl, hat⟩ := HL.out.2 (by omega)
          obtain ⟨Ai, ci, c0, c1, ht⟩ := hat j hlt2
          clear hat
          have hle := HE.out j hlt2
          have hfj := HAF.out j hlt2
          have hsj := sumN_le L j (fun i hi => ⟨(HAF.out i (by omega)).1, (HAF.out i (by omega)).2.1⟩)
          have hcj := HC.out j
          obtain ⟨x, hx⟩ : ∃ x, L.getD j zS = x := ⟨_, rfl⟩
          have HX := Lib.hid hx
          rw [hx] at c0 c1 ht hle hfj
          clear hx
          obtain ⟨Nk, lk⟩ := x
          obtain ⟨nk, hnk⟩ : ∃ nk, lk.length = nk := ⟨_, rfl⟩
          simp only [hnk] at c1 ht hle
          have HNK := Lib.hid hnk
          have HFJ := Lib.hid hfj
          have HTT := Lib.hid ht
          have HC0 := Lib.hid c0
          have HC1 := Lib.hid c1
          obtain ⟨sj, hsj'⟩ : ∃ sj, sumN L j = sj := ⟨_, rfl⟩
          obtain ⟨Jj, hJj⟩ : ∃ Jj, joinT L j = Jj := ⟨_, rfl⟩
          have hJl : Jj.length = cntT L j := by rw [← hJj]; exact joinT_len L j
          rw [hsj'] at HS hsj
          rw [hJj] at HS
          have HSJ := Lib.hid (And.intro hsj' hJj)
          have hJl' : Jj.length ≤ 6000 := by rw [hJl]; omega
          clear hnk ht hsj' hJj hfj hJl hcj c0 c1
          go_wp2_with fail
          go_loopw [7] (R3At w r ob sj Jj nk lk) (fun i _ => nk - (intOf i).toNat)
          case atStart => exact ⟨0, _, Nat.zero_le _, rfl, by simpa using HS.out⟩
          case round =>
            obtain ⟨t, v, htn, rfl, hst⟩ := hrel
            have HS3 := Lib.hid hst
            obtain ⟨Av, cv, rfl⟩ := ownK_form hst.own
            clear hst
            have c1 := (HS3.out.below.cell (World.block_lt_of_cell? w _ HC1.out)).trans HC1.out
            by_cases hlt3 : t < nk
            · have b3 : (t : Int) < nk := by omega
              obtain ⟨b', off', rfl, hat⟩ := (HTT.out.below HS3.out.below).2 (by omega)
              obtain ⟨d0, d1, d2⟩ := hat t hlt3
              clear hat
              have htl : t < lk.length := by rw [HNK.out]; exact hlt3
              have hok := HFJ.out.2.2.2 _ (getD3_mem htl)
              have hN := HFJ.out.2.1
              obtain ⟨y, hy⟩ : ∃ y, lk.getD t z3 = y := ⟨_, rfl⟩
              have E := take_succ_getD3 lk t htl
              rw [hy] at d0 d1 d2 hok E
              have HEE := Lib.hid E
              clear hy E htl
              obtain ⟨y0, y1, y2⟩ := y
              have o0 := hok.1
              have o1 := hok.2.1
              have o2 := hok.2.2.1
              simp only [inN] at o0 o1 o2
              clear hok
              have w0 : IntKind.i64.wrap (y0 + sj) = y0 + sj := IntWalk.i64_in _ (by omega)
              have w1 : IntKind.i64.wrap (y1 + sj) = y1 + sj := IntWalk.i64_in _ (by omega)
              have w2 : IntKind.i64.wrap (y2 + sj) = y2 + sj := IntWalk.i64_in _ (by omega)
              have bt := (Below.refl _ wr).alloc (Nat.le_refl _) (.cells #[.int .i64 y0, .int .i64 y1, .int .i64 y2] 51)
              have U3 := HS3.out.up bt
              obtain ⟨J3, hJ3⟩ : ∃ J3, Jj ++ (lk.take t).map (shT sj) = J3 := ⟨_, rfl⟩
              have hJ1 : Jj ++ (lk.take (t + 1)).map (shT sj) = J3 ++ [(y0 + sj, y1 + sj, y2 + sj)] := by rw [HEE.out, List.map_append, ← List.append_assoc, hJ3]; simp [shT, Int.add_comm]
              have hJl : J3.length ≤ 7000 := by rw [← hJ3, List.length_append, List.length_map, List.length_take]; omega
              rw [hJ3] at U3
              have p0 : (wr.alloc (.cells #[.int .i64 y0, .int .i64 y1, .int .i64 y2] 51)).cell? ⟨ob, 0, none⟩ = some (.int .i64 sj) := by rw [cell_in U3.ob']; rfl
              have p1 : (wr.alloc (.cells #[.int .i64 y0, .int .i64 y1, .int .i64 y2] 51)).cell? ⟨ob, 1, none⟩ = some (.slice Av J3.length cv) := by rw [cell_in U3.ob']; rfl
              have UU := Lib.hid U3
              have HJ1 := Lib.hid hJ1
              clear U3 bt hJ3 hJ1
              go_wp2_with (at_builtin; refine UU.out.wpl (y0 + sj, y1 + sj, y2 + sj) rfl (.tmp 47) (.tmp 64) rfl rfl (wr.heap.size + 1) (World.size_alloc _ _).symm rfl (by omega) ?_)
              intro A9 c9 w9 st9 ob9 b9 far9
              have z1 : w9.cell? ⟨ob, 1, none⟩ = some (.slice Av J3.length cv) := by rw [cell_in ob9]; rfl
              have fz := frozen_in ob9 1
              have ST9 := Lib.hid st9
              clear st9 ob9 b9 far9
              go_wp2_with fail
              refine ⟨⟨t + 1, _, by omega, by go_num, by rw [HJ1.out]; exact ST9.out⟩, by simp [intOf]; omega⟩
            · obtain rfl : t = nk := by omega
              have b3 : ¬ (t : Int) < t := by omega
              have p0 : wr.cell? ⟨ob, 0, none⟩ = some (.int .i64 sj) := by rw [cell_in HS3.out.ob']; rfl
              have fz := frozen_in HS3.out.ob' 0
              have c0 := (HS3.out.below.cell (World.block_lt_of_cell? w _ HC0.out)).trans HC0.out
              have q1 := HFJ.out.1
              have q2 := HFJ.out.2.1
              have wa : IntKind.i64.wrap (sj + Nk) = sj + Nk := IntWalk.i64_in _ (by omega)
              go_wp2_with fail
              go_still_tail 9, (by kernel_rfl)
              change wpList _ _ _ _ _ wr.drew
              go_wp2_with fail
              refine ⟨⟨j + 1, .slice Av (Jj ++ lk.map (shT sj)).length cv, by omega, by go_num, ?_⟩, by simp [intOf]; omega⟩
              have hm := (HS3.out.up (wx := wr.drew) (Reading.below ⟨1, rfl⟩)).more (sj + Nk)
              rw [List.take_of_length_le (by rw [HNK.out]; exact Nat.le_refl _)] at hm
              rw [sumN, joinT, HX.out, HSJ.out.1, HSJ.out.2]
              exact hm
        · obtain rfl : j = k := by omega
          have b2 : ¬ (j : Int) < j := by omega
          have hsj := sumN_le L j (fun i hi => ⟨(HAF.out i (by omega)).1, (HAF.out i (by omega)).2.1⟩)
          have hcj := HC.out j
          have hjl := joinT_len L j
          have t2 : ¬ (8192 : Int) < ((joinT L j).length : Int) := by omega
          clear hcj hjl
          have p0 : wr.cell? ⟨ob, 0, none⟩ = some (.int .i64 (sumN L j)) := by rw [cell_in HS.out.ob']; rfl
          have p1 : wr.cell? ⟨ob, 1, none⟩ = some (.slice Av (joinT L j).length cv) := by rw [cell_in HS.out.ob']; rfl
          have z0 := HS.out.res.c0
          have z1 := HS.out.res.c1
          have f0 := frozen_in HS.out.res 0
          have f1 := frozen_in HS.out.res 1
          have RET := Lib.hid (HS.out.ret rfl)
          by_cases h4 : 4096 < sumN L j
          · go_wp2_with fail
            refine bodyPost_ret (results_row2 rfl _ _ r 24 _ (0, 0) _ rfl (errS_row HS.out.res) Try.underlying24 rfl (by kernel_rfl)) rfl (.inr (.inl ⟨HAF.out, h4, rfl, below_set2 HS.out.below HR.out.1 _ _⟩))
          · go_wp2_with fail
            refine bodyPost_ret (results_row2 rfl _ _ r 24 _ (0, 0) _ rfl RET.out.1 Try.underlying24 rfl (by kernel_rfl)) rfl (.inr (.inr ⟨HAF.out, by omega, ?_⟩))
            exact ⟨_, rfl, RET.out.2⟩
end Go.Proofs.Ytfdoemebongdbaa
