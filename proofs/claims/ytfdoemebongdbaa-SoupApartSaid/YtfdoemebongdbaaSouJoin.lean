/- Layer 8: Join. -/
import Derived.Test.YtfdoemebongdbaaSouJoinP
import Derived.Test.YtfdoemebongdbaaSouPick
import Derived.Test.YtfdoemebongdbaaSouEdge
namespace Go.Proofs.Ytfdoemebongdbaa
open Go.RowKit

def AllFit (L : List (Int × List Tr)) (k : Nat) : Prop := ∀ j, j < k → Fit (L.getD j zS).1 (L.getD j zS).2
def JoinTold (w : World) (n : Nat) (L : List (Int × List Tr)) (e : Ending) (w' : World) : Prop :=
  (¬ AllFit L n ∧ ErrS w 1 e w') ∨ (AllFit L n ∧ 4096 < sumN L n ∧ ErrS w 7 e w') ∨ (AllFit L n ∧ sumN L n ≤ 4096 ∧ OkS w (sumN L n) (joinT L n) e w')
def J1At (w : World) (r n : Nat) (L : List (Int × List Tr)) (a b i : Value) (wr : World) : Prop := ∃ k, k ≤ n ∧ i = .int .i64 ((k : Nat) : Int) ∧ a = .int .i64 (sumN L k) ∧ b = .int .i64 ((cntT L k : Nat) : Int) ∧ Below w.heap.size w wr ∧ Bx wr r 0 none 0 0 ∧ AllFit L k
def J2At (w : World) (r ob n : Nat) (L : List (Int × List Tr)) (i : Value) (wr : World) : Prop := ∃ k v, k ≤ n ∧ i = .int .i64 ((k : Nat) : Int) ∧ JSt w wr r ob (sumN L k) (joinT L k) v
def J3At (w : World) (r ob sb : Nat) (M N : Int) (J : List Tr) (A : Option Addr) (n c : Nat) (l : List Tr) (i : Value) (wr : World) : Prop := ∃ t v, t ≤ n ∧ i = .int .i64 ((t : Nat) : Int) ∧ JSt w wr r ob M (J ++ (l.take t).map (shT M)) v ∧ Bx wr sb N A n c
theorem own_made3 (w x : World) (T : Nat) (hb : w.heap.size ≤ x.heap.size) (hT : T ≤ 1000000) : (x.alloc (zer3 T)).ownsRow w.heap.size 51 3 (.slice (some ⟨x.heap.size, 0, none⟩) 0 T) 0 (ints (flat3 [])) :=
  ⟨rfl, .inr ⟨x.heap.size, T, _, rfl, hb, heap_alloc_new x _, Nat.zero_le _, by unfold maxLen; omega, by rw [size_madeCells], by simp [flat3, ints]⟩⟩
theorem JSt.first {w x : World} {r T : Nat} (hb : Below w.heap.size w x) (hr : Bx x r 0 none 0 0) (hw : w.heap.size ≤ r) (hT : T ≤ 1000000) :
    JSt w ((x.alloc (zer3 T)).alloc (.cells #[.int .i64 0, .slice (some ⟨x.heap.size, 0, none⟩) 0 T] 24)) r (x.heap.size + 1) 0 [] (.slice (some ⟨x.heap.size, 0, none⟩) 0 T) := by
  have b1 := (Below.refl _ x).alloc (Nat.le_refl _) (zer3 T)
  have b2 := (Below.refl _ (x.alloc (zer3 T))).alloc (Nat.le_refl _) (.cells #[.int .i64 0, .slice (some ⟨x.heap.size, 0, none⟩) 0 T] 24)
  have hn := heap_alloc_new (x.alloc (zer3 T)) (.cells #[.int .i64 0, .slice (some ⟨x.heap.size, 0, none⟩) 0 T] 24)
  rw [World.size_alloc] at hn
  have := hb.size
  have hrl := heap_lt hr
  exact ⟨up1 (up1 hb _) _, (hr.below b1).below b2, hn, ownK_up (own_made3 w x T hb.size hT) b2, by omega, hw, by omega⟩

set_option maxHeartbeats 16000000 in
set_option maxRecDepth 100000 in
theorem sjoin_any (w : World) (A : Option Addr) (n c : Nat) (L : List (Int × List Tr)) (h : Soups w A n L) (hn : n ≤ 6) (hl : ∀ x ∈ L, x.2.length ≤ 1000) :
    Calls Try.prog 27 #[.slice A n c] w (JoinTold w n L) := by
  have HL := Lib.hid h
  have HC := Lib.hid (cntT_le L hl)
  have hlen : ∀ k, k < n → (L.getD k zS).2.length ≤ 1000 := fun k hk => hl _ (by rw [List.getD_eq_getElem?_getD, List.getElem?_eq_getElem (show k < L.length by rw [h.1]; exact hk)]; exact List.getElem_mem _)
  have HE := Lib.hid hlen
  clear h hl hlen
  go_enter Try.func27, Try.ntmps27
  go_wp2_with fail
  have S0 : J1At w w.heap.size n L (.int .i64 0) (.int .i64 0) (.int .i64 0) (w.alloc (.cells #[.int .i64 0, .slice none 0 0] 24)) := ⟨0, Nat.zero_le _, rfl, rfl, rfl, (Below.refl _ w).alloc (Nat.le_refl _) _, Bx.made w 0 none 0 0, fun j hj => absurd hj (by omega)⟩
  have SS := Lib.hid S0
  obtain ⟨r, hr⟩ : ∃ r, w.heap.size = r := ⟨_, rfl⟩
  have HR := Lib.hid hr
  rw [hr] at SS
  simp only [hr]
  clear S0 hr
  go_loopw [4, 5, 15] (J1At w r n L) (fun _ _ i _ => n - (intOf i).toNat)
  case atStart => exact SS.out
  case round =>
    obtain ⟨k, hk, rfl, rfl, rfl, hb, hres, hfit⟩ := hrel
    have HB := Lib.hid (And.intro hb (And.intro hres hfit))
    clear hb hres hfit
    have hcn := HC.out k
    have hsn := sumN_le L k (fun j hj => ⟨(HB.out.2.2 j hj).1, (HB.out.2.2 j hj).2.1⟩)
    obtain ⟨cn, hcn'⟩ : ∃ cn, cntT L k = cn := ⟨_, rfl⟩
    obtain ⟨sn, hsn'⟩ : ∃ sn, sumN L k = sn := ⟨_, rfl⟩
    rw [hcn'] at hcn
    rw [hsn'] at hsn
    simp only [hcn', hsn']
    have HCS := Lib.hid (And.intro hcn' hsn')
    clear hcn' hsn'
    by_cases hlt : k < n
    · have b1 : (k : Int) < n := by omega
      obtain ⟨b, off, rfl, hat⟩ := (HL.out.below HB.out.1).2 (by omega)
      obtain ⟨Ai, ci, c0, c1, ht⟩ := hat k hlt
      clear hat
      have hle := HE.out k hlt
      obtain ⟨x, hx⟩ : ∃ x, L.getD k zS = x := ⟨_, rfl⟩
      have HX := Lib.hid hx
      rw [hx] at c0 c1 ht hle
      clear hx
      obtain ⟨Nk, lk⟩ := x
      obtain ⟨nk, hnk⟩ : ∃ nk, lk.length = nk := ⟨_, rfl⟩
      simp only [hnk] at c1 ht hle
      have HNK := Lib.hid hnk
      have KF := Lib.hid (sfits_any (wr.alloc (.cells #[.int .i64 Nk, .slice Ai nk ci] 24)) Nk Ai nk ci lk (ht.below ((Below.refl _ wr).alloc (Nat.le_refl _) _)) (by omega))
      have BB := Lib.hid ((Below.refl _ wr).alloc (Nat.le_refl _) (.cells #[.int .i64 Nk, .slice Ai nk ci] 24))
      have YB := Lib.hid (Bx.made wr Nk Ai nk ci)
      clear hnk ht
      go_wp2_with fail
      refine KF.out.mono ?_
      rintro e w3 ⟨rfl, b3⟩
      have B3 := Lib.hid (up2 HB.out.1 (up2 BB.out b3))
      have R3 := Lib.hid ((HB.out.2.1.below BB.out).below b3)
      have Y3 := Lib.hid (YB.out.below b3)
      clear b3
      by_cases hf : Fit Nk lk
      · simp only [decide_eq_true hf]
        have y0 := Y3.out.c0
        have y1 := Y3.out.c1
        have q1 := hf.1
        have q2 := hf.2.1
        have wa : IntKind.i64.wrap (sn + Nk) = sn + Nk := IntWalk.i64_in _ (by omega)
        have wb : IntKind.i64.wrap ((cn : Int) + (nk : Int)) = (cn : Int) + (nk : Int) := IntWalk.i64_in _ (by omega)
        have HFK := Lib.hid hf
        clear hf
        go_wp2_with fail
        refine ⟨⟨k + 1, by omega, by go_num, ?_, ?_, B3.out, R3.out, fun j hj => ?_⟩, by simp [intOf]; omega⟩
        · rw [sumN, HCS.out.2, HX.out]
        · rw [cntT, HCS.out.1, HX.out, HNK.out]; go_num
        · rcases Nat.lt_or_ge j k with h3 | h3
          · exact HB.out.2.2 j h3
          · obtain rfl : j = k := by omega
            rw [HX.out]; exact HFK.out
      · simp only [decide_eq_false hf]
        have z0 := R3.out.c0
        have z1 := R3.out.c1
        have f0 := frozen_in R3.out 0
        have f1 := frozen_in R3.out 1
        have HFK := Lib.hid hf
        clear hf
        go_wp2_with fail
        refine bodyPost_ret (results_row2 rfl _ _ r 24 _ (0, 0) _ rfl (errS_row R3.out) Try.underlying24 rfl (by kernel_rfl)) rfl (.inl ⟨fun hc => HFK.out ?_, rfl, below_set2 B3.out (by rw [HR.out]; exact Nat.le_refl _) _ _⟩)
        have := hc k hlt
        rwa [HX.out] at this
    · obtain rfl : k = n := by omega
      have b1 : ¬ (k : Int) < k := by omega
      have t2 : ¬ (8192 : Int) < (cn : Int) := by omega
      by_cases h4 : 4096 < sn
      · have z0 := HB.out.2.1.c0
        have z1 := HB.out.2.1.c1
        have f0 := frozen_in HB.out.2.1 0
        have f1 := frozen_in HB.out.2.1 1
        go_wp2_with fail
        refine bodyPost_ret (results_row2 rfl _ _ r 24 _ (0, 0) _ rfl (errS_row HB.out.2.1) Try.underlying24 rfl (by kernel_rfl)) rfl (.inr (.inl ⟨HB.out.2.2, by rw [HCS.out.2]; exact h4, rfl, below_set2 HB.out.1 (by rw [HR.out]; exact Nat.le_refl _) _ _⟩))
      · have hmk : ∀ W : World, (Instr.makeSlice 22 (.int .i64 0) (.int .i64 (cn : Int))).run Try.prog W = .ok (.slice (some ⟨W.heap.size, 0, none⟩) 0 cn) (W.alloc (zer3 cn)) := fun W => make3 0 cn (Nat.zero_le _) (by omega) W
        have J0 := Lib.hid (JSt.first (T := cn) HB.out.1 HB.out.2.1 (by rw [HR.out]; exact Nat.le_refl _) (by omega))
        go_wp2_with fail
        obtain ⟨ob, hob⟩ : ∃ ob, wr.heap.size + 1 = ob := ⟨_, rfl⟩
        obtain ⟨w5, hw5⟩ : ∃ w5, (wr.alloc (zer3 cn)).alloc (.cells #[.int .i64 0, .slice (some ⟨wr.heap.size, 0, none⟩) 0 cn] 24) = w5 := ⟨_, rfl⟩
        rw [hw5, hob] at J0
        simp only [hw5, hob]
        clear hw5 hob
        go_loopw [45] (J2At w r ob k L) (fun i _ => k - (intOf i).toNat)
        case atStart => exact ⟨0, _, Nat.zero_le _, rfl, J0.out⟩
        case round =>
          obtain ⟨j, v, hj, rfl, hst⟩ := hrel
          have HS := Lib.hid hst
          obtain ⟨Av, cv, rfl⟩ := ownK_form hst.own
          clear hst
          by_cases hlt2 : j < k
          · have b2 : (j : Int) < k := by omega
            obtain ⟨b, off, rfl, hat⟩ := (HL.out.below HS.out.below).2 (by omega)
            obtain ⟨Ai, ci, c0, c1, ht⟩ := hat j hlt2
            clear hat
            have hle := HE.out j hlt2
            have hfj := HB.out.2.2 j hlt2
            have hsj := sumN_le L j (fun i hi => ⟨(HB.out.2.2 i (by omega)).1, (HB.out.2.2 i (by omega)).2.1⟩)
            have hcj := HC.out j
            obtain ⟨x, hx⟩ : ∃ x, L.getD j zS = x := ⟨_, rfl⟩
            have HX := Lib.hid hx
            rw [hx] at c0 c1 ht hle hfj
            clear hx
            obtain ⟨Nk, lk⟩ := x
            obtain ⟨nk, hnk⟩ : ∃ nk, lk.length = nk := ⟨_, rfl⟩
            simp only [hnk] at c1 ht hle
            have HNK := Lib.hid hnk
            have HFJ := Lib.hid hfj
            have HTT := Lib.hid (show T3 w Ai nk lk by
              obtain ⟨b', off', hA', hat'⟩ := HL.out.2 (by omega)
              injection hA' with hA'
              injection hA' with h1 h2
              subst h1 h2
              obtain ⟨Ai', ci', _, c1', ht'⟩ := hat' j hlt2
              rw [HX.out] at c1' ht'
              simp only [hnk] at c1' ht'
              have := (HS.out.below.cell (World.block_lt_of_cell? w _ c1')).trans c1'
              rw [c1] at this
              injection this with this
              injection this with this _ _
              subst this
              exact ht')
            obtain ⟨sj, hsj'⟩ : ∃ sj, sumN L j = sj := ⟨_, rfl⟩
            obtain ⟨Jj, hJj⟩ : ∃ Jj, joinT L j = Jj := ⟨_, rfl⟩
            have hJl : Jj.length = cntT L j := by rw [← hJj]; exact joinT_len L j
            rw [hsj'] at HS hsj
            rw [hJj] at HS
            have HSJ := Lib.hid (And.intro hsj' hJj)
            have U := Lib.hid (HS.out.up ((Below.refl _ wr).alloc (Nat.le_refl _) (.cells #[.int .i64 Nk, .slice Ai nk ci] 24)))
            have YB := Lib.hid (Bx.made wr Nk Ai nk ci)
            have hJl' : Jj.length ≤ 6000 := by rw [hJl]; omega
            clear hnk ht hsj' hJj hfj hJl hcj
            go_wp2_with fail
            obtain ⟨sb, hsb⟩ : ∃ sb, wr.heap.size = sb := ⟨_, rfl⟩
            obtain ⟨w6, hw6⟩ : ∃ w6, wr.alloc (.cells #[.int .i64 Nk, .slice Ai nk ci] 24) = w6 := ⟨_, rfl⟩
            have hobs : ob ≠ sb := by have := heap_lt HS.out.ob'; omega
            rw [hw6] at U YB
            rw [hsb] at YB
            simp only [hw6, hsb]
            clear hw6 hsb c0 c1
            go_loopw [52] (J3At w r ob sb sj Nk Jj Ai nk ci lk) (fun i _ => nk - (intOf i).toNat)
            case atStart => exact ⟨0, _, Nat.zero_le _, rfl, by simpa using U.out, YB.out⟩
            case round =>
              obtain ⟨t, v, htn, rfl, hst, hsbx⟩ := hrel
              have HS3 := Lib.hid (And.intro hst hsbx)
              obtain ⟨Av, cv, rfl⟩ := ownK_form hst.own
              clear hst hsbx
              by_cases hlt3 : t < nk
              · have b3 : (t : Int) < nk := by omega
                obtain ⟨b', off', rfl, hat⟩ := (HTT.out.below HS3.out.1.below).2 (by omega)
                obtain ⟨d0, d1, d2⟩ := hat t hlt3
                clear hat
                have htl : t < lk.length := by rw [HNK.out]; exact hlt3
                have hok := HFJ.out.2.2.2 _ (getD3_mem htl)
                have hN := HFJ.out.2.1
                obtain ⟨y, hy⟩ : ∃ y, lk.getD t z3 = y := ⟨_, rfl⟩
                have E := take_succ_getD3 lk t htl
                rw [hy] at d0 d1 d2 hok E
                have HEE := Lib.hid E
                clear hy E htl
                obtain ⟨y0, y1, y2⟩ := y
                have o0 := hok.1
                have o1 := hok.2.1
                have o2 := hok.2.2.1
                simp only [inN] at o0 o1 o2
                clear hok
                have w0 : IntKind.i64.wrap (sj + y0) = sj + y0 := IntWalk.i64_in _ (by omega)
                have w1 : IntKind.i64.wrap (sj + y1) = sj + y1 := IntWalk.i64_in _ (by omega)
                have w2 : IntKind.i64.wrap (sj + y2) = sj + y2 := IntWalk.i64_in _ (by omega)
                have bt := (Below.refl _ wr).alloc (Nat.le_refl _) (.cells #[.int .i64 y0, .int .i64 y1, .int .i64 y2] 51)
                have U3 := HS3.out.1.up bt
                have SB3 := Lib.hid (HS3.out.2.below bt)
                obtain ⟨J3, hJ3⟩ : ∃ J3, Jj ++ (lk.take t).map (shT sj) = J3 := ⟨_, rfl⟩
                have hJ1 : Jj ++ (lk.take (t + 1)).map (shT sj) = J3 ++ [(sj + y0, sj + y1, sj + y2)] := by rw [HEE.out, List.map_append, ← List.append_assoc, hJ3]; rfl
                have hJl : J3.length ≤ 7000 := by rw [← hJ3, List.length_append, List.length_map, List.length_take]; omega
                rw [hJ3] at U3
                have p0 : (wr.alloc (.cells #[.int .i64 y0, .int .i64 y1, .int .i64 y2] 51)).cell? ⟨ob, 0, none⟩ = some (.int .i64 sj) := by rw [cell_in U3.ob']; rfl
                have p1 : (wr.alloc (.cells #[.int .i64 y0, .int .i64 y1, .int .i64 y2] 51)).cell? ⟨ob, 1, none⟩ = some (.slice Av J3.length cv) := by rw [cell_in U3.ob']; rfl
                have UU := Lib.hid U3
                have HJ1 := Lib.hid hJ1
                clear U3 bt hJ3 hJ1
                go_wp2_with (at_builtin; refine UU.out.wpl (sj + y0, sj + y1, sj + y2) rfl (.tmp 57) (.tmp 74) rfl rfl (wr.heap.size + 1) (World.size_alloc _ _).symm rfl (by omega) ?_)
                intro A9 c9 w9 st9 ob9 b9 far9
                have SB9 : Bx w9 sb Nk _ _ _ := far9 sb _ SB3.out
                have z1 : w9.cell? ⟨ob, 1, none⟩ = some (.slice Av J3.length cv) := by rw [cell_in ob9]; rfl
                have fz := frozen_in ob9 1
                have ST9 := Lib.hid st9
                have SBB := Lib.hid (heap_far SB9 (p := ⟨ob, 1, none⟩) hobs.symm (.slice A9 (J3.length + 1) c9))
                clear st9 ob9 b9 far9 SB9
                go_wp2_with fail
                refine ⟨⟨t + 1, _, by omega, by go_num, by rw [HJ1.out]; exact ST9.out, SBB.out⟩, by simp [intOf]; omega⟩
              · obtain rfl : t = nk := by omega
                have b3 : ¬ (t : Int) < t := by omega
                have p0 : wr.cell? ⟨ob, 0, none⟩ = some (.int .i64 sj) := by rw [cell_in HS3.out.1.ob']; rfl
                have p1 : wr.cell? ⟨sb, 0, none⟩ = some (.int .i64 Nk) := HS3.out.2.c0
                have fz := frozen_in HS3.out.1.ob' 0
                have q1 := HFJ.out.1
                have q2 := HFJ.out.2.1
                have wa : IntKind.i64.wrap (sj + Nk) = sj + Nk := IntWalk.i64_in _ (by omega)
                go_wp2_with fail
                refine ⟨⟨j + 1, .slice Av (Jj ++ lk.map (shT sj)).length cv, by omega, by go_num, ?_⟩, by simp [intOf]; omega⟩
                have hm := HS3.out.1.more (sj + Nk)
                rw [List.take_of_length_le (by rw [HNK.out]; exact Nat.le_refl _)] at hm
                rw [sumN, joinT, HX.out, HSJ.out.1, HSJ.out.2]
                exact hm
          · obtain rfl : j = k := by omega
            have b2 : ¬ (j : Int) < j := by omega
            have p0 : wr.cell? ⟨ob, 0, none⟩ = some (.int .i64 (sumN L j)) := by rw [cell_in HS.out.ob']; rfl
            have p1 : wr.cell? ⟨ob, 1, none⟩ = some (.slice Av (joinT L j).length cv) := by rw [cell_in HS.out.ob']; rfl
            have z0 := HS.out.res.c0
            have z1 := HS.out.res.c1
            have f0 := frozen_in HS.out.res 0
            have f1 := frozen_in HS.out.res 1
            have RET := Lib.hid (HS.out.ret rfl)
            go_wp2_with fail
            refine bodyPost_ret (results_row2 rfl _ _ r 24 _ (0, 0) _ rfl RET.out.1 Try.underlying24 rfl (by kernel_rfl)) rfl (.inr (.inr ⟨HB.out.2.2, by rw [HCS.out.2]; omega, ?_⟩))
            exact ⟨_, rfl, RET.out.2⟩
end Go.Proofs.Ytfdoemebongdbaa
