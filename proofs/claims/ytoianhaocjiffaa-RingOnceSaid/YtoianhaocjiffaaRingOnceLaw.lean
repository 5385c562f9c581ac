/- RingOnce: each corner stands around just its own vertex, once; all degrees together are three times the triangles. No condition. -/
import Derived.Test.YtoianhaocjiffaaRgLaw
import Derived.Test.YtoianhaocjiffaaGR
import Derived.Test.YtoianhaocjiffaaGM
namespace Go.Proofs.Ytoianhaocjiffaa.ringOnce
open Go.RowKit Go.ChangeShapes Go.WideShapes Go.ChangeAt

theorem atI {W : World} {ad : Addr} {n : Nat} {xs : List Int} (h : Reads W (some ad) n (ints xs)) {k : Nat} (hk : k < n) : W.cell? (ad.add k) = some (.int .i64 (xs.getD k 0)) := by
  obtain ⟨ad', e, h'⟩ := h.int k hk
  injection e with e
  subst e
  exact h'
/-- A store below a row of one's own leaves it. -/
theorem own_store {W : World} {B n q i : Nat} {v : Value} {xs : List Value} (h : W.ownsRow B 3 1 v n xs) (hq : q < B) (u : Value) : (W.setCell ⟨q, i, none⟩ u).ownsRow B 3 1 v n xs :=
  own_keep (S := fun b => b = q) h (Chg.of_set (S := fun b => b = q) W ⟨q, i, none⟩ u rfl) fun b hb e => by
    have e : b = q := e
    have := (h.lt b hb).1
    omega
def On1 (w3 : World) (q n : Nat) (l : List Tr) (s i : Value) (wr : World) : Prop := Below w3.heap.size w3 wr ∧ ∃ k : Nat, k ≤ n ∧ i = .int .i64 (k : Int) ∧ s = .int .i64 (cntV l k : Int) ∧ RowI wr q (onceL l k [])
def On2 (w3 : World) (B q m : Nat) (l : List Tr) (V : Int) (L : List Nat) (v : Value) (i : Value) (wr : World) : Prop := Below w3.heap.size w3 wr ∧ B ≤ wr.heap.size ∧ wr.ownsRow B 3 1 v m (ints (natsI L)) ∧ ∃ k : Nat, k ≤ m ∧ i = .int .i64 (k : Int) ∧ RowI wr q (onceL l V (L.take k))
def On3 (w3 : World) (q M : Nat) (xs : List Int) (i : Value) (wr : World) : Prop := Below w3.heap.size w3 wr ∧ ∃ k : Nat, k ≤ M ∧ i = .int .i64 (k : Int) ∧ RowI wr q xs
set_option maxHeartbeats 16000000 in
set_option maxRecDepth 100000 in
theorem walk (N : Int) (A : Option Addr) (n c : Nat) (l : List Tr) (w : World) (_ : -9223372036854775808 ≤ N) (_ : N ≤ 9223372036854775807) (h : T3 w A n l) :
    Calls Try.prog 5 #[.agg #[.int .i64 N, .slice A n c]] w (BoolTold10 w true) := by
  obtain rfl := h.1
  have HL := Lib.hid h
  have KA := Lib.hid awake11_true
  obtain ⟨w1, hw1⟩ : ∃ w1, w.alloc (.cells #[.int .i64 N, .slice A l.length c] 24) = w1 := ⟨_, rfl⟩
  obtain ⟨g0, hg0⟩ : ∃ g0, w.heap.size = g0 := ⟨_, rfl⟩
  have b1 : Below w.heap.size w w1 := by rw [← hw1]; exact (Below.refl _ w).alloc (Nat.le_refl _) _
  have x1 : Bx w1 g0 N A l.length c := by rw [← hw1, ← hg0]; exact Bx.made w N A l.length c
  have B1 := Lib.hid (And.intro b1 x1)
  clear b1 x1 h
  go_enter Try.func5, Try.ntmps5
  go_wp2_with fail
  refine (KA.out _).mono ?_
  rintro e w2 ⟨rfl, b2⟩
  have x2 := B1.out.2.below b2
  have e0 := x2.c0
  have e1 := x2.c1
  have B2 := Lib.hid (And.intro (up2 B1.out.1 b2) x2)
  have KL := Lib.hid (table11_any w2 N A l.length c l (HL.out.below B2.out.1))
  clear b2 x2
  go_wp2_with fail
  refine KL.out.mono ?_
  rintro e w3 ⟨b3, rfl | ⟨hsm, g, rfl, tab⟩⟩
  · have B3 := Lib.hid (up2 B2.out.1 b3)
    clear b3
    go_wp2_with fail
    go_ret
    exact ⟨rfl, B3.out⟩
  have x3 := B2.out.2.below b3
  have e0 := x3.c0
  have e1 := x3.c1
  have B3 := Lib.hid (And.intro (up2 B2.out.1 b3) x3)
  have TAB := Lib.hid tab
  have SF := Lib.hid tab.surf
  have hn40 : l.length ≤ 40 := by have := hsm.1; omega
  have hN60 : 0 ≤ N ∧ N ≤ 60 := ⟨hsm.2.2, hsm.2.1⟩
  clear b3 x3 tab hsm
  obtain ⟨Nn, rfl⟩ : ∃ Nn : Nat, N = (Nn : Int) := ⟨N.toNat, by omega⟩
  obtain ⟨M, hM⟩ : ∃ M, 3 * l.length = M := ⟨_, rfl⟩
  have e3 : IntKind.i64.wrap (3 * (l.length : Int)) = (M : Int) := by rw [IntWalk.i64_in _ (by omega)]; omega
  have hM120 : M ≤ 120 := by omega
  have HM := Lib.hid hM
  have hmi := fun W => makeI M (by omega) W
  obtain ⟨q, hq⟩ : ∃ q, w3.heap.size = q := ⟨_, rfl⟩
  obtain ⟨w4, hw4⟩ : ∃ w4, w3.alloc (zerI M) = w4 := ⟨_, rfl⟩
  have b4 : Below w3.heap.size w3 w4 := by rw [← hw4]; exact (Below.refl _ w3).alloc (Nat.le_refl _) _
  have r4 : RowI w4 q (List.replicate M 0) := by rw [← hw4, ← hq]; exact RowI.made w3 M
  rw [← hM, ← onceL_nil SF.out] at r4
  have HQ := Lib.hid (show w3.heap.size ≤ q by rw [← hq]; exact Nat.le_refl _)
  have S4 := Lib.hid (show On1 w3 q Nn l (.int .i64 0) (.int .i64 ((0 : Nat) : Int)) w4 from ⟨b4, 0, Nat.zero_le _, rfl, by rw [show ((0 : Nat) : Int) = 0 from rfl, cntV_zero SF.out]; rfl, r4⟩)
  have hq4 : q < w4.heap.size := heap_lt r4
  have HQ4 := Lib.hid hq4
  clear hM b4 r4 hq4
  go_wp2_with fail
  clear hw4 hq hmi e0 e1
  go_loopw [5, 6] (On1 w3 q Nn l) (fun _ i _ => Nn - (intOf i).toNat)
  case atStart => exact S4.out
  case round =>
    obtain ⟨hb, V, hk, rfl, rfl, hrow⟩ := hrel
    have HB := Lib.hid (And.intro hb hrow)
    have x9 := B3.out.2.below hb
    have e0 := x9.c0
    have e1 := x9.c1
    clear hb hrow x9
    by_cases hlt : V < Nn
    case neg =>
      obtain rfl : V = Nn := by omega
      have b1 : ¬ (V : Int) < V := by omega
      have S9 := Lib.hid (show On3 w3 q M (onceL l V []) (.int .i64 ((0 : Nat) : Int)) wr from ⟨HB.out.1, 0, Nat.zero_le _, rfl, HB.out.2⟩)
      have hall : cntV l (V : Int) = M := by rw [← HM.out]; exact cntV_all SF.out
      simp only [hall]
      clear hall
      go_wp2_with fail
      clear e0 e1
      go_loopw [9] (On3 w3 q M (onceL l V [])) (fun i _ => M - (intOf i).toNat)
      case atStart => exact S9.out
      case round =>
        obtain ⟨hb, k, hk, rfl, hrow⟩ := hrel
        have HB2 := Lib.hid (And.intro hb hrow)
        have x9 := B3.out.2.below hb
        have e0 := x9.c0
        have e1 := x9.c1
        clear hb hrow x9
        by_cases hlt : k < M
        case neg =>
          obtain rfl : k = M := by omega
          have b2 : ¬ (k : Int) < k := by omega
          have be : ((k : Int) == (k : Int)) = true := by simp
          go_wp2_with fail
          go_ret
          exact ⟨by simp, up2 B3.out.1 HB2.out.1⟩
        have b2 : (k : Int) < M := by omega
        have cx := HB2.out.2.cell k (by rw [onceL_len, HM.out]; exact hlt)
        rw [onceL_all SF.out (by rw [HM.out]; exact hlt)] at cx
        have HX := Lib.hid (And.intro hk hlt)
        go_wp2_with fail
        exact ⟨⟨HB2.out.1, k + 1, HX.out.2, by go_num, HB2.out.2⟩, by have := HX.out.2; simp [intOf]; omega⟩
    have b1 : (V : Int) < Nn := by omega
    obtain ⟨L, hL⟩ := ring_exists SF.out (V : Int)
    obtain ⟨m, hm⟩ : ∃ m, L.length = m := ⟨_, rfl⟩
    have hm40 : m ≤ 40 := by rw [← hm, hL.len]; have := cAt_le SF.out (V : Int); omega
    have hm0 : 0 < m := by
      rcases Nat.eq_zero_or_pos m with h0 | h0
      · exfalso
        obtain ⟨t, ht, hh⟩ := SF.out.used (V : Int) ⟨by omega, b1⟩
        obtain ⟨j, hj, rfl⟩ := mem3_getD ht
        obtain ⟨c, hc, _⟩ := hasV_corner hj hh
        have := hL.len
        rw [hm, h0] at this
        rw [List.eq_nil_of_length_eq_zero this.symm] at hc
        cases hc
      · exact h0
    have hsum : cntV l ((V : Int) + 1) = cntV l (V : Int) + m := by rw [cntV_next, ← hm, hL.len]
    obtain ⟨sm, hsm⟩ : ∃ sm, cntV l (V : Int) = sm := ⟨_, rfl⟩
    have hs1 : sm ≤ M := by rw [← hsm, ← HM.out]; exact cntV_le _ _
    rw [hsm] at hsum
    have sw : IntKind.i64.wrap ((sm : Int) + (m : Int)) = (sm : Int) + (m : Int) := IntWalk.i64_in _ (by omega)
    have KL := Lib.hid (show Calls Try.prog 12 #[.pointer (some ⟨g, 0, none⟩), .int .i64 (V : Int), .int .i64 200] wr (RowTold wr (natsI L)) from by
      have := list11_any wr (.pointer (some ⟨g, 0, none⟩)) V 200 (by omega) (natsI L) (by rw [natsI_len]; omega) wr.heap.size (Nat.le_refl _) (fun W' b' => rgaround_any wr _ g Nn l (TAB.out.below HB.out.1) V (by omega) L hL W' b')
      rwa [List.take_of_length_le (show (natsI L).length ≤ 200 by rw [natsI_len]; omega)] at this)
    have KD := Lib.hid (fun W (b : Below w3.heap.size w3 W) => (show Calls Try.prog 17 #[.pointer (some ⟨g, 0, none⟩), .int .i64 (V : Int)] W (IntTold W (m : Int)) from by
      have := rgdegree_any W _ g Nn l (TAB.out.below b) V (by omega) L hL; rwa [hm] at this))
    have HV := Lib.hid (And.intro hL (And.intro hm (And.intro hsum (And.intro hk hlt))))
    have mm : ((m : Int) != (m : Int)) = false := by simp
    have m0 : ((m : Int) == 0) = false := by simp; omega
    simp only [hsm]
    clear hL hm hsum hsm hk hm0
    go_wp2_with fail
    refine KL.out.mono ?_
    rintro e w5 ⟨A5, m5, c5, rfl, o5, b5⟩
    obtain rfl : m5 = m := by
      obtain ⟨A', c', e, _, hr⟩ := Reads.of_own o5
      injection e with _ e2 _
      have := hr.len
      rw [natsI_len, HV.out.2.1] at this
      exact this.symm
    have H5 := Lib.hid (And.intro (up2 HB.out.1 b5) o5)
    have HB5 := Lib.hid b5
    clear b5 o5
    go_wp2_with fail
    refine (KD.out _ H5.out.1).mono ?_
    rintro e w6 ⟨rfl, b6⟩
    have H6 := Lib.hid (And.intro (up2 H5.out.1 b6) (ownK_up H5.out.2 b6))
    have HB6 := Lib.hid (up2 HB5.out b6)
    clear b6
    go_wp2_with fail
    refine (KD.out _ H6.out.1).mono ?_
    rintro e w7 ⟨rfl, b7⟩
    obtain ⟨B, hB⟩ : ∃ B, wr.heap.size = B := ⟨_, rfl⟩
    have S7 := Lib.hid (show On2 w3 B q m5 l (V : Int) L (.slice A5 m5 c5) (.int .i64 ((0 : Nat) : Int)) w7 from ⟨up2 H6.out.1 b7, by rw [← hB]; exact (up2 HB6.out b7).size, by rw [← hB]; exact ownK_up H6.out.2 b7, 0, Nat.zero_le _, rfl, HB.out.2.below (up2 HB6.out b7)⟩)
    have HQW := Lib.hid (show q < B by rw [← hB]; exact heap_lt HB.out.2)
    clear b7 e0 e1 hB
    go_wp2_with fail
    go_loopw [8] (On2 w3 B q m5 l (V : Int) L (.slice A5 m5 c5)) (fun i _ => m5 - (intOf i).toNat)
    case atStart => exact S7.out
    case round =>
      obtain ⟨hb, hBw, hown, i, hi, rfl, hrow⟩ := hrel
      have HA := Lib.hid (And.intro hb (And.intro hBw (And.intro hown hrow)))
      clear hb hBw hown hrow
      by_cases hlt : i < m5
      case neg =>
        obtain rfl : i = m5 := by omega
        have b2 : ¬ (i : Int) < i := by omega
        have S9 := Lib.hid (show On1 w3 q Nn l (.int .i64 ((sm : Int) + (i : Int))) (.int .i64 (((V + 1 : Nat)) : Int)) wr from by
          refine ⟨HA.out.1, V + 1, HV.out.2.2.2.2, rfl, ?_, ?_⟩
          · rw [show ((V + 1 : Nat) : Int) = (V : Int) + 1 by omega, HV.out.2.2.1, Int.natCast_add]
          · have := HA.out.2.2.2
            rw [List.take_of_length_le (by rw [HV.out.2.1]; omega), onceL_next HV.out.1.mem] at this
            exact this)
        have sv : IntKind.i64.wrap ((V : Int) + 1) = (V : Int) + 1 := IntWalk.i64_in _ (by omega)
        go_wp2_with fail
        exact ⟨S9.out, by have := HV.out.2.2.2.2; simp [intOf]; omega⟩
      have b2 : (i : Int) < m5 := by omega
      obtain ⟨x, hx⟩ : ∃ x, L.getD i 0 = x := ⟨_, rfl⟩
      have hil : i < L.length := by rw [HV.out.2.1]; exact hlt
      obtain ⟨hx3, hxv⟩ := cAt_mem.1 ((HV.out.1.mem _).1 (getDn_mem hil))
      rw [hx] at hx3 hxv
      have hxM : x < M := by rw [← HM.out]; exact hx3
      have hsn : L.take (i + 1) = L.take i ++ [x] := by rw [take_snocN hil, hx]
      have hxf : x ∉ L.take i := by
        intro hm
        obtain ⟨j, hj, e⟩ := memn_getD hm
        rw [List.length_take] at hj
        rw [List.getD_eq_getElem?_getD, List.getElem?_take, if_pos (by omega), ← List.getD_eq_getElem?_getD] at e
        have hnd : L.Nodup := by
          rcases HV.out.1 with ⟨_, rfl⟩ | ⟨_, _, g⟩
          · exact List.nodup_nil
          · exact g.chain.nd
        have := nodup_at hnd (show j < L.length by omega) hil (e.trans hx.symm)
        omega
      obtain ⟨A', c', ee, _, hr⟩ := Reads.of_own HA.out.2.2.1
      injection ee with ee1 _ ee3
      subst ee1 ee3
      obtain ⟨ad, rfl, hat⟩ := hr.2 (by omega)
      have cx := atI hr hlt
      rw [natsI_at, hx] at cx
      have cq := HA.out.2.2.2.cell x (by rw [onceL_len]; exact hx3)
      rw [onceL_fresh hx3 hxv hxf] at cq
      have fq := HA.out.2.2.2.frozen x
      obtain ⟨ws, hws⟩ : ∃ ws, wr.setCell ⟨q, x, none⟩ (.int .i64 1) = ws := ⟨_, rfl⟩
      have RS := HA.out.2.2.2.set x 1
      rw [onceL_set hx3, ← hsn, hws] at RS
      have OS := own_store (i := x) HA.out.2.2.1 HQW.out (.int .i64 1)
      rw [hws] at OS
      have BS : Below w3.heap.size w3 ws := by rw [← hws]; exact HA.out.1.setCell (p := ⟨q, x, none⟩) HQ.out _
      have ZS : B ≤ ws.heap.size := by
        have h1 : wr.heap.size ≤ ws.heap.size := by rw [← hws]; exact (Chg.of_set (S := fun b => b = q) wr ⟨q, x, none⟩ (.int .i64 1) rfl).size
        exact Nat.le_trans HA.out.2.1 h1
      have HW := Lib.hid (And.intro BS (And.intro ZS (And.intro OS RS)))
      have KV := Lib.hid (show Calls Try.prog 22 #[.pointer (some ⟨g, 0, none⟩), .int .i64 (x : Int)] wr (IntSame wr (V : Int)) from by
        have := (TAB.out.below HA.out.1).vertex x
        rwa [show vtxI l l.length x = (V : Int) by unfold vtxI; rw [if_pos ⟨by omega, by omega⟩, Int.toNat_natCast, hxv]] at this)
      have dx : decide ((x : Int) < 0) = false := by simp
      have dm : decide ((x : Int) ≥ (M : Int)) = false := by simpa using hxM
      have dn : decide (M ≤ x) = false := by simpa using hxM
      have vv : ((V : Int) != (V : Int)) = false := by simp
      have HX := Lib.hid (And.intro hi (And.intro hlt (And.intro hat hr)))
      clear hi hx hx3 hxv hsn hxf hil hat hr RS OS BS ZS
      go_wp2_with fail
      refine KV.out.mono ?_
      rintro e wv ⟨rfl, rfl⟩
      go_wp2_with fail
      exact ⟨⟨HW.out.1, HW.out.2.1, HW.out.2.2.1, i + 1, HX.out.2.1, by go_num, HW.out.2.2.2⟩, by have := HX.out.2.1; simp [intOf]; omega⟩
set_option maxRecDepth 100000 in
theorem lifted (os : Os) (started : os.Started) (H : Type) (enc : TypeId × Value → H) :
    ReturnsInHanded {} Try.checked os 5 .any (Rows.ringOnceSpec.pre6 enc Try.prog Try.f5 Rows.ringOnceRow.domain false) (Rows.ringOnceSpec.post enc Try.prog Try.f5 false true false false) := by
  refine returnsInHanded_of_change (C := Try.checked) own_knob started (by kernel_rfl) Try.func5
    (ChangeSpec.witness6 (enc := enc) (C := Try.checked) false ⟨#[], #[.agg #[.int .i64 0, .slice none 0 0]], []⟩ 8 (by kernel_rfl) (by kernel_rfl) (by kernel_rfl) (by kernel_rfl)) ?_
  intro W base args ds gs before hval0 hW hcnd _
  have hval : ∀ (j : Nat) t v, Try.f5.params[j]? = some t → args[j]? = some v → Value.okWide Try.prog W .any base t v := hval0
  have hW' := hW
  obtain ⟨p, q, hA0, hV, rfl, hfz, hnd⟩ := hW
  have hA : DataW.TrodAll enc Try.prog W 0 (fun _ => true) true Try.f5.params.toList args.toList ds p := hA0
  rw [Try.params5] at hA hval
  obtain ⟨v0, vs0, d0, ds0, p0, q0, hargs, rfl, rfl, h0, r0⟩ := trodAll_cons hA
  obtain ⟨rfl, rfl, rfl⟩ := trodAll_nil r0
  obtain rfl : args = #[v0] := by cases args; simp_all
  obtain ⟨rfl, rfl⟩ := trodVars_none hV
  have lt0 : ∀ x ∈ p0, x.block < W.heap.size := by obtain ⟨m, hm⟩ := h0; exact DataW.trod_lt m _ _ _ hm
  obtain ⟨N0, a0, len0, cap0, xs0, rfl, hN0, hr0⟩ := arg_soup (hval 0 24 v0 rfl rfl) h0
  clear hA0 hval0
  refine (walk N0 a0 len0 cap0 xs0 W hN0.1 hN0.2 hr0).mono fun e W' ⟨he, bel⟩ => ?_
  subst he
  exact ⟨_, rfl, _, _, _, [], _, [], hW', trodAll_mk1 (shut_bool Try.underlying4 _), (trodAll_cons_mk (Below.trod laid_out (by kernel_rfl) (of_decide_eq_true (by kernel_rfl)) h0 bel lt0) trodAll_mk0), rfl, bel.frame _, fun h => by cases h⟩

theorem over : Rows.ringOnceRow.holds Try.pinned (OpenSpec.ofChange Rows.ringOnceSpec) :=
  OpenClaim.holds_of_wide 5 Try.f5 rfl rfl rfl rfl rfl rfl rfl ⟨rfl, rfl, rfl, rfl, rfl⟩ rfl rfl rfl rfl rfl (by kernel_rfl) Try.func5 (by kernel_rfl)
    (of_decide_eq_true (by kernel_rfl)) (by unfold Func.isWrapper; first | (rw [if_pos (by decide +kernel)]; kernel_rfl) | (rw [if_neg (by decide +kernel)]; exact ⟨rfl, rfl⟩))
    (fun os started H enc _ => lifted os started H enc)

theorem proved : Rows.RingOnceSaid := over
end Go.Proofs.Ytoianhaocjiffaa.ringOnce
