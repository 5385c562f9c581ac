/- CoderFew: of any symbols (at most 60) by tables of one symbol there are no bytes; by a table of 256 like counts there are at most one for each, one more, and one for each hundred. Its listed tables of the library are not read. No condition. -/
import Derived.Test.YtbkjfblmdilchaaDoorCSide
import Derived.Test.YtbkjfblmdilchaaDoorCArgs
import Derived.Test.YtbkjfblmdilchaaDoorCards
import Derived.Test.YtbkjfblmdilchaaDoorTie
import Derived.LaidMore
import Derived.Lay
import Derived.SevenTiedAt
import Derived.Stop.Joined
namespace Go.Proofs.YtbkjfblmdilchaaDoor.coderFew
open Go.ChangeShapes Go.WideShapes Go.ChangeAt Go.RowKit

theorem rep_at (n k : Nat) (x : Int) (h : k < n) : (List.replicate n x)[k]? = some x := by rw [List.getElem?_replicate, if_pos h]
theorem rep_len (n : Nat) (x y : Int) : (List.replicate n x).length = (List.replicate n y).length := by rw [List.length_replicate, List.length_replicate]
theorem sum_rep (n : Nat) (x : Int) : (List.replicate n x).sum = n * x := by
  induction n with
  | zero => simp
  | succ n ih => rw [List.replicate_succ, List.sum_cons, ih, Int.natCast_succ, Int.add_mul]; omega
def many (f : Nat) : List Int := List.replicate 256 (f : Int)
theorem length_many (f : Nat) : (many f).length = 256 := List.length_replicate
theorem sum_many (f : Nat) : (many f).sum = 256 * (f : Int) := by
  rw [many, sum_rep]; rfl
theorem ok_many (f : Nat) (h0 : 1 ≤ f) (h1 : f ≤ 200) : Ok (many f) := ⟨by rw [length_many]; omega, by rw [length_many]; omega, fun x hx => by rw [List.eq_of_mem_replicate hx]; omega, by rw [sum_many]; omega⟩
theorem tot_many (f : Nat) : tot (many f) = 256 * f := by
  unfold tot
  rw [sum_many]; omega
theorem cnt_many (f s : Nat) (hs : s < 256) : cntN (many f) s = f := by
  unfold cntN many
  rw [List.getD_eq_getElem?_getD, rep_at _ _ _ hs]
  simp
theorem ok_alone (f : Nat) (h0 : 1 ≤ f) (h1 : f ≤ 200) : Ok [(f : Int)] := ⟨Nat.zero_lt_one, show 1 ≤ 256 by omega, fun x hx => by simp at hx; omega, by simp; omega⟩

def Apt (v v' : Value) : Prop := ∀ q, v.ownBlock = some q → v'.ownBlock = some q → False
theorem Apt.symm {v v' : Value} (h : Apt v v') : Apt v' v := fun q h1 h2 => h q h2 h1
/-- Two encoders: one goes on, the other one stays as it is. -/
theorem beside {w w' : World} {B g1 g2 : Nat} {v1 v2 : Value} {x1 x2 y : Iv} (h1 : EIs w B g1 v1 x1) (h2 : EIs w B g2 v2 x2) (hne : g1 ≠ g2) (ha : Apt v1 v2) (h : Went w B g1 v1 y w') :
    ∃ v1', EIs w' B g1 v1' y ∧ EIs w' B g2 v2 x2 ∧ Apt v1' v2 := by
  obtain ⟨v1', e1, c1, m1⟩ := h
  refine ⟨v1', e1, h2.keep c1 ?_ ?_, ?_⟩
  · rintro (e | e)
    · exact hne e.symm
    · exact own_ne h1.row h2.sp (by decide) e
  · rintro q hq (e | e)
    · exact own_ne h2.row h1.sp (by decide) (by rw [hq, e])
    · exact ha q e hq
  · intro q hq hq2
    rcases m1 q hq with h3 | h3
    · exact ha q h3 hq2
    · have := (own_lt h2.row q hq2).2.1
      omega

def FillAt (w w1 : World) (q : Nat) (f : Int) (i : Value) (wr : World) : Prop :=
  ∃ k : Nat, k ≤ 256 ∧ i = .int .i64 (k : Int) ∧ Hid (Half w1 q (List.replicate 256 f) (List.replicate 256 0) [] k wr ∧ Below w.heap.size w wr)
structure Fw (w : World) (g1 g2 gt qt ct ga qa ca f k : Nat) (v1 v2 : Value) (x : Iv) (wr : World) : Prop where
  one : EIs wr w.heap.size g1 v1 firstIv
  enc : EIs wr w.heap.size g2 v2 x
  apt : Apt v1 v2
  tab : TIs wr gt qt ct (many f)
  alo : TIs wr ga qa ca [(f : Int)]
  few : Few x k
  good : x.Good
  kk : x.k ≤ 3 * k
  bel : Below w.heap.size w wr
def FewAt (w : World) (n g1 g2 gt qt ct ga qa ca f : Nat) (i : Value) (wr : World) : Prop :=
  ∃ (k : Nat) (v1 v2 : Value) (x : Iv), k ≤ n ∧ i = .int .i64 (k : Int) ∧ Fw w g1 g2 gt qt ct ga qa ca f k v1 v2 x wr

set_option maxHeartbeats 6400000 in
set_option maxRecDepth 100000 in
theorem walk (A : Option Addr) (n c : Nat) (l : List Nat) (a : Int) (w : World) (_ : (A = none → c = 0) ∧ n ≤ c) (hd : Dig l) (h : Reads w A n (bts l)) (ha0 : 0 ≤ a) (ha1 : a ≤ 255) :
    Calls Tryd.prog 6 #[.slice A n c, .int .u8 a] w fun e w' => e = .returned (.bool true) ∧ Below w.heap.size w w' := by
  by_cases hn : 60 < n
  · have t1 : (60 : Int) < n := by omega
    clear h
    go_enter Tryd.func6, Tryd.ntmps6
    go_wp2_with fail
    refine (awake_true w).mono ?_
    rintro e w1 ⟨rfl, b1⟩
    have B1 := Lib.hid b1
    clear b1
    go_wp2
    go_ret
    exact ⟨rfl, B1.out⟩
  have t1 : ¬ (60 : Int) < n := by omega
  have hn2 : n ≤ 60 := by omega
  have HR := Lib.hid (⟨h, h.lenB, hd⟩ : Reads w A n (bts l) ∧ l.length = n ∧ Dig l)
  clear h hn hd
  obtain ⟨i0, hi, hz0, hz1, hz2⟩ := info_parts Tryd.infoInt
  have hmk : ∀ W : World, (Instr.makeSlice 27 (.int .i64 256) (.int .i64 256)).run Tryd.prog W = .ok (.slice (some ⟨W.heap.size, 0, none⟩) 256 256) (W.alloc (.cells (madeCells #[.int .i64 0] 256) 3)) := by
    intro W
    have := run_make (P := Tryd.prog) W 27 3 i0 (.int .i64 0) Tryd.underlying27 hi hz0 .i64 .i64 256 256 (by omega) (by omega) (by rw [hz2]; omega) (by omega)
    rw [hz1] at this
    simp at this
    exact this
  clear hi hz0 hz1 hz2
  have e1 : IntKind.i64.wrap (1 + a % 200) = 1 + a % 200 := IntWalk.i64_in _ (by omega)
  go_enter Tryd.func6, Tryd.ntmps6
  go_wp2_with fail
  refine (awake_true w).mono ?_
  rintro e w1 ⟨rfl, b1⟩
  have B1 := Lib.hid b1
  clear b1
  go_wp2_with fail
  refine (cnew_any w1 w.heap.size B1.out.size).mono ?_
  rintro e w2 ⟨g1, v1, rfl, e2, b2, _, hv1⟩
  have E2 := Lib.hid (⟨e2, hv1⟩ : EIs w2 w.heap.size g1 v1 firstIv ∧ v1.ownBlock = none)
  have B2 := Lib.hid (B1.out.trans (b2.mono B1.out.size))
  have H3 := Lib.hid (show (w2.alloc (.cells (madeCells #[.int .i64 0] 256) 3)).heap[w2.heap.size]? = some (.cells (ints (List.replicate 256 0) ++ []).toArray 3 (0, 0)) by
    rw [heap_alloc_new, List.append_nil]
    congr 2
    have := toList_madeCells_one (.int .i64 0) 256
    rw [← Array.toList_inj, this]
    simp [ints])
  have a3 := alloc_below w2 (.cells (madeCells #[.int .i64 0] 256) 3)
  have B3 := Lib.hid (B2.out.trans (a3.mono B2.out.size))
  have E3 := Lib.hid (E2.out.1.below a3)
  have Q3 := Lib.hid B2.out.size
  clear e2 b2 hv1 a3
  go_wp2_with fail
  generalize w2.alloc (.cells (madeCells #[.int .i64 0] 256) 3) = w3 at *
  obtain ⟨f, hf⟩ : ∃ f : Nat, 1 + a % 200 = (f : Int) := ⟨(1 + a % 200).toNat, by omega⟩
  have hf1 : 1 ≤ f := by omega
  have hf2 : f ≤ 200 := by omega
  rw [hf]
  clear e1 hf hmk
  generalize hq : w2.heap.size = q at *
  clear hq
  go_loopw [8] (FillAt w w3 q (f : Int)) (fun i _ => 256 - (intOf i).toNat)
  case atStart => exact ⟨0, by omega, rfl, Lib.hid ⟨⟨by rw [mix_zero]; exact H3.out, World.grownBy.refl w3 _⟩, B3.out⟩⟩
  case round =>
    obtain ⟨k, hk, rfl, H⟩ := hrel
    by_cases hlt : k < 256
    · have hkn : (k : Int) < 256 := by omega
      have ck := H.out.1.cell (rep_len _ _ _) 0 (rep_at _ _ _ hlt)
      have fk := frozen_in H.out.1.1 k
      have HN := Lib.hid (H.out.1.set (rep_len _ _ _) (f : Int) (rep_at _ _ _ hlt))
      have BN := Lib.hid (H.out.2.setCell (p := ⟨q, k, none⟩) Q3.out (.int .i64 (f : Int)))
      go_wp2_with fail
      exact ⟨⟨k + 1, by omega, by go_num, Lib.hid ⟨HN.out, BN.out⟩⟩, by simp [intOf]; omega⟩
    · obtain rfl : k = 256 := by omega
      have h4 := H.out.1.1
      rw [mix_all _ _ _ (rep_len _ _ _) (by rw [List.length_replicate]; omega), List.append_nil] at h4
      have R4 := Lib.hid (show Reads wr (some ⟨q, 0, none⟩) 256 (ints (many f)) by
        have := Reads.of_block (xs := ints (many f)) h4
        rwa [length_ints, length_many] at this)
      have hq3 : EIs wr w.heap.size g1 v1 firstIv := E3.out.keep (S := (· = q)) (.of_grown H.out.1.2 (fun p hp => by injection hp with hp; exact hp.symm)) (fun e => by
          have h5 := heap_lt H3.out
          exact block_ne E3.out.sp H3.out (by decide) e) (fun p hp e => own_ne E3.out.row H3.out (by decide) (by rw [hp, e]))
      have E4 := Lib.hid hq3
      have B4 := Lib.hid H.out.2
      clear h4 hq3 H
      go_wp2_with fail
      refine (made_ok wr _ 256 256 (many f) R4.out (ok_many f hf1 hf2)).mono ?_
      rintro e w5 ⟨gt, qt, ct, rfl, t5, b5, _, _⟩
      have T5 := Lib.hid t5
      have E5 := Lib.hid (E4.out.below b5)
      have B5 := Lib.hid (B4.out.trans (b5.mono B4.out.size))
      clear t5 b5
      go_wp2_with fail
      have a6 := alloc_below w5 (.cells #[.int .i64 (f : Int)] 3)
      have R6 := Lib.hid (show Reads (w5.alloc (.cells #[.int .i64 (f : Int)] 3)) (some ⟨w5.heap.size, 0, none⟩) 1 (ints [(f : Int)]) from
        Reads.of_block (t := 3) (xs := [.int .i64 (f : Int)]) (Array.getElem?_push_size : (w5.heap.push _)[w5.heap.size]? = some _))
      have T6 := Lib.hid (T5.out.below a6)
      have E6 := Lib.hid (E5.out.below a6)
      have B6 := Lib.hid (B5.out.trans (a6.mono B5.out.size))
      clear a6
      generalize w5.alloc (.cells #[.int .i64 (f : Int)] 3) = w6 at *
      refine (made_ok w6 _ 1 1 [(f : Int)] R6.out (ok_alone f hf1 hf2)).mono ?_
      rintro e w7 ⟨ga, qa, ca, rfl, t7, b7, _, _⟩
      have A7 := Lib.hid t7
      have T7 := Lib.hid (T6.out.below b7)
      have E7 := Lib.hid (E6.out.below b7)
      have B7 := Lib.hid (B6.out.trans (b7.mono B6.out.size))
      clear t7 b7
      go_wp2_with fail
      refine (cnew_any w7 w.heap.size B7.out.size).mono ?_
      rintro e w8 ⟨g2, v2, rfl, e8, b8, hg2, hv2⟩
      have hgne : g1 ≠ g2 := fun e => by have := E7.out.lt; omega
      have L8 := Lib.hid (show Fw w g1 g2 gt qt ct ga qa ca f 0 v1 v2 firstIv w8 from
        ⟨E7.out.below b8, e8, (fun q' h1 _ => by rw [E2.out.2] at h1; cases h1), T7.out.below b8, A7.out.below b8, few_first, good_first, Nat.zero_le _, B7.out.trans (b8.mono B7.out.size)⟩)
      have HG := Lib.hid hgne
      clear e8 b8 hg2 hv2 hgne
      go_wp2_with fail
      go_loopw [12] (FewAt w n g1 g2 gt qt ct ga qa ca f) (fun i _ => n - (intOf i).toNat)
      case atStart => exact ⟨0, v1, v2, firstIv, Nat.zero_le _, rfl, L8.out⟩
      case round =>
        obtain ⟨k, u1, u2, x, hk, rfl, hw⟩ := hrel
        by_cases hlt : k < n
        · obtain ⟨ad, rfl, d1⟩ := HR.out.1.byte k hlt
          have bd := dig_at HR.out.2.2 k
          generalize l.getD k 0 = d at *
          have H := Lib.hid (⟨hw, d1⟩ : Fw w g1 g2 gt qt ct ga qa ca f k u1 u2 x wr ∧ w.cell? (ad.add k) = some (.int .u8 (d : Int)))
          have KA := Lib.hid (encode_ok wr w.heap.size g1 u1 firstIv hw.one good_first (by decide) ga qa ca [(f : Int)] hw.alo (ok_alone f hf1 hf2) 0 Nat.zero_lt_one)
          rw [alone_come firstIv good_first rfl] at KA
          have t3 : (k : Int) < n := by omega
          have t4 : ((0 : Int) != 0) = false := by decide
          clear hw d1
          go_wp2_with fail
          refine KA.out.mono ?_
          rintro e w9 ⟨rfl, h9⟩
          have b9 := h9.below H.out.1.one
          obtain ⟨_, _, c9, _⟩ := id h9
          obtain ⟨u1', o9, n9, p9⟩ := beside H.out.1.one H.out.1.enc HG.out H.out.1.apt h9
          have T9 := Lib.hid (H.out.1.tab.enc H.out.1.one c9)
          have A9 := Lib.hid (H.out.1.alo.enc H.out.1.one c9)
          have N9 := Lib.hid (⟨o9, n9, p9⟩ : EIs w9 w.heap.size g1 u1' firstIv ∧ EIs w9 w.heap.size g2 u2 x ∧ Apt u1' u2)
          have B9 := Lib.hid (H.out.1.bel.trans b9)
          have e9 : w9.cell? (ad.add k) = some (.int .u8 (d : Int)) := (B9.out.cell (World.block_lt_of_cell? w _ H.out.2)).trans H.out.2
          have KE := Lib.hid (encode_ok w9 w.heap.size g2 u2 x n9 H.out.1.good (by have := H.out.1.kk; omega) gt qt ct (many f) T9.out (ok_many f hf1 hf2) d (by rw [length_many]; exact bd))
          clear h9 b9 c9 o9 n9 p9
          go_wp2_with fail
          refine KE.out.mono ?_
          rintro e w10 ⟨rfl, h10⟩
          have b10 := h10.below N9.out.2.1
          obtain ⟨_, _, c10, _⟩ := id h10
          obtain ⟨u2', o10, n10, p10⟩ := beside N9.out.2.1 N9.out.1 (Ne.symm HG.out) N9.out.2.2.symm h10
          have F10 := Lib.hid (show Fw w g1 g2 gt qt ct ga qa ca f (k + 1) u1' u2' (come x (many f) d) w10 from
            ⟨n10, o10, p10.symm, T9.out.enc N9.out.2.1 c10, A9.out.enc N9.out.2.1 c10, few_come H.out.1.good (ok_many f hf1 hf2) d f (cnt_many f d bd) (tot_many f) hf2 k (by omega) H.out.1.few,
              H.out.1.good.come (ok_many f hf1 hf2) d (by rw [length_many]; exact bd), by have h1 := come_k x (many f) d; have h2 := H.out.1.kk; omega, B9.out.trans b10⟩)
          clear h10 b10 c10 o10 n10 p10
          go_wp2_with fail
          exact ⟨⟨k + 1, u1', u2', _, by omega, by go_num, F10.out⟩, by simp [intOf]; omega⟩
        · obtain rfl : k = n := by omega
          have t3 : ¬ (k : Int) < k := by omega
          have H := Lib.hid hw
          have KF := Lib.hid (finish_any wr w.heap.size g1 u1 firstIv hw.one good_first (by decide))
          clear hw
          go_wp2_with fail
          refine KF.out.mono ?_
          rintro e w9 ⟨b9, r9, rfl, i9, o9, bb9⟩
          obtain rfl := first_code i9
          obtain ⟨A9, c9, rfl, _, _⟩ := Reads.of_own o9
          have B9 := Lib.hid (H.out.bel.trans (bb9.mono H.out.bel.size))
          have KF2 := Lib.hid (finish_any w9 w.heap.size g2 u2 x (H.out.enc.below bb9) H.out.good (by have := H.out.kk; omega))
          have t4 : ((([] : List Nat).length : Int) == 0) = true := by decide
          clear i9 o9 bb9
          go_wp2_with fail
          refine KF2.out.mono ?_
          rintro e w10 ⟨b10, r10, rfl, i10, o10, bb10⟩
          have hlen := few_bytes H.out.good k H.out.few i10
          obtain ⟨A10, c10, rfl, _, _⟩ := Reads.of_own o10
          have B10 := Lib.hid (B9.out.trans (bb10.mono B9.out.size))
          generalize b10.length = nb at *
          have hdv : (k : Int) / 100 ≥ 0 ∧ (k : Int) / 100 ≤ k := by omega
          have t5 : (nb : Int) ≤ (k : Int) + 1 + (k : Int) / 100 := by omega
          have e5 : (k : Int).tdiv 100 = (k : Int) / 100 := Int.tdiv_eq_ediv_of_nonneg (by omega)
          clear i10 o10 bb10
          go_wp2
          go_ret
          exact ⟨rfl, B10.out⟩

set_option maxRecDepth 100000 in
theorem lifted (os : Os) (started : os.Started) (H : Type) (enc : TypeId × Value → H) :
    ReturnsInHanded {} Tryd.checked os 6 .any (fun w args => (Rows.coderFewSpec.pre enc Tryd.prog Tryd.f6 Rows.coderFewRow.domain false w args ∧ laidMetH Tryd.prog Rows.coderFewRow.laid w) ∧ sizedMet enc Tryd.prog Tryd.f6 (OpenSpec.ofChange Rows.coderFewSpec) false w args)
      (Rows.coderFewSpec.post enc Tryd.prog Tryd.f6 false true false false) := by
  refine returnsInHanded_of_change_and (C := Tryd.checked) (X := fun w _ => laidMetH Tryd.prog Rows.coderFewRow.laid w) (fun _ _ _ hh h => h.of_heap hh) own_knob started (by kernel_rfl) Tryd.func6
    (ChangeSpec.witness_shaped (enc := enc) (C := Tryd.checked) (os := os) (X := fun w _ => laidMetH Tryd.prog Rows.coderFewRow.laid w) false (World.laidAll Tryd.prog os Rows.coderFewRow.laid) #[.slice none 0 0, .int .u8 0] 8 (World.laidAll_os _ _ _)
      (World.shaped_of_ZipB (by kernel_rfl) (by kernel_rfl)) (by kernel_rfl) (by kernel_rfl) (by kernel_rfl)
      (by rw [MakeChecks.laidMetH_plain _ _ _ (by kernel_rfl)]; exact laidMet_laidAll _ (by kernel_rfl) (by kernel_rfl))) ?_
  intro W base args ds gs before hval0 hW hc _ _ _
  have hval : ∀ (j : Nat) t v, Tryd.f6.params[j]? = some t → args[j]? = some v → Value.okWide Tryd.prog W .any base t v := hval0
  have hW' := hW
  obtain ⟨p, q, hA0, hV, rfl, _, _⟩ := hW
  have hA : DataW.TrodAll enc Tryd.prog W 0 (fun _ => true) true Tryd.f6.params.toList args.toList ds p := hA0
  rw [Tryd.params6] at hA hval
  obtain ⟨v0, vs0, d0, ds0, p0, q0, hargs, rfl, rfl, h0, r0⟩ := trodAll_cons hA
  obtain ⟨v1, vs1, d1, ds1, p1, q1, rfl, rfl, rfl, h1, r1⟩ := trodAll_cons r0
  obtain ⟨rfl, rfl, rfl⟩ := trodAll_nil r1
  obtain rfl : args = #[v0, v1] := by cases args; simp_all
  obtain ⟨rfl, rfl⟩ := trodVars_none hV
  have lt0 : ∀ x ∈ p0, x.block < W.heap.size := by obtain ⟨m, hm⟩ := h0; exact DataW.trod_lt m _ _ _ hm
  obtain ⟨a0, len0, cap0, rfl⟩ := okWide_slice Tryd.underlying39 (hval 0 39 v0 rfl rfl)
  obtain ⟨hc0, xs0, hx0, hr0⟩ := arg_bytes4 h0
  obtain ⟨a1, rfl, rfl, rfl, w1⟩ := open_int Tryd.underlying5 (hval 1 5 v1 rfl rfl) h1
  have bd1 := bounds_u8 w1
  clear hA0 hval0
  refine (walk a0 len0 cap0 xs0 a1 W hc0 hx0 hr0 (by omega) (by omega)).mono fun e W' ⟨he, bel⟩ => ?_
  subst he
  exact ⟨_, rfl, _, _, _, [], _, [], hW', trodAll_mk1 (shut_bool Tryd.underlying4 _), (trodAll_cons_mk (Below.trod laid_out (by kernel_rfl) (of_decide_eq_true (by kernel_rfl)) h0 bel lt0) (trodAll_cons_mk (shut_int Tryd.underlying5 w1) trodAll_mk0)), rfl, bel.frame _, fun h => by cases h⟩

theorem over : Rows.CoderFewSaid :=
  OpenClaim.holds_of_wide 6 Tryd.f6 rfl rfl rfl rfl rfl rfl rfl ⟨rfl, rfl, rfl, rfl, rfl⟩ rfl rfl rfl rfl rfl (by kernel_rfl) Tryd.func6 (by kernel_rfl)
    (of_decide_eq_true (by kernel_rfl)) (by unfold Func.isWrapper; first | (rw [if_pos (by decide +kernel)]; kernel_rfl) | (rw [if_neg (by decide +kernel)]; exact ⟨rfl, rfl⟩))
    (fun os started H enc _ => lifted os started H enc)

theorem plain (f : FuncId) (fn : Func) (hf : Tryd.pinned.checked.prog.funcNamed "gypsum/gypsumlaw04.CoderFew" = some f) (hfn : Tryd.pinned.checked.prog.funcs[f]? = some fn) :
    false = Tryd.pinned.checked.prog.looks [] ∧ ∀ (j : Nat) t, fn.params[j]? = some t → Tryd.pinned.checked.prog.wantsStandIn t = false := by
  obtain rfl : f = 6 := Option.some.inj ((show Tryd.prog.funcNamed "gypsum/gypsumlaw04.CoderFew" = some 6 by kernel_rfl).symm.trans hf) |>.symm
  obtain rfl : fn = Tryd.f6 := (Option.some.inj (Tryd.func6.symm.trans hfn)).symm
  refine ⟨by kernel_rfl, fun j t ht => ?_⟩
  rw [Tryd.params6] at ht
  have hm : t ∈ [39, 5] := by simpa using Array.mem_of_getElem? ht
  have hall : ([39, 5].all fun u => !Tryd.prog.wantsStandIn u) = true := by kernel_rfl
  exact (show Tryd.prog.wantsStandIn t = false by simpa using List.all_eq_true.1 hall t hm)

theorem proved : Rows.CoderFewCardSaid :=
  Claim7.holds_tied_plain_at .later [] _ _ _ _ over (fun _ h => by cases h) (by kernel_rfl) (fun _ h => by cases h) coderFew_row_tie rfl ⟨rfl, rfl⟩ (by kernel_rfl) rfl plain (by kernel_rfl)
end Go.Proofs.YtbkjfblmdilchaaDoor.coderFew
