/- ModelOne: of any bytes (at most 400) and contexts (at most 200), by whatever numbers: what Decode answers has, encoded again, just these bytes; else nothing is answered, and ErrRange or ErrForm. No condition. Its listed tables of the library are tied to the program's own text, and are not read. -/
import Derived.Test.YtjbfgajognnmiaaDoorMLaw
import Derived.Test.YtjbfgajognnmiaaDoorMRefP
import Derived.Test.YtjbfgajognnmiaaDoorMCodedL
import Derived.Test.YtjbfgajognnmiaaDoorArgInts
import Derived.Test.YtjbfgajognnmiaaDoorArgB4
import Derived.Test.YtjbfgajognnmiaaDoorCards
import Derived.Test.YtjbfgajognnmiaaDoorTie
import Derived.LaidMore
import Derived.Lay
import Derived.SevenTiedAt
import Derived.Stop.Joined
namespace Go.Proofs.YtjbfgajognnmiaaDoor.modelOne
open Go.ChangeShapes Go.WideShapes Go.ChangeAt Go.RowKit

set_option maxHeartbeats 6400000 in
set_option maxRecDepth 100000 in
theorem walk (A : Option Addr) (nb c : Nat) (b : List Nat) (sy cx : Int) (A' : Option Addr) (L c' : Nat) (l : List Int) (w : World) (hc : (A = none → c = 0) ∧ nb ≤ c) (hd : Dig b) (h : Reads w A nb (bts b)) (_ : -9223372036854775808 ≤ sy) (_ : sy ≤ 9223372036854775807) (_ : -9223372036854775808 ≤ cx) (_ : cx ≤ 9223372036854775807) (_ : (A' = none → c' = 0) ∧ L ≤ c') (_ : ∀ x ∈ l, -9223372036854775808 ≤ x ∧ x ≤ 9223372036854775807) (h' : Reads w A' L (ints l)) :
    Calls Tryd.prog 5 #[.slice A nb c, .int .i64 sy, .int .i64 cx, .slice A' L c'] w fun e w' => e = .returned (.bool true) ∧ Below w.heap.size w w' := by
  have HR := Lib.hid h
  have HR' := Lib.hid h'
  have HD := Lib.hid hd
  have HC := Lib.hid hc.2
  clear h h' hd hc
  go_enter Tryd.func5, Tryd.ntmps5
  go_wp2_with fail
  refine (awake5_true w).mono ?_
  rintro e w1 ⟨rfl, b1⟩
  have B1 := Lib.hid b1
  clear b1
  by_cases g1 : 400 < nb
  · have t1 : (400 : Int) < nb := by omega
    go_wp2_with fail
    refine (awake5_true w1).mono ?_
    rintro e w2 ⟨rfl, b2⟩
    have B2 := Lib.hid (B1.out.trans (b2.mono B1.out.size))
    clear b2
    go_wp2
    go_ret
    exact ⟨rfl, B2.out⟩
  · have t1 : ¬ (400 : Int) < nb := by omega
    by_cases g2 : 200 < L
    · have t2 : (200 : Int) < L := by omega
      go_wp2_with fail
      refine (awake5_true w1).mono ?_
      rintro e w2 ⟨rfl, b2⟩
      have B2 := Lib.hid (B1.out.trans (b2.mono B1.out.size))
      clear b2
      go_wp2
      go_ret
      exact ⟨rfl, B2.out⟩
    · have t2 : ¬ (200 : Int) < L := by omega
      have hl := HR'.out.len
      by_cases hr : ¬ (1 ≤ sy ∧ sy ≤ 256) ∨ ¬ (1 ≤ cx ∧ cx ≤ 64)
      · have KD := Lib.hid (mdec_range w1 sy cx (.slice A nb c) (.slice A' L c') hr)
        clear hr
        go_wp2_with fail
        refine KD.out.mono ?_
        rintro e w2 ⟨rfl, b2⟩
        have B2 := Lib.hid (B1.out.trans (b2.mono B1.out.size))
        clear b2
        go_wp2
        go_ret
        exact ⟨rfl, B2.out⟩
      · by_cases hb : below cx l = true
        · obtain ⟨n, rfl⟩ : ∃ n : Nat, sy = n := ⟨sy.toNat, by omega⟩
          obtain ⟨N, rfl⟩ : ∃ N : Nat, cx = N := ⟨cx.toNat, by omega⟩
          obtain ⟨e1, e2⟩ := below_nats hb
          have h2 := HR'.out
          rw [e1] at h2
          have R2 := Lib.hid h2
          have HCS := Lib.hid e2
          have hn0 : 0 < n := by omega
          have hn : n ≤ 256 := by omega
          have hN0 : 0 < N := by omega
          have hN : N ≤ 64 := by omega
          have hls := length_nats l
          have HLC := Lib.hid (show (nats l).length = L by rw [hls, hl])
          generalize nats l = cs at *
          have KD := Lib.hid (mdec_ok w1 A A' nb c c' n N L b cs (HR.out.below B1.out) HD.out HC.out (R2.out.below B1.out) hn0 hn hN0 hN (by omega) HCS.out)
          clear hr hb e1 e2 h2 hls hl
          go_wp2_with fail
          refine KD.out.mono ?_
          rintro e w2 ⟨b2, ⟨ss, A2, c2, rfl, o1, o2, o3, o4⟩ | ⟨rfl, o1⟩⟩
          · have B2 := Lib.hid (B1.out.trans (b2.mono B1.out.size))
            have KE := Lib.hid (menc_ok w2 A2 A' L c2 c' n N ss cs o3 (R2.out.below B2.out) (by omega) hn0 hn hN0 hN o2 HCS.out)
            have HB := Lib.hid o4
            have t3 : ((L : Int) == (L : Int)) = true := by simp
            clear b2 o1 o2 o3 o4
            go_wp2_with fail
            refine KE.out.mono ?_
            rintro e w3 ⟨b', v, rfl, hb', ow, b3⟩
            obtain rfl : b' = b := hb'.one HB.out
            obtain ⟨Ab, cb, rfl, _, rb⟩ := Reads.of_own ow
            have B3 := Lib.hid (B2.out.trans (b3.mono B2.out.size))
            have q1 := run_bstr w3 Ab b'.length cb b' rb
            have q2 := run_bstr w3 A nb c b' (HR.out.below B3.out)
            have q3 : ((bstr b').toList == (bstr b').toList) = true := by simp
            generalize bstr b' = s1 at *
            generalize b'.length = nb' at *
            clear hb' ow b3 rb
            go_wp2
            go_ret
            exact ⟨rfl, B3.out⟩
          · have B2 := Lib.hid (B1.out.trans (b2.mono B1.out.size))
            clear b2 o1
            go_wp2
            go_ret
            exact ⟨rfl, B2.out⟩
        · have KD := Lib.hid (mdec_ctx w1 A' L c' sy cx (.slice A nb c) l (HR'.out.below B1.out) (by omega) (by omega) (by omega) (by simpa using hb))
          clear hr hb hl
          go_wp2_with fail
          refine KD.out.mono ?_
          rintro e w2 ⟨rfl, b2⟩
          have B2 := Lib.hid (B1.out.trans (b2.mono B1.out.size))
          clear b2
          go_wp2
          go_ret
          exact ⟨rfl, B2.out⟩

set_option maxRecDepth 100000 in
theorem lifted (os : Os) (started : os.Started) (H : Type) (enc : TypeId × Value → H) :
    ReturnsInHanded {} Tryd.checked os 5 .any (fun w args => (Rows.modelOneSpec.pre enc Tryd.prog Tryd.f5 Rows.modelOneRow.domain false w args ∧ laidMetH Tryd.prog Rows.modelOneRow.laid w) ∧ sizedMet enc Tryd.prog Tryd.f5 (OpenSpec.ofChange Rows.modelOneSpec) false w args)
      (Rows.modelOneSpec.post enc Tryd.prog Tryd.f5 false true false false) := by
  refine returnsInHanded_of_change_and (C := Tryd.checked) (X := fun w _ => laidMetH Tryd.prog Rows.modelOneRow.laid w) (fun _ _ _ hh h => h.of_heap hh) own_knob started (by kernel_rfl) Tryd.func5
    (ChangeSpec.witness_shaped (enc := enc) (C := Tryd.checked) (os := os) (X := fun w _ => laidMetH Tryd.prog Rows.modelOneRow.laid w) false (World.laidAll Tryd.prog os Rows.modelOneRow.laid) #[.slice none 0 0, .int .i64 0, .int .i64 0, .slice none 0 0] 8 (World.laidAll_os _ _ _)
      (World.shaped_of_ZipB (by kernel_rfl) (by kernel_rfl)) (by kernel_rfl) (by kernel_rfl) (by kernel_rfl)
      (by rw [MakeChecks.laidMetH_plain _ _ _ (by kernel_rfl)]; exact laidMet_laidAll _ (by kernel_rfl) (by kernel_rfl))) ?_
  intro W base args ds gs before hval0 hW hc _ _ _
  have hval : ∀ (j : Nat) t v, Tryd.f5.params[j]? = some t → args[j]? = some v → Value.okWide Tryd.prog W .any base t v := hval0
  have hW' := hW
  obtain ⟨p, q, hA0, hV, rfl, _, _⟩ := hW
  have hA : DataW.TrodAll enc Tryd.prog W 0 (fun _ => true) true Tryd.f5.params.toList args.toList ds p := hA0
  rw [Tryd.params5] at hA hval
  obtain ⟨v0, vs0, d0, ds0, p0, q0, hargs, rfl, rfl, h0, r0⟩ := trodAll_cons hA
  obtain ⟨v1, vs1, d1, ds1, p1, q1, rfl, rfl, rfl, h1, r1⟩ := trodAll_cons r0
  obtain ⟨v2, vs2, d2, ds2, p2, q2, rfl, rfl, rfl, h2, r2⟩ := trodAll_cons r1
  obtain ⟨v3, vs3, d3, ds3, p3, q3, rfl, rfl, rfl, h3, r3⟩ := trodAll_cons r2
  obtain ⟨rfl, rfl, rfl⟩ := trodAll_nil r3
  obtain rfl : args = #[v0, v1, v2, v3] := by cases args; simp_all
  obtain ⟨rfl, rfl⟩ := trodVars_none hV
  have lt0 : ∀ x ∈ p0, x.block < W.heap.size := by obtain ⟨m, hm⟩ := h0; exact DataW.trod_lt m _ _ _ hm
  obtain ⟨a0, len0, cap0, rfl⟩ := okWide_slice Tryd.underlying25 (hval 0 25 v0 rfl rfl)
  obtain ⟨hc0, xs0, hx0, hr0⟩ := arg_bytes4 h0
  obtain ⟨a1, rfl, rfl, rfl, w1⟩ := open_int Tryd.underlying3 (hval 1 3 v1 rfl rfl) h1
  have bd1 := bounds_i64 w1
  obtain ⟨a2, rfl, rfl, rfl, w2⟩ := open_int Tryd.underlying3 (hval 2 3 v2 rfl rfl) h2
  have bd2 := bounds_i64 w2
  have lt3 : ∀ x ∈ p3, x.block < W.heap.size := by obtain ⟨m, hm⟩ := h3; exact DataW.trod_lt m _ _ _ hm
  obtain ⟨a3, len3, cap3, rfl⟩ := okWide_slice Tryd.underlying22 (hval 3 22 v3 rfl rfl)
  obtain ⟨hc3, xs3, hx3, hr3⟩ := arg_ints h3
  clear hA0 hval0
  refine (walk a0 len0 cap0 xs0 a1 a2 a3 len3 cap3 xs3 W hc0 hx0 hr0 (by omega) (by omega) (by omega) (by omega) hc3 hx3 hr3).mono fun e W' ⟨he, bel⟩ => ?_
  subst he
  exact ⟨_, rfl, _, _, _, [], _, [], hW', trodAll_mk1 (shut_bool Tryd.underlying4 _), (trodAll_cons_mk (Below.trod laid_out (by kernel_rfl) (of_decide_eq_true (by kernel_rfl)) h0 bel lt0) (trodAll_cons_mk (shut_int Tryd.underlying3 w1) (trodAll_cons_mk (shut_int Tryd.underlying3 w2) (trodAll_cons_mk (Below.trod laid_out (by kernel_rfl) (of_decide_eq_true (by kernel_rfl)) h3 bel lt3) trodAll_mk0)))), rfl, bel.frame _, fun h => by cases h⟩

theorem over : Rows.ModelOneSaid :=
  OpenClaim.holds_of_wide 5 Tryd.f5 rfl rfl rfl rfl rfl rfl rfl ⟨rfl, rfl, rfl, rfl, rfl⟩ rfl rfl rfl rfl rfl (by kernel_rfl) Tryd.func5 (by kernel_rfl)
    (of_decide_eq_true (by kernel_rfl)) (by unfold Func.isWrapper; first | (rw [if_pos (by decide +kernel)]; kernel_rfl) | (rw [if_neg (by decide +kernel)]; exact ⟨rfl, rfl⟩))
    (fun os started H enc _ => lifted os started H enc)

theorem plain (f : FuncId) (fn : Func) (hf : Tryd.pinned.checked.prog.funcNamed "gypsum/gypsumlaw05.ModelOne" = some f) (hfn : Tryd.pinned.checked.prog.funcs[f]? = some fn) :
    false = Tryd.pinned.checked.prog.looks [] ∧ ∀ (j : Nat) t, fn.params[j]? = some t → Tryd.pinned.checked.prog.wantsStandIn t = false := by
  obtain rfl : f = 5 := Option.some.inj ((show Tryd.prog.funcNamed "gypsum/gypsumlaw05.ModelOne" = some 5 by kernel_rfl).symm.trans hf) |>.symm
  obtain rfl : fn = Tryd.f5 := (Option.some.inj (Tryd.func5.symm.trans hfn)).symm
  refine ⟨by kernel_rfl, fun j t ht => ?_⟩
  rw [Tryd.params5] at ht
  have hm : t ∈ [25, 3, 3, 22] := by simpa using Array.mem_of_getElem? ht
  have hall : ([25, 3, 3, 22].all fun u => !Tryd.prog.wantsStandIn u) = true := by kernel_rfl
  exact (show Tryd.prog.wantsStandIn t = false by simpa using List.all_eq_true.1 hall t hm)

theorem proved : Rows.ModelOneCardSaid :=
  Claim7.holds_tied_plain_at .later [] _ _ _ _ over (fun _ h => by cases h) (by kernel_rfl) (fun _ h => by cases h) modelOne_row_tie rfl ⟨rfl, rfl⟩ (by kernel_rfl) rfl plain (by kernel_rfl)
end Go.Proofs.YtjbfgajognnmiaaDoor.modelOne
