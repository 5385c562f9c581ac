/- ModelEncodes: of any row (at most 200 symbols and contexts): Encode answers the coded bytes by tables and the coder if they are fewer, else the document's plain bytes; of a row that may not be, nothing and the document's error. No condition. Its listed tables of the library are tied to the program's own text, and are not read. -/
import Derived.Test.YtjbfgajognnmiaaDoorMLaw
import Derived.Test.YtjbfgajognnmiaaDoorMRefP
import Derived.Test.YtjbfgajognnmiaaDoorMCodedL
import Derived.Test.YtjbfgajognnmiaaDoorArgInts
import Derived.Test.YtjbfgajognnmiaaDoorArgB4
import Derived.Test.YtjbfgajognnmiaaDoorCards
import Derived.Test.YtjbfgajognnmiaaDoorTie
import Derived.LaidMore
import Derived.Lay
import Derived.SevenTiedAt
import Derived.Stop.Joined
namespace Go.Proofs.YtjbfgajognnmiaaDoor.modelEncodes
open Go.ChangeShapes Go.WideShapes Go.ChangeAt Go.RowKit

set_option maxHeartbeats 6400000 in
set_option maxRecDepth 100000 in
theorem walk (sy cx : Int) (A : Option Addr) (L c : Nat) (a : List Int) (A' : Option Addr) (L' c' : Nat) (l : List Int) (w : World) (_ : -9223372036854775808 ≤ sy) (_ : sy ≤ 9223372036854775807) (_ : -9223372036854775808 ≤ cx) (_ : cx ≤ 9223372036854775807) (_ : (A = none → c = 0) ∧ L ≤ c) (_ : ∀ x ∈ a, -9223372036854775808 ≤ x ∧ x ≤ 9223372036854775807) (h : Reads w A L (ints a)) (_ : (A' = none → c' = 0) ∧ L' ≤ c') (_ : ∀ x ∈ l, -9223372036854775808 ≤ x ∧ x ≤ 9223372036854775807) (h' : Reads w A' L' (ints l)) :
    Calls Tryd.prog 3 #[.int .i64 sy, .int .i64 cx, .slice A L c, .slice A' L' c'] w fun e w' => e = .returned (.bool true) ∧ Below w.heap.size w w' := by
  have HR := Lib.hid h
  have HR' := Lib.hid h'
  clear h h'
  go_enter Tryd.func3, Tryd.ntmps3
  go_wp2_with fail
  refine (awake5_true w).mono ?_
  rintro e w1 ⟨rfl, b1⟩
  have B1 := Lib.hid b1
  clear b1
  by_cases hg : 200 < L ∨ 200 < L'
  · have KG := great5_any w1 A A' L L' c c'
    rw [show (decide (200 < L) || decide (200 < L')) = true by rcases hg with h | h <;> simp [h]] at KG
    have HG := Lib.hid KG
    clear KG hg
    go_wp2_with fail
    refine HG.out.mono ?_
    rintro e w2 ⟨rfl, rfl⟩
    go_wp2_with fail
    refine (awake5_true w1).mono ?_
    rintro e w2 ⟨rfl, b2⟩
    have B2 := Lib.hid (B1.out.trans (b2.mono B1.out.size))
    clear b2
    go_wp2
    go_ret
    exact ⟨rfl, B2.out⟩
  · have KG := great5_any w1 A A' L L' c c'
    rw [show (decide (200 < L) || decide (200 < L')) = false by simp; omega] at KG
    have HG := Lib.hid KG
    have hL : L ≤ 200 := by omega
    have hL' : L' ≤ 200 := by omega
    clear KG hg
    go_wp2_with fail
    refine HG.out.mono ?_
    rintro e w2 ⟨rfl, rfl⟩
    by_cases hf : fitsOf sy cx a l = 0
    · have r := fits_row hf
      have hl := HR.out.len
      have hl' := HR'.out.len
      have hll := r.len
      obtain rfl : L = L' := by omega
      have r1 := r.isy
      have r2 := r.icx
      obtain ⟨n, rfl⟩ : ∃ n : Nat, sy = n := ⟨sy.toNat, by omega⟩
      obtain ⟨N, rfl⟩ : ∃ N : Nat, cx = N := ⟨cx.toNat, by omega⟩
      obtain ⟨e1, e2⟩ := below_nats r.syms
      obtain ⟨e3, e4⟩ := below_nats r.ctx
      have h1 := HR.out
      have h2 := HR'.out
      rw [e1] at h1
      rw [e3] at h2
      have R1 := Lib.hid h1
      have R2 := Lib.hid h2
      have hn0 : 0 < n := by omega
      have hn : n ≤ 256 := by omega
      have hN0 : 0 < N := by omega
      have hN : N ≤ 64 := by omega
      have HS := Lib.hid e2
      have HC := Lib.hid e4
      have hls := length_nats a
      have hlc := length_nats l
      have HLS := Lib.hid (show (nats a).length = L by rw [hls, hl])
      have HLC := Lib.hid (show (nats l).length = L by rw [hlc, hl'])
      generalize nats a = ss at *
      generalize nats l = cs at *
      have KE := Lib.hid (menc_ok w1 A A' L c c' n N ss cs (R1.out.below B1.out) (R2.out.below B1.out) (by omega) hn0 hn hN0 hN HS.out HC.out)
      have KF := Lib.hid (fun w' (b : Below w.heap.size w w') => fits5_any w' A A' L L c c' (n : Int) (N : Int) a l (HR.out.below b) (HR'.out.below b))
      rw [hf] at KF
      clear r hl hl' hll r1 r2 e1 e2 e3 e4 h1 h2 hls hlc hf
      go_wp2_with fail
      refine KE.out.mono ?_
      rintro e w2 ⟨b, v, rfl, hb, ow, b2⟩
      obtain ⟨Ab, cb, rfl, _, rb⟩ := Reads.of_own ow
      have B2 := Lib.hid (B1.out.trans (b2.mono B1.out.size))
      have HB := Lib.hid hb
      have RB := Lib.hid rb
      clear ow b2 hb rb
      go_wp2_with fail
      refine (KF.out w2 B2.out).mono ?_
      rintro e w3 ⟨rfl, rfl⟩
      go_wp2_with fail
      refine (rplain_any w2 A L c n ss (R1.out.below B2.out) (by omega) (by omega) hn HS.out).mono ?_
      rintro e w3 ⟨v3, rfl, o3, b3⟩
      obtain ⟨A3, c3, rfl, _, r3⟩ := Reads.of_own o3
      have B3 := Lib.hid (B2.out.trans (b3.mono B2.out.size))
      have R3 := Lib.hid r3
      have RB3 := Lib.hid (RB.out.below b3)
      clear o3 b3 r3
      go_wp2_with fail
      refine (coded5_any w3 A A' L c c' n N ss cs (R1.out.below B3.out) (R2.out.below B3.out) (by omega) hn0 hn hN HS.out HC.out).mono ?_
      rintro e w4 ⟨d, v4, ic, rfl, o4, b4⟩
      obtain ⟨A4, c4, rfl, _, r4⟩ := Reads.of_own o4
      have B4 := Lib.hid (B3.out.trans (b4.mono B3.out.size))
      have hbb : b = if d.length + 1 < plainLen n ss.length then 1 :: d else 0 :: pack (pbits n ss) := by
        obtain ⟨d', hd', e'⟩ := HB.out
        rw [e', isCode_one hd' ic]
      rw [HLS.out] at hbb
      have q1 := run_bstr w4 Ab b.length cb b (RB3.out.below b4)
      have q2 := run_bstr w4 A4 (d.length + 1) c4 (1 :: d) r4
      have q3 := run_bstr w4 A3 (plainLen n L) c3 (0 :: pack (pbits n ss)) (R3.out.below b4)
      clear o4 b4 r4 ic
      generalize plainLen n L = pl at *
      generalize d.length = nd at *
      generalize b.length = nb at *
      by_cases hlt : nd + 1 < pl
      · rw [if_pos hlt] at hbb
        have t1 : (nd : Int) + 1 < pl := by omega
        rw [hbb] at q1
        have q4 : ((bstr (1 :: d)).toList == (bstr (1 :: d)).toList) = true := by simp
        generalize bstr (1 :: d) = s1 at *
        clear hbb q3
        go_wp2
        go_ret
        exact ⟨rfl, B4.out⟩
      · rw [if_neg hlt] at hbb
        have t1 : ¬ (nd : Int) + 1 < pl := by omega
        rw [hbb] at q1
        have q4 : ((bstr (0 :: pack (pbits n ss))).toList == (bstr (0 :: pack (pbits n ss))).toList) = true := by simp
        generalize bstr (0 :: pack (pbits n ss)) = s1 at *
        clear hbb q2
        go_wp2
        go_ret
        exact ⟨rfl, B4.out⟩
    · have KE := Lib.hid (menc_no w1 A A' L L' c c' sy cx a l (HR.out.below B1.out) (HR'.out.below B1.out) hf)
      have KF := Lib.hid (fun w' (b : Below w.heap.size w w') => fits5_any w' A A' L L' c c' sy cx a l (HR.out.below b) (HR'.out.below b))
      generalize fitsOf sy cx a l = f at *
      have t1 : ((f : Int) != 0) = true := by rw [bne_iff_ne]; omega
      have t2 : ((f : Int) == (f : Int)) = true := by simp
      clear hf
      go_wp2_with fail
      refine KE.out.mono ?_
      rintro e w2 ⟨rfl, b2⟩
      have B2 := Lib.hid (B1.out.trans (b2.mono B1.out.size))
      clear b2
      go_wp2_with fail
      refine (KF.out w2 B2.out).mono ?_
      rintro e w3 ⟨rfl, rfl⟩
      go_wp2
      go_ret
      exact ⟨rfl, B2.out⟩

set_option maxRecDepth 100000 in
theorem lifted (os : Os) (started : os.Started) (H : Type) (enc : TypeId × Value → H) :
    ReturnsInHanded {} Tryd.checked os 3 .any (fun w args => (Rows.modelEncodesSpec.pre enc Tryd.prog Tryd.f3 Rows.modelEncodesRow.domain false w args ∧ laidMetH Tryd.prog Rows.modelEncodesRow.laid w) ∧ sizedMet enc Tryd.prog Tryd.f3 (OpenSpec.ofChange Rows.modelEncodesSpec) false w args)
      (Rows.modelEncodesSpec.post enc Tryd.prog Tryd.f3 false true false false) := by
  refine returnsInHanded_of_change_and (C := Tryd.checked) (X := fun w _ => laidMetH Tryd.prog Rows.modelEncodesRow.laid w) (fun _ _ _ hh h => h.of_heap hh) own_knob started (by kernel_rfl) Tryd.func3
    (ChangeSpec.witness_shaped (enc := enc) (C := Tryd.checked) (os := os) (X := fun w _ => laidMetH Tryd.prog Rows.modelEncodesRow.laid w) false (World.laidAll Tryd.prog os Rows.modelEncodesRow.laid) #[.int .i64 0, .int .i64 0, .slice none 0 0, .slice none 0 0] 8 (World.laidAll_os _ _ _)
      (World.shaped_of_ZipB (by kernel_rfl) (by kernel_rfl)) (by kernel_rfl) (by kernel_rfl) (by kernel_rfl)
      (by rw [MakeChecks.laidMetH_plain _ _ _ (by kernel_rfl)]; exact laidMet_laidAll _ (by kernel_rfl) (by kernel_rfl))) ?_
  intro W base args ds gs before hval0 hW hc _ _ _
  have hval : ∀ (j : Nat) t v, Tryd.f3.params[j]? = some t → args[j]? = some v → Value.okWide Tryd.prog W .any base t v := hval0
  have hW' := hW
  obtain ⟨p, q, hA0, hV, rfl, _, _⟩ := hW
  have hA : DataW.TrodAll enc Tryd.prog W 0 (fun _ => true) true Tryd.f3.params.toList args.toList ds p := hA0
  rw [Tryd.params3] at hA hval
  obtain ⟨v0, vs0, d0, ds0, p0, q0, hargs, rfl, rfl, h0, r0⟩ := trodAll_cons hA
  obtain ⟨v1, vs1, d1, ds1, p1, q1, rfl, rfl, rfl, h1, r1⟩ := trodAll_cons r0
  obtain ⟨v2, vs2, d2, ds2, p2, q2, rfl, rfl, rfl, h2, r2⟩ := trodAll_cons r1
  obtain ⟨v3, vs3, d3, ds3, p3, q3, rfl, rfl, rfl, h3, r3⟩ := trodAll_cons r2
  obtain ⟨rfl, rfl, rfl⟩ := trodAll_nil r3
  obtain rfl : args = #[v0, v1, v2, v3] := by cases args; simp_all
  obtain ⟨rfl, rfl⟩ := trodVars_none hV
  obtain ⟨a0, rfl, rfl, rfl, w0⟩ := open_int Tryd.underlying3 (hval 0 3 v0 rfl rfl) h0
  have bd0 := bounds_i64 w0
  obtain ⟨a1, rfl, rfl, rfl, w1⟩ := open_int Tryd.underlying3 (hval 1 3 v1 rfl rfl) h1
  have bd1 := bounds_i64 w1
  have lt2 : ∀ x ∈ p2, x.block < W.heap.size := by obtain ⟨m, hm⟩ := h2; exact DataW.trod_lt m _ _ _ hm
  obtain ⟨a2, len2, cap2, rfl⟩ := okWide_slice Tryd.underlying22 (hval 2 22 v2 rfl rfl)
  obtain ⟨hc2, xs2, hx2, hr2⟩ := arg_ints h2
  have lt3 : ∀ x ∈ p3, x.block < W.heap.size := by obtain ⟨m, hm⟩ := h3; exact DataW.trod_lt m _ _ _ hm
  obtain ⟨a3, len3, cap3, rfl⟩ := okWide_slice Tryd.underlying22 (hval 3 22 v3 rfl rfl)
  obtain ⟨hc3, xs3, hx3, hr3⟩ := arg_ints h3
  clear hA0 hval0
  refine (walk a0 a1 a2 len2 cap2 xs2 a3 len3 cap3 xs3 W (by omega) (by omega) (by omega) (by omega) hc2 hx2 hr2 hc3 hx3 hr3).mono fun e W' ⟨he, bel⟩ => ?_
  subst he
  exact ⟨_, rfl, _, _, _, [], _, [], hW', trodAll_mk1 (shut_bool Tryd.underlying4 _), (trodAll_cons_mk (shut_int Tryd.underlying3 w0) (trodAll_cons_mk (shut_int Tryd.underlying3 w1) (trodAll_cons_mk (Below.trod laid_out (by kernel_rfl) (of_decide_eq_true (by kernel_rfl)) h2 bel lt2) (trodAll_cons_mk (Below.trod laid_out (by kernel_rfl) (of_decide_eq_true (by kernel_rfl)) h3 bel lt3) trodAll_mk0)))), rfl, bel.frame _, fun h => by cases h⟩

theorem over : Rows.ModelEncodesSaid :=
  OpenClaim.holds_of_wide 3 Tryd.f3 rfl rfl rfl rfl rfl rfl rfl ⟨rfl, rfl, rfl, rfl, rfl⟩ rfl rfl rfl rfl rfl (by kernel_rfl) Tryd.func3 (by kernel_rfl)
    (of_decide_eq_true (by kernel_rfl)) (by unfold Func.isWrapper; first | (rw [if_pos (by decide +kernel)]; kernel_rfl) | (rw [if_neg (by decide +kernel)]; exact ⟨rfl, rfl⟩))
    (fun os started H enc _ => lifted os started H enc)

theorem plain (f : FuncId) (fn : Func) (hf : Tryd.pinned.checked.prog.funcNamed "gypsum/gypsumlaw05.ModelEncodes" = some f) (hfn : Tryd.pinned.checked.prog.funcs[f]? = some fn) :
    false = Tryd.pinned.checked.prog.looks [] ∧ ∀ (j : Nat) t, fn.params[j]? = some t → Tryd.pinned.checked.prog.wantsStandIn t = false := by
  obtain rfl : f = 3 := Option.some.inj ((show Tryd.prog.funcNamed "gypsum/gypsumlaw05.ModelEncodes" = some 3 by kernel_rfl).symm.trans hf) |>.symm
  obtain rfl : fn = Tryd.f3 := (Option.some.inj (Tryd.func3.symm.trans hfn)).symm
  refine ⟨by kernel_rfl, fun j t ht => ?_⟩
  rw [Tryd.params3] at ht
  have hm : t ∈ [3, 3, 22, 22] := by simpa using Array.mem_of_getElem? ht
  have hall : ([3, 3, 22, 22].all fun u => !Tryd.prog.wantsStandIn u) = true := by kernel_rfl
  exact (show Tryd.prog.wantsStandIn t = false by simpa using List.all_eq_true.1 hall t hm)

theorem proved : Rows.ModelEncodesCardSaid :=
  Claim7.holds_tied_plain_at .later [] _ _ _ _ over (fun _ h => by cases h) (by kernel_rfl) (fun _ h => by cases h) modelEncodes_row_tie rfl ⟨rfl, rfl⟩ (by kernel_rfl) rfl plain (by kernel_rfl)
end Go.Proofs.YtjbfgajognnmiaaDoor.modelEncodes
