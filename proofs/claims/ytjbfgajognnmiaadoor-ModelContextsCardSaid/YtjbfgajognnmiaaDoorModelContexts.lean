/- ModelContexts: of any row that may be with 8 contexts (at most 200 symbols and contexts), contexts that are renamed among themselves, and a greater number of contexts, leave its bytes as they are. No condition. Its listed tables of the library are tied to the program's own text, and are not read. -/
import Derived.Test.YtjbfgajognnmiaaDoorMLaw
import Derived.Test.YtjbfgajognnmiaaDoorMRefP
import Derived.Test.YtjbfgajognnmiaaDoorMCodedL
import Derived.Test.YtjbfgajognnmiaaDoorArgInts
import Derived.Test.YtjbfgajognnmiaaDoorArgB4
import Derived.Test.YtjbfgajognnmiaaDoorCards
import Derived.Test.YtjbfgajognnmiaaDoorTie
import Derived.LaidMore
import Derived.Lay
import Derived.SevenTiedAt
import Derived.Stop.Joined
namespace Go.Proofs.YtjbfgajognnmiaaDoor.modelContexts
open Go.ChangeShapes Go.WideShapes Go.ChangeAt Go.RowKit

theorem renamed_row (n t : Nat) (cs ss : List Nat) (hc : ∀ c ∈ cs, c < 8) : rowIv n ((cs.map fun c => (c + t) % 8).zip ss) = rowIv n (cs.zip ss) := by
  unfold rowIv
  congr 1
  rw [List.zip_map_left]
  refine (mads_renamed (fun c => (c + t) % 8) (st0 n) (st0 n) (cs.zip ss) (fun c => c < 8) (fun p hp => hc p.1 (List.of_mem_zip hp).1) (fun c d h1 h2 h3 => ?_) (fun c _ => rfl)).symm
  have h4 : (c + t) % 8 = (d + t) % 8 := h3
  omega
theorem renamed_bytes {n t : Nat} {cs ss b b' : List Nat} (hc : ∀ c ∈ cs, c < 8) (h : BytesOf n cs ss b) (k : BytesOf n (cs.map fun c => (c + t) % 8) ss b') : b = b' := by
  obtain ⟨c, h1, rfl⟩ := h
  obtain ⟨d, h2, rfl⟩ := k
  rw [renamed_row n t cs ss hc] at h2
  rw [isCode_one h1 h2]
def OtherAt (w : World) (t L : Nat) (cs : List Nat) (v i : Value) (wr : World) : Prop :=
  ∃ k : Nat, k ≤ L ∧ i = .int .i64 (k : Int) ∧ wr.ownsRow w.heap.size 3 1 v k (nts ((cs.take k).map fun c => (c + t) % 8)) ∧ Below w.heap.size w wr

set_option maxHeartbeats 6400000 in
set_option maxRecDepth 100000 in
theorem walk (sy : Int) (A : Option Addr) (L c : Nat) (a : List Int) (A' : Option Addr) (L' c' : Nat) (l : List Int) (tz : Int) (w : World) (_ : -9223372036854775808 ≤ sy) (_ : sy ≤ 9223372036854775807) (_ : (A = none → c = 0) ∧ L ≤ c) (_ : ∀ x ∈ a, -9223372036854775808 ≤ x ∧ x ≤ 9223372036854775807) (h : Reads w A L (ints a)) (_ : (A' = none → c' = 0) ∧ L' ≤ c') (_ : ∀ x ∈ l, -9223372036854775808 ≤ x ∧ x ≤ 9223372036854775807) (h' : Reads w A' L' (ints l)) (t0 : 0 ≤ tz) (t1 : tz ≤ 255) :
    Calls Tryd.prog 8 #[.int .i64 sy, .slice A L c, .slice A' L' c', .int .u8 tz] w fun e w' => e = .returned (.bool true) ∧ Below w.heap.size w w' := by
  obtain ⟨i0, hi, hz0, hz1, hz2⟩ := info_parts Tryd.infoInt
  have HI := Lib.hid hi
  have HZ := Lib.hid (And.intro hz0 (And.intro hz1 hz2))
  clear hi hz0 hz1 hz2
  obtain ⟨t, rfl⟩ : ∃ t : Nat, tz = t := ⟨tz.toNat, by omega⟩
  have HR := Lib.hid h
  have HR' := Lib.hid h'
  clear h h'
  go_enter Tryd.func8, Tryd.ntmps8
  go_wp2_with fail
  refine (awake5_true w).mono ?_
  rintro e w1 ⟨rfl, b1⟩
  have B1 := Lib.hid b1
  clear b1
  by_cases hg : 200 < L ∨ 200 < L'
  · have KG := great5_any w1 A A' L L' c c'
    rw [show (decide (200 < L) || decide (200 < L')) = true by rcases hg with h | h <;> simp [h]] at KG
    have HG := Lib.hid KG
    clear KG hg
    go_wp2_with fail
    refine HG.out.mono ?_
    rintro e w2 ⟨rfl, rfl⟩
    go_wp2_with fail
    refine (awake5_true w1).mono ?_
    rintro e w2 ⟨rfl, b2⟩
    have B2 := Lib.hid (B1.out.trans (b2.mono B1.out.size))
    clear b2
    go_wp2
    go_ret
    exact ⟨rfl, B2.out⟩
  · have KG := great5_any w1 A A' L L' c c'
    rw [show (decide (200 < L) || decide (200 < L')) = false by simp; omega] at KG
    have HG := Lib.hid KG
    have hL : L ≤ 200 := by omega
    have hL' : L' ≤ 200 := by omega
    clear KG hg
    go_wp2_with fail
    refine HG.out.mono ?_
    rintro e w2 ⟨rfl, rfl⟩
    have KF := fits5_any w1 A A' L L' c c' sy 8 a l (HR.out.below B1.out) (HR'.out.below B1.out)
    by_cases hf : fitsOf sy 8 a l = 0
    · rw [hf] at KF
      have HF := Lib.hid KF
      have r := fits_row hf
      have hl := HR.out.len
      have hl' := HR'.out.len
      have hll := r.len
      obtain rfl : L = L' := by omega
      have r1 := r.isy
      have r2 := r.icx
      obtain ⟨n, rfl⟩ : ∃ n : Nat, sy = n := ⟨sy.toNat, by omega⟩
      obtain ⟨e1, e2⟩ := below_nats r.syms
      obtain ⟨e3, e4⟩ := below_nats (m := 8) r.ctx
      have h1 := HR.out
      have h2 := HR'.out
      rw [e1] at h1
      rw [e3] at h2
      have R1 := Lib.hid h1
      have R2 := Lib.hid h2
      have hn0 : 0 < n := by omega
      have hn : n ≤ 256 := by omega
      have HS := Lib.hid e2
      have HC := Lib.hid e4
      have hls := length_nats a
      have hlc := length_nats l
      have HLS := Lib.hid (show (nats a).length = L by rw [hls, hl])
      have HLC := Lib.hid (show (nats l).length = L by rw [hlc, hl'])
      generalize nats a = ss at *
      generalize nats l = cs at *
      have KE := Lib.hid (fun w' (b : Below w.heap.size w w') => show Calls Tryd.prog 12 #[.int .i64 (n : Int), .int .i64 8, .slice A L c, .slice A' L c'] w' (Encoded w' n cs ss) from menc_ok w' A A' L c c' n 8 ss cs (R1.out.below b) (R2.out.below b) (by omega) hn0 hn (by decide) (by decide) HS.out HC.out)
      have KE3 := Lib.hid (fun w' (b : Below w.heap.size w w') => show Calls Tryd.prog 12 #[.int .i64 (n : Int), .int .i64 64, .slice A L c, .slice A' L c'] w' (Encoded w' n cs ss) from menc_ok w' A A' L c c' n 64 ss cs (R1.out.below b) (R2.out.below b) (by omega) hn0 hn (by decide) (by decide) HS.out (fun x hx => by have := HC.out x hx; omega))
      clear r hl hl' hll r1 r2 e1 e2 e3 e4 h1 h2 hls hlc hf KF
      go_wp2_with fail
      refine HF.out.mono ?_
      rintro e w2 ⟨rfl, rfl⟩
      go_wp2_with fail
      go_loopw [9, 35] (OtherAt w t L cs) (fun _ i _ => L - (intOf i).toNat)
      case atStart => exact ⟨0, Nat.zero_le _, rfl, World.ownsRow_nil _ _ _ _, B1.out⟩
      case round =>
        obtain ⟨k, hk, rfl, how, hb⟩ := hrel
        have HO := Lib.hid how
        have HB := Lib.hid hb
        clear how hb
        by_cases hlt : k < L
        · obtain ⟨ad, rfl, ckw⟩ := R2.out.nat k hlt
          have ck := (HB.out.cell (World.block_lt_of_cell? _ _ ckw)).trans ckw
          have hkl : k < cs.length := by rw [HLC.out]; exact hlt
          have hcn := getD_lt HC.out k hkl
          have HSN := Lib.hid (show nts ((cs.take (k + 1)).map fun c => (c + t) % 8) = nts ((cs.take k).map fun c => (c + t) % 8) ++ [.int .i64 (((cs.getD k 0 + t) % 8 : Nat) : Int)] by
            rw [take_getD cs k hkl, List.map_append]
            simp [nts])
          generalize cs.getD k 0 = x at *
          obtain ⟨y, hy⟩ : ∃ y : Nat, y = (x + t) % 8 := ⟨_, rfl⟩
          rw [← hy] at HSN
          have hy8 : y < 8 := by omega
          have m1 : ((x : Int) + (t : Int)) % 8 = (y : Int) := by omega
          have m2 : ((x : Int) + (t : Int)).tmod 8 = (y : Int) := by rw [Int.tmod_eq_emod_of_nonneg (by omega)]; exact m1
          have tk : (k : Int) < L := by omega
          clear ckw hkl hy
          go_wp2_with (at_builtin; refine wpList_append_lies _ rfl (.tmp 39) (.tmp 45) 22 rfl w.heap.size 3 i0 (.int .i64 0) 1 8 Tryd.underlying22 HI.out HZ.out.1 HZ.out.2.1 HZ.out.2.2 rfl (by decide) u9 k (nts ((cs.take k).map fun c => (c + t) % 8)) rfl (HO.out.alloc _) ⟨wr.heap.size, 0, none⟩ 1 1 [.int .i64 (y : Int)] rfl rfl (cell_one_new _ _ _) ?c2 (by decide) ?b1 ?b2 ?b3 (wr.heap.size + 1) ?b4 ?_)
          case c2 => intro u hu; rw [List.mem_singleton.1 hu]; rfl
          case b1 => unfold maxLen; omega
          case b2 => omega
          case b3 => have := HB.out.size; simp; omega
          case b4 => simp
          intro q cap w2 hown hgr hq hlt1
          have O1 := Lib.hid (show w2.ownsRow w.heap.size 3 1 (.slice (some ⟨q, 0, none⟩) (k + 1) cap) (k + 1) (nts ((cs.take (k + 1)).map fun c => (c + t) % 8)) by rw [HSN.out, List.map_take]; exact hown)
          have Bn := Lib.hid ((HB.out.alloc HB.out.size (.cells #[.int .i64 (y : Int)] 3)).grown hgr (by have := HB.out.size; simp; omega) (fun j e => (HO.out.lt j e).1))
          clear hown hgr hq hlt1
          go_wp2_with fail
          exact ⟨⟨k + 1, by omega, by go_num, O1.out, Bn.out⟩, by simp [intOf]; omega⟩
        · obtain rfl : k = L := by omega
          have tk : ¬ (k : Int) < k := by omega
          have ho := HO.out
          rw [List.take_of_length_le (by rw [HLC.out]; exact Nat.le_refl _)] at ho
          obtain ⟨A5, c5, hu, _, r5⟩ := Reads.of_own ho
          subst hu
          have R5 := Lib.hid r5
          have HM := Lib.hid (show ∀ x ∈ cs.map (fun c => (c + t) % 8), x < 8 from fun x hx => by
            obtain ⟨z, _, rfl⟩ := List.mem_map.1 hx
            omega)
          have KE2 := Lib.hid (fun w' (b : Below wr.heap.size wr w') => show Calls Tryd.prog 12 #[.int .i64 (n : Int), .int .i64 8, .slice A k c, .slice A5 k c5] w' (Encoded w' n (cs.map fun c => (c + t) % 8) ss) from menc_ok w' A A5 k c c5 n 8 ss _ ((R1.out.below HB.out).below b) (R5.out.below b) (by omega) hn0 hn (by decide) (by decide) HS.out HM.out)
          clear ho r5
          go_wp2_with fail
          refine (KE.out wr HB.out).mono ?_
          rintro e w3 ⟨b1, v1, rfl, hb1, ow1, bw3⟩
          obtain ⟨Ab1, cb1, rfl, _, rb1⟩ := Reads.of_own ow1
          have B3 := Lib.hid (HB.out.trans (bw3.mono HB.out.size))
          have D3 := Lib.hid bw3
          have H1 := Lib.hid hb1
          have RB1 := Lib.hid rb1
          clear hb1 ow1 bw3 rb1
          go_wp2_with fail
          refine (KE2.out w3 D3.out).mono ?_
          rintro e w4 ⟨b2, v2, rfl, hb2, ow2, bw4⟩
          obtain rfl := renamed_bytes HC.out H1.out hb2
          obtain ⟨Ab2, cb2, rfl, _, rb2⟩ := Reads.of_own ow2
          have B4 := Lib.hid (B3.out.trans (bw4.mono B3.out.size))
          have RB14 := Lib.hid (RB1.out.below bw4)
          have RB2 := Lib.hid rb2
          clear hb2 ow2 bw4 rb2
          go_wp2_with fail
          refine (KE3.out w4 B4.out).mono ?_
          rintro e w5 ⟨b3, v3, rfl, hb3, ow3, bw5⟩
          obtain rfl := H1.out.one hb3
          obtain ⟨Ab3, cb3, rfl, _, rb3⟩ := Reads.of_own ow3
          have B5 := Lib.hid (B4.out.trans (bw5.mono B4.out.size))
          have q1 := run_bstr w5 Ab1 b1.length cb1 b1 (RB14.out.below bw5)
          have q2 := run_bstr w5 Ab2 b1.length cb2 b1 (RB2.out.below bw5)
          have q3 := run_bstr w5 Ab3 b1.length cb3 b1 rb3
          have q4 : ((bstr b1).toList == (bstr b1).toList) = true := by simp
          generalize bstr b1 = s1 at *
          generalize b1.length = nb at *
          clear hb3 ow3 bw5 rb3
          go_wp2
          go_ret
          exact ⟨rfl, B5.out⟩
    · have HF := Lib.hid KF
      generalize fitsOf sy 8 a l = f at *
      have t1 : ((f : Int) != 0) = true := by rw [bne_iff_ne]; omega
      clear hf KF
      go_wp2_with fail
      refine HF.out.mono ?_
      rintro e w2 ⟨rfl, rfl⟩
      go_wp2_with fail
      refine (awake5_true w1).mono ?_
      rintro e w2 ⟨rfl, b2⟩
      have B2 := Lib.hid (B1.out.trans (b2.mono B1.out.size))
      clear b2
      go_wp2
      go_ret
      exact ⟨rfl, B2.out⟩

set_option maxRecDepth 100000 in
theorem lifted (os : Os) (started : os.Started) (H : Type) (enc : TypeId × Value → H) :
    ReturnsInHanded {} Tryd.checked os 8 .any (fun w args => (Rows.modelContextsSpec.pre enc Tryd.prog Tryd.f8 Rows.modelContextsRow.domain false w args ∧ laidMetH Tryd.prog Rows.modelContextsRow.laid w) ∧ sizedMet enc Tryd.prog Tryd.f8 (OpenSpec.ofChange Rows.modelContextsSpec) false w args)
      (Rows.modelContextsSpec.post enc Tryd.prog Tryd.f8 false true false false) := by
  refine returnsInHanded_of_change_and (C := Tryd.checked) (X := fun w _ => laidMetH Tryd.prog Rows.modelContextsRow.laid w) (fun _ _ _ hh h => h.of_heap hh) own_knob started (by kernel_rfl) Tryd.func8
    (ChangeSpec.witness_shaped (enc := enc) (C := Tryd.checked) (os := os) (X := fun w _ => laidMetH Tryd.prog Rows.modelContextsRow.laid w) false (World.laidAll Tryd.prog os Rows.modelContextsRow.laid) #[.int .i64 0, .slice none 0 0, .slice none 0 0, .int .u8 0] 8 (World.laidAll_os _ _ _)
      (World.shaped_of_ZipB (by kernel_rfl) (by kernel_rfl)) (by kernel_rfl) (by kernel_rfl) (by kernel_rfl)
      (by rw [MakeChecks.laidMetH_plain _ _ _ (by kernel_rfl)]; exact laidMet_laidAll _ (by kernel_rfl) (by kernel_rfl))) ?_
  intro W base args ds gs before hval0 hW hc _ _ _
  have hval : ∀ (j : Nat) t v, Tryd.f8.params[j]? = some t → args[j]? = some v → Value.okWide Tryd.prog W .any base t v := hval0
  have hW' := hW
  obtain ⟨p, q, hA0, hV, rfl, _, _⟩ := hW
  have hA : DataW.TrodAll enc Tryd.prog W 0 (fun _ => true) true Tryd.f8.params.toList args.toList ds p := hA0
  rw [Tryd.params8] at hA hval
  obtain ⟨v0, vs0, d0, ds0, p0, q0, hargs, rfl, rfl, h0, r0⟩ := trodAll_cons hA
  obtain ⟨v1, vs1, d1, ds1, p1, q1, rfl, rfl, rfl, h1, r1⟩ := trodAll_cons r0
  obtain ⟨v2, vs2, d2, ds2, p2, q2, rfl, rfl, rfl, h2, r2⟩ := trodAll_cons r1
  obtain ⟨v3, vs3, d3, ds3, p3, q3, rfl, rfl, rfl, h3, r3⟩ := trodAll_cons r2
  obtain ⟨rfl, rfl, rfl⟩ := trodAll_nil r3
  obtain rfl : args = #[v0, v1, v2, v3] := by cases args; simp_all
  obtain ⟨rfl, rfl⟩ := trodVars_none hV
  obtain ⟨a0, rfl, rfl, rfl, w0⟩ := open_int Tryd.underlying3 (hval 0 3 v0 rfl rfl) h0
  have bd0 := bounds_i64 w0
  have lt1 : ∀ x ∈ p1, x.block < W.heap.size := by obtain ⟨m, hm⟩ := h1; exact DataW.trod_lt m _ _ _ hm
  obtain ⟨a1, len1, cap1, rfl⟩ := okWide_slice Tryd.underlying22 (hval 1 22 v1 rfl rfl)
  obtain ⟨hc1, xs1, hx1, hr1⟩ := arg_ints h1
  have lt2 : ∀ x ∈ p2, x.block < W.heap.size := by obtain ⟨m, hm⟩ := h2; exact DataW.trod_lt m _ _ _ hm
  obtain ⟨a2, len2, cap2, rfl⟩ := okWide_slice Tryd.underlying22 (hval 2 22 v2 rfl rfl)
  obtain ⟨hc2, xs2, hx2, hr2⟩ := arg_ints h2
  obtain ⟨a3, rfl, rfl, rfl, w3⟩ := open_int Tryd.underlying5 (hval 3 5 v3 rfl rfl) h3
  have bd3 := bounds_u8 w3
  clear hA0 hval0
  refine (walk a0 a1 len1 cap1 xs1 a2 len2 cap2 xs2 a3 W (by omega) (by omega) hc1 hx1 hr1 hc2 hx2 hr2 (by omega) (by omega)).mono fun e W' ⟨he, bel⟩ => ?_
  subst he
  exact ⟨_, rfl, _, _, _, [], _, [], hW', trodAll_mk1 (shut_bool Tryd.underlying4 _), (trodAll_cons_mk (shut_int Tryd.underlying3 w0) (trodAll_cons_mk (Below.trod laid_out (by kernel_rfl) (of_decide_eq_true (by kernel_rfl)) h1 bel lt1) (trodAll_cons_mk (Below.trod laid_out (by kernel_rfl) (of_decide_eq_true (by kernel_rfl)) h2 bel lt2) (trodAll_cons_mk (shut_int Tryd.underlying5 w3) trodAll_mk0)))), rfl, bel.frame _, fun h => by cases h⟩

theorem over : Rows.ModelContextsSaid :=
  OpenClaim.holds_of_wide 8 Tryd.f8 rfl rfl rfl rfl rfl rfl rfl ⟨rfl, rfl, rfl, rfl, rfl⟩ rfl rfl rfl rfl rfl (by kernel_rfl) Tryd.func8 (by kernel_rfl)
    (of_decide_eq_true (by kernel_rfl)) (by unfold Func.isWrapper; first | (rw [if_pos (by decide +kernel)]; kernel_rfl) | (rw [if_neg (by decide +kernel)]; exact ⟨rfl, rfl⟩))
    (fun os started H enc _ => lifted os started H enc)

theorem plain (f : FuncId) (fn : Func) (hf : Tryd.pinned.checked.prog.funcNamed "gypsum/gypsumlaw05.ModelContexts" = some f) (hfn : Tryd.pinned.checked.prog.funcs[f]? = some fn) :
    false = Tryd.pinned.checked.prog.looks [] ∧ ∀ (j : Nat) t, fn.params[j]? = some t → Tryd.pinned.checked.prog.wantsStandIn t = false := by
  obtain rfl : f = 8 := Option.some.inj ((show Tryd.prog.funcNamed "gypsum/gypsumlaw05.ModelContexts" = some 8 by kernel_rfl).symm.trans hf) |>.symm
  obtain rfl : fn = Tryd.f8 := (Option.some.inj (Tryd.func8.symm.trans hfn)).symm
  refine ⟨by kernel_rfl, fun j t ht => ?_⟩
  rw [Tryd.params8] at ht
  have hm : t ∈ [3, 22, 22, 5] := by simpa using Array.mem_of_getElem? ht
  have hall : ([3, 22, 22, 5].all fun u => !Tryd.prog.wantsStandIn u) = true := by kernel_rfl
  exact (show Tryd.prog.wantsStandIn t = false by simpa using List.all_eq_true.1 hall t hm)

theorem proved : Rows.ModelContextsCardSaid :=
  Claim7.holds_tied_plain_at .later [] _ _ _ _ over (fun _ h => by cases h) (by kernel_rfl) (fun _ h => by cases h) modelContexts_row_tie rfl ⟨rfl, rfl⟩ (by kernel_rfl) rfl plain (by kernel_rfl)
end Go.Proofs.YtjbfgajognnmiaaDoor.modelContexts
