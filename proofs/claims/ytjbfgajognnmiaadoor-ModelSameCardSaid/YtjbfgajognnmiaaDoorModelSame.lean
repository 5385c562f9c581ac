/- ModelSame: of 800 to 1,055 symbols that are one, of 2 to 16, in one context, Encode answers fewer bytes than Plain tells, and Decode answers the row again. No condition. Its listed tables of the library are tied to the program's own text, and are not read. -/
import Derived.Test.YtjbfgajognnmiaaDoorMLaw
import Derived.Test.YtjbfgajognnmiaaDoorMRefP
import Derived.Test.YtjbfgajognnmiaaDoorMCodedL
import Derived.Test.YtjbfgajognnmiaaDoorArgInts
import Derived.Test.YtjbfgajognnmiaaDoorArgB4
import Derived.Test.YtjbfgajognnmiaaDoorCards
import Derived.Test.YtjbfgajognnmiaaDoorTie
import Derived.LaidMore
import Derived.Lay
import Derived.SevenTiedAt
import Derived.Stop.Joined
namespace Go.Proofs.YtjbfgajognnmiaaDoor.modelSame
open Go.ChangeShapes Go.WideShapes Go.ChangeAt Go.RowKit

theorem own_le {w : World} {B n c : Nat} {A : Option Addr} {xs : List Value} (h : w.ownsRow B 5 1 (.slice A n c) n xs) : n ≤ c := by
  rcases own_info h with ⟨e, rfl⟩ | ⟨q, c', e, hc⟩
  · exact Nat.zero_le _
  · simp only [Value.slice.injEq] at e
    omega
theorem same_row (n x L : Nat) : rowIv n ((List.replicate L 0).zip (List.replicate L x)) = (sm n x L).1 := by
  have h := (sm_mads n x L L (Nat.le_refl _)).1
  rw [List.take_of_length_le (by rw [length_mads, List.length_replicate]; exact Nat.le_refl _)] at h
  rw [List.zip_replicate, Nat.min_self]
  exact h
theorem same_few {n x L : Nat} {b : List Nat} (h2 : 2 ≤ n) (h16 : n ≤ 16) (hx : x < n) (hL : 800 ≤ L) (hL2 : L ≤ 2000) (h : BytesOf n (List.replicate L 0) (List.replicate L x) b) : b.length < plainLen n L := by
  obtain ⟨c, hc, rfl⟩ := h
  rw [same_row] at hc
  have h1 := sm_bytes n x (by omega) h16 hx L hL hL2 hc
  have hW : 1 ≤ wide (n : Int) := digits_pos _ (by omega)
  have hP : L * 1 ≤ L * wide (n : Int) := Nat.mul_le_mul_left _ hW
  have hp : c.length + 1 < plainLen n L := by unfold plainLen; omega
  rw [List.length_replicate, if_pos hp]
  exact hp
def SameRow (w : World) (x L q : Nat) (i : Value) (wr : World) : Prop :=
  ∃ k : Nat, k ≤ L ∧ i = .int .i64 (k : Int) ∧ wr.heap[q]? = some (.cells (laidRow (List.replicate k x) L).toArray 3 (0, 0)) ∧ Below w.heap.size w wr
theorem zeros_made (w : World) (L : Nat) : Reads (w.alloc (.cells (madeCells #[.int .i64 0] L) 3)) (some ⟨w.heap.size, 0, none⟩) L (nts (List.replicate L 0)) := by
  have h := laidRow_made w L
  have e : laidRow [] L = nts (List.replicate L 0) := by rw [laidRow_none]; simp [nts]
  rw [e] at h
  have := Reads.of_block h
  rwa [length_nts, List.length_replicate] at this

set_option maxHeartbeats 6400000 in
set_option maxRecDepth 100000 in
theorem walk (s0 s1 s2 : Int) (w : World) (a0 : 0 ≤ s0) (a1 : s0 ≤ 255) (b0 : 0 ≤ s1) (b1 : s1 ≤ 255) (c0 : 0 ≤ s2) (c1 : s2 ≤ 255) :
    Calls Tryd.prog 7 #[.int .u8 s0, .int .u8 s1, .int .u8 s2] w fun e w' => e = .returned (.bool true) ∧ Below w.heap.size w w' := by
  obtain ⟨n, hn⟩ : ∃ n : Nat, 2 + s0 % 15 = (n : Int) := ⟨(2 + s0 % 15).toNat, by omega⟩
  have hn2 : 2 ≤ n := by omega
  have hn16 : n ≤ 16 := by omega
  obtain ⟨L, hL⟩ : ∃ L : Nat, 800 + s2 = (L : Int) := ⟨(800 + s2).toNat, by omega⟩
  have hL8 : 800 ≤ L := by omega
  have hL2 : L ≤ 1055 := by omega
  obtain ⟨x, hx⟩ : ∃ x : Nat, s1 % (n : Int) = (x : Int) := ⟨(s1 % (n : Int)).toNat, by
    have := Int.emod_nonneg s1 (show (n : Int) ≠ 0 by omega)
    omega⟩
  have hxn : x < n := by
    have := Int.emod_lt_of_pos s1 (show (0 : Int) < n by omega)
    omega
  have hx2 : s1.tmod (n : Int) = (x : Int) := by rw [Int.tmod_eq_emod_of_nonneg b0]; exact hx
  have HN := Lib.hid hn
  have HLL := Lib.hid hL
  have HX := Lib.hid hx
  have HX2 := Lib.hid hx2
  have hmk := fun W => run_make_row' (P := Tryd.prog) 22 3 (.int .i64 0) 8 Tryd.underlying22 Tryd.infoInt rfl .i64 .i64 L (by omega) (by omega) W
  clear hn hL hx hx2
  go_enter Tryd.func7, Tryd.ntmps7
  go_wp2_with fail
  rw [HN.out]
  refine (awake5_true w).mono ?_
  rintro e w1 ⟨rfl, b1'⟩
  have B1 := Lib.hid b1'
  clear b1'
  have e1 : 800 + s2 = (L : Int) := HLL.out
  have M1 := Lib.hid (laidRow_made w1 L)
  have BM := Lib.hid (B1.out.trans ((mk_below w1 (.cells (madeCells #[.int .i64 0] L) 3)).mono B1.out.size))
  have S1 := Lib.hid (show w.heap.size ≤ w1.heap.size from B1.out.size)
  go_wp2_with fail
  clear e1
  go_loopw [26] (SameRow w x L w1.heap.size) (fun i _ => L - (intOf i).toNat)
  case atStart => exact ⟨0, Nat.zero_le _, rfl, M1.out, BM.out⟩
  case round =>
    obtain ⟨k, hk, rfl, hq, hb⟩ := hrel
    by_cases hlt : k < L
    · have hls : (List.replicate k x).length = k := List.length_replicate
      have c2 := laidRow_cell hq (by rw [hls]; exact hlt)
      have f2 := frozen_in hq k
      have s2' := heap_set hq k (.int .i64 (x : Int))
      have s3 := laidRow_set (List.replicate k x) L x (by rw [hls]; exact hlt)
      rw [hls] at c2 s3
      rw [s3, ← List.replicate_succ'] at s2'
      have Q := Lib.hid s2'
      have B := Lib.hid (hb.setCell (p := ⟨w1.heap.size, k, none⟩) S1.out (.int .i64 (x : Int)))
      have t1 : (k : Int) < L := by omega
      have x1 : s1 % (n : Int) = (x : Int) := HX.out
      have x2 : s1.tmod (n : Int) = (x : Int) := HX2.out
      have x3 : (n : Int) ≠ 0 := by omega
      have x4 : ((n : Int) == 0) = false := by simp; omega
      clear hq hb s2' s3 hls hmk
      go_wp2_with fail
      exact ⟨⟨k + 1, by omega, by go_num, Q.out, B.out⟩, by simp [intOf]; omega⟩
    · obtain rfl : k = L := by omega
      have t1 : ¬ (k : Int) < k := by omega
      have hls : (List.replicate k x).length = k := List.length_replicate
      have hqa := laidRow_all (List.replicate k x)
      rw [hls] at hqa
      rw [hqa] at hq
      have hr := Reads.of_block hq
      rw [length_nts, hls] at hr
      have bm := mk_below wr (.cells (madeCells #[.int .i64 0] k) 3)
      have RS := Lib.hid (hr.below bm)
      have HB := Lib.hid (hb.trans (bm.mono hb.size))
      have HZ1 := Lib.hid (show ∀ c ∈ List.replicate k 0, c < 1 from fun c hc => by rw [List.eq_of_mem_replicate hc]; omega)
      have HZX := Lib.hid (show ∀ s ∈ List.replicate k x, s < n from fun s hs => by rw [List.eq_of_mem_replicate hs]; exact hxn)
      have KE := Lib.hid (show Calls Tryd.prog 12 #[.int .i64 (n : Int), .int .i64 1, .slice (some ⟨w1.heap.size, 0, none⟩) k k, .slice (some ⟨wr.heap.size, 0, none⟩) k k] (wr.alloc (.cells (madeCells #[.int .i64 0] k) 3)) (Encoded (wr.alloc (.cells (madeCells #[.int .i64 0] k) 3)) n (List.replicate k 0) (List.replicate k x)) from
        menc_ok _ (some ⟨w1.heap.size, 0, none⟩) (some ⟨wr.heap.size, 0, none⟩) k k k n 1 (List.replicate k x) (List.replicate k 0) RS.out (zeros_made wr k) (by omega) (by omega) (by omega) (by decide) (by decide) HZX.out HZ1.out)
      have HLS := Lib.hid hls
      clear hq hqa hr bm hb hls
      go_wp2_with fail
      refine KE.out.mono ?_
      rintro e w2 ⟨b, v, rfl, hb, ow, b2⟩
      obtain ⟨Ab, cb, rfl, _, rb⟩ := Reads.of_own ow
      have hcb := own_le ow
      have hlt2 := same_few hn2 hn16 hxn hL8 (by omega) hb
      have B2 := Lib.hid (HB.out.trans (b2.mono HB.out.size))
      have HBB := Lib.hid hb
      have m2 := mk_below w2 (.cells (madeCells #[.int .i64 0] k) 3)
      have RS2 := Lib.hid ((RS.out.below b2).below m2)
      have B3 := Lib.hid (B2.out.trans (m2.mono B2.out.size))
      have KD := Lib.hid (show Calls Tryd.prog 16 #[.slice Ab b.length cb, .int .i64 (n : Int), .int .i64 1, .slice (some ⟨w2.heap.size, 0, none⟩) k k] (w2.alloc (.cells (madeCells #[.int .i64 0] k) 3)) (Decoded5 (w2.alloc (.cells (madeCells #[.int .i64 0] k) 3)) n k (List.replicate k 0) b) from
        mdec_ok _ Ab (some ⟨w2.heap.size, 0, none⟩) b.length cb k n 1 k b (List.replicate k 0) (rb.below m2) hb.dig hcb (zeros_made w2 k) (by omega) (by omega) (by decide) (by decide) (by omega) HZ1.out)
      have KP := Lib.hid (fun w' => mplain_any w' (some ⟨w1.heap.size, 0, none⟩) n k k (by omega) (by omega) (by omega))
      generalize plainLen n k = pl at *
      generalize hbn : b.length = nb at *
      have t2 : (nb : Int) < pl := by omega
      clear hb ow b2 rb m2 hcb hbn
      go_wp2_with fail
      refine KD.out.mono ?_
      rintro e w4 ⟨b4, ⟨tt, A4, c4, rfl, o1, o2, o3, o4⟩ | ⟨rfl, o1⟩⟩
      · obtain rfl : tt = List.replicate k x := BytesOf.inj (n := n) (by omega) (by omega) (by rw [o1, List.length_replicate]) (by rw [List.length_replicate, List.length_replicate]) o2 HZX.out o4 HBB.out
        have B4 := Lib.hid (B3.out.trans (b4.mono B3.out.size))
        have KI := Lib.hid (ints5_true w4 A4 (some ⟨w1.heap.size, 0, none⟩) k c4 k (List.replicate k x) o3 (RS2.out.below b4) (by omega))
        clear b4 o1 o2 o3 o4
        go_wp2_with fail
        refine (KP.out w4).mono ?_
        rintro e w5 ⟨rfl, rfl⟩
        go_wp2_with fail
        refine KI.out.mono ?_
        rintro e w5 ⟨rfl, b5⟩
        have B5 := Lib.hid (B4.out.trans b5.below)
        clear b5
        go_wp2
        go_ret
        exact ⟨rfl, B5.out⟩
      · exact absurd HBB.out (o1 _ HLS.out HZX.out)

set_option maxRecDepth 100000 in
theorem lifted (os : Os) (started : os.Started) (H : Type) (enc : TypeId × Value → H) :
    ReturnsInHanded {} Tryd.checked os 7 .any (fun w args => (Rows.modelSameSpec.pre enc Tryd.prog Tryd.f7 Rows.modelSameRow.domain false w args ∧ laidMetH Tryd.prog Rows.modelSameRow.laid w) ∧ sizedMet enc Tryd.prog Tryd.f7 (OpenSpec.ofChange Rows.modelSameSpec) false w args)
      (Rows.modelSameSpec.post enc Tryd.prog Tryd.f7 false true false false) := by
  refine returnsInHanded_of_change_and (C := Tryd.checked) (X := fun w _ => laidMetH Tryd.prog Rows.modelSameRow.laid w) (fun _ _ _ hh h => h.of_heap hh) own_knob started (by kernel_rfl) Tryd.func7
    (ChangeSpec.witness_shaped (enc := enc) (C := Tryd.checked) (os := os) (X := fun w _ => laidMetH Tryd.prog Rows.modelSameRow.laid w) false (World.laidAll Tryd.prog os Rows.modelSameRow.laid) #[.int .u8 0, .int .u8 0, .int .u8 0] 8 (World.laidAll_os _ _ _)
      (World.shaped_of_ZipB (by kernel_rfl) (by kernel_rfl)) (by kernel_rfl) (by kernel_rfl) (by kernel_rfl)
      (by rw [MakeChecks.laidMetH_plain _ _ _ (by kernel_rfl)]; exact laidMet_laidAll _ (by kernel_rfl) (by kernel_rfl))) ?_
  intro W base args ds gs before hval0 hW hc _ _ _
  have hval : ∀ (j : Nat) t v, Tryd.f7.params[j]? = some t → args[j]? = some v → Value.okWide Tryd.prog W .any base t v := hval0
  have hW' := hW
  obtain ⟨p, q, hA0, hV, rfl, _, _⟩ := hW
  have hA : DataW.TrodAll enc Tryd.prog W 0 (fun _ => true) true Tryd.f7.params.toList args.toList ds p := hA0
  rw [Tryd.params7] at hA hval
  obtain ⟨v0, vs0, d0, ds0, p0, q0, hargs, rfl, rfl, h0, r0⟩ := trodAll_cons hA
  obtain ⟨v1, vs1, d1, ds1, p1, q1, rfl, rfl, rfl, h1, r1⟩ := trodAll_cons r0
  obtain ⟨v2, vs2, d2, ds2, p2, q2, rfl, rfl, rfl, h2, r2⟩ := trodAll_cons r1
  obtain ⟨rfl, rfl, rfl⟩ := trodAll_nil r2
  obtain rfl : args = #[v0, v1, v2] := by cases args; simp_all
  obtain ⟨rfl, rfl⟩ := trodVars_none hV
  obtain ⟨a0, rfl, rfl, rfl, w0⟩ := open_int Tryd.underlying5 (hval 0 5 v0 rfl rfl) h0
  have bd0 := bounds_u8 w0
  obtain ⟨a1, rfl, rfl, rfl, w1⟩ := open_int Tryd.underlying5 (hval 1 5 v1 rfl rfl) h1
  have bd1 := bounds_u8 w1
  obtain ⟨a2, rfl, rfl, rfl, w2⟩ := open_int Tryd.underlying5 (hval 2 5 v2 rfl rfl) h2
  have bd2 := bounds_u8 w2
  clear hA0 hval0
  refine (walk a0 a1 a2 W (by omega) (by omega) (by omega) (by omega) (by omega) (by omega)).mono fun e W' ⟨he, bel⟩ => ?_
  subst he
  exact ⟨_, rfl, _, _, _, [], _, [], hW', trodAll_mk1 (shut_bool Tryd.underlying4 _), (trodAll_cons_mk (shut_int Tryd.underlying5 w0) (trodAll_cons_mk (shut_int Tryd.underlying5 w1) (trodAll_cons_mk (shut_int Tryd.underlying5 w2) trodAll_mk0))), rfl, bel.frame _, fun h => by cases h⟩

theorem over : Rows.ModelSameSaid :=
  OpenClaim.holds_of_wide 7 Tryd.f7 rfl rfl rfl rfl rfl rfl rfl ⟨rfl, rfl, rfl, rfl, rfl⟩ rfl rfl rfl rfl rfl (by kernel_rfl) Tryd.func7 (by kernel_rfl)
    (of_decide_eq_true (by kernel_rfl)) (by unfold Func.isWrapper; first | (rw [if_pos (by decide +kernel)]; kernel_rfl) | (rw [if_neg (by decide +kernel)]; exact ⟨rfl, rfl⟩))
    (fun os started H enc _ => lifted os started H enc)

theorem plain (f : FuncId) (fn : Func) (hf : Tryd.pinned.checked.prog.funcNamed "gypsum/gypsumlaw05.ModelSame" = some f) (hfn : Tryd.pinned.checked.prog.funcs[f]? = some fn) :
    false = Tryd.pinned.checked.prog.looks [] ∧ ∀ (j : Nat) t, fn.params[j]? = some t → Tryd.pinned.checked.prog.wantsStandIn t = false := by
  obtain rfl : f = 7 := Option.some.inj ((show Tryd.prog.funcNamed "gypsum/gypsumlaw05.ModelSame" = some 7 by kernel_rfl).symm.trans hf) |>.symm
  obtain rfl : fn = Tryd.f7 := (Option.some.inj (Tryd.func7.symm.trans hfn)).symm
  refine ⟨by kernel_rfl, fun j t ht => ?_⟩
  rw [Tryd.params7] at ht
  have hm : t ∈ [5, 5, 5] := by simpa using Array.mem_of_getElem? ht
  have hall : ([5, 5, 5].all fun u => !Tryd.prog.wantsStandIn u) = true := by kernel_rfl
  exact (show Tryd.prog.wantsStandIn t = false by simpa using List.all_eq_true.1 hall t hm)

theorem proved : Rows.ModelSameCardSaid :=
  Claim7.holds_tied_plain_at .later [] _ _ _ _ over (fun _ h => by cases h) (by kernel_rfl) (fun _ h => by cases h) modelSame_row_tie rfl ⟨rfl, rfl⟩ (by kernel_rfl) rfl plain (by kernel_rfl)
end Go.Proofs.YtjbfgajognnmiaaDoor.modelSame
