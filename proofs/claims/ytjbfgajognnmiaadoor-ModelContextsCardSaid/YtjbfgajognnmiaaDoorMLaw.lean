/- What layer 5's statements call: ints, great, awake. -/
import Derived.Test.YtjbfgajognnmiaaDoorGModel
namespace Go.Proofs.YtjbfgajognnmiaaDoor
open Go.RowKit

/-- Two rows with like contexts that have the same bytes are one. -/
theorem BytesOf.inj {n : Nat} {cs ss tt b : List Nat} (h0 : 0 < n) (hn : n ≤ 256) (h1 : ss.length = cs.length) (h2 : tt.length = cs.length) (hs : ∀ s ∈ ss, s < n) (ht : ∀ s ∈ tt, s < n) (h : BytesOf n cs ss b) (k : BytesOf n cs tt b) : ss = tt := by
  match b, h, k with
  | [], h, _ => exact absurd h.pos (by simp)
  | d :: b, h, k =>
    rcases h.other with rfl | rfl
    · have e := h.plain.symm.trans k.plain
      have e2 := pack_one (bs := pbits n ss) (L := cs.length) (by rw [length_pbits, h1]) h2 e
      rw [← syms5_pbits n ss hs, e2, h1, ← h2, syms5_pbits n tt ht]
    · have a1 := isCode_inside (row_good h0 hn _ (zip_lt hs)) h.coded
      have a2 := isCode_inside (row_good h0 hn _ (zip_lt ht)) k.coded
      exact mads_inj (allOk_st0 n h0 hn) cs ss tt h1 h2 hs ht (isCode_dig h.coded) firstIv a1 a2

def IntsAt (w : World) (n : Nat) (i : Value) (wr : World) : Prop := ∃ k : Nat, k ≤ n ∧ i = .int .i64 (k : Int) ∧ Reading w wr

set_option maxHeartbeats 1000000 in
set_option maxRecDepth 100000 in
theorem ints5_true (w : World) (A A' : Option Addr) (n c c' : Nat) (l : List Nat) (h : Reads w A n (nts l)) (h' : Reads w A' n (nts l)) (hn : n ≤ 1000000) :
    Calls Tryd.prog 17 #[.slice A n c, .slice A' n c'] w fun e w' => e = .returned (.bool true) ∧ Reading w w' := by
  have H1 := Lib.hid h
  have H2 := Lib.hid h'
  have t0 : ((n : Int) != (n : Int)) = false := by simp
  clear h h'
  go_enter Tryd.func17, Tryd.ntmps17
  go_wp2_with fail
  go_loopw [13] (IntsAt w n) (fun i _ => n - (intOf i).toNat)
  case atStart => exact ⟨0, Nat.zero_le _, rfl, Reading.refl w⟩
  case round =>
    obtain ⟨k, hk, rfl, hs⟩ := hrel
    by_cases hlt : k < n
    · obtain ⟨ad, rfl, d1⟩ := (H1.out.read hs).nat k hlt
      obtain ⟨ad', rfl, d2⟩ := (H2.out.read hs).nat k hlt
      generalize l.getD k 0 = x at *
      have t : ((x : Int) != (x : Int)) = false := by simp
      have b1 : (k : Int) < n := by omega
      have HS := Lib.hid hs
      clear hs
      go_wp2_with fail
      go_quiet (fail)
      go_wp2
      refine ⟨⟨k + 1, by omega, by go_num, HS.out.trans ⟨_, rfl⟩⟩, by simp [intOf]; omega⟩
    · obtain rfl : k = n := by omega
      have b1 : ¬ (k : Int) < k := by omega
      have HS := Lib.hid hs
      clear hs
      go_wp2
      go_ret
      exact ⟨rfl, HS.out⟩

theorem great5_any (w : World) (A A' : Option Addr) (n n' c c' : Nat) : Calls Tryd.prog 11 #[.slice A n c, .slice A' n' c'] w fun e w' => e = .returned (.bool (decide (200 < n) || decide (200 < n'))) ∧ w = w' := by
  by_cases h : 200 < n
  · have e0 : (decide (200 < n) || decide (200 < n')) = true := by simp [h]
    rw [e0]
    have t1 : (200 : Int) < n := by omega
    clear e0 h
    go_enter Tryd.func11, Tryd.ntmps11
    go_wp2
    go_ret
    exact ⟨rfl, rfl⟩
  · have t1 : ¬ (200 : Int) < n := by omega
    have d1 : decide ((200 : Int) < n) = false := by simpa using t1
    by_cases h' : 200 < n'
    · have e0 : (decide (200 < n) || decide (200 < n')) = true := by simp [h']
      rw [e0]
      have t2 : (200 : Int) < n' := by omega
      have d2 : decide ((200 : Int) < n') = true := by simpa using t2
      clear e0 h h' t1 t2
      go_enter Tryd.func11, Tryd.ntmps11
      go_wp2
      go_ret
      exact ⟨rfl, rfl⟩
    · have e0 : (decide (200 < n) || decide (200 < n')) = false := by simp [h, h']
      rw [e0]
      have t2 : ¬ (200 : Int) < n' := by omega
      have d2 : decide ((200 : Int) < n') = false := by simpa using t2
      clear e0 h h' t1 t2
      go_enter Tryd.func11, Tryd.ntmps11
      go_wp2
      go_ret
      exact ⟨rfl, rfl⟩

/-- The document's example. -/
theorem awake_bytes {b : List Nat} (h : BytesOf 4 [0, 0, 0] [3, 0, 2] b) : b = [0, 200] := by
  obtain ⟨c, hc, rfl⟩ := h
  have hg : (rowIv 4 ([0, 0, 0].zip [3, 0, 2])).Good := row_good (by decide) (by decide) _ (by decide)
  have hi := isCode_inside hg hc
  have hne : c ≠ [] := by
    intro e
    subst e
    have h1 := hi.1
    have h2 : ¬ (rowIv 4 ([0, 0, 0].zip [3, 0, 2])).L ≤ scale [] (4 + (rowIv 4 ([0, 0, 0].zip [3, 0, 2])).k) := by decide +kernel
    exact h2 h1
  have hl : 0 < c.length := by
    rcases Nat.eq_zero_or_pos c.length with h0 | h0
    · exact absurd (List.eq_nil_of_length_eq_zero h0) hne
    · exact h0
  have hp : plainLen 4 ([3, 0, 2] : List Nat).length = 2 := by decide +kernel
  rw [if_neg (by rw [hp]; omega)]
  decide +kernel

theorem reads_made (w : World) (l : List Nat) : Reads (w.alloc (.cells (nts l).toArray 3)) (some ⟨w.heap.size, 0, none⟩) l.length (nts l) := by
  have := Reads.of_block (w := w.alloc (.cells (nts l).toArray 3)) (q := w.heap.size) (xs := nts l) (t := 3) (heap_alloc_new _ _)
  rwa [length_nts] at this

set_option maxHeartbeats 2000000 in
set_option maxRecDepth 100000 in
theorem awake5_true (w : World) : Calls Tryd.prog 10 #[] w fun e w' => e = .returned (.bool true) ∧ Below w.heap.size w w' := by
  have b1 := mk_below w (.cells #[.int .i64 3, .int .i64 0, .int .i64 2] 3)
  have b2 := mk_below (w.alloc (.cells #[.int .i64 3, .int .i64 0, .int .i64 2] 3)) (.cells #[.int .i64 0, .int .i64 0, .int .i64 0] 3)
  have hsz : (w.alloc (.cells #[.int .i64 3, .int .i64 0, .int .i64 2] 3)).heap.size = w.heap.size + 1 := by simp
  have r1 : Reads ((w.alloc (.cells #[.int .i64 3, .int .i64 0, .int .i64 2] 3)).alloc (.cells #[.int .i64 0, .int .i64 0, .int .i64 0] 3)) (some ⟨w.heap.size, 0, none⟩) 3 (nts [3, 0, 2]) := (show Reads (w.alloc (.cells #[.int .i64 3, .int .i64 0, .int .i64 2] 3)) (some ⟨w.heap.size, 0, none⟩) 3 (nts [3, 0, 2]) from reads_made w [3, 0, 2]).below b2
  have r2 : Reads ((w.alloc (.cells #[.int .i64 3, .int .i64 0, .int .i64 2] 3)).alloc (.cells #[.int .i64 0, .int .i64 0, .int .i64 0] 3)) (some ⟨w.heap.size + 1, 0, none⟩) 3 (nts [0, 0, 0]) := by
    have := reads_made (w.alloc (.cells #[.int .i64 3, .int .i64 0, .int .i64 2] 3)) [0, 0, 0]
    rw [hsz] at this
    exact this
  have KE : Calls Tryd.prog 12 #[.int .i64 4, .int .i64 1, .slice (some ⟨w.heap.size, 0, none⟩) 3 3, .slice (some ⟨w.heap.size + 1, 0, none⟩) 3 3] ((w.alloc (.cells #[.int .i64 3, .int .i64 0, .int .i64 2] 3)).alloc (.cells #[.int .i64 0, .int .i64 0, .int .i64 0] 3)) (Encoded ((w.alloc (.cells #[.int .i64 3, .int .i64 0, .int .i64 2] 3)).alloc (.cells #[.int .i64 0, .int .i64 0, .int .i64 0] 3)) 4 [0, 0, 0] [3, 0, 2]) :=
    menc_ok _ (some ⟨w.heap.size, 0, none⟩) (some ⟨w.heap.size + 1, 0, none⟩) 3 3 3 4 1 [3, 0, 2] [0, 0, 0] r1 r2 (by decide) (by decide) (by decide) (by decide) (by decide) (by decide) (by decide)
  have HE := Lib.hid KE
  have B0 := Lib.hid (show Below w.heap.size w ((w.alloc (.cells #[.int .i64 3, .int .i64 0, .int .i64 2] 3)).alloc (.cells #[.int .i64 0, .int .i64 0, .int .i64 0] 3)) from b1.trans (b2.mono (by simp)))
  clear b1 b2 r1 r2 KE hsz
  go_enter Tryd.func10, Tryd.ntmps10
  go_wp2_with fail
  refine HE.out.mono ?_
  rintro e w1 ⟨b, v, rfl, hb, ow, b1⟩
  obtain rfl := awake_bytes hb
  obtain ⟨q, cap, rest, rfl, hrow, hcap, _, _, _⟩ := own_block ow (by decide)
  have B1 := Lib.hid (B0.out.trans (b1.mono B0.out.size))
  have HB := Lib.hid hb
  have R1 := Lib.hid hrow
  have HC := Lib.hid hcap
  have RB : Reads w1 (some ⟨q, 0, none⟩) 2 (bts [0, 200]) := by
    obtain ⟨A, c, e, _, r⟩ := Reads.of_own ow
    simp only [Value.slice.injEq] at e
    rw [e.1]
    exact r
  have b2 := mk_below w1 (.cells #[.int .i64 0, .int .i64 0, .int .i64 0] 3)
  have KD : Calls Tryd.prog 16 #[.slice (some ⟨q, 0, none⟩) 2 cap, .int .i64 4, .int .i64 1, .slice (some ⟨w1.heap.size, 0, none⟩) 3 3] (w1.alloc (.cells #[.int .i64 0, .int .i64 0, .int .i64 0] 3)) (Decoded5 (w1.alloc (.cells #[.int .i64 0, .int .i64 0, .int .i64 0] 3)) 4 3 [0, 0, 0] [0, 200]) :=
    mdec_ok _ (some ⟨q, 0, none⟩) (some ⟨w1.heap.size, 0, none⟩) 2 cap 3 4 1 3 [0, 200] [0, 0, 0] (RB.below b2) (by unfold Dig; decide) hcap (reads_made w1 [0, 0, 0]) (by decide) (by decide) (by decide) (by decide) (by decide) (by decide)
  have HD := Lib.hid KD
  have B2 := Lib.hid (B1.out.trans (b2.mono B1.out.size))
  have C1 := Lib.hid (fun w' (bb : Below w1.heap.size w1 w') => show w'.cell? ⟨q, 0, none⟩ = some (.int .u8 0) ∧ w'.cell? ⟨q, 1, none⟩ = some (.int .u8 200) from
    ⟨(bb.cell (World.block_lt_of_cell? _ _ (hrow.cell 0 (by decide)))).trans (hrow.cell 0 (by decide)), (bb.cell (World.block_lt_of_cell? _ _ (hrow.cell 1 (by decide)))).trans (hrow.cell 1 (by decide))⟩)
  have BB := Lib.hid b2
  clear b1 b2 ow hrow RB KD hb hcap
  go_wp2_with fail
  refine HD.out.mono ?_
  rintro e w2 ⟨b3, ⟨ss, A3, c3, rfl, o1, o2, o3, o4⟩ | ⟨rfl, o1⟩⟩
  · obtain rfl : ss = [3, 0, 2] := BytesOf.inj (n := 4) (cs := [0, 0, 0]) (by decide) (by decide) o1 rfl o2 (by decide) o4 HB.out
    have B3 := Lib.hid (B2.out.trans (b3.mono B2.out.size))
    obtain ⟨k0, k1⟩ := C1.out w2 (BB.out.trans (b3.mono BB.out.size))
    have b4 := mk_below w2 (.cells #[.int .i64 3, .int .i64 0, .int .i64 2] 3)
    have KI := Lib.hid (ints5_true _ A3 (some ⟨w2.heap.size, 0, none⟩) 3 c3 3 [3, 0, 2] (o3.below b4) (show Reads (w2.alloc (.cells #[.int .i64 3, .int .i64 0, .int .i64 2] 3)) (some ⟨w2.heap.size, 0, none⟩) 3 (nts [3, 0, 2]) from reads_made w2 [3, 0, 2]) (by decide))
    have B4 := Lib.hid (B3.out.trans (b4.mono B3.out.size))
    have KP := Lib.hid (fun w' => show Calls Tryd.prog 18 #[.int .i64 4, .slice A3 3 c3] w' fun e w'' => e = .returned (.int .i64 2) ∧ w' = w'' from mplain_any w' A3 4 3 c3 (by decide) (by decide) (by decide))
    clear b3 o1 o2 o3 o4 b4
    go_wp2_with fail
    refine KI.out.mono ?_
    rintro e w4 ⟨rfl, b5⟩
    have B5 := Lib.hid (B4.out.trans b5.below)
    clear b5
    go_wp2_with fail
    refine (KP.out w4).mono ?_
    rintro e w5 ⟨rfl, rfl⟩
    go_wp2
    go_ret
    exact ⟨rfl, B5.out⟩
  · exact absurd HB.out (o1 [3, 0, 2] rfl (by decide))
end Go.Proofs.YtjbfgajognnmiaaDoor
