/- Pack (layer 7). -/
import Derived.Test.YtngambkbpdjddaaBoxCat
import Derived.Deep.DeepCutAuto
namespace Go.Proofs.Ytngambkbpdjddaa
open Go.RowKit

theorem zero4_rep : List.replicate 4 0 = zero4 := rfl
/-- The pieces of a container, so far. -/
def pcs (l : List (Nat × List Nat)) (k : Nat) : List (List Nat) := [fixedPart l.length, tableB l, zero4] ++ (l.map (·.2)).take k
theorem pcs_succ (l : List (Nat × List Nat)) (k : Nat) (h : k < l.length) : pcs l (k + 1) = pcs l k ++ [(l.getD k (0, [])).2] := by
  unfold pcs
  rw [List.append_assoc, List.take_succ_eq_append_getElem (by simpa using h), List.getElem_map, List.getD_eq_getElem?_getD, List.getElem?_eq_getElem h]
  rfl
theorem pcs_box (l : List (Nat × List Nat)) : (pcs l l.length ++ [zero4, tableB l, fixedPart l.length]).flatten = boxB l := by
  unfold pcs boxB headB dataB
  rw [List.take_of_length_le (by simp)]
  simp

/-- The fixed part, the table and the gap lie ready. -/
def Ready7 (w : World) (n : Nat) (l : List (Nat × List Nat)) (a b g : Value) (wx : World) : Prop :=
  ∃ A1 c1 A2 c2 A3, a = .slice A1 10 c1 ∧ b = .slice A2 (9 * n + 4) c2 ∧ g = .slice A3 4 4 ∧ (A1 = none → c1 = 0) ∧ (A2 = none → c2 = 0) ∧ A3 ≠ none ∧
    Reads wx A1 10 (bts (fixedPart n)) ∧ Reads wx A2 (9 * n + 4) (bts (tableB l)) ∧ Reads wx A3 4 (bts zero4) ∧ Below w.heap.size w wx
def PackAt (wx : World) (n : Nat) (l : List (Nat × List Nat)) (v i : Value) (wr : World) : Prop :=
  ∃ (k : Nat) (xs : List Value), k ≤ n ∧ i = .int .i64 (k : Int) ∧ wr.ownsRow wx.heap.size 25 1 v (3 + k) xs ∧ Pieces wx xs (pcs l k) ∧ Below wx.heap.size wx wr
theorem own_rows (w : World) (a b c : Value) : (w.alloc (.cells #[a, b, c] 25)).ownsRow w.heap.size 25 1 (.slice (some ⟨w.heap.size, 0, none⟩) 3 3) 3 [a, b, c] :=
  ⟨rfl, .inr ⟨w.heap.size, 3, _, rfl, Nat.le_refl _, heap_alloc_last _ _, Nat.le_refl _, by decide, rfl, rfl⟩⟩
theorem reads_one (w : World) (v : Value) : Reads (w.alloc (.cells #[v] 25)) (some ⟨w.heap.size, 0, none⟩) 1 [v] := Reads.of_block (xs := [v]) (heap_alloc_new _ _)
theorem reads_three (w : World) (a b c : Value) : Reads (w.alloc (.cells #[a, b, c] 25)) (some ⟨w.heap.size, 0, none⟩) 3 [a, b, c] := Reads.of_block (xs := [a, b, c]) (heap_alloc_new _ _)
theorem Pieces.three {w : World} {A B C : Option Addr} {n m k a b c : Nat} {x y z : List Nat} (h1 : A = none → a = 0) (r1 : Reads w A n (bts x)) (h2 : B = none → b = 0) (r2 : Reads w B m (bts y)) (h3 : C = none → c = 0) (r3 : Reads w C k (bts z)) : Pieces w [.slice A n a, .slice B m b, .slice C k c] [x, y, z] :=
  (((Pieces.nil w).snoc h1 r1).snoc h2 r2).snoc h3 r3
theorem Pieces.append {w : World} {xs ys : List Value} {rs ss : List (List Nat)} (h : Pieces w xs rs) (k : Pieces w ys ss) : Pieces w (xs ++ ys) (rs ++ ss) := by
  refine ⟨by simp [h.1, k.1], fun i hi => ?_⟩
  rcases Nat.lt_or_ge i rs.length with h1 | h1
  · obtain ⟨Ai, ci, k1, k2⟩ := h.2 i h1
    have e : (rs ++ ss).getD i [] = rs.getD i [] := by simp [List.getD_eq_getElem?_getD, List.getElem?_append_left h1]
    rw [e]
    exact ⟨Ai, ci, by rw [List.getElem?_append_left (by rw [h.1]; exact h1)]; exact k1, k2⟩
  · obtain ⟨Ai, ci, k1, k2⟩ := k.2 (i - rs.length) (by simp at hi; omega)
    have e : (rs ++ ss).getD i [] = ss.getD (i - rs.length) [] := by simp [List.getD_eq_getElem?_getD, List.getElem?_append_right h1]
    rw [e]
    exact ⟨Ai, ci, by rw [List.getElem?_append_right (by rw [h.1]; exact h1), h.1]; exact k1, k2⟩
def PackIs (w : World) (l : List (Nat × List Nat)) (e : Ending) (w' : World) : Prop :=
  ∃ v, e = .returned (.tuple #[v, .int .i64 0]) ∧ w'.ownsRow w.heap.size 5 1 v (boxB l).length (bts (boxB l)) ∧ Below w.heap.size w w'

set_option maxHeartbeats 3200000 in
set_option maxRecDepth 100000 in
theorem bpack_ok (w : World) (A : Option Addr) (n c : Nat) (l : List (Nat × List Nat)) (h : Chunks w A n l) (hd : DigC l) (hn : n ≤ 1024) (hz : 36 + 18 * n + offs l n ≤ 4194304) (hs : ∀ x ∈ l, x.2.length ≤ 1000000) :
    Calls Try.prog 13 #[.slice A n c] w (PackIs w l) := by
  obtain ⟨i0, hi, hz0, hz1, hz2⟩ := info_parts Try.infoBytes
  have HI := Lib.hid hi
  have HZ := Lib.hid (And.intro hz0 (And.intro hz1 hz2))
  have HS := Lib.hid h
  have KF := Lib.hid (fits_ok w A n c l h hn hz)
  have K1 := Lib.hid (fun w' => bfixed_any w' n (by omega))
  have K2 := Lib.hid (fun w' (b : Below w.heap.size w w') => btable_any w' A n c l (h.below b) hd hn hs)
  have hmk : ∀ W : World, (Instr.makeSlice 25 (.int .i64 4) (.int .i64 4)).run Try.prog W = .ok (.slice (some ⟨W.heap.size, 0, none⟩) 4 4) (W.alloc (.cells (madeCells #[.int .u8 0] 4) 5)) := fun W => run_make_row' (P := Try.prog) 25 5 (.int .u8 0) 1 Try.underlying25 Try.infoU8 rfl .i64 .i64 4 (by omega) (by omega) W
  have HL := Lib.hid hs
  have HZZ := Lib.hid hz
  have t1 : ¬ (1024 : Int) < n := by omega
  have t1' : decide ((1024 : Int) < n) = false := by simp; omega
  clear h hd hz hs hi hz0 hz1 hz2
  go_enter Try.func13, Try.ntmps13
  go_wp2_with fail
  refine KF.out.mono ?_
  rintro e w1 ⟨rfl, b1⟩
  have c1 := b1
  have c1d := upd c1
  clear b1
  go_upto_region 3 with fail
  go_cut [4, 5, 6] (Ready7 w n l)
  case first =>
    go_wp2_with fail
    go_region_held3 (fun _ => True)
      (trivial)
      (first
        | (go_at_call 22; refine (K1.out _).mono ?_; rintro e wf ⟨vf, rfl, ofx, bf⟩; obtain ⟨A1, c1', rfl, hA1, rf⟩ := Reads.of_own ofx; (first | have cf := up2 c1d bf | have cf := up2 (upd (up1 c1 _)) bf | fail); (first | with_reducible have zf := (zeros_made w1 4 _ rfl).drew.below bf | skip); clear bf ofx)
        | (go_at_call 23; (with_reducible refine (K2.out _ (by first | assumption | with_reducible exact up1 (by assumption) _ | fail)).mono ?_); rintro e wt ⟨vt, rfl, ot, bt⟩; obtain ⟨A2, c2', rfl, hA2, rt⟩ := Reads.of_own ot; (first | have ct := up2 cf bt | have ct := up2 (up1 cf _) bt | fail); (first | have rft := rf.below bt | have rft := (rf.below (mk_below _ _)).below bt | fail); (first | have zt := zf.below bt | with_reducible have zt := (zeros_made wf 4 _ rfl).below bt | skip); clear bt ot)
        | fail)
    all_goals
      go_wp2_with fail
      go_meet
      first
        | exact ⟨A1, c1', A2, c2', _, rfl, rfl, rfl, hA1, hA2, by simp, rft, rt, zt, ct⟩
        | exact ⟨A1, c1', A2, c2', _, rfl, rfl, rfl, hA1, hA2, by simp, rft.below (mk_below _ _), rt.below (mk_below _ _), zeros_made wt 4 _ rfl, up1 ct _⟩
  case rest =>
    obtain ⟨A1, a1, A2, a2, A3, rfl, rfl, rfl, hA1, hA2, hA3, r1, r2, r3, cx⟩ := hcut
    have p0 : Pieces wc [.slice A1 10 a1, .slice A2 (9 * n + 4) a2, .slice A3 4 4] (pcs l 0) := by
      have := Pieces.three (c := 4) hA1 r1 hA2 r2 (fun e => absurd e hA3) r3
      have hl := HS.out.len
      unfold pcs
      rw [hl]
      exact this
    have p9 : Pieces wc [.slice A3 4 4, .slice A2 (9 * n + 4) a2, .slice A1 10 a1] [zero4, tableB l, fixedPart l.length] := by
      have := Pieces.three (a := 4) (fun e => absurd e hA3) r3 hA2 r2 hA1 r1
      have hl := HS.out.len
      rw [hl]
      exact this
    have P0 := Lib.hid p0
    have P9 := Lib.hid p9
    have CX := Lib.hid cx
    have O0 := Lib.hid (own_rows wc (.slice A1 10 a1) (.slice A2 (9 * n + 4) a2) (.slice A3 4 4))
    have B0 := Lib.hid (mk_below wc (.cells #[.slice A1 10 a1, .slice A2 (9 * n + 4) a2, .slice A3 4 4] 25))
    have HC := Lib.hid (HS.out.below cx)
    clear p0 p9 cx r1 r2 r3 hA1 hA2 hA3 c1 c1d
    generalize 9 * n + 4 = N at *
    go_wp2_with fail
    go_loopw [7, 30] (PackAt wc n l) (fun _ i _ => n - (intOf i).toNat)
    case atStart => exact ⟨0, _, Nat.zero_le _, rfl, O0.out, P0.out, B0.out⟩
    case round =>
      obtain ⟨k, xs, hk, rfl, ho, hp, hb⟩ := hrel
      obtain ⟨Av, cv, rfl, _, _⟩ := Reads.of_own ho
      by_cases hlt : k < n
      · obtain ⟨b, off, rfl⟩ := HS.out.ad (by omega)
        obtain ⟨Ai, ci, c0, c1, h2, h3, hr⟩ := HC.out.at k hlt
        have hps := pcs_succ l k (by rw [HS.out.len]; exact hlt)
        replace c0 := (hb.cell (World.block_lt_of_cell? _ _ c0)).trans c0
        replace c1 := (hb.cell (World.block_lt_of_cell? _ _ c1)).trans c1
        generalize l.getD k (0, []) = x at *
        obtain ⟨kd, dt⟩ := x
        obtain ⟨m, hm⟩ : ∃ m, dt.length = m := ⟨_, rfl⟩
        simp only [hm] at c1 h3 hr
        simp only at c0 hps
        have hp' := hp.snoc h2 hr
        rw [← hps] at hp'
        have oy := (ho.alloc (.cells #[.int .u8 (kd : Int), .slice Ai m ci] 40)).alloc (.cells #[.slice Ai m ci] 25)
        have by' := up1 (up1 hb (.cells #[.int .u8 (kd : Int), .slice Ai m ci] 40)) (.cells #[.slice Ai m ci] 25)
        have rx := reads_one (wr.alloc (.cells #[.int .u8 (kd : Int), .slice Ai m ci] 40)) (.slice Ai m ci)
        rw [show (wr.alloc (.cells #[.int .u8 (kd : Int), .slice Ai m ci] 40)).heap.size = wr.heap.size + 1 by simp] at rx
        have OY := Lib.hid oy
        have BY := Lib.hid by'
        have RX := Lib.hid rx
        have HP := Lib.hid hp'
        have HBS := Lib.hid hb.size
        have b1 : (k : Int) < n := by omega
        clear ho hb hp oy by' rx hp' hps hr h2 hm
        go_wp2_with (at_builtin; refine wpList_append_reads rfl (.tmp 34) (.tmp 37) 54 rfl wc.heap.size 25 i0 (.slice none 0 0) 24 Try.underlying54 HI.out HZ.out rfl (.slice Av (3 + k) cv) (3 + k) xs rfl OY.out (some ⟨wr.heap.size + 1, 0, none⟩) 1 1 [.slice Ai m ci] rfl RX.out (fun e => (nomatch e)) ?b0 ?b1 ?b2 ?b3 ?_)
        case b0 => intro u hu; simp at hu; subst hu; rfl
        case b1 => unfold maxLen; omega
        case b2 => omega
        case b3 => have := HBS.out; simp; omega
        intro v2 w2 own2 gr2
        have Z := Lib.hid (And.intro own2 (own_grown_below BY.out gr2 BY.out.size (fun q hq => (own_lt OY.out q hq).1)))
        clear own2 gr2
        go_wp2_with fail
        exact ⟨⟨k + 1, _, by omega, by go_num, Z.out.1, HP.out, Z.out.2⟩, by simp [intOf]; omega⟩
      · obtain rfl : k = n := by omega
        have b1 : ¬ (k : Int) < k := by omega
        have oy := ho.alloc (.cells #[.slice A3 4 4, .slice A2 N a2, .slice A1 10 a1] 25)
        have by' := up1 hb (.cells #[.slice A3 4 4, .slice A2 N a2, .slice A1 10 a1] 25)
        have rx := reads_three wr (.slice A3 4 4) (.slice A2 N a2) (.slice A1 10 a1)
        have hp' := hp.append P9.out
        have OY := Lib.hid oy
        have BY := Lib.hid by'
        have RX := Lib.hid rx
        have HP := Lib.hid hp'
        have HBS := Lib.hid hb.size
        clear ho hb hp oy by' rx hp'
        go_wp2_with (at_builtin; refine wpList_append_reads rfl (.tmp 40) (.tmp 44) 54 rfl wc.heap.size 25 i0 (.slice none 0 0) 24 Try.underlying54 HI.out HZ.out rfl (.slice Av (3 + k) cv) (3 + k) xs rfl OY.out (some ⟨wr.heap.size, 0, none⟩) 3 3 [.slice A3 4 4, .slice A2 N a2, .slice A1 10 a1] rfl RX.out (fun e => (nomatch e)) ?d0 ?d1 ?d2 ?d3 ?_)
        case d0 => exact ⟨rfl, rfl, rfl⟩
        case d1 => unfold maxLen; omega
        case d2 => omega
        case d3 => have := HBS.out; simp; omega
        intro v2 w2 own2 gr2
        have B2 := own_grown_below BY.out gr2 BY.out.size (fun q hq => (own_lt OY.out q hq).1)
        obtain ⟨Ax, cc, rfl, _, rr⟩ := Reads.of_own own2
        have hbox : (pcs l k ++ [zero4, tableB l, fixedPart l.length]).flatten = boxB l := by rw [← HS.out.len]; exact pcs_box l
        have hlen := length_box l
        have hoff := offs_all l
        have hzz := HZZ.out
        rw [HS.out.len] at hoff hlen
        have KX := concat_any w2 Ax (3 + k + 3) cc _ _ rr (HP.out.below B2) (by omega) (by rw [hbox]; omega) (by rw [hbox]; omega)
        rw [hbox] at KX
        have KC := Lib.hid KX
        have BB := Lib.hid B2
        clear own2 gr2 rr B2 KX hbox hlen hoff hzz
        go_wp2_with fail
        refine KC.out.mono ?_
        rintro e w3 ⟨u, rfl, o3, b3⟩
        have Z := Lib.hid (And.intro (own_base o3 (Nat.le_trans CX.out.size BB.out.size)) (up2 CX.out (BB.out.trans (b3.mono BB.out.size))))
        clear o3 b3
        go_wp2
        go_ret2
        exact ⟨u, rfl, Z.out.1, Z.out.2⟩
end Go.Proofs.Ytngambkbpdjddaa
