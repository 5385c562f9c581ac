/- The document's Pack (layer 7). -/
import Derived.Test.YtngambkbpdjddaaBoxRefT
namespace Go.Proofs.Ytngambkbpdjddaa
open Go.RowKit

/-- What stands ahead of the data, and k data. -/
def outB (cs : List (Nat × List Nat)) (k : Nat) : List Nat := ((fixedPart cs.length ++ tableB cs) ++ zero4) ++ ((cs.map (·.2)).take k).flatten
theorem outB_succ (cs : List (Nat × List Nat)) (k : Nat) (h : k < cs.length) : outB cs (k + 1) = outB cs k ++ (cs.map (·.2)).getD k [] := by
  unfold outB
  rw [flat_take _ k (by simpa using h), ← List.append_assoc]
theorem outB_all (cs : List (Nat × List Nat)) : ((outB cs cs.length ++ zero4) ++ tableB cs) ++ fixedPart cs.length = boxB cs := by
  unfold outB boxB headB dataB
  rw [List.take_of_length_le (by simp)]
  simp
theorem outB_le (cs : List (Nat × List Nat)) (k : Nat) : (outB cs k).length ≤ 18 + 9 * cs.length + (dataB cs).length := by
  unfold outB
  have := flat_le (cs.map (·.2)) k
  rw [List.length_append, List.length_append, List.length_append, length_fixed, length_table]
  show 10 + (9 * cs.length + 4) + 4 + _ ≤ _
  unfold dataB
  omega
def RPackAt (w : World) (n : Nat) (cs : List (Nat × List Nat)) (v i : Value) (wr : World) : Prop :=
  ∃ k : Nat, k ≤ n ∧ i = .int .i64 (k : Int) ∧ wr.ownsRow w.heap.size 5 1 v (outB cs k).length (bts (outB cs k)) ∧ Below w.heap.size w wr
theorem own_zero4 (w : World) : Reads (w.alloc (.cells #[.int .u8 0, .int .u8 0, .int .u8 0, .int .u8 0] 5)) (some ⟨w.heap.size, 0, none⟩) 4 (bts zero4) := Reads.of_block (xs := bts zero4) (heap_alloc_new _ _)

set_option maxHeartbeats 6400000 in
set_option maxRecDepth 100000 in
theorem r7pack_any (w : World) (A : Option Addr) (n c : Nat) (A' : Option Addr) (c' : Nat) (xs : List Value) (cs : List (Nat × List Nat)) (hk : Reads w A n (bts (cs.map (·.1)))) (hx : Reads w A' n xs) (hp : Pieces w xs (cs.map (·.2))) (hd : DigC cs) (hn : n ≤ 1024) (hs : ∀ x ∈ cs, x.2.length ≤ 1000000) (hz : 36 + 18 * n + (dataB cs).length ≤ 4194304) :
    Calls Try.prog 25 #[.slice A n c, .slice A' n c'] w (PackIs w cs) := by
  obtain ⟨i0, hi, hz0, hz1, hz2⟩ := info_parts Try.infoU8
  have HI := Lib.hid hi
  have HZ := Lib.hid (And.intro hz0 (And.intro hz1 hz2))
  have hl : cs.length = n := by have := hk.lenB; simpa using this
  have HL := Lib.hid hl
  have HX := Lib.hid hx
  have HP := Lib.hid hp
  have HOL := Lib.hid (fun k => outB_le cs k)
  have HZZ := Lib.hid hz
  have KS := Lib.hid (r7size_any w A' n c' xs _ hx hp (by omega) (show (cs.map (·.2)).flatten.length ≤ 10000000 by unfold dataB at hz; omega))
  obtain ⟨M, hM⟩ : ∃ M : Int, 36 + 18 * (n : Int) + ((cs.map (·.2)).flatten.length : Nat) = M := ⟨_, rfl⟩
  rw [hM] at KS
  have t2 : ¬ (4194304 : Int) < M := by unfold dataB at hz; omega
  have t1 : ¬ (1024 : Int) < n := by omega
  have t1' : decide ((1024 : Int) < n) = false := by simp; omega
  have KF := Lib.hid (r7fixed_any w n (by omega))
  have KT := Lib.hid (fun w' (b : Below w.heap.size w w') => r7table_any w' A n c A' c' xs cs (hk.below b) (hx.below b) (hp.below b) hd hn hs)
  clear hk hx hp hd hs hz hl hi hz0 hz1 hz2 hM
  go_enter Try.func25, Try.ntmps25
  go_wp2_with fail
  refine KS.out.mono ?_
  rintro e w0 ⟨rfl, rfl⟩
  go_wp2_with fail
  refine KF.out.mono ?_
  rintro e w1 ⟨v1, rfl, o1, b1⟩
  obtain ⟨A1, c1, rfl, hA1, r1⟩ := Reads.of_own o1
  have R1 := Lib.hid (And.intro r1 hA1)
  have B1 := Lib.hid b1
  clear o1 b1 r1 hA1
  go_wp2_with fail
  refine (KT.out w1 B1.out).mono ?_
  rintro e w2 ⟨v2, rfl, o2, b2⟩
  obtain ⟨A2, c2, rfl, hA2, r2⟩ := Reads.of_own o2
  have R1' := Lib.hid (And.intro (R1.out.1.below b2) R1.out.2)
  have R2 := Lib.hid (And.intro r2 hA2)
  have B2 := Lib.hid (up2 B1.out b2)
  clear o2 b2 r2 hA2 R1
  obtain ⟨N, hN⟩ : ∃ N, 9 * n + 4 = N := ⟨_, rfl⟩
  rw [hN] at R2 ⊢
  have HN := Lib.hid hN
  have hN9 : N ≤ 10000 := by omega
  clear hN
  have HXP := Lib.hid (And.intro (HX.out.below B2.out) (HP.out.below B2.out))
  have O3 := Lib.hid (empty_bytes w2)
  have B3 := Lib.hid (mk_below w2 (.cells #[] 5))
  have R13 := Lib.hid (R1'.out.1.below B3.out)
  go_wp2_with (at_builtin; refine wpList_append_reads rfl (.tmp 24) (.tmp 25) 25 rfl w2.heap.size 5 i0 (.int .u8 0) 1 Try.underlying25 HI.out HZ.out rfl (.slice (some ⟨w2.heap.size, 0, none⟩) 0 0) 0 [] rfl O3.out A1 10 c1 (bts (fixedPart n)) rfl R13.out R1'.out.2 (bts_one _) (by decide) (by decide) B3.out.size ?_)
  intro v4 w4 own4 gr4
  obtain ⟨A4, c4, rfl, _, _⟩ := Reads.of_own own4
  have O4 := Lib.hid (show w4.ownsRow w2.heap.size 5 1 (.slice A4 10 c4) 10 (bts (fixedPart n)) by simpa using own4)
  have B4 := Lib.hid (own_grown_below B3.out gr4 B3.out.size (fun q hq => (own_lt O3.out q hq).1))
  have R24 := Lib.hid (R2.out.1.below B4.out)
  clear own4 gr4
  go_wp2_with (at_builtin; refine wpList_append_reads rfl (.tmp 26) (.tmp 27) 25 rfl w2.heap.size 5 i0 (.int .u8 0) 1 Try.underlying25 HI.out HZ.out rfl (.slice A4 10 c4) 10 (bts (fixedPart n)) rfl O4.out A2 N c2 (bts (tableB cs)) rfl R24.out R2.out.2 (bts_one _) ?e1 ?e2 B4.out.size ?_)
  case e1 => unfold maxLen; omega
  case e2 => omega
  intro v5 w5 own5 gr5
  obtain ⟨A5, c5, rfl, _, _⟩ := Reads.of_own own5
  have B5 := own_grown_below B4.out gr5 B4.out.size (fun q hq => (own_lt O4.out q hq).1)
  have O5 := Lib.hid (own_up (show w5.ownsRow w2.heap.size 5 1 (.slice A5 (10 + N) c5) (10 + N) (bts (fixedPart n ++ tableB cs)) by rw [bts_append]; exact own5) (mk_below w5 (.cells #[.int .u8 0, .int .u8 0, .int .u8 0, .int .u8 0] 5)))
  have B5' := Lib.hid (up1 B5 (.cells #[.int .u8 0, .int .u8 0, .int .u8 0, .int .u8 0] 5))
  have R5 := Lib.hid (own_zero4 w5)
  clear own5 gr5 B5
  go_wp2_with (at_builtin; refine wpList_append_reads rfl (.tmp 28) (.tmp 29) 25 rfl w2.heap.size 5 i0 (.int .u8 0) 1 Try.underlying25 HI.out HZ.out rfl (.slice A5 (10 + N) c5) (10 + N) (bts (fixedPart n ++ tableB cs)) rfl O5.out (some ⟨w5.heap.size, 0, none⟩) 4 4 (bts zero4) rfl R5.out (fun e => (nomatch e)) (bts_one _) ?f1 ?f2 B5'.out.size ?_)
  case f1 => unfold maxLen; omega
  case f2 => omega
  intro v6 w6 own6 gr6
  have B6 := Lib.hid (own_grown_below B5'.out gr6 B5'.out.size (fun q hq => (own_lt O5.out q hq).1))
  have O6 := Lib.hid (show w6.ownsRow w2.heap.size 5 1 v6 (outB cs 0).length (bts (outB cs 0)) by
    have e : outB cs 0 = (fixedPart n ++ tableB cs) ++ zero4 := by unfold outB; rw [HL.out]; simp
    rw [e, bts_append, List.length_append, List.length_append, length_fixed, length_table, HL.out, HN.out]
    exact own6)
  clear own6 gr6
  go_wp2_with fail
  go_loopw [8, 9] (RPackAt w2 n cs) (fun _ i _ => n - (intOf i).toNat)
  case atStart => exact ⟨0, Nat.zero_le _, rfl, O6.out, B6.out⟩
  case round =>
    obtain ⟨k, hk, rfl, ho, hb⟩ := hrel
    obtain ⟨Av, cv, rfl, _, _⟩ := Reads.of_own ho
    have hol := HOL.out k
    have hzz := HZZ.out
    rw [HL.out] at hol
    by_cases hlt : k < n
    · obtain ⟨ad, Ai, ci, rfl, ck, hA, hr⟩ := HXP.out.2.cell HXP.out.1 k hlt
      replace ck := (hb.cell (World.block_lt_of_cell? _ _ ck)).trans ck
      replace hr := hr.below hb
      have hft := outB_succ cs k (by rw [HL.out]; exact hlt)
      have hol2 := HOL.out (k + 1)
      rw [hft, List.length_append, HL.out] at hol2
      generalize outB cs k = a at *
      generalize (cs.map (·.2)).getD k [] = r at *
      obtain ⟨m, hm⟩ : ∃ m, r.length = m := ⟨_, rfl⟩
      obtain ⟨q, hq⟩ : ∃ q, a.length = q := ⟨_, rfl⟩
      rw [hm] at ck hr hol2
      rw [hq] at ho hol hol2 ⊢
      have HO := Lib.hid (And.intro ho hb)
      have HR := Lib.hid (And.intro hr hA)
      have HM := Lib.hid (And.intro hm (And.intro hq hft))
      have t1 : (k : Int) < n := by omega
      have t3 : q + m ≤ 10000000 := by omega
      clear ho hb hr hA hft hol hol2 hzz hm hq
      go_wp2_with (at_builtin; refine wpList_append_reads rfl (.tmp 37) (.tmp 41) 25 rfl w2.heap.size 5 i0 (.int .u8 0) 1 Try.underlying25 HI.out HZ.out rfl (.slice Av q cv) q (bts a) rfl HO.out.1 Ai m ci (bts r) rfl HR.out.1 HR.out.2 (bts_one _) ?b1 ?b2 ?b3 ?_)
      case b1 => unfold maxLen; omega
      case b2 => omega
      case b3 => exact HO.out.2.size
      intro v7 w7 own7 gr7
      have Z := Lib.hid (And.intro (show w7.ownsRow w2.heap.size 5 1 v7 (q + m) (bts (a ++ r)) by rw [bts_append]; exact own7) (own_grown_below HO.out.2 gr7 HO.out.2.size (fun q hq => (own_lt HO.out.1 q hq).1)))
      clear own7 gr7
      go_wp2_with fail
      refine ⟨⟨k + 1, by omega, by go_num, ?_, Z.out.2⟩, by simp [intOf]; omega⟩
      rw [HM.out.2.2, List.length_append, HM.out.1, HM.out.2.1]
      exact Z.out.1
    · obtain rfl : k = n := by omega
      have t1 : ¬ (k : Int) < k := by omega
      have hall := outB_all cs
      have hlb := length_box cs
      rw [HL.out] at hall hlb
      generalize outB cs k = a at *
      obtain ⟨q, hq⟩ : ∃ q, a.length = q := ⟨_, rfl⟩
      rw [hq] at ho hol ⊢
      have O7 := Lib.hid (own_up ho (mk_below wr (.cells #[.int .u8 0, .int .u8 0, .int .u8 0, .int .u8 0] 5)))
      have B7 := Lib.hid (up1 hb (.cells #[.int .u8 0, .int .u8 0, .int .u8 0, .int .u8 0] 5))
      have R7 := Lib.hid (own_zero4 wr)
      have HALL := Lib.hid (And.intro hall (And.intro hq hlb))
      have t3 : q ≤ 10000000 := by omega
      clear ho hb hol hzz hq hall hlb
      go_wp2_with (at_builtin; refine wpList_append_reads rfl (.tmp 43) (.tmp 44) 25 rfl w2.heap.size 5 i0 (.int .u8 0) 1 Try.underlying25 HI.out HZ.out rfl (.slice Av q cv) q (bts a) rfl O7.out (some ⟨wr.heap.size, 0, none⟩) 4 4 (bts zero4) rfl R7.out (fun e => (nomatch e)) (bts_one _) ?g1 ?g2 B7.out.size ?_)
      case g1 => unfold maxLen; omega
      case g2 => omega
      intro v8 w8 own8 gr8
      obtain ⟨A8, c8, rfl, _, _⟩ := Reads.of_own own8
      have B8 := Lib.hid (own_grown_below B7.out gr8 B7.out.size (fun q hq => (own_lt O7.out q hq).1))
      have O8 := Lib.hid (show w8.ownsRow w2.heap.size 5 1 (.slice A8 (q + 4) c8) (q + 4) (bts (a ++ zero4)) by rw [bts_append]; exact own8)
      have R28 := Lib.hid (R2.out.1.below B8.out)
      clear own8 gr8
      go_wp2_with (at_builtin; refine wpList_append_reads rfl (.tmp 45) (.tmp 46) 25 rfl w2.heap.size 5 i0 (.int .u8 0) 1 Try.underlying25 HI.out HZ.out rfl (.slice A8 (q + 4) c8) (q + 4) (bts (a ++ zero4)) rfl O8.out A2 N c2 (bts (tableB cs)) rfl R28.out R2.out.2 (bts_one _) ?h1 ?h2 B8.out.size ?_)
      case h1 => unfold maxLen; omega
      case h2 => omega
      intro v9 w9 own9 gr9
      obtain ⟨A9, c9, rfl, _, _⟩ := Reads.of_own own9
      have B9 := Lib.hid (own_grown_below B8.out gr9 B8.out.size (fun q hq => (own_lt O8.out q hq).1))
      have O9 := Lib.hid (show w9.ownsRow w2.heap.size 5 1 (.slice A9 (q + 4 + N) c9) (q + 4 + N) (bts ((a ++ zero4) ++ tableB cs)) by rw [bts_append _ (tableB cs)]; exact own9)
      have R19 := Lib.hid (R1'.out.1.below B9.out)
      clear own9 gr9
      go_wp2_with (at_builtin; refine wpList_append_reads rfl (.tmp 47) (.tmp 48) 25 rfl w2.heap.size 5 i0 (.int .u8 0) 1 Try.underlying25 HI.out HZ.out rfl (.slice A9 (q + 4 + N) c9) (q + 4 + N) (bts ((a ++ zero4) ++ tableB cs)) rfl O9.out A1 10 c1 (bts (fixedPart k)) rfl R19.out R1'.out.2 (bts_one _) ?j1 ?j2 B9.out.size ?_)
      case j1 => unfold maxLen; omega
      case j2 => omega
      intro v10 w10 own10 gr10
      have Z := Lib.hid (And.intro (show w10.ownsRow w.heap.size 5 1 v10 (boxB cs).length (bts (boxB cs)) by
        rw [← HALL.out.1, bts_append _ (fixedPart k), List.length_append, List.length_append, List.length_append, HALL.out.2.1, length_fixed, length_table, HL.out, HN.out]
        rw [← List.append_assoc] at own10
        exact own_base own10 B2.out.size) (up2 B2.out (own_grown_below B9.out gr10 B9.out.size (fun q hq => (own_lt O9.out q hq).1))))
      clear own10 gr10
      go_wp2
      go_ret2
      exact ⟨v10, rfl, Z.out.1, Z.out.2⟩
end Go.Proofs.Ytngambkbpdjddaa
