/- CrcWrites: what is written in any parts (up to 60, of up to 1,000 bytes in all) has the sum of the whole, at each step; two Hashes know nothing of one another; a nil one takes nothing and has the sum of nothing. No condition. -/
import Derived.Test.YtofchndeafobaaaCrcHashes
import Derived.Test.YtofchndeafobaaaArgRows
namespace Go.Proofs.Ytofchndeafobaaa.crcWrites
open Go.ChangeShapes Go.WideShapes Go.ChangeAt Go.RowKit

set_option maxHeartbeats 3200000 in
set_option maxRecDepth 100000 in
theorem out (A : Option Addr) (n c : Nat) (w : World) (h : 60 < n) :
    Calls Try.prog 5 #[.slice A n c] w fun e w' => e = .returned (.bool true) ∧ Below w.heap.size w w' := by
  have t0 : (60 : Int) < n := by omega
  go_enter Try.func5, Try.ntmps5
  go_wp2_with fail
  refine (awake6_true w).mono ?_
  rintro e w1 ⟨rfl, b1⟩
  have B1 := Lib.hid b1
  clear b1
  go_wp2
  go_ret
  exact ⟨rfl, B1.out⟩

def PartsAt (w : World) (gh go n : Nat) (rs : List (List Nat)) (v i : Value) (wr : World) : Prop :=
  ∃ k : Nat, k ≤ n ∧ i = .int .i64 (k : Int) ∧ (flat rs k).length ≤ 1000 ∧ HSt w gh go (crcSum (flat rs k)) (soAt rs k) v (flat rs k) wr
/-- The copy is being written over. -/
def OverAt (w : World) (B gh go sh so : Nat) (v : Value) (fl : List Nat) (vo : Value) (m : Nat) (i : Value) (x : World) : Prop :=
  ∃ (j : Nat) (d : List Nat), j ≤ m ∧ i = .int .i64 (j : Int) ∧ d.length = m ∧ x.ownsRow B 5 1 vo m (bts d) ∧ HSt w gh go sh so v fl x

set_option maxHeartbeats 6400000 in
set_option maxRecDepth 100000 in
theorem inn (A : Option Addr) (n c : Nat) (rs : List (List Nat)) (w : World) (hd : ∀ r ∈ rs, Dig r) (h : BRows w A n rs) (hn : n ≤ 60) :
    Calls Try.prog 5 #[.slice A n c] w fun e w' => e = .returned (.bool true) ∧ Below w.heap.size w w' := by
  obtain ⟨i0, hi, hz0, hz1, hz2⟩ := info_parts Try.infoU8
  have HI := Lib.hid hi
  have HZ := Lib.hid (And.intro hz0 (And.intro hz1 hz2))
  have HR := Lib.hid h
  have HD := Lib.hid hd
  have t0 : ¬ (60 : Int) < n := by omega
  clear h hd hi hz0 hz1 hz2
  go_enter Try.func5, Try.ntmps5
  go_wp2_with fail
  refine (awake6_true w).mono ?_
  rintro e w1 ⟨rfl, b1⟩
  have S1 := Lib.hid (show HSt w w1.heap.size (w1.heap.size + 1) 0 0 (.slice none 0 0) [] ((w1.alloc (.cells #[.int .u32 0] 31)).alloc (.cells #[.int .u32 0] 31)) by
    have hs : (w1.alloc (.cells #[.int .u32 0] 31)).heap.size = w1.heap.size + 1 := by simp
    have a1 := mk_below (w1.alloc (.cells #[.int .u32 0] 31)) (.cells #[.int .u32 0] 31)
    refine ⟨?_, ?_, World.ownsRow_nil _ _ _ _, up1 (up1 b1 _) _, b1.size, by have := b1.size; omega, by omega⟩
    · exact (a1.block _ (by omega)).trans (heap_alloc_last w1 _)
    · have := heap_alloc_last (w1.alloc (.cells #[.int .u32 0] 31)) (.cells #[.int .u32 0] 31)
      rwa [hs] at this)
  clear b1
  go_wp2_with fail
  generalize (w1.alloc (.cells #[.int .u32 0] 31)).alloc (.cells #[.int .u32 0] 31) = w2 at *
  generalize hgo : w1.heap.size + 1 = go at *
  generalize w1.heap.size = gh at *
  clear hgo
  go_loopw [6, 18] (PartsAt w gh go n rs) (fun _ i _ => n - (intOf i).toNat)
  case atStart =>
    refine ⟨0, Nat.zero_le _, rfl, by rw [flat_zero]; exact Nat.zero_le _, ?_⟩
    rw [flat_zero, crcSum_nil, show soAt rs 0 = 0 from if_pos rfl]
    exact S1.out
  case round =>
    obtain ⟨k, hk, rfl, hlen, hst⟩ := hrel
    by_cases hlt : k < n
    · have hu : (k : Int) < n := by omega
      obtain ⟨ad, hA, hcell⟩ := HR.out.2 (by omega)
      subst hA
      obtain ⟨Ai, ci, h1, h2, h3, h4⟩ := hcell k hlt
      have hkl : k < rs.length := by rw [HR.out.1]; exact hlt
      have ck := (hst.b.cell (World.block_lt_of_cell? _ _ h1)).trans h1
      have hA2 := Lib.hid h2
      have R4 := Lib.hid h4
      have DR := Lib.hid (dig_getD HD.out k)
      have EF := Lib.hid (flat_succ rs k hkl)
      have HS := Lib.hid hst
      have E0 := Lib.hid (crcUpd_sum (dig_flat HD.out k) (rs.getD k []))
      have DF := Lib.hid (dig_flat HD.out (k + 1))
      rw [← EF.out] at E0
      have SO := Lib.hid (show soAt rs k < 4294967296 ∧ (k ≠ 0 → soAt rs (k + 1) = soAt rs k) ∧ (k = 0 → crcUpd (soAt rs k) (rs.getD k []) = soAt rs (k + 1)) by
        refine ⟨?_, ?_, ?_⟩
        · unfold soAt; split
          · omega
          · exact crcSum_lt _
        · intro h0; unfold soAt; rw [if_neg h0, if_neg (by omega)]
        · intro h0; subst h0; unfold soAt; rw [if_pos rfl, if_neg (by omega), crcUpd_zero])
      obtain ⟨Aa, ca, hva, hAa, _⟩ := Reads.of_own hst.r
      subst hva
      have hlt3 := hst.h
      have LT := Lib.hid (And.intro (heap_lt hst.h) (And.intro (heap_lt hst.o) (fun p hp => (own_lt hst.r p hp).2.1)))
      clear h1 h2 h4 hst hcell hlt3 hAa
      generalize hg1 : rs.getD k [] = r at *
      generalize hg2 : flat rs (k + 1) = fl' at *
      generalize hg3 : flat rs k = fl at *
      generalize hg4 : soAt rs (k + 1) = so' at *
      generalize hg5 : soAt rs k = so at *
      have HG := Lib.hid (And.intro hg2 hg4)
      clear hg1 hg2 hg3 hg4 hg5
      obtain ⟨m, hm⟩ : ∃ m, r.length = m := ⟨_, rfl⟩
      obtain ⟨M, hM⟩ : ∃ M, fl.length = M := ⟨_, rfl⟩
      rw [hm] at ck h3 R4
      rw [hM] at hlen HS LT ⊢
      have HM := Lib.hid (And.intro hm hM)
      clear hm hM
      obtain ⟨x0, hx0⟩ : ∃ x0, x0 = wr := ⟨_, rfl⟩
      subst hx0
      by_cases hbig : 1000 < M + m
      · have tb : (1000 : Int) < (M : Int) + m := by omega
        have hm2 : m ≤ 140737488351232 := h3
        go_wp2
        go_ret
        exact ⟨rfl, HS.out.b⟩
      · have tb : ¬ (1000 : Int) < (M : Int) + m := by omega
        have hm2 : m ≤ 1000 := by omega
        have E3 := Lib.hid (World.ownsRow_made (base := x0.heap.size) (e := 5) (size := 1) x0 #[] 0 (Nat.le_refl _) (by unfold maxLen; omega) rfl)
        have B3 := Lib.hid (mk_below x0 (.cells #[] 5))
        have R3 := Lib.hid (R4.out.below (up2 HS.out.b B3.out))
        clear h3
        go_wp2_with (at_builtin; refine wpList_append_reads rfl (.tmp 29) (.tmp 30) 22 rfl x0.heap.size 5 i0 (.int .u8 0) 1 Try.underlying22 HI.out HZ.out rfl (.slice (some ⟨x0.heap.size, 0, none⟩) 0 0) 0 [] rfl E3.out Ai m ci (bts r) rfl R3.out hA2.out (bts_one _) ?b1 ?b2 ?b3 ?_)
        case b1 => unfold maxLen; omega
        case b2 => omega
        intro vo w4 hown0 hgr
        have hown : w4.ownsRow x0.heap.size 5 1 vo m (bts r) := by simpa using hown0
        have hb4 := own_grown_below B3.out hgr B3.out.size (fun k hk => by simp [Value.ownBlock] at hk; omega)
        obtain ⟨Ao, co, hvo, _, hro⟩ := Reads.of_own hown
        subst hvo
        have RO := Lib.hid hro
        have OW := Lib.hid hown
        have H4 := Lib.hid (HS.out.below hb4)
        clear hown0 hgr hown hb4 hro
        have KW := Lib.hid (hwrite_any w4 gh (crcSum fl) Ao m co r H4.out.h RO.out DR.out (crcSum_lt _) (by omega))
        rw [E0.out] at KW
        go_wp2_with fail
        refine KW.out.mono ?_
        rintro e w5 ⟨rfl, hh5, hc5⟩
        have H5 := Lib.hid (H4.out.writeH hh5 hc5)
        have O5 := Lib.hid (own_keep OW.out hc5 (fun q hq e => H4.out.h.apart OW.out (by rw [hq, e])))
        have R5 := Lib.hid (R4.out.below H5.out.b)
        clear hh5 hc5
        go_wp2_with fail
        refine (hwrite_nil w5 Ai m ci).mono ?_
        rintro e w6 ⟨rfl, rfl⟩
        by_cases hk0 : k = 0
        · have tk : ((k : Int) == 0) = true := by subst hk0; rfl
          have KO := Lib.hid (hwrite_any w5 go so Ai m ci r H5.out.o R5.out DR.out SO.out.1 (by omega))
          rw [SO.out.2.2 hk0] at KO
          clear hk0
          go_wp2_with fail
          refine KO.out.mono ?_
          rintro e w7 ⟨rfl, hh7, hc7⟩
          have H7 := Lib.hid (H5.out.writeO hh7 hc7)
          have O7 := Lib.hid (own_keep O5.out hc7 (fun q hq e => H5.out.o.apart O5.out (by rw [hq, e])))
          clear hh7 hc7
          go_wp2_with fail
          go_loopw [43] (OverAt w x0.heap.size gh go (crcSum fl') so' (.slice Aa M ca) fl (.slice Ao m co) m) (fun i _ => m - (intOf i).toNat)
          case atStart => exact ⟨0, _, Nat.zero_le _, rfl, HM.out.1, O7.out, H7.out⟩
          case round =>
            obtain ⟨j, d, hj, rfl, hdl, hod, hsd⟩ := hrel
            by_cases hjl : j < m
            · have tj : (j : Int) < m := by omega
              obtain ⟨q, cq, rest, hvq, hbq, hcq, hcm, hcl, hqB⟩ := own_block hod (by omega)
              injection hvq with hq1 _ hq3
              subst hq1 hq3
              have cj := hbq.cell j (by omega)
              have fj := frozen_in hbq j
              have hset := hbq.set j 7 (by omega)
              have hlt1 := LT.out
              have N := Lib.hid (show OverAt w x0.heap.size gh go (crcSum fl') so' (.slice Aa M ca) fl (.slice (some ⟨q, 0, none⟩) m co) m (.int .i64 ((j + 1 : Nat) : Int)) (wr.setCell ⟨q, j, none⟩ (.int .u8 7)) from
                ⟨j + 1, d.set j 7, by omega, rfl, by rw [List.length_set]; exact hdl, own_of_block (rest := rest) hset (by rw [List.length_set]; exact hdl) hcq hcm (by rw [List.length_append, length_bts, List.length_set]; rw [List.length_append, length_bts] at hcl; exact hcl) hqB,
                  hsd.set (by have := HS.out.b.size; omega) (by omega) (by omega) (fun e => by have := hlt1.2.2 q e; omega) _⟩)
              clear hbq hset hod hsd hdl hcl hlt1 hcm hcq
              generalize d.getD j 0 = y0 at *
              go_wp2_with fail
              exact ⟨N.out, by simp [intOf]; omega⟩
            · have tj : ¬ (j : Int) < m := by omega
              have H8 := Lib.hid hsd
              have R8 := Lib.hid (R4.out.below hsd.b)
              have hr8 := hsd.r
              rw [HM.out.2] at hr8
              have O8 := Lib.hid hr8
              have B8 := Lib.hid hsd.b.size
              clear hod hsd hdl hr8
              go_wp2_with (at_builtin; refine wpList_append_reads rfl (.tmp 50) (.tmp 51) 22 rfl w.heap.size 5 i0 (.int .u8 0) 1 Try.underlying22 HI.out HZ.out rfl (.slice Aa M ca) M (bts fl) rfl O8.out Ai m ci (bts r) rfl R8.out hA2.out (bts_one _) ?d1 ?d2 ?d3 ?_)
              case d1 => unfold maxLen; omega
              case d2 => omega
              case d3 => exact B8.out
              intro va w9 hown hgr
              have hl9 : fl'.length = M + m := by rw [EF.out, List.length_append, HM.out.1, HM.out.2]
              have ho9 : w9.ownsRow w.heap.size 5 1 va fl'.length (bts fl') := by
                rw [hl9, EF.out, bts_append]; exact hown
              have H9 := Lib.hid (H8.out.append ho9 hgr)
              obtain ⟨A9, c9, hva9, _, hr9⟩ := Reads.of_own ho9
              subst hva9
              have R9 := Lib.hid hr9
              have L9 := Lib.hid (show fl'.length ≤ 1000 by omega)
              clear hown hgr ho9 hr9 hl9
              have KS := Lib.hid (fun x (b : Reads x A9 fl'.length (bts fl')) => csum_any x A9 _ c9 _ b DF.out (by have := L9.out; omega))
              generalize hN : fl'.length = N at *
              have HN := Lib.hid hN
              clear hN
              generalize hSS : crcSum fl' = SS at *
              have HSS := Lib.hid hSS
              clear hSS
              go_wp2_with fail
              refine (hsum_any w9 gh SS H9.out.h).mono ?_
              rintro e w10 ⟨rfl, rfl⟩
              go_wp2_with fail
              refine (KS.out w9 R9.out).mono ?_
              rintro e w11 ⟨rfl, b11⟩
              have H11 := Lib.hid (H9.out.below b11)
              have R11 := Lib.hid (R9.out.below b11)
              clear b11
              go_wp2_with fail
              refine (hsum_any w11 gh SS H11.out.h).mono ?_
              rintro e w12 ⟨rfl, rfl⟩
              go_wp2_with fail
              refine (KS.out w11 R11.out).mono ?_
              rintro e w13 ⟨rfl, b13⟩
              have H13 := Lib.hid (H11.out.below b13)
              clear b13
              go_wp2_with fail
              refine ⟨⟨k + 1, by omega, by go_num, by rw [HG.out.1, HN.out]; exact L9.out, ?_⟩, by simp [intOf]; omega⟩
              rw [HG.out.1, HG.out.2, HSS.out]
              exact H13.out
        · have tk : ((k : Int) == 0) = false := by rw [beq_eq_false_iff_ne]; omega
          have H7 : Hid (HSt w gh go (crcSum fl') so' (.slice Aa M ca) fl w5) := Lib.hid (by rw [SO.out.2.1 hk0]; exact H5.out)
          have O7 := O5
          clear hk0
          obtain ⟨w7, hw7⟩ : ∃ w7, w5 = w7 := ⟨_, rfl⟩
          subst hw7
          go_wp2_with fail
          go_loopw [43] (OverAt w x0.heap.size gh go (crcSum fl') so' (.slice Aa M ca) fl (.slice Ao m co) m) (fun i _ => m - (intOf i).toNat)
          case atStart => exact ⟨0, _, Nat.zero_le _, rfl, HM.out.1, O7.out, H7.out⟩
          case round =>
            obtain ⟨j, d, hj, rfl, hdl, hod, hsd⟩ := hrel
            by_cases hjl : j < m
            · have tj : (j : Int) < m := by omega
              obtain ⟨q, cq, rest, hvq, hbq, hcq, hcm, hcl, hqB⟩ := own_block hod (by omega)
              injection hvq with hq1 _ hq3
              subst hq1 hq3
              have cj := hbq.cell j (by omega)
              have fj := frozen_in hbq j
              have hset := hbq.set j 7 (by omega)
              have hlt1 := LT.out
              have N := Lib.hid (show OverAt w x0.heap.size gh go (crcSum fl') so' (.slice Aa M ca) fl (.slice (some ⟨q, 0, none⟩) m co) m (.int .i64 ((j + 1 : Nat) : Int)) (wr.setCell ⟨q, j, none⟩ (.int .u8 7)) from
                ⟨j + 1, d.set j 7, by omega, rfl, by rw [List.length_set]; exact hdl, own_of_block (rest := rest) hset (by rw [List.length_set]; exact hdl) hcq hcm (by rw [List.length_append, length_bts, List.length_set]; rw [List.length_append, length_bts] at hcl; exact hcl) hqB,
                  hsd.set (by have := HS.out.b.size; omega) (by omega) (by omega) (fun e => by have := hlt1.2.2 q e; omega) _⟩)
              clear hbq hset hod hsd hdl hcl hlt1 hcm hcq
              generalize d.getD j 0 = y0 at *
              go_wp2_with fail
              exact ⟨N.out, by simp [intOf]; omega⟩
            · have tj : ¬ (j : Int) < m := by omega
              have H8 := Lib.hid hsd
              have R8 := Lib.hid (R4.out.below hsd.b)
              have hr8 := hsd.r
              rw [HM.out.2] at hr8
              have O8 := Lib.hid hr8
              have B8 := Lib.hid hsd.b.size
              clear hod hsd hdl hr8
              go_wp2_with (at_builtin; refine wpList_append_reads rfl (.tmp 50) (.tmp 51) 22 rfl w.heap.size 5 i0 (.int .u8 0) 1 Try.underlying22 HI.out HZ.out rfl (.slice Aa M ca) M (bts fl) rfl O8.out Ai m ci (bts r) rfl R8.out hA2.out (bts_one _) ?e1 ?e2 ?e3 ?_)
              case e1 => unfold maxLen; omega
              case e2 => omega
              case e3 => exact B8.out
              intro va w9 hown hgr
              have hl9 : fl'.length = M + m := by rw [EF.out, List.length_append, HM.out.1, HM.out.2]
              have ho9 : w9.ownsRow w.heap.size 5 1 va fl'.length (bts fl') := by
                rw [hl9, EF.out, bts_append]; exact hown
              have H9 := Lib.hid (H8.out.append ho9 hgr)
              obtain ⟨A9, c9, hva9, _, hr9⟩ := Reads.of_own ho9
              subst hva9
              have R9 := Lib.hid hr9
              have L9 := Lib.hid (show fl'.length ≤ 1000 by omega)
              clear hown hgr ho9 hr9 hl9
              have KS := Lib.hid (fun x (b : Reads x A9 fl'.length (bts fl')) => csum_any x A9 _ c9 _ b DF.out (by have := L9.out; omega))
              generalize hN : fl'.length = N at *
              have HN := Lib.hid hN
              clear hN
              generalize hSS : crcSum fl' = SS at *
              have HSS := Lib.hid hSS
              clear hSS
              go_wp2_with fail
              refine (hsum_any w9 gh SS H9.out.h).mono ?_
              rintro e w10 ⟨rfl, rfl⟩
              go_wp2_with fail
              refine (KS.out w9 R9.out).mono ?_
              rintro e w11 ⟨rfl, b11⟩
              have H11 := Lib.hid (H9.out.below b11)
              have R11 := Lib.hid (R9.out.below b11)
              clear b11
              go_wp2_with fail
              refine (hsum_any w11 gh SS H11.out.h).mono ?_
              rintro e w12 ⟨rfl, rfl⟩
              go_wp2_with fail
              refine (KS.out w11 R11.out).mono ?_
              rintro e w13 ⟨rfl, b13⟩
              have H13 := Lib.hid (H11.out.below b13)
              clear b13
              go_wp2_with fail
              refine ⟨⟨k + 1, by omega, by go_num, by rw [HG.out.1, HN.out]; exact L9.out, ?_⟩, by simp [intOf]; omega⟩
              rw [HG.out.1, HG.out.2, HSS.out]
              exact H13.out
    · obtain rfl : k = n := by omega
      have hu : ¬ (k : Int) < k := by omega
      rcases Nat.eq_zero_or_pos k with h0 | h0
      · subst h0
        have b2 : Below w.heap.size w wr := hst.b
        have b2d := upd b2
        clear hst
        go_wp2_with fail
        have hT : True := trivial
        refine wp_region_noPanic ?_
        refine wp_region_held_drew (S := fun _ => True) (by kernel_rfl) hT (fun _ => ?_)
        refine wpAnyH_take (i := 0) (v := ?v0) rfl (by kernel_rfl) (by kernel_rfl) (by kernel_rfl) (fun _ _ _ h => h) (Or.inl ⟨by rfl, ?y0⟩) hT ?_
        case y0 => (intro w hSw; go_simp; try with_reducible rfl)
        simp only [Act.put, List.setIfInBounds_toArray, List.set_cons_zero, List.set_cons_succ, List.getElem_toArray, List.getElem_cons_zero]
        refine wpAnyH_ready (rs := [1]) (by kernel_rfl) (by simp) ?_
        refine AllReadyH.cons rfl (fun K hK => ?_) AllReadyH.nil
        rw [if_pos (by rfl)]
        go_wp2_with fail
        refine (hsum_nil _).mono ?_
        rintro e w3 ⟨rfl, b3⟩
        have c3 := Lib.hid (up2 b2d b3)
        clear b3
        go_wp2_with fail
        refine hK.out _ _ hT (fun _ => ?_)
        clear hK
        refine wpAnyH_take (i := 2) (v := ?v2) rfl (by kernel_rfl) (by kernel_rfl) (by kernel_rfl) (fun _ _ _ h => h) (Or.inl ⟨by rfl, ?y2⟩) hT ?_
        case y2 => (intro w hSw; go_simp; try with_reducible rfl)
        simp only [Act.put, List.setIfInBounds_toArray, List.set_cons_zero, List.set_cons_succ, List.getElem_toArray, List.getElem_cons_zero, List.getElem_cons_succ]
        refine wpAnyH_take (i := 3) (v := ?v3) rfl (by kernel_rfl) (by kernel_rfl) (by kernel_rfl) (fun _ _ _ h => h) (Or.inl ⟨by rfl, ?y3⟩) hT ?_
        case y3 => (intro w hSw; go_simp; try with_reducible rfl)
        simp only [Act.put, List.setIfInBounds_toArray, List.set_cons_zero, List.set_cons_succ, List.getElem_toArray, List.getElem_cons_zero, List.getElem_cons_succ]
        refine wpAnyH_take (i := 4) (v := ?v4) rfl (by kernel_rfl) (by kernel_rfl) (by kernel_rfl) (fun _ _ _ h => h) (Or.inl ⟨by rfl, ?y4⟩) hT ?_
        case y4 => (intro w hSw; go_simp; try with_reducible rfl)
        simp only [Act.put, List.setIfInBounds_toArray, List.set_cons_zero, List.set_cons_succ, List.getElem_toArray, List.getElem_cons_zero, List.getElem_cons_succ]
        refine wpAnyH_take (i := 5) (v := ?v5) rfl (by kernel_rfl) (by kernel_rfl) (by kernel_rfl) (fun _ _ _ h => h) (Or.inl ⟨by rfl, ?y5⟩) hT ?_
        case y5 => (intro w hSw; go_simp; try with_reducible rfl)
        simp only [Act.put, List.setIfInBounds_toArray, List.set_cons_zero, List.set_cons_succ, List.getElem_toArray, List.getElem_cons_zero, List.getElem_cons_succ]
        refine wpAnyH_take (i := 6) (v := ?v6) rfl (by kernel_rfl) (by kernel_rfl) (by kernel_rfl) (fun _ _ _ h => h) (Or.inl ⟨by rfl, ?y6⟩) hT ?_
        case y6 => (intro w hSw; go_simp; try with_reducible rfl)
        simp only [Act.put, List.setIfInBounds_toArray, List.set_cons_zero, List.set_cons_succ, List.getElem_toArray, List.getElem_cons_zero, List.getElem_cons_succ]
        refine wpAnyH_take (i := 7) (v := ?v7) rfl (by kernel_rfl) (by kernel_rfl) (by kernel_rfl) (fun _ _ _ h => h) (Or.inl ⟨by rfl, ?y7⟩) hT ?_
        case y7 => (intro w hSw; go_simp; try with_reducible rfl)
        simp only [Act.put, List.setIfInBounds_toArray, List.set_cons_zero, List.set_cons_succ, List.getElem_toArray, List.getElem_cons_zero, List.getElem_cons_succ]
        refine wpAnyH_take (i := 8) (v := undef) rfl (by kernel_rfl) (by kernel_rfl) (by kernel_rfl) (fun _ _ _ h => h) (Or.inr ⟨by kernel_rfl, rfl⟩) hT ?_
        simp only [Act.put, List.setIfInBounds_toArray, List.set_cons_zero, List.set_cons_succ, List.getElem_toArray, List.getElem_cons_zero, List.getElem_cons_succ]
        refine wpAnyH_take (i := 9) (v := undef) rfl (by kernel_rfl) (by kernel_rfl) (by kernel_rfl) (fun _ _ _ h => h) (Or.inr ⟨by kernel_rfl, rfl⟩) hT ?_
        simp only [Act.put, List.setIfInBounds_toArray, List.set_cons_zero, List.set_cons_succ, List.getElem_toArray, List.getElem_cons_zero, List.getElem_cons_succ]
        refine wpAnyH_take (i := 10) (v := undef) rfl (by kernel_rfl) (by kernel_rfl) (by kernel_rfl) (fun _ _ _ h => h) (Or.inr ⟨by kernel_rfl, rfl⟩) hT ?_
        simp only [Act.put, List.setIfInBounds_toArray, List.set_cons_zero, List.set_cons_succ, List.getElem_toArray, List.getElem_cons_zero, List.getElem_cons_succ]
        refine wpAnyH_take (i := 11) (v := undef) rfl (by kernel_rfl) (by kernel_rfl) (by kernel_rfl) (fun _ _ _ h => h) (Or.inr ⟨by kernel_rfl, rfl⟩) hT ?_
        simp only [Act.put, List.setIfInBounds_toArray, List.set_cons_zero, List.set_cons_succ, List.getElem_toArray, List.getElem_cons_zero, List.getElem_cons_succ]
        refine wpAnyH_take (i := 12) (v := undef) rfl (by kernel_rfl) (by kernel_rfl) (by kernel_rfl) (fun _ _ _ h => h) (Or.inr ⟨by kernel_rfl, rfl⟩) hT ?_
        simp only [Act.put, List.setIfInBounds_toArray, List.set_cons_zero, List.set_cons_succ, List.getElem_toArray, List.getElem_cons_zero, List.getElem_cons_succ]
        refine wpAnyH_take (i := 13) (v := undef) rfl (by kernel_rfl) (by kernel_rfl) (by kernel_rfl) (fun _ _ _ h => h) (Or.inr ⟨by kernel_rfl, rfl⟩) hT ?_
        simp only [Act.put, List.setIfInBounds_toArray, List.set_cons_zero, List.set_cons_succ, List.getElem_toArray, List.getElem_cons_zero, List.getElem_cons_succ]
        refine wpAnyH_take (i := 14) (v := ?v14) rfl (by kernel_rfl) (by kernel_rfl) (by kernel_rfl) (fun _ _ _ h => h) (Or.inl ⟨by rfl, ?y14⟩) hT ?_
        case y14 => (intro w hSw; go_simp; try with_reducible rfl)
        simp only [Act.put, List.setIfInBounds_toArray, List.set_cons_zero, List.set_cons_succ, List.getElem_toArray, List.getElem_cons_zero, List.getElem_cons_succ]
        refine wpAnyH_take (i := 15) (v := ?v15) rfl (by kernel_rfl) (by kernel_rfl) (by kernel_rfl) (fun _ _ _ h => h) (Or.inl ⟨by rfl, ?y15⟩) hT ?_
        case y15 => (intro w hSw; go_simp; try with_reducible rfl)
        simp only [Act.put, List.setIfInBounds_toArray, List.set_cons_zero, List.set_cons_succ, List.getElem_toArray, List.getElem_cons_zero, List.getElem_cons_succ]
        refine wpAnyH_take (i := 16) (v := ?v16) rfl (by kernel_rfl) (by kernel_rfl) (by kernel_rfl) (fun _ _ _ h => h) (Or.inl ⟨by rfl, ?y16⟩) hT ?_
        case y16 => (intro w hSw; go_simp; try with_reducible rfl)
        simp only [Act.put, List.setIfInBounds_toArray, List.set_cons_zero, List.set_cons_succ, List.getElem_toArray, List.getElem_cons_zero, List.getElem_cons_succ]
        refine wpAnyH_done (by kernel_rfl) ?_ _
        refine NoPanic.normal ?_
        go_wp2
        go_ret
        exact ⟨rfl, c3.out⟩
      · have tk : ((k : Int) == 0) = false := by rw [beq_eq_false_iff_ne]; omega
        have h00 : (0 : Int) < k := by omega
        obtain ⟨ad, hA, hcell⟩ := HR.out.2 h0
        subst hA
        obtain ⟨A0, c0, h1, h2, h3, h4⟩ := hcell 0 h0
        rw [show ad.add 0 = ad by simp [Addr.add]] at h1
        have hl0 := flat_first rs k h0
        have D0 := Lib.hid (dig_getD HD.out 0)
        have es : soAt rs k = crcSum (rs.getD 0 []) := if_neg (by omega)
        rw [es] at hst
        have R0 := Lib.hid h4
        have C0 := Lib.hid h1
        have ho : HIs wr.drew go (crcSum (rs.getD 0 [])) := hst.o
        have b2 : Below w.heap.size w wr.drew := upd hst.b
        have hm : (rs.getD 0 []).length ≤ 1000 := by omega
        have KC := Lib.hid (fun x (b : Below w.heap.size w x) => csum_any x A0 _ c0 _ (R0.out.below b) D0.out (by omega))
        have CB := Lib.hid (fun x (b : Below w.heap.size w x) => (b.cell (World.block_lt_of_cell? _ _ C0.out)).trans C0.out)
        have KO := Lib.hid (fun x s (h : HIs x go s) => hsum_any x go s h)
        clear hst h1 h2 h3 h4 hcell es hl0 hlen R0 C0 D0
        generalize crcSum (rs.getD 0 []) = s at *
        generalize (rs.getD 0 []).length = m0 at *
        go_wp2_with fail
        go_region_held3 (fun w' => w'.cell? ad = some (.slice A0 m0 c0))
          (exact CB.out _ (by assumption))
          (first
            | (go_at_call 16; with_reducible refine (hsum_nil _).mono ?_; rintro e w3 ⟨rfl, b3⟩; have c3 := up2 b2 b3; have ho3 := ho.below b3; clear b3)
            | (go_at_call 16; with_reducible refine (KO.out _ _ (by assumption)).mono ?_; rintro e w4 ⟨rfl, rfl⟩)
            | (go_at_call 12; with_reducible refine (KC.out _ (by assumption)).mono ?_; rintro e w5 ⟨rfl, b5⟩; have c5 := up2 c3 b5; clear b5)
            | fail)
        have C5 := Lib.hid c5
        clear c5 c3 ho ho3 b2
        go_wp2
        go_ret
        exact ⟨rfl, C5.out⟩
theorem walk (A : Option Addr) (n c : Nat) (rs : List (List Nat)) (w : World) (_ : (A = none → c = 0) ∧ n ≤ c) (hd : ∀ r ∈ rs, Dig r) (h : BRows w A n rs) :
    Calls Try.prog 5 #[.slice A n c] w fun e w' => e = .returned (.bool true) ∧ Below w.heap.size w w' := by
  by_cases hg : 60 < n
  · exact out A n c w hg
  · exact inn A n c rs w hd h (by omega)

set_option maxRecDepth 100000 in
theorem lifted (os : Os) (started : os.Started) (H : Type) (enc : TypeId × Value → H) :
    ReturnsInHanded {} Try.checked os 5 .any (Rows.crcWritesSpec.pre6 enc Try.prog Try.f5 Rows.crcWritesRow.domain false) (Rows.crcWritesSpec.post enc Try.prog Try.f5 false true false false) := by
  refine returnsInHanded_of_change_sized (C := Try.checked) own_knob started (by kernel_rfl) Try.func5
    (ChangeSpec.witness6 (enc := enc) (C := Try.checked) false ⟨#[], #[.slice none 0 0], []⟩ 8 (by kernel_rfl) (by kernel_rfl) (by kernel_rfl) (by kernel_rfl)) ?_
  intro W base args ds gs before hval0 hW hcnd hsz0 _
  have hsz : (DataW.weightsEach Try.prog (Try.f5.params.toList ++ Rows.crcWritesSpec.plain.varTypes Try.prog) (ds ++ gs)).all (· ≤ reachBytes) = true := hsz0
  have hval : ∀ (j : Nat) t v, Try.f5.params[j]? = some t → args[j]? = some v → Value.okWide Try.prog W .any base t v := hval0
  have hW' := hW
  obtain ⟨p, q, hA0, hV, rfl, hfz, hnd⟩ := hW
  have hA : DataW.TrodAll enc Try.prog W 0 (fun _ => true) true Try.f5.params.toList args.toList ds p := hA0
  rw [Try.params5] at hA hval hsz
  obtain ⟨v0, vs0, d0, ds0, p0, q0, hargs, rfl, rfl, h0, r0⟩ := trodAll_cons hA
  obtain ⟨rfl, rfl, rfl⟩ := trodAll_nil r0
  obtain rfl : args = #[v0] := by cases args; simp_all
  obtain ⟨rfl, rfl⟩ := trodVars_none hV
  obtain ⟨a0, len0, cap0, rfl⟩ := okWide_slice Try.underlying29 (hval 0 29 v0 rfl rfl)
  have lt0 : ∀ x ∈ p0, x.block < W.heap.size := by obtain ⟨m, hm⟩ := h0; exact DataW.trod_lt m _ _ _ hm
  obtain ⟨hc0, xs0, hx0, hr0⟩ := arg_rows h0 (fun x hx => by simpa using List.all_eq_true.1 hsz _ (DataW.weights_mem_each (j := 0) (t := 29) rfl rfl x hx))
  clear hA0 hval0
  refine (walk a0 len0 cap0 xs0 W hc0 hx0 hr0).mono fun e W' ⟨he, bel⟩ => ?_
  subst he
  exact ⟨_, rfl, _, _, _, [], _, [], hW', trodAll_mk1 (shut_bool Try.underlying4 _), (trodAll_cons_mk (Below.trod laid_out (by kernel_rfl) (of_decide_eq_true (by kernel_rfl)) h0 bel lt0) trodAll_mk0), rfl, bel.frame _, fun h => by cases h⟩

theorem over : Rows.crcWritesRow.holds Try.pinned (OpenSpec.ofChange Rows.crcWritesSpec) :=
  OpenClaim.holds_of_wide 5 Try.f5 rfl rfl rfl rfl rfl rfl rfl ⟨rfl, rfl, rfl, rfl, rfl⟩ rfl rfl rfl rfl rfl (by kernel_rfl) Try.func5 (by kernel_rfl)
    (of_decide_eq_true (by kernel_rfl)) (by unfold Func.isWrapper; first | (rw [if_pos (by decide +kernel)]; kernel_rfl) | (rw [if_neg (by decide +kernel)]; exact ⟨rfl, rfl⟩))
    (fun os started H enc _ => lifted os started H enc)

theorem proved : Rows.CrcWritesSaid := over
end Go.Proofs.Ytofchndeafobaaa.crcWrites
