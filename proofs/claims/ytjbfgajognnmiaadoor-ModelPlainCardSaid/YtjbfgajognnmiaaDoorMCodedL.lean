/- coded of layer 5's statements: a row's coded bytes, tables being made as contexts come. -/
import Derived.Test.YtjbfgajognnmiaaDoorGModel
namespace Go.Proofs.YtjbfgajognnmiaaDoor
open Go.RowKit

structure LCod (w wr : World) (n q N g qo : Nat) (m : Where) (ps : List (Nat × Nat)) : Prop where
  cod : CodAt w wr n q N g m ps
  far : ∀ c p, c < N → m c = some p → qo < p.2.1
  new : ∀ c, c < N → m c = none → stOf (st0 n) ps c = List.replicate n 1
  ones : wr.heap[qo]? = some (.cells (ints (List.replicate n 1)).toArray 3 (0, 0))
def LLoop (w : World) (n q N g qo L : Nat) (ps : List (Nat × Nat)) (i : Value) (wr : World) : Prop := ∃ k : Nat, k ≤ L ∧ i = .int .i64 (k : Int) ∧ ∃ m, LCod w wr n q N g qo m (ps.take k)
def OnesAt (w : World) (n qo : Nat) (i : Value) (wr : World) : Prop := ∃ k : Nat, k ≤ n ∧ i = .int .i64 (k : Int) ∧ wr.heap[qo]? = some (.cells (filled k n).toArray 3 (0, 0)) ∧ Below w.heap.size w wr
theorem filled_set (k n : Nat) (h : k < n) : (filled k n).toArray.setIfInBounds k (.int .i64 1) = (filled (k + 1) n).toArray := by
  rw [List.setIfInBounds_toArray]
  unfold filled
  obtain ⟨d, hd⟩ : ∃ d, n - k = d + 1 := ⟨n - k - 1, by omega⟩
  rw [List.set_append_right _ _ (by simp), List.length_replicate, Nat.sub_self, hd, List.replicate_succ, List.set_cons_zero, show n - (k + 1) = d by omega, List.replicate_succ', List.append_assoc]
  rfl
theorem filled_cell {w : World} {q k n : Nat} (h : w.heap[q]? = some (.cells (filled k n).toArray 3 (0, 0))) (hk : k < n) : w.cell? ⟨q, k, none⟩ = some (.int .i64 0) := by
  rw [cell_in h, List.getElem?_toArray]
  unfold filled
  rw [List.getElem?_append_right (by simp), List.length_replicate, Nat.sub_self, List.getElem?_replicate, if_pos (by omega)]
/-- What coded answers. -/
def CodedL (w : World) (n : Nat) (ps : List (Nat × Nat)) (e : Ending) (w' : World) : Prop :=
  ∃ b v, IsCode (rowIv n ps) b ∧ e = .returned (.tuple #[v, .bool true]) ∧ w'.ownsRow w.heap.size 5 1 v (b.length + 1) (bts (1 :: b)) ∧ Below w.heap.size w w'

set_option maxHeartbeats 4000000 in
set_option maxRecDepth 100000 in
theorem coded5_any (w : World) (A A' : Option Addr) (L c c' n N : Nat) (ss cs : List Nat) (h : Reads w A L (nts ss)) (h' : Reads w A' L (nts cs)) (hL : L ≤ 65536) (h0 : 0 < n) (hn : n ≤ 256) (hN : N ≤ 64) (hs : ∀ s ∈ ss, s < n) (hcs : ∀ c ∈ cs, c < N) :
    Calls Tryd.prog 15 #[.int .i64 (n : Int), .int .i64 (N : Int), .slice A L c, .slice A' L c'] w (CodedL w n (cs.zip ss)) := by
  obtain ⟨i0, hi, hz0, hz1, hz2⟩ := info_parts Tryd.infoU8
  have HI := Lib.hid hi
  have HZ := Lib.hid (And.intro hz0 (And.intro hz1 hz2))
  have HR := Lib.hid h
  have HR' := Lib.hid h'
  have HL := Lib.hid h.nlen
  have HL' := Lib.hid h'.nlen
  have HS := Lib.hid hs
  have HC := Lib.hid hcs
  have HP := Lib.hid (show ∀ p ∈ cs.zip ss, p.2 < n from zip_lt hs)
  have HPL := Lib.hid (show (cs.zip ss).length = L by rw [List.length_zip, h.nlen, h'.nlen]; omega)
  have HG := Lib.hid (fun k => row_good h0 hn ((cs.zip ss).take k) (take_lt HP.out k))
  have HK := Lib.hid (fun k => show (rowIv n ((cs.zip ss).take k)).k ≤ 1000000 by
    have h1 := row_k n ((cs.zip ss).take k)
    rw [List.length_take] at h1
    have := HPL.out
    omega)
  have HO := Lib.hid (fun k => (allOk_st0 n h0 hn).of ((cs.zip ss).take k) (take_lt HP.out k))
  have hmk := fun W => run_make_row' (P := Tryd.prog) 22 3 (.int .i64 0) 8 Tryd.underlying22 Tryd.infoInt rfl .i64 .i64 n (by omega) (by omega) W
  have hmk2 := fun W => run_make_row' (P := Tryd.prog) 48 51 (.pointer none) 8 Tryd.underlying48 Tryd.infoTP rfl .i64 .i64 N (by omega) (by omega) W
  have HSUM := Lib.hid (show (List.replicate n (1 : Int)).sum ≤ 65536 by rw [sum_ones]; omega)
  have HONE := Lib.hid (show ∀ x ∈ List.replicate n (1 : Int), 1 ≤ x from fun x hx => by rw [List.eq_of_mem_replicate hx]; exact Int.le_refl _)
  have M0 := Lib.hid (show (w.alloc (.cells (madeCells #[.int .i64 0] n) 3)).heap[w.heap.size]? = some (.cells (filled 0 n).toArray 3 (0, 0)) by
    rw [heap_alloc_new, filled_zero, ← toList_madeCells_one])
  have B0 := Lib.hid (mk_below w (.cells (madeCells #[.int .i64 0] n) 3))
  clear h h' hs hcs hi hz0 hz1 hz2
  go_enter Tryd.func15, Tryd.ntmps15
  go_wp2_with fail
  go_loopw [22] (OnesAt w n w.heap.size) (fun i _ => n - (intOf i).toNat)
  case atStart => exact ⟨0, Nat.zero_le _, rfl, M0.out, B0.out⟩
  case round =>
    obtain ⟨k, hk, rfl, hq, hb⟩ := hrel
    by_cases hlt : k < n
    · have c0 := filled_cell hq hlt
      have f0 := frozen_in hq k
      have s0 := heap_set hq k (.int .i64 1)
      rw [filled_set k n hlt] at s0
      have Q := Lib.hid s0
      have B := Lib.hid (hb.setCell (p := ⟨w.heap.size, k, none⟩) (Nat.le_refl _) (.int .i64 1))
      have t1 : (k : Int) < n := by omega
      clear hq hb s0
      go_wp2_with fail
      exact ⟨⟨k + 1, by omega, by go_num, Q.out, B.out⟩, by simp [intOf]; omega⟩
    · obtain rfl : k = n := by omega
      have t1 : ¬ (k : Int) < k := by omega
      rw [filled_all] at hq
      have HQ := Lib.hid hq
      have HB := Lib.hid hb
      obtain ⟨qo, hqo⟩ : ∃ qo, qo = w.heap.size := ⟨_, rfl⟩
      rw [← hqo] at HQ ⊢
      have QO := Lib.hid (show w.heap.size ≤ qo by omega)
      have b2 := mk_below wr (.cells (madeCells #[.pointer none] N) 51)
      have T2 := Lib.hid (tabs_none wr N (st0 k))
      have B2 := Lib.hid (hb.trans (b2.mono hb.size))
      have N2 := Lib.hid (show (wr.alloc (.cells (madeCells #[.pointer none] N) 51)).heap[qo]? = some (.cells (ints (List.replicate k 1)).toArray 3 (0, 0)) from (b2.block qo (heap_lt HQ.out)).trans HQ.out)
      have KN := Lib.hid (cnew_any (wr.alloc (.cells (madeCells #[.pointer none] N) 51)) w.heap.size B2.out.size)
      have SQ := Lib.hid (show w.heap.size ≤ wr.heap.size from hb.size)
      clear hq hb b2 hmk hqo
      go_wp2_with fail
      refine KN.out.mono ?_
      rintro e w2 ⟨g, v0, rfl, e2, b2, _⟩
      have F2 := Lib.hid (show LCod w w2 k wr.heap.size N g qo (fun _ => none) ((cs.zip ss).take 0) from
        ⟨⟨T2.out.below b2, ⟨v0, e2⟩, B2.out.trans (b2.mono B2.out.size)⟩, fun c p _ h => (nomatch h), fun c _ _ => rfl, (b2.block qo (heap_lt N2.out)).trans N2.out⟩)
      clear e2 b2 hmk2
      generalize wr.heap.size = q at *
      obtain ⟨n, rfl⟩ : ∃ n, n = k := ⟨k, rfl⟩
      go_wp2_with fail
      go_loopw [34] (LLoop w n q N g qo L (cs.zip ss)) (fun i _ => L - (intOf i).toNat)
      case atStart => exact ⟨0, Nat.zero_le _, rfl, _, F2.out⟩
      case round =>
        obtain ⟨k, hk, rfl, m, hat⟩ := hrel
        obtain ⟨v, hv⟩ := hat.cod.enc
        have F := Lib.hid hat
        have E := Lib.hid hv
        clear hat hv
        by_cases hlt : k < L
        · obtain ⟨ad, rfl, ck⟩ := HR.out.nat k hlt
          obtain ⟨ad', rfl, ck'⟩ := HR'.out.nat k hlt
          have d1 := (F.out.cod.bel.cell (World.block_lt_of_cell? _ _ ck')).trans ck'
          have hsn := getD_lt HS.out k (by rw [HL.out]; exact hlt)
          have hcn := getD_lt HC.out k (by rw [HL'.out]; exact hlt)
          have HT := Lib.hid (zip_succ cs ss k (by rw [HL'.out]; exact hlt) (by rw [HL.out]; exact hlt))
          generalize ss.getD k 0 = s at *
          generalize cs.getD k 0 = x at *
          have t1 : (k : Int) < L := by omega
          have t2 : (x : Int) < N := by omega
          have d2 := F.out.cod.tabs.cell x hcn
          cases hmx : m x with
          | some p =>
            rw [hmx] at d2
            have d3 : wr.cell? ⟨q, x, none⟩ = some (.pointer (some ⟨p.1, 0, none⟩)) := d2
            have P := Lib.hid hmx
            clear d2 hmx
            have d0 := ((F).out.cod.bel.cell (World.block_lt_of_cell? _ _ ck)).trans ck
            have KE := Lib.hid (encode_ok wr w.heap.size g v _ E.out (HG.out k) (HK.out k) p.1 p.2.1 p.2.2 _ (F.out.cod.tabs.tab x p hcn P.out) ((HO.out k) x).1 s (by rw [((HO.out k) x).2]; exact hsn))
            go_wp2_with fail
            refine KE.out.mono ?_
            rintro e w6 ⟨rfl, h6⟩
            have H6 := Lib.hid h6
            have T6 := Lib.hid (show TIs w6 p.1 p.2.1 p.2.2 (stOf (st0 n) ((cs.zip ss).take k) x) from by
              obtain ⟨v6, en6, c6, m6⟩ := h6
              exact (F.out.cod.tabs.tab x p hcn P.out).enc E.out c6)
            have B6 := Lib.hid (F.out.cod.bel.trans (h6.below E.out))
            have d6 := (B6.out.cell (World.block_lt_of_cell? _ _ ck)).trans ck
            have N6 := Lib.hid (show w6.heap[qo]? = some (.cells (ints (List.replicate n 1)).toArray 3 (0, 0)) from by
              obtain ⟨v6, en6, c6, m6⟩ := h6
              refine (c6.far qo (heap_lt F.out.ones) ?_).trans F.out.ones
              rintro (e | e)
              · exact block_ne F.out.ones E.out.sp (by decide) e
              · exact own_ne E.out.row F.out.ones (by decide) e)
            clear h6
            have KB := Lib.hid (bump_ok w6 p.1 p.2.1 p.2.2 _ s T6.out ((HO.out k) x).1 (by rw [((HO.out k) x).2]; exact hsn))
            go_wp2_with fail
            refine KB.out.mono ?_
            rintro e w7 ⟨rfl, t7, g7⟩
            have F7 := Lib.hid (show LCod w w7 n q N g qo m ((cs.zip ss).take (k + 1)) from by
              have hpq := F.out.far x p hcn P.out
              obtain ⟨ht, he⟩ := cod_step F.out.cod.tabs E.out H6.out hcn P.out t7 g7
              rw [← HT.out] at ht he
              refine ⟨⟨ht, he, B6.out.trans (turned_below g7 (by have := QO.out; omega) B6.out.size)⟩, F.out.far, fun c hc hm => ?_, (g7.block qo (heap_lt N6.out) (fun e => by injection e with e; omega)).trans N6.out⟩
              rw [HT.out, stOf_snoc]
              unfold turn
              rw [if_neg (fun e => by rw [e, P.out] at hm; cases hm)]
              exact F.out.new c hc hm)
            clear t7 g7
            go_wp2_with fail
            exact ⟨⟨k + 1, by omega, by go_num, _, F7.out⟩, by simp [intOf]; omega⟩
          | none =>
            rw [hmx] at d2
            have d3 : wr.cell? ⟨q, x, none⟩ = some (.pointer none) := d2
            have PN := Lib.hid hmx
            have r1 := Reads.of_block F.out.ones
            rw [length_ints, List.length_replicate] at r1
            have KN2 := Lib.hid (new_any wr (some ⟨qo, 0, none⟩) n n (List.replicate n 1) r1 h0 hn HONE.out)
            clear d2 hmx r1
            go_wp2_with fail
            refine KN2.out.mono ?_
            intro e w3 h3
            unfold Newly at h3
            rw [if_pos HSUM.out] at h3
            obtain ⟨g1, q1, cap1, rfl, t3, _, l3, b3⟩ := h3
            have T3 := F.out.cod.tabs.below b3
            have c3 := T3.cell x hcn
            have f3 := frozen_in T3.blk x
            have hst := F.out.new x hcn PN.out
            obtain ⟨hT4, hC4⟩ := F.out.cod.tabs.laid x (g1, q1, cap1) hcn b3 (by rw [hst]; exact t3) l3
            have hqL : q < wr.heap.size := F.out.cod.tabs.lt
            have hqo := heap_lt F.out.ones
            have B3 := F.out.cod.bel.trans (b3.mono F.out.cod.bel.size)
            have hqB : w.heap.size ≤ q := SQ.out
            have e4 := E.out.below b3
            have E4 := Lib.hid (e4.tabs T3 hC4)
            have ones3 := (b3.block qo hqo).trans F.out.ones
            have F4 := Lib.hid (show LCod w (w3.setCell ⟨q, x, none⟩ (.pointer (some ⟨g1, 0, none⟩))) n q N g qo (m.set x (g1, q1, cap1)) ((cs.zip ss).take k) from by
              refine ⟨⟨hT4, ⟨v, E4.out⟩, B3.setCell (p := ⟨q, x, none⟩) hqB _⟩, fun c p hc hp => ?_, fun c hc hp => ?_, heap_far ones3 (fun e => block_ne ones3 T3.blk (by decide) e) _⟩
              · unfold Where.set at hp
                by_cases hcx : c = x
                · rw [if_pos hcx] at hp
                  injection hp with hp
                  subst hp
                  show qo < q1
                  omega
                · rw [if_neg hcx] at hp
                  exact F.out.far c p hc hp
              · unfold Where.set at hp
                by_cases hcx : c = x
                · rw [if_pos hcx] at hp; cases hp
                · rw [if_neg hcx] at hp
                  exact F.out.new c hc hp)
            obtain ⟨p, hp0⟩ : ∃ p, p = (g1, q1, cap1) := ⟨_, rfl⟩
            have P := Lib.hid (show (m.set x (g1, q1, cap1)) x = some p by unfold Where.set; rw [if_pos rfl, hp0])
            have dd := F4.out.cod.tabs.cell x hcn
            rw [P.out] at dd
            have d5 : (w3.setCell ⟨q, x, none⟩ (.pointer (some ⟨g1, 0, none⟩))).cell? ⟨q, x, none⟩ = some (.pointer (some ⟨p.1, 0, none⟩)) := dd
            have d4 := (B3.cell (World.block_lt_of_cell? _ _ ck')).trans ck'
            have d6' := (F4.out.cod.bel.cell (World.block_lt_of_cell? _ _ ck')).trans ck'
            have hg1 : g1 = p.1 := by rw [hp0]
            rw [hg1] at d5 d6' E4 F4 P ⊢
            clear t3 l3 b3 T3 hst hT4 hC4 hqL hqo hqB e4 ones3 dd B3 hp0
            generalize m.set x (p.1, q1, cap1) = m' at *
            have d0 := ((F4).out.cod.bel.cell (World.block_lt_of_cell? _ _ ck)).trans ck
            have KE := Lib.hid (encode_ok (w3.setCell ⟨q, x, none⟩ (.pointer (some ⟨p.1, 0, none⟩))) w.heap.size g v _ E4.out (HG.out k) (HK.out k) p.1 p.2.1 p.2.2 _ (F4.out.cod.tabs.tab x p hcn P.out) ((HO.out k) x).1 s (by rw [((HO.out k) x).2]; exact hsn))
            go_wp2_with fail
            refine KE.out.mono ?_
            rintro e w6 ⟨rfl, h6⟩
            have H6 := Lib.hid h6
            have T6 := Lib.hid (show TIs w6 p.1 p.2.1 p.2.2 (stOf (st0 n) ((cs.zip ss).take k) x) from by
              obtain ⟨v6, en6, c6, m6⟩ := h6
              exact (F4.out.cod.tabs.tab x p hcn P.out).enc E4.out c6)
            have B6 := Lib.hid (F4.out.cod.bel.trans (h6.below E4.out))
            have d6 := (B6.out.cell (World.block_lt_of_cell? _ _ ck)).trans ck
            have N6 := Lib.hid (show w6.heap[qo]? = some (.cells (ints (List.replicate n 1)).toArray 3 (0, 0)) from by
              obtain ⟨v6, en6, c6, m6⟩ := h6
              refine (c6.far qo (heap_lt F4.out.ones) ?_).trans F4.out.ones
              rintro (e | e)
              · exact block_ne F4.out.ones E4.out.sp (by decide) e
              · exact own_ne E4.out.row F4.out.ones (by decide) e)
            clear h6
            have KB := Lib.hid (bump_ok w6 p.1 p.2.1 p.2.2 _ s T6.out ((HO.out k) x).1 (by rw [((HO.out k) x).2]; exact hsn))
            go_wp2_with fail
            refine KB.out.mono ?_
            rintro e w7 ⟨rfl, t7, g7⟩
            have F7 := Lib.hid (show LCod w w7 n q N g qo m' ((cs.zip ss).take (k + 1)) from by
              have hpq := F4.out.far x p hcn P.out
              obtain ⟨ht, he⟩ := cod_step F4.out.cod.tabs E4.out H6.out hcn P.out t7 g7
              rw [← HT.out] at ht he
              refine ⟨⟨ht, he, B6.out.trans (turned_below g7 (by have := QO.out; omega) B6.out.size)⟩, F4.out.far, fun c hc hm => ?_, (g7.block qo (heap_lt N6.out) (fun e => by injection e with e; omega)).trans N6.out⟩
              rw [HT.out, stOf_snoc]
              unfold turn
              rw [if_neg (fun e => by rw [e, P.out] at hm; cases hm)]
              exact F4.out.new c hc hm)
            clear t7 g7
            go_wp2_with fail
            exact ⟨⟨k + 1, by omega, by go_num, _, F7.out⟩, by simp [intOf]; omega⟩
        · obtain rfl : k = L := by omega
          have hkn : ¬ (k : Int) < k := by omega
          have hE := E.out
          have hG := HG.out k
          have hK := HK.out k
          rw [List.take_of_length_le (by rw [HPL.out]; exact Nat.le_refl _)] at hE hG hK
          have KF := Lib.hid (finish_any _ w.heap.size g v _ (hE.below (mk_below wr (.cells #[.int .u8 1] 5))) hG hK)
          have O1 := Lib.hid (own_one wr w.heap.size 1 F.out.cod.bel.size)
          have B1 := Lib.hid (F.out.cod.bel.alloc F.out.cod.bel.size (.cells #[.int .u8 1] 5))
          have HGG := Lib.hid hG
          have hKK := hK
          clear hE hG hK
          go_wp2_with fail
          refine KF.out.mono ?_
          rintro e w2 ⟨b, u, rfl, ic, ow, b2⟩
          obtain ⟨A2, c2, rfl, hA2, r2⟩ := Reads.of_own ow
          have hbl := isCode_len HGG.out ic
          have hb2 : b.length ≤ 1000001 := by omega
          have O2 := Lib.hid (own_keep (S := fun _ => False) O1.out (.of_below b2) (fun _ _ => id))
          have B2 := Lib.hid (B1.out.trans (b2.mono B1.out.size))
          have R2 := Lib.hid r2
          have HA2 := Lib.hid hA2
          have IC := Lib.hid ic
          have HE := Lib.hid (show bts (1 :: b) = bts [1] ++ bts b from rfl)
          generalize hbn : b.length = nb at *
          have HBN := Lib.hid hbn
          clear ow ic b2 r2 hA2 hbl hbn hKK
          go_wp2_with (at_builtin; refine wpList_append_reads rfl (.tmp 84) (.tmp 86) 25 rfl w.heap.size 5 i0 (.int .u8 0) 1 Tryd.underlying25 HI.out HZ.out rfl (.slice (some ⟨wr.heap.size, 0, none⟩) 1 1) 1 (bts [1]) rfl O2.out A2 nb c2 (bts b) rfl R2.out HA2.out (bts_one _) ?b1 ?b2 ?b3 ?_)
          case b1 => unfold maxLen; omega
          case b2 => omega
          case b3 => exact B2.out.size
          intro v' w3 hown hgr
          have O3 := Lib.hid hown
          have B3 := Lib.hid (own_grown_below B2.out hgr B2.out.size (fun p hp => (own_lt O2.out p hp).1))
          clear hown hgr
          go_wp2
          go_ret2
          refine ⟨b, v', IC.out, rfl, ?_, B3.out⟩
          rw [HE.out, HBN.out, Nat.add_comm nb 1]
          exact O3.out
end Go.Proofs.YtjbfgajognnmiaaDoor
