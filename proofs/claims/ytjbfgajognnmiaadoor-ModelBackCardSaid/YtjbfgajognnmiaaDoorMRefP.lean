/- The document's plain bytes of a row (layer 5). -/
import Derived.Test.YtjbfgajognnmiaaDoorMRef
import Derived.Deep.RegionLaw
namespace Go.Proofs.YtjbfgajognnmiaaDoor
open Go.RowKit

def RPlainAt (w : World) (n L : Nat) (ss : List Nat) (v i : Value) (wr : World) : Prop :=
  ∃ k : Nat, k ≤ L ∧ i = .int .i64 (k : Int) ∧ wr.ownsRow w.heap.size 3 1 v (pbits n (ss.take k)).length (i64s (pbits n (ss.take k))) ∧ Below w.heap.size w wr

set_option maxHeartbeats 4000000 in
set_option maxRecDepth 100000 in
theorem rplain_any (w : World) (A : Option Addr) (L c n : Nat) (ss : List Nat) (h : Reads w A L (nts ss)) (hL : L ≤ 65536) (h0 : 1 ≤ n) (hn : n ≤ 256) (hs : ∀ s ∈ ss, s < n) :
    Calls Tryd.prog 14 #[.int .i64 (n : Int), .slice A L c] w (OwnB w (plainLen n L) (0 :: pack (pbits n ss))) := by
  obtain ⟨i0, hi, hz0, hz1, hz2⟩ := info_parts Tryd.infoU8
  obtain ⟨i1, hi1, hy0, hy1, hy2⟩ := info_parts Tryd.infoInt
  have HI := Lib.hid hi
  have HZ := Lib.hid (And.intro hz0 (And.intro hz1 hz2))
  have HI1 := Lib.hid hi1
  have HZ1 := Lib.hid (And.intro hy0 (And.intro hy1 hy2))
  have HR := Lib.hid h
  have HL := Lib.hid h.nlen
  have HS := Lib.hid hs
  have KW := Lib.hid (fun w => r5width_any w n h0 hn)
  have hW : wide (n : Int) ≤ 8 := digits_le _ 8 (by omega)
  have HP := Lib.hid (fun k (hk : k ≤ L) => show (pbits n (ss.take k)).length ≤ 65536 * 8 by
    rw [length_pbits, List.length_take]
    exact Nat.mul_le_mul (by omega) hW)
  have HT := Lib.hid (fun k (hk : k < ss.length) => show pbits n (ss.take k) ++ bitsOf (ss.getD k 0) (wide (n : Int)) = pbits n (ss.take (k + 1)) by rw [take_getD ss k hk, pbits_append, pbits_one])
  generalize hWW : wide (n : Int) = W at *
  have HWW := Lib.hid hWW
  clear h hs hi hz0 hz1 hz2 hi1 hy0 hy1 hy2 hWW
  go_enter Tryd.func14, Tryd.ntmps14
  go_wp2_with fail
  go_loopw [5, 6] (RPlainAt w n L ss) (fun _ i _ => L - (intOf i).toNat)
  case atStart => exact ⟨0, Nat.zero_le _, rfl, World.ownsRow_nil _ _ _ _, Below.refl _ _⟩
  case round =>
    obtain ⟨k, hk, rfl, how, hb⟩ := hrel
    have hpl := HP.out k hk
    by_cases hlt : k < L
    · obtain ⟨ad, rfl, ckw⟩ := HR.out.nat k hlt
      have ck := (hb.cell (World.block_lt_of_cell? _ _ ckw)).trans ckw
      have hbl := World.block_lt_of_cell? _ _ ckw
      have hkl : k < ss.length := by rw [HL.out]; exact hlt
      have hsn := getD_lt HS.out k hkl
      have hTT := HT.out k hkl
      generalize ss.getD k 0 = s at *
      generalize hbs : pbits n (ss.take k) = bs at *
      obtain ⟨A2, c2, hu, _⟩ := Reads.of_own how
      subst hu
      have HTT := Lib.hid hTT
      have HO := Lib.hid how
      have HB := Lib.hid hb
      have HBS := Lib.hid hbs
      have HVal := Lib.hid (refValue_any wr.drew s W (by omega) (by omega))
      have HB1 := Lib.hid (show bs.length + W ≤ maxLen by unfold maxLen; omega)
      have HB2 := Lib.hid (show (bs.length + W) * 8 ≤ 140737488355328 by omega)
      have HC0 := Lib.hid (show (i64s (bitsOf s W)).length = W by rw [length_i64s, length_bitsOf])
      have hkn : (k : Int) < L := by omega
      have hws : IntKind.u64.wrap (s : Int) = (s : Int) := by simp [IntKind.wrap, IntKind.bits, IntKind.signed]; omega
      have hb2 : (ad.add k).block < wr.drew.heap.size := Nat.lt_of_lt_of_le hbl hb.size
      have e0 : wr.drew.cell? (ad.add k) = some (.int .i64 (s : Int)) := ck
      clear ckw hkl hTT how hb hbs
      go_wp2_with fail
      go_region_held3 (fun w' => w'.cell? (ad.add k) = some (.int .i64 (s : Int)))
        (first | exact a0 | exact f0 | exact e0)
        (first
          | (go_at_call 24; refine (KW.out _).mono ?_; rintro e w' ⟨rfl, rfl⟩)
          | (go_at_call 23; refine HVal.out.mono ?_; rintro e wv ⟨rfl, hrv, hbv⟩; have SV := Lib.hid (own_keep (S := fun _ => False) (own_congr (w' := wr.drew) rfl HO.out) (.of_below hbv) (fun _ _ => id)); have BV := Lib.hid (show Below w.heap.size w wv from (HB.out.trans (Reading.below (w' := wr.drew) ⟨1, rfl⟩)).trans (hbv.mono HB.out.size)); have f0 := (hbv.cell hb2).trans e0; have NW := Lib.hid (show ∀ j u, (i64s (bitsOf s W))[j]? = some u → wv.cell? ((⟨wr.drew.heap.size, 0, none⟩ : Addr).add j) = some u from fun j u hj => World.news_of_block hrv j u (by simpa using hj)); clear hrv hbv)
          | (refine step_append_row (by rfl) (.tmp 13) (.tmp 21) 22 (by rfl) w.heap.size 3 i1 (.int .i64 0) 8 Tryd.underlying22 HI1.out HZ1.out (by rfl) (.slice A2 bs.length c2) bs.length (i64s bs) (by go_simp) SV.out ⟨wr.drew.heap.size, 0, none⟩ W W (i64s (bitsOf s W)) (by go_simp) HC0.out NW.out (i64s_one _) HB1.out HB2.out BV.out.size ?_; intro all' wa hown hgr; have a0 := ((Below.refl w.heap.size wv).grown hgr BV.out.size (fun p e => (SV.out.lt p e).1) |>.cell hbl).trans f0; have HOwn := Lib.hid hown; have HGr := Lib.hid hgr; clear hown hgr))
      have BA := Lib.hid (own_grown_below BV.out HGr.out BV.out.size (fun p hp => (SV.out.lt p hp).1))
      have OA := Lib.hid (show wa.ownsRow w.heap.size 3 1 all' (pbits n (ss.take (k + 1))).length (i64s (pbits n (ss.take (k + 1)))) by
        rw [← HTT.out, i64s_append, List.length_append, length_bitsOf]
        exact HOwn.out)
      go_wp2_with fail
      exact ⟨⟨k + 1, by omega, by go_num, OA.out, BA.out⟩, by simp [intOf]; omega⟩
    · obtain rfl : k = L := by omega
      have hkn : ¬ (k : Int) < k := by omega
      rw [List.take_of_length_le (by rw [HL.out]; exact Nat.le_refl _)] at how hpl
      obtain ⟨A2, c2, hu, _, hr2⟩ := Reads.of_own how
      subst hu
      have hml := length_plain n ss
      rw [HL.out, List.length_cons] at hml
      have hmm := length_pack (pbits n ss)
      have b1 := mk_below wr (.cells #[.int .u8 0] 5)
      have KB := Lib.hid (refBytes_own _ A2 (pbits n ss).length c2 (pbits n ss) (by omega) (hr2.below b1))
      have O1 := Lib.hid (own_one wr w.heap.size 0 hb.size)
      have B1 := Lib.hid (hb.alloc hb.size (.cells #[.int .u8 0] 5))
      have HE := Lib.hid (show bts (0 :: pack (pbits n ss)) = bts [0] ++ bts (pack (pbits n ss)) from rfl)
      clear how hb hr2 b1
      generalize hnl : (pbits n ss).length = nl at *
      go_wp2_with fail
      refine KB.out.mono ?_
      rintro e w2 ⟨v2, rfl, o2, b2⟩
      obtain ⟨A3, c3, hu, hA3, r3⟩ := Reads.of_own o2
      subst hu
      have O2 := Lib.hid (own_keep (S := fun _ => False) O1.out (.of_below b2) (fun _ _ => id))
      have B2 := Lib.hid (B1.out.trans (b2.mono B1.out.size))
      have R2 := Lib.hid (show Reads w2 A3 (pack (pbits n ss)).length (bts (pack (pbits n ss))) from r3)
      have HA3 := Lib.hid hA3
      generalize (pack (pbits n ss)).length = m at *
      have HM := Lib.hid hml
      have hm2 : m ≤ 10000000 := by omega
      clear o2 b2 r3 hA3 hml hmm hpl hnl
      go_wp2_with (at_builtin; refine wpList_append_reads rfl (.tmp 23) (.tmp 25) 25 rfl w.heap.size 5 i0 (.int .u8 0) 1 Tryd.underlying25 HI.out HZ.out rfl (.slice (some ⟨wr.heap.size, 0, none⟩) 1 1) 1 (bts [0]) rfl O2.out A3 m c3 (bts (pack (pbits n ss))) rfl R2.out HA3.out (bts_one _) ?b1 ?b2 ?b3 ?_)
      case b1 => unfold maxLen; omega
      case b2 => omega
      case b3 => exact B2.out.size
      intro v' w3 hown hgr
      have O3 := Lib.hid hown
      have B3 := Lib.hid (own_grown_below B2.out hgr B2.out.size (fun p hp => (own_lt O2.out p hp).1))
      clear hown hgr
      go_wp2
      go_ret
      refine ⟨v', rfl, ?_, B3.out⟩
      rw [HE.out, show plainLen n k = 1 + m by have := HM.out; omega]
      exact O3.out
end Go.Proofs.YtjbfgajognnmiaaDoor
