/- The document's Table (layer 7). -/
import Derived.Test.YtngambkbpdjddaaBoxRefB
import Derived.Deep.AppendLies
namespace Go.Proofs.Ytngambkbpdjddaa
open Go.RowKit

def RTableAt (w : World) (n : Nat) (cs : List (Nat × List Nat)) (t i : Value) (wr : World) : Prop :=
  ∃ k : Nat, k ≤ n ∧ i = .int .i64 (k : Int) ∧ wr.ownsRow w.heap.size 5 1 t (9 * k) (bts (rowsB (cs.take k))) ∧ Below w.heap.size w wr

set_option maxHeartbeats 6400000 in
set_option maxRecDepth 100000 in
theorem r7table_any (w : World) (A : Option Addr) (n c : Nat) (A' : Option Addr) (c' : Nat) (xs : List Value) (cs : List (Nat × List Nat)) (hk : Reads w A n (bts (cs.map (·.1)))) (hx : Reads w A' n xs) (hp : Pieces w xs (cs.map (·.2))) (hd : DigC cs) (hn : n ≤ 1024) (hs : ∀ x ∈ cs, x.2.length ≤ 1000000) :
    Calls Try.prog 44 #[.slice A n c, .slice A' n c'] w (OwnB w (9 * n + 4) (tableB cs)) := by
  obtain ⟨i0, hi, hz0, hz1, hz2⟩ := info_parts Try.infoU8
  have HI := Lib.hid hi
  have HZ := Lib.hid (And.intro hz0 (And.intro hz1 hz2))
  have hl : cs.length = n := by have := hk.lenB; simpa using this
  have HL := Lib.hid hl
  have HK := Lib.hid hk
  have HX := Lib.hid hx
  have HP := Lib.hid hp
  have HD := Lib.hid hd
  have HS := Lib.hid hs
  clear hk hx hp hd hs hl hi hz0 hz1 hz2
  go_enter Try.func44, Try.ntmps44
  go_wp2_with fail
  go_loopw [5, 6] (RTableAt w n cs) (fun _ i _ => n - (intOf i).toNat)
  case atStart => exact ⟨0, Nat.zero_le _, rfl, World.ownsRow_nil _ _ _ _, Below.refl _ _⟩
  case round =>
    obtain ⟨k, hk, rfl, ho, hb⟩ := hrel
    by_cases hlt : k < n
    · have hkl : k < cs.length := by rw [HL.out]; exact hlt
      obtain ⟨ad, rfl, ck⟩ := HK.out.byte k hlt
      obtain ⟨ad', Ai, ci, rfl, cd, hA, hr⟩ := HP.out.cell HX.out k hlt
      have e1 : (cs.map (·.1)).getD k 0 = (cs.getD k (0, [])).1 := by simp [List.getD_eq_getElem?_getD, List.getElem?_eq_getElem hkl]
      have e2 : (cs.map (·.2)).getD k [] = (cs.getD k (0, [])).2 := by simp [List.getD_eq_getElem?_getD, List.getElem?_eq_getElem hkl]
      rw [e1] at ck
      rw [e2] at cd hr
      have hbk := World.block_lt_of_cell? _ _ ck
      have hbd := World.block_lt_of_cell? _ _ cd
      have ck0 := ck
      have cd0 := cd
      replace ck := (hb.cell hbk).trans ck
      replace cd := (hb.cell hbd).trans cd
      have hdk := HD.out.at hkl
      have hsz := HS.out _ (getD_mem hkl)
      have hrow := rowsB_take cs k hkl
      generalize cs.getD k (0, []) = x at *
      obtain ⟨kd, dt⟩ := x
      obtain ⟨m, hm⟩ : ∃ m, dt.length = m := ⟨_, rfl⟩
      simp only [hm] at cd cd0 hr hsz
      simp only at ck ck0 hdk
      have HC := Lib.hid (fun W (b : Below w.heap.size w W) => And.intro ((b.cell hbk).trans ck0) ((b.cell hbd).trans cd0))
      clear ck0 cd0
      have hrow' : rowsB (cs.take (k + 1)) = ((rowsB (cs.take k) ++ [kd]) ++ digs 4 m) ++ low4 (crcSum dt) := by
        rw [hrow, rowB]
        simp [hm]
      have hlr : (rowsB (cs.take k)).length = 9 * k := by rw [length_rows, List.length_take]; omega
      generalize rowsB (cs.take k) = rw0 at *
      obtain ⟨Av, cv, rfl, _, _⟩ := Reads.of_own ho
      have st0 : St7 w wr (.slice Av (9 * k) cv) rw0 (.slice none 0 0) [] (.slice none 0 0) [] (.slice none 0 0) [] :=
        ⟨hb, by rw [hlr]; exact ho, World.ownsRow_nil _ _ _ _, World.ownsRow_nil _ _ _ _, World.ownsRow_nil _ _ _ _, fun b _ => ⟨by simp [Value.ownBlock], by simp [Value.ownBlock], by simp [Value.ownBlock]⟩⟩
      have KP := Lib.hid (fun w' => r7put_any w' 4 m (by omega) (by omega))
      have KS := Lib.hid (fun w' (b : Below w.heap.size w w') => r7sum_any w' Ai m ci dt (hr.below b) hdk.2 (by omega))
      have hsl := crcSum_lt dt
      have KL := Lib.hid (fun w' => r7low_any w' (crcSum dt) (by omega))
      generalize crcSum dt = s at *
      have e0 : IntKind.u64.wrap (m : Int) = (m : Int) := IntWalk.u64_in _ (by omega)
      have t1 : (k : Int) < n := by omega
      have fk : wr.drew.cell? (ad.add k) = some (.int .u8 (kd : Int)) := ck
      have fd : wr.drew.cell? (ad'.add k) = some (.slice Ai m ci) := cd
      have HR := Lib.hid hrow'
      have HLR := Lib.hid hlr
      clear ho hb hr hrow hrow' hlr e1 e2
      go_wp2_with fail
      go_region_held3 (fun w' => w'.cell? (ad.add k) = some (.int .u8 (kd : Int)) ∧ w'.cell? (ad'.add k) = some (.slice Ai m ci))
        (first | exact ⟨fk, fd⟩ | (exact HC.out _ (by first | exact (by assumption : St7 w _ _ _ _ _ _ _ _ _).bel | fail)) | exact HC.out _ (St7.one st0 kd).drew.bel | fail)
        (first
          | (go_at_call 54; refine (KP.out _).mono ?_; rintro e wp ⟨vp, rfl, op, bp⟩; obtain ⟨Ap, cp, rfl⟩ := own_some op (by decide); (first | have stp := St7.put (by assumption) bp (l := digs 4 m) (by rw [length_digs]; exact op) | have stp := St7.put (St7.one (by assumption) kd) bp (l := digs 4 m) (by rw [length_digs]; exact op) | fail); clear bp op)
          | (go_at_call 52; (first | refine (KS.out _ (by assumption : St7 w _ _ _ _ _ _ _ _ _).bel).mono ?_ | refine (KS.out _ (St7.one (by assumption) kd).bel).mono ?_ | fail); rintro e ws ⟨rfl, rfl⟩)
          | (go_at_call 20; refine (KL.out _).mono ?_; rintro e wl ⟨vl, rfl, ol, bl⟩; obtain ⟨Al, cl, rfl⟩ := own_some ol (by decide); (first | have stl := St7.low (by assumption) bl (l := low4 s) ol | have stl := St7.low (St7.one (by assumption) kd) bl (l := low4 s) ol | fail); clear bl ol)
          | (refine St7.stepX ((St7.one st0 kd).drew) (by rfl) (.tmp 13) (.tmp 18) (by rfl) (by go_simp) (by go_simp) HLR.out rfl (by decide) (by omega) ?_; intro g1 cp1 wb stb)
          | (refine St7.stepP (by assumption) (by rfl) (.tmp 19) (.tmp 26) (by rfl) (by go_simp) (by go_simp) (by rw [List.length_append, HLR.out]; rfl) (by rw [length_digs]) (by decide) (by omega) ?_; intro g2 cp2 wc stc)
          | (refine St7.stepY (by assumption) (by rfl) (.tmp 27) (.tmp 33) (by rfl) (by go_simp) (by go_simp) (by rw [List.length_append, List.length_append, HLR.out, length_digs]; rfl) (by rfl) (by decide) (by omega) ?_; intro g3 cp3 wd std)
          | fail)
      all_goals
        have Z := Lib.hid std
        clear st0 std stc stb stp stl
        go_wp2_with fail
        refine ⟨⟨k + 1, by omega, by go_num, ?_, Z.out.bel⟩, by simp [intOf]; omega⟩
        have := Z.out.ho
        rw [← HR.out, length_rows, List.length_take, HL.out, show min (k + 1) n = k + 1 by omega] at this
        exact this
    · obtain rfl : k = n := by omega
      have b1 : ¬ (k : Int) < k := by omega
      rw [List.take_of_length_le (by rw [HL.out]; exact Nat.le_refl _)] at ho
      obtain ⟨Av, cv, rfl, _, rv⟩ := Reads.of_own ho
      have KS := Lib.hid (r7sum_any wr Av (9 * k) cv (rowsB cs) rv (dig_rows HD.out) (by omega))
      have hsl := crcSum_lt (rowsB cs)
      have HG := Lib.hid (show tableB cs = rowsB cs ++ low4 (crcSum (rowsB cs)) from rfl)
      generalize crcSum (rowsB cs) = s at *
      have KL := Lib.hid (fun w' => r7low_any w' s (by omega))
      have HO := Lib.hid (And.intro ho hb)
      clear ho hb rv
      go_wp2_with fail
      refine KS.out.mono ?_
      rintro e w3 ⟨rfl, rfl⟩
      go_wp2_with fail
      refine (KL.out _).mono ?_
      rintro e w4 ⟨v4, rfl, o4, b4⟩
      obtain ⟨A4, c4, rfl, hA4, r4⟩ := Reads.of_own o4
      have O4 := Lib.hid (own_up HO.out.1 b4)
      have R4 := Lib.hid (And.intro r4 hA4)
      have B4 := Lib.hid (up2 HO.out.2 b4)
      clear o4 b4 r4 hA4
      go_wp2_with (at_builtin; refine wpList_append_reads rfl (.tmp 35) (.tmp 38) 25 rfl w.heap.size 5 i0 (.int .u8 0) 1 Try.underlying25 HI.out HZ.out rfl (.slice Av (9 * k) cv) (9 * k) (bts (rowsB cs)) rfl O4.out A4 4 c4 (bts (low4 s)) rfl R4.out.1 R4.out.2 (bts_one _) ?d1 ?d2 B4.out.size ?_)
      case d1 => unfold maxLen; omega
      case d2 => omega
      intro v5 w5 own5 gr5
      have Z := Lib.hid (And.intro (show w5.ownsRow w.heap.size 5 1 v5 (9 * k + 4) (bts (tableB cs)) by rw [HG.out, bts_append]; exact own5) (own_grown_below B4.out gr5 B4.out.size (fun q hq => (own_lt O4.out q hq).1)))
      clear own5 gr5
      go_wp2
      go_ret
      exact ⟨v5, rfl, Z.out.1, Z.out.2⟩
end Go.Proofs.Ytngambkbpdjddaa
