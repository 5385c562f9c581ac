/- The table of a container (layer 7): tableOf. -/
import Derived.Test.YtngambkbpdjddaaBoxSum
namespace Go.Proofs.Ytngambkbpdjddaa
open Go.RowKit

theorem rowsB_take (l : List (Nat × List Nat)) (k : Nat) (h : k < l.length) : rowsB (l.take (k + 1)) = rowsB (l.take k) ++ rowB (l.getD k (0, [])) := by
  rw [List.take_succ_eq_append_getElem h, List.getD_eq_getElem?_getD, List.getElem?_eq_getElem h]
  rw [rowsB, List.map_append, List.flatten_append]
  simp [rowsB]
theorem DigC.take {l : List (Nat × List Nat)} (h : DigC l) (k : Nat) : DigC (l.take k) := fun x hx => h x (List.mem_of_mem_take hx)
theorem DigC.at {l : List (Nat × List Nat)} (h : DigC l) {k : Nat} (hk : k < l.length) : (l.getD k (0, [])).1 < 256 ∧ Dig (l.getD k (0, [])).2 := h _ (getD_mem hk)

def TableAt (w : World) (n : Nat) (l : List (Nat × List Nat)) (t i : Value) (wr : World) : Prop :=
  ∃ k : Nat, k ≤ n ∧ i = .int .i64 (k : Int) ∧ wr.ownsRow w.heap.size 5 1 t (9 * k) (bts (rowsB (l.take k))) ∧ Below w.heap.size w wr

set_option maxHeartbeats 3200000 in
set_option maxRecDepth 100000 in
theorem btable_any (w : World) (A : Option Addr) (n c : Nat) (l : List (Nat × List Nat)) (h : Chunks w A n l) (hd : DigC l) (hn : n ≤ 1024) (hs : ∀ x ∈ l, x.2.length ≤ 1000000) :
    Calls Try.prog 23 #[.slice A n c] w (OwnB w (9 * n + 4) (tableB l)) := by
  obtain ⟨i0, hi, hz0, hz1, hz2⟩ := info_parts Try.infoU8
  have HI := Lib.hid hi
  have HZ := Lib.hid (And.intro hz0 (And.intro hz1 hz2))
  have HS := Lib.hid h
  have HD := Lib.hid hd
  have HL := Lib.hid hs
  have KT := Lib.hid (tsize_any w n (by omega))
  have hN : 9 * n + 4 ≤ 100000 := by omega
  have hb : i0.bytes * (9 * n + 4) ≤ 281474976710656 := by rw [hz2]; omega
  have HB48 := Lib.hid hb
  clear h hd hs hb hi hz0 hz1 hz2
  go_enter Try.func23, Try.ntmps23
  go_wp2_with fail
  refine KT.out.mono ?_
  rintro e w0 ⟨rfl, rfl⟩
  obtain ⟨N, hN'⟩ : ∃ N, 9 * n + 4 = N := ⟨_, rfl⟩
  rw [hN'] at HB48 hN
  rw [hN']
  have HN := Lib.hid hN'
  clear hN'
  go_wp2_with (refine wpList_make_own w rfl (.const (.int .i64 0)) (.tmp 9) 25 rfl w.heap.size 5 i0 (.int .u8 0) 1 Try.underlying25 HI.out HZ.out.1 HZ.out.2.1 .i64 .i64 N N rfl rfl rfl HB48.out ?m1 ?m2 ?_)
  case m1 => unfold maxLen; omega
  case m2 => exact Nat.le_refl _
  intro w1 own1 gr1
  have O1 := Lib.hid own1
  have B1 := Lib.hid (show Below w.heap.size w w1 from ⟨gr1.os, gr1.tape, gr1.output, gr1.size, fun j hj => gr1.block j hj (fun e => by cases e)⟩)
  clear own1 gr1
  go_wp2_with fail
  go_loopw [3, 13] (TableAt w n l) (fun _ i _ => n - (intOf i).toNat)
  case atStart => exact ⟨0, Nat.zero_le _, rfl, O1.out, B1.out⟩
  case round =>
    obtain ⟨k, hk, rfl, ho, hb⟩ := hrel
    by_cases hlt : k < n
    · obtain ⟨b, off, rfl⟩ := HS.out.ad (by omega)
      obtain ⟨Ai, ci, c0, c1, h2, h3, hr⟩ := HS.out.at k hlt
      replace c0 := (hb.cell (World.block_lt_of_cell? _ _ c0)).trans c0
      replace c1 := (hb.cell (World.block_lt_of_cell? _ _ c1)).trans c1
      have hkl : k < l.length := by rw [HS.out.len]; exact hlt
      have hdk := HD.out.at hkl
      have hsz := HL.out _ (getD_mem hkl)
      have hrow := rowsB_take l k hkl
      generalize l.getD k (0, []) = x at *
      obtain ⟨kd, dt⟩ := x
      obtain ⟨m, hm⟩ : ∃ m, dt.length = m := ⟨_, rfl⟩
      simp only [hm] at c1 h3 hr hsz
      simp only at c0 hdk
      obtain ⟨At, ct, rfl, _, _⟩ := Reads.of_own ho
      rw [rowB, digs_four, hm] at hrow
      obtain ⟨D0, hD0⟩ : ∃ D0 : Int, IntKind.u8.wrap ((m : Int) / 16777216) = D0 := ⟨_, rfl⟩
      obtain ⟨D1, hD1⟩ : ∃ D1 : Int, IntKind.u8.wrap ((m : Int) / 65536) = D1 := ⟨_, rfl⟩
      obtain ⟨D2, hD2⟩ : ∃ D2 : Int, IntKind.u8.wrap ((m : Int) / 256) = D2 := ⟨_, rfl⟩
      obtain ⟨D3, hD3⟩ : ∃ D3 : Int, IntKind.u8.wrap (m : Int) = D3 := ⟨_, rfl⟩
      have hnew : bts (kd :: [m / 16777216 % 256, m / 65536 % 256, m / 256 % 256, m % 256]) = [.int .u8 (kd : Int), .int .u8 D0, .int .u8 D1, .int .u8 D2, .int .u8 D3] := by
        rw [← hD0, ← hD1, ← hD2, ← hD3, show (m : Int) / 16777216 = ((m / 16777216 : Nat) : Int) by omega, show (m : Int) / 65536 = ((m / 65536 : Nat) : Int) by omega, show (m : Int) / 256 = ((m / 256 : Nat) : Int) by omega, byte_wrap, byte_wrap, byte_wrap, byte_wrap]
        rfl
      generalize hq5 : kd :: [m / 16777216 % 256, m / 65536 % 256, m / 256 % 256, m % 256] = q5 at *
      have hrow' : rowsB (l.take (k + 1)) = (rowsB (l.take k) ++ q5) ++ low4 (crcSum dt) := by rw [hrow, ← hq5, List.append_assoc]; rfl
      have hl5 : q5.length = 5 := by rw [← hq5]; rfl
      have ox := ho.alloc (.cells #[.int .u8 (kd : Int), .slice Ai m ci] 40)
      have oy := ox.alloc (.cells #[.int .u8 (kd : Int), .int .u8 D0, .int .u8 D1, .int .u8 D2, .int .u8 D3] 5)
      have bx := up1 hb (.cells #[.int .u8 (kd : Int), .slice Ai m ci] 40)
      have by' := up1 bx (.cells #[.int .u8 (kd : Int), .int .u8 D0, .int .u8 D1, .int .u8 D2, .int .u8 D3] 5)
      have hsx : (wr.alloc (.cells #[.int .u8 (kd : Int), .slice Ai m ci] 40)).heap.size = wr.heap.size + 1 := by simp
      have rx : Reads ((wr.alloc (.cells #[.int .u8 (kd : Int), .slice Ai m ci] 40)).alloc (.cells #[.int .u8 (kd : Int), .int .u8 D0, .int .u8 D1, .int .u8 D2, .int .u8 D3] 5)) (some ⟨wr.heap.size + 1, 0, none⟩) 5 (bts q5) := by
        rw [hnew, ← hsx]
        exact Reads.of_block (xs := [.int .u8 (kd : Int), .int .u8 D0, .int .u8 D1, .int .u8 D2, .int .u8 D3]) (heap_alloc_new _ _)
      have hx : ((wr.alloc (.cells #[.int .u8 (kd : Int), .slice Ai m ci] 40)).alloc (.cells #[.int .u8 (kd : Int), .int .u8 D0, .int .u8 D1, .int .u8 D2, .int .u8 D3] 5)).heap[wr.heap.size]? = some (.cells #[.int .u8 (kd : Int), .slice Ai m ci] 40 (0, 0)) := by
        rw [(mk_below _ _).block _ (by omega)]
        exact heap_alloc_new _ _
      have hown := fun q hq => (own_lt ho q hq).2.1
      have OY := Lib.hid oy
      have BY := Lib.hid by'
      have RX := Lib.hid rx
      have HX := Lib.hid hx
      have HOW := Lib.hid hown
      have HBS := Lib.hid (And.intro hb.size (And.intro hrow' hl5))
      have KC := Lib.hid (fun w' (hb' : Below w.heap.size w w') => csum_any w' Ai m ci dt (hr.below hb') hdk.2 (by omega))
      have b1 : (k : Int) < n := by omega
      have hm6 : m ≤ 1000000 := by omega
      clear ho hb ox oy bx by' hsx rx hx hown hrow hrow' hr hnew hq5 hl5 h2 hm hdk
      go_wp2_with (at_builtin; refine wpList_append_reads rfl (.tmp 20) (.tmp 34) 25 rfl w.heap.size 5 i0 (.int .u8 0) 1 Try.underlying25 HI.out HZ.out rfl (.slice At (9 * k) ct) (9 * k) (bts (rowsB (l.take k))) rfl OY.out (some ⟨wr.heap.size + 1, 0, none⟩) 5 5 (bts q5) rfl RX.out (fun e => (nomatch e)) (bts_one _) ?b1 ?b2 ?b3 ?_)
      case b1 => unfold maxLen; omega
      case b2 => omega
      case b3 => have := HBS.out.1; simp; omega
      intro v2 w2 own2 gr2
      have O2 := Lib.hid (show w2.ownsRow w.heap.size 5 1 v2 (9 * k + 5) (bts (rowsB (l.take k) ++ q5)) by rw [bts_append]; exact own2)
      have B2 := Lib.hid (own_grown_below BY.out gr2 BY.out.size (fun q hq => (own_lt OY.out q hq).1))
      have X2 := (gr2.block wr.heap.size (by simp; omega) (fun e => by have := HOW.out _ e.symm; omega)).trans HX.out
      have cx : w2.cell? ⟨wr.heap.size, 1, none⟩ = some (.slice Ai m ci) := by rw [cell_in X2]; rfl
      clear own2 gr2 X2
      go_wp2_with fail
      refine (KC.out w2 B2.out).mono ?_
      rintro e w3 ⟨rfl, b3⟩
      have KA := Lib.hid (asum_any w3 w.heap.size (9 * k + 5) v2 (rowsB (l.take k) ++ q5) (crcSum dt) (own_keep (S := fun _ => False) O2.out (.of_below b3) (fun _ _ => id)) (Nat.le_trans B2.out.size b3.size) (crcSum_lt dt) (by omega))
      have B3 := Lib.hid (up2 B2.out b3)
      have O3 := Lib.hid (own_keep (S := fun _ => False) O2.out (.of_below b3) (fun _ _ => id))
      clear b3 cx
      generalize crcSum dt = s at *
      go_wp2_with fail
      refine KA.out.mono ?_
      rintro e w4 ⟨v4, rfl, o4, c4⟩
      have Z := Lib.hid (And.intro o4 (B3.out.trans (c4.below B3.out.size fun q hq => (own_lt O3.out q hq).1)))
      clear o4 c4
      go_wp2_with fail
      refine ⟨⟨k + 1, by omega, by go_num, ?_, Z.out.2⟩, by simp [intOf]; omega⟩
      rw [HBS.out.2.1]
      exact Z.out.1
    · obtain rfl : k = n := by omega
      have b1 : ¬ (k : Int) < k := by omega
      rw [List.take_of_length_le (by rw [HS.out.len]; exact Nat.le_refl _)] at ho
      have KS := Lib.hid (sealed_any wr w.heap.size (9 * k) _ (rowsB l) ho (dig_rows HD.out) hb.size (by omega))
      have OB := Lib.hid (And.intro ho hb)
      clear ho hb
      go_wp2_with fail
      refine KS.out.mono ?_
      rintro e w3 ⟨u, rfl, o3, c3⟩
      have Z := Lib.hid (OwnB.grew OB.out.2 (fun b hb => (own_lt OB.out.1 b hb).1) o3 c3)
      clear o3 c3
      go_wp2
      go_ret
      exact Z.out
end Go.Proofs.Ytngambkbpdjddaa
