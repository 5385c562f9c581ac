/- The document's Sum, Put, Low, is and Get (layer 7). -/
import Derived.Test.YtngambkbpdjddaaBoxRightF
namespace Go.Proofs.Ytngambkbpdjddaa
open Go.RowKit

def RSum7At (w : World) (n : Nat) (l : List Nat) (x i : Value) (wr : World) : Prop :=
  w = wr ∧ ∃ k : Nat, k ≤ n ∧ i = .int .i64 (k : Int) ∧ x = .int .u64 ((crcReg 4294967295 (l.take k) : Nat) : Int)
def RBit7At (w : World) (y : Nat) (x k : Value) (wr : World) : Prop :=
  w = wr ∧ ∃ j : Nat, j ≤ 8 ∧ k = .int .i64 (j : Int) ∧ x = .int .u64 ((it6 j y : Nat) : Int)

set_option maxHeartbeats 3200000 in
set_option maxRecDepth 100000 in
theorem r7sum_any (w : World) (A : Option Addr) (n c : Nat) (l : List Nat) (h : Reads w A n (bts l)) (hd : Dig l) (hn : n ≤ 1000000) :
    Calls Try.prog 52 #[.slice A n c] w fun e w' => e = .returned (.int .u64 ((crcSum l : Nat) : Int)) ∧ w = w' := by
  have HR := Lib.hid h
  have HL := Lib.hid h.lenB
  have HD := Lib.hid hd
  clear h hd
  go_enter Try.func52, Try.ntmps52
  go_wp2_with fail
  go_loopw [3, 4] (RSum7At w n l) (fun _ i _ => n - (intOf i).toNat)
  case atStart => exact ⟨rfl, 0, Nat.zero_le _, rfl, rfl⟩
  case round =>
    obtain ⟨rfl, k, hk, rfl, rfl⟩ := hrel
    by_cases hlt : k < n
    · obtain ⟨ad, rfl, ck⟩ := HR.out.byte k hlt
      have hkl : k < l.length := by rw [HL.out]; exact hlt
      have hdk := dig_at HD.out k
      have hx := crcReg_lt (dig_take HD.out k) 4294967295 (by omega)
      have HN := Lib.hid (show crcReg 4294967295 (l.take (k + 1)) = byteIn (crcReg 4294967295 (l.take k)) (l.getD k 0) by rw [take_getD l k hkl, crcReg_snoc])
      generalize crcReg 4294967295 (l.take k) = x at *
      generalize l.getD k 0 = d at *
      have HY := Lib.hid (show byteIn x d = it6 8 (x ^^^ d) from rfl)
      have hy : x ^^^ d < 4294967296 := Nat.xor_lt_two_pow (n := 32) hx (by omega)
      have e1 : bits .xor .u64 (x : Int) (d : Int) = ((x ^^^ d : Nat) : Int) := u64_xor_nat x d (by omega) (by omega)
      generalize x ^^^ d = y at *
      have K := Lib.hid (fun j => it6_lt j y hy)
      have t1 : (k : Int) < n := by omega
      clear hy hx hkl
      go_wp2_with fail
      go_loopw [3, 5] (RBit7At w y) (fun _ i _ => 8 - (intOf i).toNat)
      case atStart => exact ⟨rfl, 0, by omega, rfl, rfl⟩
      case round =>
        obtain ⟨rfl, j, hj, rfl, rfl⟩ := hrel
        by_cases hlt8 : j < 8
        · have t2 : (j : Int) < 8 := by omega
          have hz := it6_succ j y
          have hlt := K.out j
          generalize hg' : it6 (j + 1) y = z' at *
          have HG := Lib.hid hg'
          generalize hg : it6 j y = z at *
          by_cases ho : z % 2 = 1
          · have hs : z' = z / 2 ^^^ 3988292384 := by rw [hz]; unfold stp6; rw [if_pos ho]; rfl
            obtain ⟨X, hX⟩ : ∃ X : Int, X = z := ⟨_, rfl⟩
            have e2 : bits .xor .u64 (X / 2) 3988292384 = ((z' : Nat) : Int) := by
              rw [hs, hX, show (z : Int) / 2 = ((z / 2 : Nat) : Int) by omega, show (3988292384 : Int) = ((3988292384 : Nat) : Int) from rfl, u64_xor_nat _ _ (by omega) (by omega)]
            have e3 : X % 2 = 1 := by omega
            have b3 : 0 ≤ X ∧ X < 4294967296 := by omega
            rw [← hX]
            clear hX hs hz ho hlt hg hg'
            go_wp2_with fail
            exact ⟨⟨rfl, j + 1, by omega, by go_num, by rw [HG.out]⟩, by simp [intOf]; omega⟩
          · have hs : z' = z / 2 := by rw [hz]; unfold stp6; rw [if_neg ho]
            obtain ⟨X, hX⟩ : ∃ X : Int, X = z := ⟨_, rfl⟩
            have HE := Lib.hid (show X / 2 = ((z' : Nat) : Int) by omega)
            have e3 : X % 2 = 0 := by omega
            have b3 : 0 ≤ X ∧ X < 4294967296 := by omega
            rw [← hX]
            clear hX hs hz ho hlt hg hg'
            go_wp2_with fail
            exact ⟨⟨rfl, j + 1, by omega, by go_num, by rw [HG.out, ← HE.out]⟩, by simp [intOf]; omega⟩
        · obtain rfl : j = 8 := by omega
          have t2 : ¬ ((8 : Nat) : Int) < 8 := by omega
          go_wp2_with fail
          exact ⟨⟨rfl, k + 1, by omega, by go_num, by rw [HN.out, HY.out]⟩, by simp [intOf]; omega⟩
    · obtain rfl : k = n := by omega
      have t1 : ¬ (k : Int) < k := by omega
      rw [List.take_of_length_le (by rw [HL.out]; exact Nat.le_refl _)]
      have hx := crcReg_lt HD.out 4294967295 (by omega)
      have HS : Hid (crcSum l = 4294967295 - crcReg 4294967295 l) := Lib.hid rfl
      generalize crcReg 4294967295 l = x at *
      have e9 : bits .xor .u64 (x : Int) 4294967295 = ((4294967295 - x : Nat) : Int) := by
        rw [show (4294967295 : Int) = ((4294967295 : Nat) : Int) from rfl, u64_xor_nat _ _ (by omega) (by omega), not32 x hx]
      obtain ⟨s, hs⟩ : ∃ s, 4294967295 - x = s := ⟨_, rfl⟩
      rw [hs] at e9 HS
      clear hs
      go_wp2
      go_ret
      exact ⟨by rw [HS.out]; exact rfl, rfl⟩

def Put7At (w : World) (z v : Nat) (o i : Value) (wr : World) : Prop :=
  ∃ k : Nat, k ≤ z ∧ i = .int .i64 ((z : Int) - 1 - k) ∧ wr.ownsRow w.heap.size 5 1 o k (bts ((digs z v).take k)) ∧ Below w.heap.size w wr
theorem digs_getD (z v k : Nat) (h : k < z) : (digs z v).getD k 0 = v / 256 ^ (z - 1 - k) % 256 := by
  induction z generalizing v with
  | zero => omega
  | succ z ih =>
    rw [digs, List.getD_eq_getElem?_getD]
    rcases Nat.lt_or_ge k z with h1 | h1
    · rw [List.getElem?_append_left (by rw [length_digs]; exact h1), ← List.getD_eq_getElem?_getD, ih (v / 256) h1, Nat.div_div_eq_div_mul, ← Nat.pow_succ', show (z - 1 - k).succ = z + 1 - 1 - k by omega]
    · obtain rfl : k = z := by omega
      rw [List.getElem?_append_right (by rw [length_digs]; exact Nat.le_refl _), length_digs]
      simp
theorem put_byte (z v k : Nat) (I : Int) (h : k < z) (hI : (z : Int) - 1 - k = I) : (v : Int) / 2 ^ (8 * I).toNat % 256 = (((digs z v).getD k 0 : Nat) : Int) := by
  rw [digs_getD z v k h, show (8 * I).toNat = 8 * (z - 1 - k) by omega, Int.pow_mul, show ((2 : Int) ^ 8) = ((256 : Nat) : Int) from rfl, Int.natCast_emod, Int.natCast_ediv, Int.natCast_pow]
  rfl
set_option maxHeartbeats 1600000 in
set_option maxRecDepth 100000 in
theorem r7put_any (w : World) (z v : Nat) (hz : z ≤ 8) (_ : v < 18446744073709551616) : Calls Try.prog 54 #[.int .u64 (v : Int), .int .i64 (z : Int)] w (OwnB w z (digs z v)) := by
  obtain ⟨i0, hi, hz0, hz1, hz2⟩ := info_parts Try.infoU8
  have HI := Lib.hid hi
  have HZ := Lib.hid (And.intro hz0 (And.intro hz1 hz2))
  clear hi hz0 hz1 hz2
  go_enter Try.func54, Try.ntmps54
  go_wp2_with fail
  go_loopw [5, 6] (Put7At w z v) (fun _ i _ => (intOf i + 1).toNat)
  case atStart => exact ⟨0, Nat.zero_le _, by simp, World.ownsRow_nil _ _ _ _, Below.refl _ _⟩
  case round =>
    obtain ⟨k, hk, rfl, ho, hb⟩ := hrel
    obtain ⟨I, hI⟩ : ∃ I : Int, (z : Int) - 1 - k = I := ⟨_, rfl⟩
    rw [hI]
    obtain ⟨Av, cv, rfl, _, _⟩ := Reads.of_own ho
    by_cases hlt : k < z
    · have hD := put_byte z v k I hlt hI
      have htk := take_getD (digs z v) k (by rw [length_digs]; exact hlt)
      generalize (digs z v).getD k 0 = d at *
      obtain ⟨D, hDD⟩ : ∃ D : Int, D = d := ⟨_, rfl⟩
      rw [← hDD] at hD
      have O1 := Lib.hid (ho.alloc (.cells #[.int .u8 D] 5))
      have R1 := Lib.hid (show Reads (wr.alloc (.cells #[.int .u8 D] 5)) (some ⟨wr.heap.size, 0, none⟩) 1 (bts [d]) by rw [show bts [d] = [.int .u8 D] by rw [hDD]; rfl]; exact Reads.of_block (xs := [.int .u8 D]) (heap_alloc_new _ _))
      have B1 := Lib.hid (up1 hb (.cells #[.int .u8 D] 5))
      have HT := Lib.hid (And.intro htk hI)
      have b1 : 0 ≤ I ∧ I < 8 := by omega
      have b2 : ¬ I < 0 := by omega
      clear hI ho hb htk hDD
      go_wp2_with (at_builtin; refine wpList_append_reads rfl (.tmp 13) (.tmp 19) 25 rfl w.heap.size 5 i0 (.int .u8 0) 1 Try.underlying25 HI.out HZ.out rfl (.slice Av k cv) k (bts ((digs z v).take k)) rfl O1.out (some ⟨wr.heap.size, 0, none⟩) 1 1 (bts [d]) rfl R1.out (fun e => (nomatch e)) (bts_one _) ?b1 ?b2 ?b3 ?_)
      case b1 => unfold maxLen; omega
      case b2 => omega
      case b3 => have := B1.out.size; simp at this; exact this
      intro v2 w2 own2 gr2
      have Z := Lib.hid (And.intro (show w2.ownsRow w.heap.size 5 1 v2 (k + 1) (bts ((digs z v).take (k + 1))) by rw [HT.out.1, bts_append]; exact own2) (own_grown_below B1.out gr2 B1.out.size (fun q hq => (own_lt O1.out q hq).1)))
      clear own2 gr2
      go_wp2_with fail
      refine ⟨⟨k + 1, by omega, ?_, Z.out.1, Z.out.2⟩, by simp [intOf]; omega⟩
      have := HT.out.2
      congr 1
      omega
    · obtain rfl : k = z := by omega
      rw [List.take_of_length_le (by rw [length_digs]; exact Nat.le_refl _)] at ho
      have HO := Lib.hid (And.intro ho hb)
      have b2 : I < 0 := by omega
      clear ho hb
      go_wp2
      go_ret
      exact ⟨_, rfl, HO.out.1, HO.out.2⟩

set_option maxHeartbeats 800000 in
set_option maxRecDepth 100000 in
theorem r7low_by (w : World) (S D0 D1 D2 D3 : Int) (low : List Nat) (_ : 0 ≤ S) (_ : S < 18446744073709551616) (e0 : IntKind.u8.wrap S = D0) (e1 : IntKind.u8.wrap (S / 256) = D1) (e2 : IntKind.u8.wrap (S / 65536) = D2) (e3 : IntKind.u8.wrap (S / 16777216) = D3) (hlow : Hid (bts low = [.int .u8 D0, .int .u8 D1, .int .u8 D2, .int .u8 D3])) :
    Calls Try.prog 20 #[.int .u64 S] w (OwnB w 4 low) := by
  have B1 := Lib.hid (mk_below w (.cells #[.int .u8 D0, .int .u8 D1, .int .u8 D2, .int .u8 D3] 5))
  have O1 := Lib.hid (show (w.alloc (.cells #[.int .u8 D0, .int .u8 D1, .int .u8 D2, .int .u8 D3] 5)).ownsRow w.heap.size 5 1 (.slice (some ⟨w.heap.size, 0, none⟩) 4 4) 4 (bts low) by
    rw [hlow.out]
    exact ⟨rfl, .inr ⟨w.heap.size, 4, _, rfl, Nat.le_refl _, heap_alloc_last _ _, Nat.le_refl _, by decide, rfl, rfl⟩⟩)
  clear hlow
  go_enter Try.func20, Try.ntmps20
  go_wp2
  go_ret
  exact ⟨_, rfl, O1.out, B1.out⟩
theorem r7low_any (w : World) (s : Nat) (hs : s < 18446744073709551616) : Calls Try.prog 20 #[.int .u64 (s : Int)] w (OwnB w 4 (low4 s)) := by
  refine r7low_by w s _ _ _ _ (low4 s) (by omega) (by omega) (byte_wrap s) ?_ ?_ ?_ (Lib.hid rfl)
  · rw [show (s : Int) / 256 = ((s / 256 : Nat) : Int) by omega]; exact byte_wrap _
  · rw [show (s : Int) / 65536 = ((s / 65536 : Nat) : Int) by omega]; exact byte_wrap _
  · rw [show (s : Int) / 16777216 = ((s / 16777216 : Nat) : Int) by omega]; exact byte_wrap _

set_option maxHeartbeats 800000 in
set_option maxRecDepth 100000 in
theorem r7is_any (w : World) (A : Option Addr) (n c : Nat) (l : List Nat) (s : Nat) (h : Reads w A n (bts l)) (hd : Dig l) (hs : s < 18446744073709551616) :
    Calls Try.prog 51 #[.slice A n c, .int .u64 (s : Int)] w fun e w' => e = .returned (.bool (decide (l = low4 s))) ∧ Below w.heap.size w w' := by
  have K := Lib.hid (fun w' => r7low_any w' s hs)
  have r1 := fun w' (b : Below w.heap.size w w') => run_bstr w' A n c l (h.below b)
  have e1 := bstr_beq (a := l) (b := low4 s) hd (dig_low4 s)
  have r1d := r1 w.drew (upd (Below.refl _ _))
  have c0d := upd (Below.refl w.heap.size w)
  have R1 := Lib.hid r1
  have R2 := Lib.hid (fun w' A' c' (h' : Reads w' A' 4 (bts (low4 s))) => run_bstr w' A' 4 c' (low4 s) h')
  clear h hd r1
  generalize bstr l = sa at *
  generalize bstr (low4 s) = sb at *
  generalize decide (l = low4 s) = r at *
  go_enter Try.func51, Try.ntmps51
  go_wp2_with fail
  go_region_with (first
      | (go_at_call 20; refine (K.out _).mono ?_; rintro e w1 ⟨v1, rfl, o1, b1⟩; obtain ⟨A1, c1, rfl, _, rr1⟩ := Reads.of_own o1; have q1 := R2.out w1 A1 c1 rr1; have cb1 := up2 c0d b1; have q2 := R1.out w1 cb1; clear o1 b1 rr1)
      | fail)
  all_goals
    have B9 := Lib.hid cb1
    go_wp2
    go_ret
    exact ⟨rfl, B9.out⟩

def Get7At (w : World) (n : Nat) (l : List Nat) (x i : Value) (wr : World) : Prop :=
  w = wr ∧ ∃ k : Nat, k ≤ n ∧ i = .int .i64 (k : Int) ∧ x = .int .u64 ((val (l.take k) : Nat) : Int)
set_option maxHeartbeats 1600000 in
set_option maxRecDepth 100000 in
theorem r7get_any (w : World) (A : Option Addr) (n c : Nat) (l : List Nat) (h : Reads w A n (bts l)) (hd : Dig l) (hn : n ≤ 4) :
    Calls Try.prog 36 #[.slice A n c] w fun e w' => e = .returned (.int .u64 ((val l : Nat) : Int)) ∧ w = w' := by
  have HR := Lib.hid h
  have HL := Lib.hid h.lenB
  have HD := Lib.hid hd
  clear h hd
  go_enter Try.func36, Try.ntmps36
  go_wp2_with fail
  go_loopw [3, 4] (Get7At w n l) (fun _ i _ => n - (intOf i).toNat)
  case atStart => exact ⟨rfl, 0, Nat.zero_le _, rfl, rfl⟩
  case round =>
    obtain ⟨rfl, k, hk, rfl, rfl⟩ := hrel
    by_cases hlt : k < n
    · obtain ⟨ad, rfl, ck⟩ := HR.out.byte k hlt
      have hkl : k < l.length := by rw [HL.out]; exact hlt
      have hdk := dig_at HD.out k
      have hx := val_lt (l.take k) (dig_take HD.out k)
      have hx4 : (256 : Nat) ^ (l.take k).length ≤ 256 ^ 3 := Nat.pow_le_pow_right (by omega) (by rw [List.length_take]; omega)
      have HN := Lib.hid (show val (l.take (k + 1)) = val (l.take k) * 256 + l.getD k 0 by rw [take_getD l k hkl, val_snoc])
      generalize val (l.take k) = x at *
      generalize l.getD k 0 = d at *
      have hx5 : x < 16777216 := by omega
      have t1 : (k : Int) < n := by omega
      clear hx hx4 hkl
      go_wp2_with fail
      exact ⟨⟨rfl, k + 1, by omega, by go_num, by rw [HN.out]; go_num⟩, by simp [intOf]; omega⟩
    · obtain rfl : k = n := by omega
      have t1 : ¬ (k : Int) < k := by omega
      rw [List.take_of_length_le (by rw [HL.out]; exact Nat.le_refl _)]
      generalize hv : val l = x at *
      have HV := Lib.hid hv
      clear hv
      go_wp2
      go_ret
      exact ⟨by rw [HV.out]; exact rfl, rfl⟩
end Go.Proofs.Ytngambkbpdjddaa
