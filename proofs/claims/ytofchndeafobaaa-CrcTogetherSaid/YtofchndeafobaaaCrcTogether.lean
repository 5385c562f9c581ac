/- CrcTogether: of two texts of the same length (up to 300 bytes), put together byte by byte, the sum is that of both and of as many noughts. No condition. -/
import Derived.Test.YtofchndeafobaaaCrcLaw
import Derived.Test.YtofchndeafobaaaArgB4
namespace Go.Proofs.Ytofchndeafobaaa.crcTogether
open Go.ChangeShapes Go.WideShapes Go.ChangeAt Go.RowKit

set_option maxHeartbeats 3200000 in
set_option maxRecDepth 100000 in
theorem out (A : Option Addr) (n c : Nat) (A' : Option Addr) (n' c' : Nat) (w : World) (hg : 300 < n ∨ 300 < n') :
    Calls Try.prog 7 #[.slice A n c, .slice A' n' c'] w fun e w' => e = .returned (.bool true) ∧ Below w.heap.size w w' := by
  rcases Nat.lt_or_ge 300 n with h | h
  · have t0 : (300 : Int) < n := by omega
    clear hg
    go_enter Try.func7, Try.ntmps7
    go_wp2_with fail
    refine (awake6_true w).mono ?_
    rintro e w1 ⟨rfl, b1⟩
    have B1 := Lib.hid b1
    clear b1
    go_wp2
    go_ret
    exact ⟨rfl, B1.out⟩
  · have t0 : ¬ (300 : Int) < n := by omega
    have t1 : (300 : Int) < n' := by omega
    clear hg
    go_enter Try.func7, Try.ntmps7
    go_wp2_with fail
    refine (awake6_true w).mono ?_
    rintro e w1 ⟨rfl, b1⟩
    have B1 := Lib.hid b1
    clear b1
    go_wp2
    go_ret
    exact ⟨rfl, B1.out⟩

theorem reads_take {w : World} {A : Option Addr} {n N : Nat} {a : List Nat} (h : Reads w A n (bts a)) (hN : N ≤ n) : Reads w A N (bts (a.take N)) := by
  have hl := h.lenB
  refine ⟨by rw [length_bts, List.length_take]; omega, fun h0 => ?_⟩
  obtain ⟨ad, hA, hc⟩ := h.2 (by omega)
  refine ⟨ad, hA, fun j u hj => hc j u ?_⟩
  rw [show bts (a.take N) = (bts a).take N by simp [bts, List.map_take], List.getElem?_take] at hj
  split at hj
  · exact hj
  · cases hj
theorem slice_headB (A : Option Addr) (N c m : Nat) (hN : m ≤ c) (W : World) :
    (Instr.slice 22 (.slice A N c) none (some (.int .i64 (m : Int))) none).run Try.prog W = .ok (.slice A m c) W := by
  rw [run_slice_h (P := Try.prog) W 22 A N c (by kernel_rfl) .i64 m (by omega) (by omega)]
  have : (sizeOf (Try.prog.elem 22)).run Try.prog W = .ok 1 W := by kernel_rfl
  cases A with
  | none => rw [this]; simp [sliced]
  | some ad => rw [this]; simp [sliced, Addr.add]
/-- What has been put together so far. -/
def part (z : List Nat) (N k : Nat) : List Nat := z.take k ++ List.replicate (N - k) 0
theorem part_zero (z : List Nat) (N : Nat) : part z N 0 = List.replicate N 0 := by simp [part]
theorem part_all (z : List Nat) (N : Nat) (h : z.length = N) : part z N N = z := by
  rw [part, Nat.sub_self, List.take_of_length_le (by omega)]; simp
theorem length_part (z : List Nat) (N k : Nat) (h : z.length = N) (hk : k ≤ N) : (part z N k).length = N := by
  rw [part, List.length_append, List.length_take, List.length_replicate]; omega
theorem part_set (z : List Nat) (N k : Nat) (h : z.length = N) (hk : k < N) : (part z N k).set k (z.getD k 0) = part z N (k + 1) := by
  unfold part
  rw [List.set_append_right _ _ (by rw [List.length_take]; omega), List.length_take, show k - min k z.length = 0 by omega, take_getD z k (by omega), show N - k = (N - (k + 1)) + 1 by omega, List.replicate_succ, List.set_cons_zero]
  simp

def PutAt (w : World) (q N : Nat) (z : List Nat) (i : Value) (wr : World) : Prop :=
  ∃ k : Nat, k ≤ N ∧ i = .int .i64 (k : Int) ∧ BRow wr q (part z N k) [] ∧ Below w.heap.size w wr

set_option maxHeartbeats 3200000 in
set_option maxRecDepth 100000 in
theorem less (A : Option Addr) (n c : Nat) (a : List Nat) (A' : Option Addr) (n' c' : Nat) (b : List Nat) (w : World) (hA : (A = none → c = 0) ∧ n ≤ c) (ha : Dig a) (h : Reads w A n (bts a))
    (hA' : (A' = none → c' = 0) ∧ n' ≤ c') (hb : Dig b) (h' : Reads w A' n' (bts b)) (h1 : n ≤ 300) (h2 : n' ≤ 300) (hcmp : n' < n) :
    Calls Try.prog 7 #[.slice A n c, .slice A' n' c'] w fun e w' => e = .returned (.bool true) ∧ Below w.heap.size w w' := by
  have t0 : ¬ (300 : Int) < n := by omega
  have t1 : ¬ (300 : Int) < n' := by omega
  have t2 : (n' : Int) < n := by omega
  have hmk := fun W => run_make_row' (P := Try.prog) 22 5 (.int .u8 0) 1 Try.underlying22 Try.infoU8 rfl .i64 .i64 n' (by omega) (by omega) W
  have RA := Lib.hid (reads_take h (show n' ≤ n by omega))
  have RB := Lib.hid (reads_take h' (show n' ≤ n' by omega))
  have DA := Lib.hid (dig_take ha n')
  have DB := Lib.hid (dig_take hb n')
  have LA := Lib.hid (show (a.take n').length = n' by rw [List.length_take, h.lenB]; omega)
  have LB := Lib.hid (show (b.take n').length = n' by rw [List.length_take, h'.lenB]; omega)
  have hT := sum_together DA.out DB.out (by rw [LA.out, LB.out])
  rw [LA.out] at hT
  obtain ⟨z, hz⟩ : ∃ z, List.zipWith (· ^^^ ·) (a.take n') (b.take n') = z := ⟨_, rfl⟩
  rw [hz] at hT
  have DZ := Lib.hid (show Dig z by rw [← hz]; exact dig_zip DA.out DB.out)
  have LZ := Lib.hid (show z.length = n' by rw [← hz, List.length_zipWith, LA.out, LB.out]; omega)
  have GZ := Lib.hid (fun k (hk : k < n') => show z.getD k 0 = (a.take n').getD k 0 ^^^ (b.take n').getD k 0 by
    have l1 := LA.out
    have l2 := LB.out
    rw [← hz, List.getD_eq_getElem?_getD, List.getElem?_zipWith, List.getD_eq_getElem?_getD, List.getD_eq_getElem?_getD, List.getElem?_eq_getElem (by omega), List.getElem?_eq_getElem (by omega)]
    rfl)
  have HT := Lib.hid hT
  have hc1 : (n' : Int) ≤ c := by omega
  have hc2 : (n' : Int) ≤ c' := by omega
  have hN3 : n' ≤ 300 := by omega
  generalize a.take n' = a' at *
  generalize b.take n' = b' at *
  have HC := Lib.hid (And.intro hA hA')
  clear hz hT h h' ha hb hA hA'
  go_enter Try.func7, Try.ntmps7
  go_wp2_with fail
  refine (awake6_true w).mono ?_
  rintro e w1 ⟨rfl, b1⟩
  have B1 := Lib.hid (up1 b1 (.cells (madeCells #[.int .u8 0] n') 5))
  have Q1 := Lib.hid (show BRow (w1.alloc (.cells (madeCells #[.int .u8 0] n') 5)) w1.heap.size (part z n' 0) [] by
    rw [BRow, heap_alloc_new, part_zero, List.append_nil, show bts (List.replicate n' 0) = List.replicate n' (.int .u8 0) by simp [bts], ← toList_madeCells_one])
  have S1 := Lib.hid b1.size
  clear b1
  go_wp2_with fail
  generalize w1.alloc (.cells (madeCells #[.int .u8 0] n') 5) = w2 at *
  generalize w1.heap.size = q at *
  go_loopw [27] (PutAt w q n' z) (fun i _ => n' - (intOf i).toNat)
  case atStart => exact ⟨0, Nat.zero_le _, rfl, Q1.out, B1.out⟩
  case round =>
    obtain ⟨k, hk, rfl, hrow, hbel⟩ := hrel
    have HS := Lib.hid (And.intro hrow hbel)
    clear hrow hbel
    by_cases hlt : k < n'
    · have hu : (k : Int) < n' := by omega
      obtain ⟨ad, rfl, ck⟩ := (RA.out.below HS.out.2).byte k hlt
      obtain ⟨ad', rfl, ck'⟩ := (RB.out.below HS.out.2).byte k hlt
      have hx := dig_at DA.out k
      have hx' := dig_at DB.out k
      have hg := GZ.out k hlt
      have hlp := length_part z n' k LZ.out hk
      have cq := HS.out.1.cell k (by omega)
      have fq := frozen_in HS.out.1 k
      have R := Lib.hid (HS.out.1.set k (z.getD k 0) (by omega))
      rw [part_set z n' k LZ.out hlt] at R
      have B := Lib.hid (HS.out.2.setCell (p := ⟨q, k, none⟩) S1.out (.int .u8 ((z.getD k 0 : Nat) : Int)))
      generalize a'.getD k 0 = x at *
      generalize b'.getD k 0 = x' at *
      have e1 : bits .xor .u8 (x : Int) (x' : Int) = ((z.getD k 0 : Nat) : Int) := by rw [hg]; exact u8_xor_nat x x' hx hx'
      generalize z.getD k 0 = y at *
      generalize (part z n' k).getD k 0 = y0 at *
      have v1 : (k : Int) < n := by omega
      have v2 : (k : Int) < n' := by omega
      clear hg hlp
      go_wp2_with fail
      go_region
      go_wp2_with fail
      exact ⟨⟨k + 1, by omega, by go_num, R.out, upd B.out⟩, by simp [intOf]; omega⟩
    · obtain rfl : k = n' := by omega
      have hu : ¬ (k : Int) < k := by omega
      have hs1 := fun W => slice_headB A n c k (by omega) W
      have hs2 := fun W => slice_headB A' k c' k (by omega) W
      have hrow := HS.out.1
      rw [part_all z k LZ.out] at hrow
      have rx := hrow.reads LZ.out
      have RX := Lib.hid rx
      have rxd := rx.drew
      have c2 : Below w.heap.size w wr := HS.out.2
      have c2d := upd c2
      have KX := Lib.hid (fun w' (h : Reads w' (some ⟨q, 0, none⟩) k (bts z)) => csum_any w' (some ⟨q, 0, none⟩) k k z h DZ.out (by omega))
      have KA := Lib.hid (fun w' (b : Below w.heap.size w w') => csum_any w' A k c a' (RA.out.below b) DA.out (by omega))
      have KB := Lib.hid (fun w' (b : Below w.heap.size w w') => csum_any w' A' k c' b' (RB.out.below b) DB.out (by omega))
      have KZ := Lib.hid (fun w' (A : Option Addr) (h : Reads w' A k (bts (List.replicate k 0))) => csum_any w' A k k _ h (dig_zeros k) (by omega))
      have x1 := crcSum_lt a'
      have x2 := crcSum_lt b'
      have x3 := crcSum_lt (List.replicate k 0)
      have g1 := u32_xor_nat (crcSum a') (crcSum b') x1 x2
      have g2 := u32_xor_nat (crcSum a' ^^^ crcSum b') (crcSum (List.replicate k 0)) (Nat.xor_lt_two_pow (n := 32) x1 x2) x3
      rw [← HT.out] at g2
      generalize crcSum z = s at *
      generalize crcSum a' ^^^ crcSum b' = sab at *
      generalize crcSum a' = sa at *
      generalize crcSum b' = sb at *
      generalize crcSum (List.replicate k 0) = s0 at *
      clear hrow rx x1 x2 x3 HT
      go_wp2_with fail
      go_region_held3 (fun _ => True)
        (trivial)
        (first
          | (go_at_call 12; with_reducible refine (KX.out _ (by first | assumption | with_reducible exact (RX.out.below (mk_below _ _)).drew | fail)).mono ?_; rintro e w3 ⟨rfl, b3⟩; (first | have c3 := up2 c2d b3 | have c3 := up2 (upd (up1 c2 _)) b3 | fail); (first | with_reducible have z3 := (zeros_made wr k _ rfl).drew.below b3 | skip); clear b3)
          | (go_at_call 12; with_reducible refine (KA.out _ (by first | assumption | with_reducible exact up1 (by assumption) _ | fail)).mono ?_; rintro e w4 ⟨rfl, b4⟩; (first | have c4 := up2 c3 b4 | have c4 := up2 (up1 c3 _) b4 | fail); (first | have z4 := z3.below b4 | with_reducible have z4 := (zeros_made w3 k _ rfl).below b4 | skip); clear b4)
          | (go_at_call 12; with_reducible refine (KB.out _ (by first | assumption | with_reducible exact up1 (by assumption) _ | fail)).mono ?_; rintro e w5 ⟨rfl, b5⟩; (first | have c5 := up2 c4 b5 | have c5 := up2 (up1 c4 _) b5 | fail); (first | have z5 := z4.below b5 | with_reducible have z5 := (zeros_made w4 k _ rfl).below b5 | skip); clear b5)
          | (go_at_call 12; with_reducible refine (KZ.out _ _ (by first | assumption | with_reducible exact zeros_made w5 k _ rfl | fail)).mono ?_; rintro e w6 ⟨rfl, b6⟩; (first | have c6 := up2 c5 b6 | have c6 := up2 (up1 c5 _) b6 | fail); clear b6)
          | fail)
      all_goals
        have C6 := Lib.hid c6
        go_wp2
        go_ret
        exact ⟨rfl, C6.out⟩
set_option maxHeartbeats 3200000 in
set_option maxRecDepth 100000 in
theorem more (A : Option Addr) (n c : Nat) (a : List Nat) (A' : Option Addr) (n' c' : Nat) (b : List Nat) (w : World) (hA : (A = none → c = 0) ∧ n ≤ c) (ha : Dig a) (h : Reads w A n (bts a))
    (hA' : (A' = none → c' = 0) ∧ n' ≤ c') (hb : Dig b) (h' : Reads w A' n' (bts b)) (h1 : n ≤ 300) (h2 : n' ≤ 300) (hcmp : ¬ n' < n) :
    Calls Try.prog 7 #[.slice A n c, .slice A' n' c'] w fun e w' => e = .returned (.bool true) ∧ Below w.heap.size w w' := by
  have t0 : ¬ (300 : Int) < n := by omega
  have t1 : ¬ (300 : Int) < n' := by omega
  have t2 : ¬ (n' : Int) < n := by omega
  have hmk := fun W => run_make_row' (P := Try.prog) 22 5 (.int .u8 0) 1 Try.underlying22 Try.infoU8 rfl .i64 .i64 n (by omega) (by omega) W
  have RA := Lib.hid (reads_take h (show n ≤ n by omega))
  have RB := Lib.hid (reads_take h' (show n ≤ n' by omega))
  have DA := Lib.hid (dig_take ha n)
  have DB := Lib.hid (dig_take hb n)
  have LA := Lib.hid (show (a.take n).length = n by rw [List.length_take, h.lenB]; omega)
  have LB := Lib.hid (show (b.take n).length = n by rw [List.length_take, h'.lenB]; omega)
  have hT := sum_together DA.out DB.out (by rw [LA.out, LB.out])
  rw [LA.out] at hT
  obtain ⟨z, hz⟩ : ∃ z, List.zipWith (· ^^^ ·) (a.take n) (b.take n) = z := ⟨_, rfl⟩
  rw [hz] at hT
  have DZ := Lib.hid (show Dig z by rw [← hz]; exact dig_zip DA.out DB.out)
  have LZ := Lib.hid (show z.length = n by rw [← hz, List.length_zipWith, LA.out, LB.out]; omega)
  have GZ := Lib.hid (fun k (hk : k < n) => show z.getD k 0 = (a.take n).getD k 0 ^^^ (b.take n).getD k 0 by
    have l1 := LA.out
    have l2 := LB.out
    rw [← hz, List.getD_eq_getElem?_getD, List.getElem?_zipWith, List.getD_eq_getElem?_getD, List.getD_eq_getElem?_getD, List.getElem?_eq_getElem (by omega), List.getElem?_eq_getElem (by omega)]
    rfl)
  have HT := Lib.hid hT
  have hc1 : (n : Int) ≤ c := by omega
  have hc2 : (n : Int) ≤ c' := by omega
  have hN3 : n ≤ 300 := by omega
  generalize a.take n = a' at *
  generalize b.take n = b' at *
  have HC := Lib.hid (And.intro hA hA')
  clear hz hT h h' ha hb hA hA'
  go_enter Try.func7, Try.ntmps7
  go_wp2_with fail
  refine (awake6_true w).mono ?_
  rintro e w1 ⟨rfl, b1⟩
  have B1 := Lib.hid (up1 b1 (.cells (madeCells #[.int .u8 0] n) 5))
  have Q1 := Lib.hid (show BRow (w1.alloc (.cells (madeCells #[.int .u8 0] n) 5)) w1.heap.size (part z n 0) [] by
    rw [BRow, heap_alloc_new, part_zero, List.append_nil, show bts (List.replicate n 0) = List.replicate n (.int .u8 0) by simp [bts], ← toList_madeCells_one])
  have S1 := Lib.hid b1.size
  clear b1
  go_wp2_with fail
  generalize w1.alloc (.cells (madeCells #[.int .u8 0] n) 5) = w2 at *
  generalize w1.heap.size = q at *
  go_loopw [27] (PutAt w q n z) (fun i _ => n - (intOf i).toNat)
  case atStart => exact ⟨0, Nat.zero_le _, rfl, Q1.out, B1.out⟩
  case round =>
    obtain ⟨k, hk, rfl, hrow, hbel⟩ := hrel
    have HS := Lib.hid (And.intro hrow hbel)
    clear hrow hbel
    by_cases hlt : k < n
    · have hu : (k : Int) < n := by omega
      obtain ⟨ad, rfl, ck⟩ := (RA.out.below HS.out.2).byte k hlt
      obtain ⟨ad', rfl, ck'⟩ := (RB.out.below HS.out.2).byte k hlt
      have hx := dig_at DA.out k
      have hx' := dig_at DB.out k
      have hg := GZ.out k hlt
      have hlp := length_part z n k LZ.out hk
      have cq := HS.out.1.cell k (by omega)
      have fq := frozen_in HS.out.1 k
      have R := Lib.hid (HS.out.1.set k (z.getD k 0) (by omega))
      rw [part_set z n k LZ.out hlt] at R
      have B := Lib.hid (HS.out.2.setCell (p := ⟨q, k, none⟩) S1.out (.int .u8 ((z.getD k 0 : Nat) : Int)))
      generalize a'.getD k 0 = x at *
      generalize b'.getD k 0 = x' at *
      have e1 : bits .xor .u8 (x : Int) (x' : Int) = ((z.getD k 0 : Nat) : Int) := by rw [hg]; exact u8_xor_nat x x' hx hx'
      generalize z.getD k 0 = y at *
      generalize (part z n k).getD k 0 = y0 at *
      have v1 : (k : Int) < n := by omega
      have v2 : (k : Int) < n' := by omega
      clear hg hlp
      go_wp2_with fail
      go_region
      go_wp2_with fail
      exact ⟨⟨k + 1, by omega, by go_num, R.out, upd B.out⟩, by simp [intOf]; omega⟩
    · obtain rfl : k = n := by omega
      have hu : ¬ (k : Int) < k := by omega
      have hs1 := fun W => slice_headB A k c k (by omega) W
      have hs2 := fun W => slice_headB A' n' c' k (by omega) W
      have hrow := HS.out.1
      rw [part_all z k LZ.out] at hrow
      have rx := hrow.reads LZ.out
      have RX := Lib.hid rx
      have rxd := rx.drew
      have c2 : Below w.heap.size w wr := HS.out.2
      have c2d := upd c2
      have KX := Lib.hid (fun w' (h : Reads w' (some ⟨q, 0, none⟩) k (bts z)) => csum_any w' (some ⟨q, 0, none⟩) k k z h DZ.out (by omega))
      have KA := Lib.hid (fun w' (b : Below w.heap.size w w') => csum_any w' A k c a' (RA.out.below b) DA.out (by omega))
      have KB := Lib.hid (fun w' (b : Below w.heap.size w w') => csum_any w' A' k c' b' (RB.out.below b) DB.out (by omega))
      have KZ := Lib.hid (fun w' (A : Option Addr) (h : Reads w' A k (bts (List.replicate k 0))) => csum_any w' A k k _ h (dig_zeros k) (by omega))
      have x1 := crcSum_lt a'
      have x2 := crcSum_lt b'
      have x3 := crcSum_lt (List.replicate k 0)
      have g1 := u32_xor_nat (crcSum a') (crcSum b') x1 x2
      have g2 := u32_xor_nat (crcSum a' ^^^ crcSum b') (crcSum (List.replicate k 0)) (Nat.xor_lt_two_pow (n := 32) x1 x2) x3
      rw [← HT.out] at g2
      generalize crcSum z = s at *
      generalize crcSum a' ^^^ crcSum b' = sab at *
      generalize crcSum a' = sa at *
      generalize crcSum b' = sb at *
      generalize crcSum (List.replicate k 0) = s0 at *
      clear hrow rx x1 x2 x3 HT
      go_wp2_with fail
      go_region_held3 (fun _ => True)
        (trivial)
        (first
          | (go_at_call 12; with_reducible refine (KX.out _ (by first | assumption | with_reducible exact (RX.out.below (mk_below _ _)).drew | fail)).mono ?_; rintro e w3 ⟨rfl, b3⟩; (first | have c3 := up2 c2d b3 | have c3 := up2 (upd (up1 c2 _)) b3 | fail); (first | with_reducible have z3 := (zeros_made wr k _ rfl).drew.below b3 | skip); clear b3)
          | (go_at_call 12; with_reducible refine (KA.out _ (by first | assumption | with_reducible exact up1 (by assumption) _ | fail)).mono ?_; rintro e w4 ⟨rfl, b4⟩; (first | have c4 := up2 c3 b4 | have c4 := up2 (up1 c3 _) b4 | fail); (first | have z4 := z3.below b4 | with_reducible have z4 := (zeros_made w3 k _ rfl).below b4 | skip); clear b4)
          | (go_at_call 12; with_reducible refine (KB.out _ (by first | assumption | with_reducible exact up1 (by assumption) _ | fail)).mono ?_; rintro e w5 ⟨rfl, b5⟩; (first | have c5 := up2 c4 b5 | have c5 := up2 (up1 c4 _) b5 | fail); (first | have z5 := z4.below b5 | with_reducible have z5 := (zeros_made w4 k _ rfl).below b5 | skip); clear b5)
          | (go_at_call 12; with_reducible refine (KZ.out _ _ (by first | assumption | with_reducible exact zeros_made w5 k _ rfl | fail)).mono ?_; rintro e w6 ⟨rfl, b6⟩; (first | have c6 := up2 c5 b6 | have c6 := up2 (up1 c5 _) b6 | fail); clear b6)
          | fail)
      all_goals
        have C6 := Lib.hid c6
        go_wp2
        go_ret
        exact ⟨rfl, C6.out⟩

theorem walk (A : Option Addr) (n c : Nat) (a : List Nat) (A' : Option Addr) (n' c' : Nat) (b : List Nat) (w : World) (hA : (A = none → c = 0) ∧ n ≤ c) (ha : Dig a) (h : Reads w A n (bts a))
    (hA' : (A' = none → c' = 0) ∧ n' ≤ c') (hb : Dig b) (h' : Reads w A' n' (bts b)) :
    Calls Try.prog 7 #[.slice A n c, .slice A' n' c'] w fun e w' => e = .returned (.bool true) ∧ Below w.heap.size w w' := by
  by_cases hg : 300 < n ∨ 300 < n'
  · exact out A n c A' n' c' w hg
  · rcases Nat.lt_or_ge n' n with hc | hc
    · exact less A n c a A' n' c' b w hA ha h hA' hb h' (by omega) (by omega) hc
    · exact more A n c a A' n' c' b w hA ha h hA' hb h' (by omega) (by omega) (by omega)

set_option maxRecDepth 100000 in
theorem lifted (os : Os) (started : os.Started) (H : Type) (enc : TypeId × Value → H) :
    ReturnsInHanded {} Try.checked os 7 .any (Rows.crcTogetherSpec.pre6 enc Try.prog Try.f7 Rows.crcTogetherRow.domain false) (Rows.crcTogetherSpec.post enc Try.prog Try.f7 false true false false) := by
  refine returnsInHanded_of_change (C := Try.checked) own_knob started (by kernel_rfl) Try.func7
    (ChangeSpec.witness6 (enc := enc) (C := Try.checked) false ⟨#[], #[.slice none 0 0, .slice none 0 0], []⟩ 8 (by kernel_rfl) (by kernel_rfl) (by kernel_rfl) (by kernel_rfl)) ?_
  intro W base args ds gs before hval0 hW hcnd _
  have hval : ∀ (j : Nat) t v, Try.f7.params[j]? = some t → args[j]? = some v → Value.okWide Try.prog W .any base t v := hval0
  have hW' := hW
  obtain ⟨p, q, hA0, hV, rfl, hfz, hnd⟩ := hW
  have hA : DataW.TrodAll enc Try.prog W 0 (fun _ => true) true Try.f7.params.toList args.toList ds p := hA0
  rw [Try.params7] at hA hval
  obtain ⟨v0, vs0, d0, ds0, p0, q0, hargs, rfl, rfl, h0, r0⟩ := trodAll_cons hA
  obtain ⟨v1, vs1, d1, ds1, p1, q1, rfl, rfl, rfl, h1, r1⟩ := trodAll_cons r0
  obtain ⟨rfl, rfl, rfl⟩ := trodAll_nil r1
  obtain rfl : args = #[v0, v1] := by cases args; simp_all
  obtain ⟨rfl, rfl⟩ := trodVars_none hV
  obtain ⟨a0, len0, cap0, rfl⟩ := okWide_slice Try.underlying22 (hval 0 22 v0 rfl rfl)
  have lt0 : ∀ x ∈ p0, x.block < W.heap.size := by obtain ⟨m, hm⟩ := h0; exact DataW.trod_lt m _ _ _ hm
  obtain ⟨hc0, xs0, hx0, hr0⟩ := arg_bytes4 h0
  obtain ⟨a1, len1, cap1, rfl⟩ := okWide_slice Try.underlying22 (hval 1 22 v1 rfl rfl)
  have lt1 : ∀ x ∈ p1, x.block < W.heap.size := by obtain ⟨m, hm⟩ := h1; exact DataW.trod_lt m _ _ _ hm
  obtain ⟨hc1, xs1, hx1, hr1⟩ := arg_bytes4 h1
  clear hA0 hval0
  refine (walk a0 len0 cap0 xs0 a1 len1 cap1 xs1 W hc0 hx0 hr0 hc1 hx1 hr1).mono fun e W' ⟨he, bel⟩ => ?_
  subst he
  exact ⟨_, rfl, _, _, _, [], _, [], hW', trodAll_mk1 (shut_bool Try.underlying4 _), (trodAll_cons_mk (Below.trod laid_out (by kernel_rfl) (of_decide_eq_true (by kernel_rfl)) h0 bel lt0) (trodAll_cons_mk (Below.trod laid_out (by kernel_rfl) (of_decide_eq_true (by kernel_rfl)) h1 bel lt1) trodAll_mk0)), rfl, bel.frame _, fun h => by cases h⟩

theorem over : Rows.crcTogetherRow.holds Try.pinned (OpenSpec.ofChange Rows.crcTogetherSpec) :=
  OpenClaim.holds_of_wide 7 Try.f7 rfl rfl rfl rfl rfl rfl rfl ⟨rfl, rfl, rfl, rfl, rfl⟩ rfl rfl rfl rfl rfl (by kernel_rfl) Try.func7 (by kernel_rfl)
    (of_decide_eq_true (by kernel_rfl)) (by unfold Func.isWrapper; first | (rw [if_pos (by decide +kernel)]; kernel_rfl) | (rw [if_neg (by decide +kernel)]; exact ⟨rfl, rfl⟩))
    (fun os started H enc _ => lifted os started H enc)

theorem proved : Rows.CrcTogetherSaid := over
end Go.Proofs.Ytofchndeafobaaa.crcTogether
