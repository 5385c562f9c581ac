/- num.Get and Unfixed, in words of bits. -/
import Derived.Test.YtdlblpmjghjhlaaNum
namespace Go.Proofs.Ytdlblpmjghjhlaa
open Go.RowKit

theorem grown_refl (w : World) (o : Option Nat) : w.grownBy w o := ⟨rfl, rfl, rfl, Nat.le_refl _, fun _ _ _ => rfl⟩
theorem grown_same {w w1 w2 : World} {o : Option Nat} (h : w.grownBy w1 o) (k : Same w1 w1 w2) : w.grownBy w2 o :=
  ⟨k.os.trans h.os, k.tape.trans h.tape, k.output.trans h.output, by rw [k.heap]; exact h.size, fun i hi hn => by rw [k.heap]; exact h.block i hi hn⟩

def ZerosAt (w : World) (r p : Nat) (bs : List Bool) (k z : Nat) (i : Value) (wr : World) : Prop :=
  ∃ j : Nat, j ≤ z ∧ i = .int .i64 j ∧ RIs wr r p bs (k + j) ∧ w.grownBy wr (some r)

set_option maxHeartbeats 1000000 in
set_option maxRecDepth 100000 in
theorem zeros_ok (w : World) (r p : Nat) (bs : List Bool) (k : Nat) (h : RIs w r p bs k) (z : Nat) (hz : z ≤ 32) (he : k + z < bs.length) (h0 : ∀ j, j < z → bs.getD (k + j) false = false) (h1 : bs.getD (k + z) false = true) :
    Calls Try.prog 38 #[.pointer (some ⟨r, 0, none⟩)] w fun e w' => e = .returned (.tuple #[.int .i64 (z : Int), .int .i64 0]) ∧ RIs w' r p bs (k + z + 1) ∧ w.grownBy w' (some r) := by
  have HR := Lib.hid h
  have H0 := Lib.hid h0
  have H1 := Lib.hid h1
  have HE := Lib.hid he
  clear h h0 h1 he
  go_enter Try.func38, Try.ntmps38
  go_wp2
  go_loopw [4] (ZerosAt w r p bs k z) (fun i _ => z + 1 - (intOf i).toNat)
  case atStart => exact ⟨0, Nat.zero_le _, rfl, HR.out, grown_refl _ _⟩
  case round =>
    obtain ⟨j, hj, rfl, hr, hg⟩ := hrel
    have R := Lib.hid hr
    have G := Lib.hid hg
    clear hr hg
    have hj32 : (j : Int) ≤ 32 := by omega
    by_cases hlt : j < z
    · go_wp2_with fail
      refine (rbit_ok wr r p bs (k + j) R.out (by have := HE.out; omega)).mono ?_
      rintro e w1 ⟨rfl, h2, g2⟩
      rw [H0.out j hlt]
      have R2 := Lib.hid h2
      have G2 := Lib.hid (G.out.trans g2)
      clear h2 g2
      go_wp2
      exact ⟨⟨j + 1, hlt, by go_num, R2.out, G2.out⟩, by simp [intOf]; omega⟩
    · obtain rfl : j = z := by omega
      go_wp2_with fail
      refine (rbit_ok wr r p bs (k + j) R.out (by have := HE.out; omega)).mono ?_
      rintro e w1 ⟨rfl, h2, g2⟩
      rw [H1.out]
      have R2 := Lib.hid h2
      have G2 := Lib.hid (G.out.trans g2)
      clear h2 g2
      go_wp2
      go_ret2
      exact ⟨rfl, R2.out, G2.out⟩


set_option maxHeartbeats 1000000 in
set_option maxRecDepth 100000 in
theorem zeros_end (w : World) (r p : Nat) (bs : List Bool) (k : Nat) (h : RIs w r p bs k) (z : Nat) (hz : z ≤ 32) (he : k + z = bs.length) (h0 : ∀ j, j < z → bs.getD (k + j) false = false) :
    Calls Try.prog 38 #[.pointer (some ⟨r, 0, none⟩)] w fun e w' => e = .returned (.tuple #[.int .i64 0, .int .i64 4]) ∧ w.grownBy w' (some r) := by
  have HR := Lib.hid h
  have H0 := Lib.hid h0
  have HE := Lib.hid he
  clear h h0 he
  go_enter Try.func38, Try.ntmps38
  go_wp2
  go_loopw [4] (ZerosAt w r p bs k z) (fun i _ => z + 1 - (intOf i).toNat)
  case atStart => exact ⟨0, Nat.zero_le _, rfl, HR.out, grown_refl _ _⟩
  case round =>
    obtain ⟨j, hj, rfl, hr, hg⟩ := hrel
    have R := Lib.hid hr
    have G := Lib.hid hg
    clear hr hg
    have hj32 : (j : Int) ≤ 32 := by omega
    by_cases hlt : j < z
    · go_wp2_with fail
      refine (rbit_ok wr r p bs (k + j) R.out (by have := HE.out; omega)).mono ?_
      rintro e w1 ⟨rfl, h2, g2⟩
      rw [H0.out j hlt]
      have R2 := Lib.hid h2
      have G2 := Lib.hid (G.out.trans g2)
      clear h2 g2
      go_wp2
      exact ⟨⟨j + 1, hlt, by go_num, R2.out, G2.out⟩, by simp [intOf]; omega⟩
    · obtain rfl : j = z := by omega
      go_wp2_with fail
      refine (rbit_end wr r p bs (HE.out ▸ R.out)).mono ?_
      rintro e w1 ⟨rfl, s2⟩
      have G2 := Lib.hid (grown_same G.out s2)
      clear s2
      go_wp2
      go_ret2
      exact ⟨rfl, G2.out⟩


set_option maxHeartbeats 1000000 in
set_option maxRecDepth 100000 in
theorem zeros_form (w : World) (r p : Nat) (bs : List Bool) (k : Nat) (h : RIs w r p bs k) (he : k + 33 ≤ bs.length) (h0 : ∀ j, j < 33 → bs.getD (k + j) false = false) :
    Calls Try.prog 38 #[.pointer (some ⟨r, 0, none⟩)] w fun e w' => e = .returned (.tuple #[.int .i64 0, .int .i64 3]) ∧ w.grownBy w' (some r) := by
  have HR := Lib.hid h
  have H0 := Lib.hid h0
  have HE := Lib.hid he
  clear h h0 he
  go_enter Try.func38, Try.ntmps38
  go_wp2
  go_loopw [4] (ZerosAt w r p bs k 33) (fun i _ => 33 + 1 - (intOf i).toNat)
  case atStart => exact ⟨0, Nat.zero_le _, rfl, HR.out, grown_refl _ _⟩
  case round =>
    obtain ⟨j, hj, rfl, hr, hg⟩ := hrel
    have R := Lib.hid hr
    have G := Lib.hid hg
    clear hr hg
    by_cases hlt : j < 33
    · have hj32 : (j : Int) ≤ 32 := by omega
      go_wp2_with fail
      refine (rbit_ok wr r p bs (k + j) R.out (by have := HE.out; omega)).mono ?_
      rintro e w1 ⟨rfl, h2, g2⟩
      rw [H0.out j hlt]
      have R2 := Lib.hid h2
      have G2 := Lib.hid (G.out.trans g2)
      clear h2 g2
      go_wp2
      exact ⟨⟨j + 1, hlt, by go_num, R2.out, G2.out⟩, by simp [intOf]; omega⟩
    · obtain rfl : j = 33 := by omega
      go_wp2
      go_ret2
      exact ⟨rfl, G.out⟩


/-- A gamma code's number, of its leading one and the bits behind it. -/
def told (bs : List Bool) (k z : Nat) : Nat := 2 ^ z + num ((bs.drop (k + z + 1)).take z) - 1
theorem told_val (z m : Nat) (hz : z ≤ 32) (hm : m < 2 ^ z) : IntKind.u64.wrap (bits BinOp.or IntKind.u64 (IntKind.u64.wrap (2 ^ z)) (m : Int) - 1) = ((2 ^ z + m - 1 : Nat) : Int) := by
  have hp : 2 ^ z ≤ 4294967296 := by
    have : 2 ^ z ≤ 2 ^ 32 := Nat.pow_le_pow_right (by omega) hz
    simpa using this
  have e1 : IntKind.u64.wrap ((2 : Int) ^ z) = ((2 ^ z : Nat) : Int) := by
    have : ((2 : Int) ^ z) = ((2 ^ z : Nat) : Int) := by push_cast; rfl
    rw [this]
    simp only [IntKind.wrap, IntKind.bits, IntKind.signed]
    generalize 2 ^ z = y at *
    simp
    omega
  rw [e1, u64_or_nat _ _ (by omega) (by omega), nat_join z _ _ (by simp) hm]
  have hp1 : 1 ≤ 2 ^ z := Nat.two_pow_pos z
  generalize 2 ^ z = y at *
  simp only [IntKind.wrap, IntKind.bits, IntKind.signed]
  simp
  omega

set_option maxHeartbeats 1000000 in
set_option maxRecDepth 100000 in
theorem nget_ok (w : World) (r p : Nat) (bs : List Bool) (k : Nat) (h : RIs w r p bs k) (z : Nat) (hz : z ≤ 32) (he : k + 2 * z + 1 ≤ bs.length) (h0 : ∀ j, j < z → bs.getD (k + j) false = false) (h1 : bs.getD (k + z) false = true) (hv : told bs k z ≤ 4294967296) :
    Calls Try.prog 19 #[.pointer (some ⟨r, 0, none⟩)] w fun e w' => e = .returned (.tuple #[.int .u64 (told bs k z : Nat), .int .i64 0]) ∧ RIs w' r p bs (k + (2 * z + 1)) ∧ w.grownBy w' (some r) := by
  have HR := Lib.hid h
  have H0 := Lib.hid h0
  have H1 := Lib.hid h1
  have HE := Lib.hid he
  clear h h0 h1 he
  go_enter Try.func19, Try.ntmps19
  go_wp2_with fail
  refine (zeros_ok w r p bs k HR.out z hz (by have := HE.out; omega) H0.out H1.out).mono ?_
  rintro e w1 ⟨rfl, h2, g2⟩
  have R2 := Lib.hid h2
  have G2 := Lib.hid g2
  clear h2 g2
  go_wp2_with fail
  refine (get_ok w1 r p bs (k + z + 1) z R2.out (by omega) (by have := HE.out; omega)).mono ?_
  rintro e w2 ⟨rfl, h3, g3⟩
  have R3 := Lib.hid (show RIs w2 r p bs (k + (2 * z + 1)) by rw [show k + (2 * z + 1) = k + z + 1 + z by omega]; exact h3)
  have G3 := Lib.hid (G2.out.trans g3)
  clear h3 g3
  have hl : num ((bs.drop (k + z + 1)).take z) < 2 ^ z := by
    have := num_lt ((bs.drop (k + z + 1)).take z)
    rwa [List.length_take, List.length_drop, Nat.min_eq_left (by have := HE.out; omega)] at this
  have e1 := told_val z _ hz hl
  change _ = ((told bs k z : Nat) : Int) at e1
  clear hl
  generalize num ((bs.drop (k + z + 1)).take z) = m at *
  generalize htt : told bs k z = t at *
  have HT := Lib.hid htt
  clear htt
  have ht : (t : Int) ≤ 4294967296 := by omega
  go_wp2
  go_ret2
  rw [HT.out]
  exact ⟨rfl, R3.out, G3.out⟩

set_option maxHeartbeats 1000000 in
set_option maxRecDepth 100000 in
theorem nget_over (w : World) (r p : Nat) (bs : List Bool) (k : Nat) (h : RIs w r p bs k) (z : Nat) (hz : z ≤ 32) (he : k + 2 * z + 1 ≤ bs.length) (h0 : ∀ j, j < z → bs.getD (k + j) false = false) (h1 : bs.getD (k + z) false = true) (hv : 4294967296 < told bs k z) :
    Calls Try.prog 19 #[.pointer (some ⟨r, 0, none⟩)] w fun e w' => e = .returned (.tuple #[.int .u64 0, .int .i64 3]) ∧ w.grownBy w' (some r) := by
  have HR := Lib.hid h
  have H0 := Lib.hid h0
  have H1 := Lib.hid h1
  have HE := Lib.hid he
  clear h h0 h1 he
  go_enter Try.func19, Try.ntmps19
  go_wp2_with fail
  refine (zeros_ok w r p bs k HR.out z hz (by have := HE.out; omega) H0.out H1.out).mono ?_
  rintro e w1 ⟨rfl, h2, g2⟩
  have R2 := Lib.hid h2
  have G2 := Lib.hid g2
  clear h2 g2
  go_wp2_with fail
  refine (get_ok w1 r p bs (k + z + 1) z R2.out (by omega) (by have := HE.out; omega)).mono ?_
  rintro e w2 ⟨rfl, h3, g3⟩
  have G3 := Lib.hid (G2.out.trans g3)
  clear h3 g3
  have hl : num ((bs.drop (k + z + 1)).take z) < 2 ^ z := by
    have := num_lt ((bs.drop (k + z + 1)).take z)
    rwa [List.length_take, List.length_drop, Nat.min_eq_left (by have := HE.out; omega)] at this
  have e1 := told_val z _ hz hl
  change _ = ((told bs k z : Nat) : Int) at e1
  clear hl
  generalize num ((bs.drop (k + z + 1)).take z) = m at *
  generalize told bs k z = t at *
  have ht : (4294967296 : Int) < t := by omega
  go_wp2
  go_ret2
  exact ⟨rfl, G3.out⟩

set_option maxHeartbeats 1000000 in
set_option maxRecDepth 100000 in
theorem nget_short (w : World) (r p : Nat) (bs : List Bool) (k : Nat) (h : RIs w r p bs k) (z : Nat) (hz : z ≤ 32) (he : k + z < bs.length) (hs : bs.length < k + 2 * z + 1) (h0 : ∀ j, j < z → bs.getD (k + j) false = false) (h1 : bs.getD (k + z) false = true) :
    Calls Try.prog 19 #[.pointer (some ⟨r, 0, none⟩)] w fun e w' => e = .returned (.tuple #[.int .u64 0, .int .i64 4]) ∧ w.grownBy w' (some r) := by
  have HR := Lib.hid h
  have H0 := Lib.hid h0
  have H1 := Lib.hid h1
  have HE := Lib.hid he
  have HS := Lib.hid hs
  clear h h0 h1 he hs
  go_enter Try.func19, Try.ntmps19
  go_wp2_with fail
  refine (zeros_ok w r p bs k HR.out z hz HE.out H0.out H1.out).mono ?_
  rintro e w1 ⟨rfl, h2, g2⟩
  have R2 := Lib.hid h2
  have G2 := Lib.hid g2
  clear h2 g2
  go_wp2_with fail
  refine (get_end w1 r p bs (k + z + 1) z R2.out (by omega) (by have := HS.out; have := HE.out; omega)).mono ?_
  rintro e w2 ⟨rfl, s3⟩
  have G3 := Lib.hid (grown_same G2.out s3)
  clear s3
  go_wp2
  go_ret2
  exact ⟨rfl, G3.out⟩

set_option maxHeartbeats 1000000 in
set_option maxRecDepth 100000 in
theorem nget_end (w : World) (r p : Nat) (bs : List Bool) (k : Nat) (h : RIs w r p bs k) (z : Nat) (hz : z ≤ 32) (he : k + z = bs.length) (h0 : ∀ j, j < z → bs.getD (k + j) false = false) :
    Calls Try.prog 19 #[.pointer (some ⟨r, 0, none⟩)] w fun e w' => e = .returned (.tuple #[.int .u64 0, .int .i64 4]) ∧ w.grownBy w' (some r) := by
  have C := zeros_end w r p bs k h z hz he h0
  clear h hz he h0
  go_enter Try.func19, Try.ntmps19
  go_wp2_with fail
  refine C.mono ?_
  rintro e w1 ⟨rfl, g2⟩
  have G2 := Lib.hid g2
  clear g2
  go_wp2
  go_ret2
  exact ⟨rfl, G2.out⟩

set_option maxHeartbeats 1000000 in
set_option maxRecDepth 100000 in
theorem nget_form (w : World) (r p : Nat) (bs : List Bool) (k : Nat) (h : RIs w r p bs k) (he : k + 33 ≤ bs.length) (h0 : ∀ j, j < 33 → bs.getD (k + j) false = false) :
    Calls Try.prog 19 #[.pointer (some ⟨r, 0, none⟩)] w fun e w' => e = .returned (.tuple #[.int .u64 0, .int .i64 3]) ∧ w.grownBy w' (some r) := by
  have C := zeros_form w r p bs k h he h0
  clear h he h0
  go_enter Try.func19, Try.ntmps19
  go_wp2_with fail
  refine C.mono ?_
  rintro e w1 ⟨rfl, g2⟩
  have G2 := Lib.hid g2
  clear g2
  go_wp2
  go_ret2
  exact ⟨rfl, G2.out⟩

set_option maxHeartbeats 1000000 in
set_option maxRecDepth 100000 in
theorem nget_nil (w : World) : Calls Try.prog 19 #[.pointer none] w fun e w' => e = .returned (.tuple #[.int .u64 0, .int .i64 1]) ∧ w = w' := by
  have C : Calls Try.prog 38 #[.pointer none] w fun e w' => e = .returned (.tuple #[.int .i64 0, .int .i64 1]) ∧ w = w' := by
    go_enter Try.func38, Try.ntmps38
    go_wp2
    refine wp_loop_rounds 1 ?_
    rw [rounds_succ]
    go_wp2_with fail
    refine (rbit_nil w).mono ?_
    rintro e w1 ⟨rfl, rfl⟩
    go_wp2
    go_ret2
    exact ⟨rfl, rfl⟩
  go_enter Try.func19, Try.ntmps19
  go_wp2_with fail
  refine C.mono ?_
  rintro e w1 ⟨rfl, rfl⟩
  go_wp2
  go_ret2
  exact ⟨rfl, rfl⟩

theorem unfixed_nil (w : World) (b : Int) : Calls Try.prog 26 #[.pointer none, .int .i64 b] w fun e w' => e = .returned (.tuple #[.int .i64 0, .int .i64 1]) ∧ w = w' := by
  go_enter Try.func26, Try.ntmps26
  go_wp2
  go_ret2
  exact ⟨rfl, rfl⟩
theorem unfixed_range (w : World) (r : Nat) (b : Int) (hb : b < 1) : Calls Try.prog 26 #[.pointer (some ⟨r, 0, none⟩), .int .i64 b] w fun e w' => e = .returned (.tuple #[.int .i64 0, .int .i64 2]) ∧ w = w' := by
  go_enter Try.func26, Try.ntmps26
  go_wp2
  go_ret2
  exact ⟨rfl, rfl⟩

set_option maxHeartbeats 1000000 in
set_option maxRecDepth 100000 in
theorem unfixed_end (w : World) (r p : Nat) (bs : List Bool) (k : Nat) (b : Int) (h : RIs w r p bs k) (hb : 1 ≤ b) (hb2 : b < 9223372036854775808) (he : bs.length - k < wide b) :
    Calls Try.prog 26 #[.pointer (some ⟨r, 0, none⟩), .int .i64 b] w fun e w' => e = .returned (.tuple #[.int .i64 0, .int .i64 4]) ∧ Same w w w' := by
  have hd := wide_le b hb2
  have C := get_end w r p bs k (wide b) h (by omega) he
  clear h he
  go_enter Try.func26, Try.ntmps26
  go_wp2_with fail
  refine (width_any w b hb2).mono ?_
  rintro e w1 ⟨rfl, rfl⟩
  go_wp2_with fail
  refine C.mono ?_
  rintro e w1 ⟨rfl, s1⟩
  have S1 := Lib.hid s1
  clear s1
  go_wp2
  go_ret2
  exact ⟨rfl, S1.out⟩

set_option maxHeartbeats 1000000 in
set_option maxRecDepth 100000 in
theorem unfixed_form (w : World) (r p : Nat) (bs : List Bool) (k : Nat) (b : Int) (h : RIs w r p bs k) (hb : 1 ≤ b) (hb2 : b < 9223372036854775808) (he : k + wide b ≤ bs.length) (hv : b ≤ (num ((bs.drop k).take (wide b)) : Nat)) :
    Calls Try.prog 26 #[.pointer (some ⟨r, 0, none⟩), .int .i64 b] w fun e w' => e = .returned (.tuple #[.int .i64 0, .int .i64 3]) ∧ w.grownBy w' (some r) := by
  have hd := wide_le b hb2
  have C := get_ok w r p bs k (wide b) h (by omega) he
  clear h he
  generalize num ((bs.drop k).take (wide b)) = m at *
  go_enter Try.func26, Try.ntmps26
  go_wp2_with fail
  refine (width_any w b hb2).mono ?_
  rintro e w1 ⟨rfl, rfl⟩
  go_wp2_with fail
  refine C.mono ?_
  rintro e w1 ⟨rfl, _, g1⟩
  have G1 := Lib.hid g1
  clear g1
  go_wp2
  go_ret2
  exact ⟨rfl, G1.out⟩

set_option maxHeartbeats 1000000 in
set_option maxRecDepth 100000 in
theorem unfixed_ok (w : World) (r p : Nat) (bs : List Bool) (k : Nat) (b : Int) (h : RIs w r p bs k) (hb : 1 ≤ b) (hb2 : b < 9223372036854775808) (he : k + wide b ≤ bs.length) (hv : ((num ((bs.drop k).take (wide b)) : Nat) : Int) < b) :
    Calls Try.prog 26 #[.pointer (some ⟨r, 0, none⟩), .int .i64 b] w fun e w' => e = .returned (.tuple #[.int .i64 (num ((bs.drop k).take (wide b)) : Nat), .int .i64 0]) ∧ RIs w' r p bs (k + wide b) ∧ w.grownBy w' (some r) := by
  have hd := wide_le b hb2
  have C := get_ok w r p bs k (wide b) h (by omega) he
  clear h he
  generalize num ((bs.drop k).take (wide b)) = m at *
  go_enter Try.func26, Try.ntmps26
  go_wp2_with fail
  refine (width_any w b hb2).mono ?_
  rintro e w1 ⟨rfl, rfl⟩
  go_wp2_with fail
  refine C.mono ?_
  rintro e w1 ⟨rfl, r1, g1⟩
  have R1 := Lib.hid r1
  have G1 := Lib.hid g1
  clear r1 g1
  go_wp2
  go_ret2
  exact ⟨rfl, R1.out, G1.out⟩
end Go.Proofs.Ytdlblpmjghjhlaa
