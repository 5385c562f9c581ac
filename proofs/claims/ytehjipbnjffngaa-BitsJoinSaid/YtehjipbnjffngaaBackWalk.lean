/- BitsBack's walk: values that were written are read again, in their order, and nothing is left. -/
import Derived.Test.YtehjipbnjffngaaAwake
import Derived.Test.YtehjipbnjffngaaItems
import Derived.Test.YtehjipbnjffngaaPair
namespace Go.Proofs.Ytehjipbnjffngaa
open Go.RowKit

theorem left_end (w : World) (r p : Nat) (bs : List Bool) (h : RIs w r p bs bs.length) :
    Calls Try.prog 24 #[.pointer (some ⟨r, 0, none⟩)] w fun e w' => e = .returned (.int .i64 0) ∧ Same w w w' := by
  have := left_any w r p bs bs.length h
  rwa [Int.sub_self] at this
/-- Where item k stands among the bits. -/
theorem item_bits {l : List (Nat × Int)} {k : Nat} {x : Nat × Int} (h : l[k]? = some x) :
    ((bitsAll l).drop (bitsAll (l.take k)).length).take x.2.toNat = bitsOf x.1 x.2.toNat ∧ (bitsAll (l.take k)).length + x.2.toNat ≤ (bitsAll l).length ∧ (bitsAll (l.take (k + 1))).length = (bitsAll (l.take k)).length + x.2.toNat := by
  obtain ⟨hk, rfl⟩ := List.getElem?_eq_some_iff.1 h
  have e : bitsAll l = bitsAll (l.take k) ++ (bitsOf l[k].1 l[k].2.toNat ++ bitsAll (l.drop (k + 1))) := by
    rw [← List.append_assoc, ← bitsAll_snoc, ← List.take_succ_eq_append_getElem hk, ← bitsAll_append, List.take_append_drop]
  have hl := length_bitsOf l[k].1 l[k].2.toNat
  refine ⟨?_, ?_, ?_⟩
  · conv => lhs; rw [e]
    rw [List.drop_left, List.take_left' hl]
  · rw [e]; simp only [List.length_append, hl]; omega
  · rw [List.take_succ_eq_append_getElem hk, bitsAll_snoc, List.length_append, hl]
theorem item_num {l : List (Nat × Int)} {k v q : Nat} (h : l[k]? = some (v, (q : Int))) (hv : v < 2 ^ q) : num (((bitsAll l).drop (bitsAll (l.take k)).length).take q) = v := by
  have := (item_bits h).1
  simp only [Int.toNat_natCast] at this
  rw [this, num_bitsOf, Nat.mod_eq_of_lt hv]

namespace bitsBack
theorem refused (w : World) (A : Option Addr) (n c : Nat) (l : List (Nat × Int)) (hn : n ≤ 9223372036854775807) (h : Items w A n l) (hf : (l.all okItem && decide (n ≤ 60)) = false) :
    Calls Try.prog 5 #[.slice A n c] w fun e w' => e = .returned (.bool true) ∧ Below w.heap.size w w' := by
  have HI := Lib.hid h
  clear h
  go_enter Try.func5, Try.ntmps5
  go_wp2_with fail
  refine (awake_true w).mono ?_
  rintro e w1 ⟨rfl, b1⟩
  have B1 := Lib.hid b1
  clear b1
  go_wp2_with fail
  refine (fits_any w1 A n c l hn (HI.out.below B1.out)).mono ?_
  rintro e w2 ⟨rfl, h2⟩
  rw [hf]
  have B2 := Lib.hid (B1.out.trans h2.below)
  clear h2 hf
  go_wp2_with fail
  refine (awake_true w2).mono ?_
  rintro e w3 ⟨rfl, b3⟩
  have B3 := Lib.hid (B2.out.trans (b3.mono B2.out.size))
  clear b3
  go_wp2
  go_ret
  exact ⟨rfl, B3.out⟩

def At (w : World) (r p g : Nat) (v : Value) (l : List (Nat × Int)) (n : Nat) (i : Value) (wr : World) : Prop :=
  ∃ k : Nat, k ≤ n ∧ i = .int .i64 k ∧ RW wr w.heap.size r p (bitsAll l) (bitsAll (l.take k)).length g v (bitsAll l) ∧ Below w.heap.size w wr

set_option maxHeartbeats 1600000 in
theorem taken (w : World) (A : Option Addr) (n c : Nat) (l : List (Nat × Int)) (hn : n ≤ 60) (h : Items w A n l) (hok : l.all okItem = true) :
    Calls Try.prog 5 #[.slice A n c] w fun e w' => e = .returned (.bool true) ∧ Below w.heap.size w w' := by
  have hf : (l.all okItem && decide (n ≤ 60)) = true := by rw [hok]; simpa using hn
  have hlen := bitsAll_len l hok
  have hl := h.1
  have hsz : (bitsAll l).length ≤ 3840 := by omega
  have HI := Lib.hid h
  have HO := Lib.hid hok
  clear h hok hlen hl
  go_enter Try.func5, Try.ntmps5
  go_wp2_with fail
  refine (awake_true w).mono ?_
  rintro e w1 ⟨rfl, b1⟩
  have B1 := Lib.hid b1
  clear b1
  go_wp2_with fail
  refine (fits_any w1 A n c l (by omega) (HI.out.below B1.out)).mono ?_
  rintro e w2 ⟨rfl, h2⟩
  rw [hf]
  have B2 := Lib.hid (B1.out.trans h2.below)
  clear h2 hf
  go_wp2_with fail
  have B3 := Lib.hid (B2.out.alloc B2.out.size (.cells #[.slice none 0 0, .int .i64 0] 26))
  refine (put1_any _ w.heap.size w2.heap.size (.slice none 0 0) [] A n c l hn HO.out (HI.out.below B3.out) HI.out.lt (WIs.new w2 _) B2.out.size B3.out.size (by simp)).mono ?_
  rintro e w4 ⟨rfl, v, h4, k4, _⟩
  have W4 := Lib.hid (show WIs w4 w.heap.size w2.heap.size v (bitsAll l) from h4)
  have B4 := Lib.hid (B3.out.trans (k4.below B2.out.size B3.out.size (by simp [Value.ownBlock])))
  clear h4 k4
  go_wp2_with fail
  refine (bytes_any w4 w.heap.size w2.heap.size v (bitsAll l) W4.out (by omega)).mono ?_
  rintro e w5 ⟨rfl, h5, b5⟩
  have W5 := Lib.hid (W4.out.below b5)
  have B5 := Lib.hid (B4.out.trans (b5.mono B4.out.size))
  have E5 := Lib.hid (Reads.of_bytes h5)
  clear h5 b5
  go_wp2_with fail
  refine (len_any w5 w.heap.size w2.heap.size v (bitsAll l) W5.out).mono ?_
  rintro e w6 ⟨rfl, rfl⟩
  go_wp2_with fail
  refine (nr_ok w5 _ _ (bitsAll l) (by omega) E5.out).mono ?_
  rintro e w6 ⟨r, p, rfl, h6, b6, hr, hp⟩
  have B6 := Lib.hid (B5.out.trans (b6.mono B5.out.size))
  have R6 := Lib.hid (show RW w6 w.heap.size r p (bitsAll l) (bitsAll (l.take 0)).length w2.heap.size v (bitsAll l) from
    ⟨h6, W5.out.below b6, by have := W5.out.lt; omega, by have := W5.out.lt; omega, fun e => by have := (W5.out.row.lt r e).2; omega, fun e => by have := (W5.out.row.lt p e).2; omega, Nat.le_trans B5.out.size hr, B2.out.size, B6.out.size⟩)
  clear h6 b6 hr hp
  go_wp2_with fail
  go_loopw [6] (At w r p w2.heap.size v l n) (fun i _ => n - (intOf i).toNat)
  case atStart => exact ⟨0, Nat.zero_le _, rfl, R6.out, B6.out⟩
  case round =>
    obtain ⟨k, hk, rfl, hrw, hb⟩ := hrel
    have R := Lib.hid hrw
    have BR := Lib.hid hb
    clear hrw hb
    by_cases hlt : k < n
    · have hkl : k < l.length := by rw [HI.out.1]; exact hlt
      obtain ⟨b, off, rfl, hc⟩ := (HI.out.below BR.out).2 (by omega)
      obtain ⟨c0, c1, hv⟩ := hc k l[k] (List.getElem?_eq_getElem hkl)
      have HX := Lib.hid (List.getElem?_eq_getElem hkl)
      have ho : okItem l[k] = true := (List.all_eq_true.1 HO.out) _ (List.getElem_mem hkl)
      generalize l[k] = x at *
      obtain ⟨x0, m⟩ := x
      simp [okItem] at ho
      obtain ⟨m0, m1, hm⟩ := ho
      obtain ⟨q, rfl⟩ : ∃ q : Nat, m = (q : Int) := ⟨m.toNat, by omega⟩
      have hm' : x0 < 2 ^ q := by simpa using hm
      have NX := Lib.hid (item_num HX.out hm')
      have PX := Lib.hid (item_bits HX.out)
      clear hc hm hm'
      have b1 : (k : Int) < n := by omega
      have hbl : b < w.heap.size := HI.out.lt _ rfl (by omega)
      have C0 := Lib.hid c0
      clear c0
      go_wp2_with fail
      refine (get_ok wr r p (bitsAll l) _ q R.out.rd (by omega) (by have := PX.out.2.1; simpa using this)).mono ?_
      rintro e w7 ⟨rfl, h7, g7⟩
      rw [NX.out]
      have R7 := Lib.hid (R.out.read h7 g7).1
      have B7 := Lib.hid (BR.out.trans (R.out.read h7 g7).2)
      have d0 := ((R.out.read h7 g7).2.cell (p := ⟨b, off + k * 2, none⟩) hbl).trans C0.out
      have t : ((x0 : Int) != (x0 : Int)) = false := by simp
      clear h7 g7 c1
      go_wp2
      go_roundw
      case rel =>
        refine ⟨k + 1, by omega, by go_num, ?_, B7.out⟩
        have := PX.out.2.2
        rw [this]
        simpa using R7.out
      case measure => simp [intOf]; omega
    · have RR := Lib.hid (show RIs wr r p (bitsAll l) (bitsAll l).length by
        have := R.out.rd
        rwa [List.take_of_length_le (by rw [HI.out.1]; omega)] at this)
      go_wp2_with fail
      refine (left_end wr r p (bitsAll l) RR.out).mono ?_
      rintro e w7 ⟨rfl, h7⟩
      have R7 := Lib.hid (RR.out.same h7)
      have W7 := Lib.hid (R.out.wr.same h7)
      have B7 := Lib.hid (BR.out.trans h7.below)
      clear h7
      go_wp2_with fail
      refine (at_any w7 r p (bitsAll l) _ R7.out).mono ?_
      rintro e w8 ⟨rfl, rfl⟩
      go_wp2_with fail
      refine (len_any w7 _ _ v (bitsAll l) W7.out).mono ?_
      rintro e w8 ⟨rfl, rfl⟩
      have t : (((bitsAll l).length : Int) == ((bitsAll l).length : Int)) = true := by simp
      go_wp2
      go_ret
      exact ⟨rfl, B7.out⟩
end bitsBack
end Go.Proofs.Ytehjipbnjffngaa
