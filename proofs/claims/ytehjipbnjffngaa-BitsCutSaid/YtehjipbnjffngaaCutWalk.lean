/- BitsCut's walk: however values are cut into bits, one by one or at once, the same stands there. -/
import Derived.Test.YtehjipbnjffngaaBackWalk
import Derived.Test.YtehjipbnjffngaaApart
import Derived.Test.YtehjipbnjffngaaSame
namespace Go.Proofs.Ytehjipbnjffngaa.bitsCut
open Go.RowKit

theorem refused (w : World) (A : Option Addr) (n c : Nat) (l : List (Nat × Int)) (hn : n ≤ 9223372036854775807) (h : Items w A n l) (hf : (l.all okItem && decide (n ≤ 60)) = false) :
    Calls Try.prog 6 #[.slice A n c] w fun e w' => e = .returned (.bool true) ∧ Below w.heap.size w w' := by
  have HI := Lib.hid h
  clear h
  go_enter Try.func6, Try.ntmps6
  go_wp2_with fail
  refine (awake_true w).mono ?_
  rintro e w1 ⟨rfl, b1⟩
  have B1 := Lib.hid b1
  clear b1
  go_wp2_with fail
  refine (fits_any w1 A n c l hn (HI.out.below B1.out)).mono ?_
  rintro e w2 ⟨rfl, h2⟩
  rw [hf]
  have B2 := Lib.hid (B1.out.trans h2.below)
  clear h2 hf
  go_wp2_with fail
  refine (awake_true w2).mono ?_
  rintro e w3 ⟨rfl, b3⟩
  have B3 := Lib.hid (B2.out.trans (b3.mono B2.out.size))
  clear b3
  go_wp2
  go_ret
  exact ⟨rfl, B3.out⟩

/-- Two writers, the first with the bits of all items, the second with cs. -/
def Two (w : World) (g1 g2 : Nat) (bs cs : List Bool) (wr : World) : Prop :=
  ∃ v1 v2, WIs wr w.heap.size g1 v1 bs ∧ WIs wr w.heap.size g2 v2 cs ∧ Apart g1 v1 g2 v2 ∧ Below w.heap.size w wr
theorem Two.push {w wr wx : World} {g1 g2 : Nat} {bs cs : List Bool} {b : Bool} {v1 v2 : Value} (h1 : WIs wr w.heap.size g1 v1 bs) (h2 : WIs wr w.heap.size g2 v2 cs) (ha : Apart g1 v1 g2 v2) (hb : Below w.heap.size w wr) (hg : w.heap.size ≤ g2)
    (h : Wrote wr wx w.heap.size g2 v2 (cs ++ [b])) : Two w g1 g2 bs (cs ++ [b]) wx := by
  obtain ⟨v', hw, hk, hm⟩ := h
  exact ⟨v1, v', h1.aside ha hk, hw, ha.moved h1 hm, hb.trans (hk.below hg hb.size h2.own_ge)⟩

def Outer (w : World) (g1 g2 : Nat) (l : List (Nat × Int)) (n : Nat) (i : Value) (wr : World) : Prop :=
  ∃ k : Nat, k ≤ n ∧ i = .int .i64 k ∧ Two w g1 g2 (bitsAll l) (bitsAll (l.take k)) wr
def Inner (w : World) (g1 g2 : Nat) (l : List (Nat × Int)) (k v q : Nat) (i : Value) (wr : World) : Prop :=
  ∃ j : Nat, j ≤ q ∧ i = .int .i64 ((q : Int) - 1 - j) ∧ Two w g1 g2 (bitsAll l) (bitsAll (l.take k) ++ (bitsOf v q).take j) wr

theorem bit_item {l : List (Nat × Int)} {k x0 q j : Nat} (h : l[k]? = some (x0, (q : Int))) (hj : j < q) : (bitsAll l).getD ((bitsAll (l.take k)).length + j) false = x0.testBit (q - 1 - j) := by
  have h1 := (item_bits h).1
  simp only [Int.toNat_natCast] at h1
  have h2 : ((bitsOf x0 q)).getD j false = x0.testBit (q - 1 - j) := by simp [bitsOf, hj]
  rw [← h2, ← h1]
  simp [hj]

def Read (w : World) (r p : Nat) (l : List (Nat × Int)) (n : Nat) (i : Value) (wr : World) : Prop :=
  ∃ k : Nat, k ≤ n ∧ i = .int .i64 k ∧ RIs wr r p (bitsAll l) (bitsAll (l.take k)).length ∧ Below w.heap.size w wr
def ReadIn (w : World) (r p : Nat) (l : List (Nat × Int)) (k q : Nat) (i : Value) (wr : World) : Prop :=
  ∃ j : Nat, j ≤ q ∧ i = .int .i64 ((q : Int) - 1 - j) ∧ RIs wr r p (bitsAll l) ((bitsAll (l.take k)).length + j) ∧ Below w.heap.size w wr

set_option maxHeartbeats 3200000 in
set_option maxRecDepth 100000 in
theorem taken (w : World) (A : Option Addr) (n c : Nat) (l : List (Nat × Int)) (hn : n ≤ 60) (h : Items w A n l) (hok : l.all okItem = true) :
    Calls Try.prog 6 #[.slice A n c] w fun e w' => e = .returned (.bool true) ∧ Below w.heap.size w w' := by
  have hf : (l.all okItem && decide (n ≤ 60)) = true := by rw [hok]; simpa using hn
  have hlen := bitsAll_len l hok
  have hl := h.1
  have hsz : (bitsAll l).length ≤ 3840 := by omega
  have HI := Lib.hid h
  have HO := Lib.hid hok
  clear h hok hlen hl
  go_enter Try.func6, Try.ntmps6
  go_wp2_with fail
  refine (awake_true w).mono ?_
  rintro e w1 ⟨rfl, b1⟩
  have B1 := Lib.hid b1
  clear b1
  go_wp2_with fail
  refine (fits_any w1 A n c l (by omega) (HI.out.below B1.out)).mono ?_
  rintro e w2 ⟨rfl, h2⟩
  rw [hf]
  have B2 := Lib.hid (B1.out.trans h2.below)
  clear h2 hf
  go_wp2_with fail
  have B3 := Lib.hid ((B2.out.alloc B2.out.size (.cells #[.slice none 0 0, .int .i64 0] 26)).alloc (by have := B2.out.size; simp; omega) (.cells #[.slice none 0 0, .int .i64 0] 26))
  have W1 := Lib.hid ((WIs.new w2 w.heap.size).below ((Below.refl _ _).alloc (Nat.le_refl _) (.cells #[.slice none 0 0, .int .i64 0] 26)))
  have W2 := Lib.hid (show WIs ((w2.alloc (.cells #[.slice none 0 0, .int .i64 0] 26)).alloc (.cells #[.slice none 0 0, .int .i64 0] 26)) w.heap.size (w2.heap.size + 1) (.slice none 0 0) [] by
    have := WIs.new (w2.alloc (.cells #[.slice none 0 0, .int .i64 0] 26)) w.heap.size
    simpa using this)
  have A1 := Lib.hid (Apart.nil (show w2.heap.size ≠ w2.heap.size + 1 by omega))
  have Z2 := B2.out.size
  refine (put1_any _ w.heap.size w2.heap.size (.slice none 0 0) [] A n c l hn HO.out (HI.out.below B3.out) HI.out.lt W1.out Z2 B3.out.size (by simp)).mono ?_
  rintro e w4 ⟨rfl, v1, h4, k4, m4⟩
  have T4 := Lib.hid (show Two w w2.heap.size (w2.heap.size + 1) (bitsAll l) [] w4 from
    ⟨v1, .slice none 0 0, h4, W2.out.aside A1.out.symm k4, (A1.out.symm.moved W2.out m4).symm, B3.out.trans (k4.below Z2 B3.out.size (by simp [Value.ownBlock]))⟩)
  clear h4 k4 m4
  go_wp2_with fail
  go_loopw [5] (Outer w w2.heap.size (w2.heap.size + 1) l n) (fun i _ => n - (intOf i).toNat)
  case atStart => exact ⟨0, Nat.zero_le _, rfl, by simpa [bitsAll] using T4.out⟩
  case round =>
    obtain ⟨k, hk, rfl, htwo⟩ := hrel
    have T := Lib.hid htwo
    clear htwo
    by_cases hlt : k < n
    · have hkl : k < l.length := by rw [HI.out.1]; exact hlt
      have BR := Lib.hid T.out.choose_spec.choose_spec.2.2.2
      obtain ⟨b, off, rfl, hc⟩ := HI.out.2 (by omega)
      obtain ⟨c0, c1, hv⟩ := hc k l[k] (List.getElem?_eq_getElem hkl)
      have HX := Lib.hid (List.getElem?_eq_getElem hkl)
      have ho : okItem l[k] = true := (List.all_eq_true.1 HO.out) _ (List.getElem_mem hkl)
      generalize l[k] = x at *
      obtain ⟨x0, m⟩ := x
      simp [okItem] at ho
      obtain ⟨m0, m1, hm⟩ := ho
      obtain ⟨q, rfl⟩ : ∃ q : Nat, m = (q : Int) := ⟨m.toNat, by omega⟩
      have PX := Lib.hid (item_bits HX.out)
      have hbl : b < w.heap.size := HI.out.lt _ rfl (by omega)
      have d1 := (BR.out.cell (p := ⟨b, off + k * 2 + 1, none⟩) hbl).trans c1
      have C0 := Lib.hid c0
      clear hc hm c0 c1
      have b1 : (k : Int) < n := by omega
      go_wp2_with fail
      clear d1
      go_loopw [6] (Inner w w2.heap.size (w2.heap.size + 1) l k x0 q) (fun i _ => (intOf i + 1).toNat)
      case atStart => exact ⟨0, Nat.zero_le _, by simp, by simpa using T.out⟩
      case round =>
        obtain ⟨j, hj, rfl, v1', v2', g1, g2, ga, gb⟩ := hrel
        have G1 := Lib.hid g1
        have G2 := Lib.hid g2
        have GA := Lib.hid ga
        have GB := Lib.hid gb
        have d0 := (gb.cell (p := ⟨b, off + k * 2, none⟩) hbl).trans C0.out
        clear g1 g2 ga gb
        by_cases hjq : j < q
        · have t0 : (0 : Int) ≤ (q : Int) - 1 - j := by omega
          go_wp2_with fail
          rw [bit_test x0 (q - 1 - j) hv]
          refine (wbit_any wr w.heap.size (w2.heap.size + 1) v2' _ (x0.testBit (q - 1 - j)) G2.out GB.out.size (by
            have h1 := PX.out.2.1
            have h2 := length_bitsOf x0 q
            simp at h1 ⊢; omega)).mono ?_
          rintro e w5 ⟨rfl, h5⟩
          have T5 := Lib.hid (Two.push G1.out G2.out GA.out GB.out (by omega) h5)
          clear h5 d0
          go_wp2
          go_roundw
          case rel =>
            refine ⟨j + 1, by omega, ?_, ?_⟩
            · congr 1; omega
            · rw [take_bitsOf x0 q j hjq, ← List.append_assoc]; exact T5.out
          case measure => simp [intOf]; omega
        · have t0 : ¬ (0 : Int) ≤ (q : Int) - 1 - j := by omega
          clear d0
          go_wp2_with fail
          refine ⟨⟨k + 1, by omega, by go_num, v1', v2', G1.out, ?_, GA.out, GB.out⟩, by simp [intOf]; omega⟩
          have := G2.out
          rw [show (bitsOf x0 q).take j = bitsOf x0 q from List.take_of_length_le (by rw [length_bitsOf]; omega)] at this
          rw [take_item HX.out, bitsAll_snoc]
          exact this
    · have TT := Lib.hid (show Two w w2.heap.size (w2.heap.size + 1) (bitsAll l) (bitsAll l) wr by
        have := T.out
        rwa [List.take_of_length_le (by rw [HI.out.1]; omega)] at this)
      obtain ⟨v1', v2', g1, g2, _, gb⟩ := TT.out
      have G1 := Lib.hid g1
      have G2 := Lib.hid g2
      have GB := Lib.hid gb
      clear g1 g2 gb
      go_wp2_with fail
      refine (bytes_any wr w.heap.size _ v1' (bitsAll l) G1.out (by omega)).mono ?_
      rintro e w5 ⟨rfl, h5, b5⟩
      have G1a := Lib.hid (G1.out.below b5)
      have G2a := Lib.hid (G2.out.below b5)
      have B5 := Lib.hid (GB.out.trans (b5.mono GB.out.size))
      have E5 := Lib.hid (Reads.of_bytes h5)
      clear h5 b5
      go_wp2_with fail
      refine (bytes_any w5 w.heap.size _ v2' (bitsAll l) G2a.out (by omega)).mono ?_
      rintro e w6 ⟨rfl, h6, b6⟩
      have G1b := Lib.hid (G1a.out.below b6)
      have G2b := Lib.hid (G2a.out.below b6)
      have B6 := Lib.hid (B5.out.trans (b6.mono B5.out.size))
      have E5b := Lib.hid (E5.out.below b6)
      have E6 := Lib.hid (Reads.of_bytes h6)
      have hlp : (pack (bitsAll l)).length ≤ 140737488355328 := by rw [length_pack]; omega
      clear h6 b6
      go_wp2_with fail
      refine (same_any w6 _ _ _ _ _ (pack (bitsAll l)) hlp E5b.out E6.out).mono ?_
      rintro e w7 ⟨rfl, h7⟩
      have G1c := Lib.hid (G1b.out.same h7)
      have G2c := Lib.hid (G2b.out.same h7)
      have B7 := Lib.hid (B6.out.trans h7.below)
      clear h7
      go_wp2_with fail
      refine (len_any w7 w.heap.size _ v1' (bitsAll l) G1c.out).mono ?_
      rintro e w8 ⟨rfl, rfl⟩
      go_wp2_with fail
      refine (len_any w7 w.heap.size _ v2' (bitsAll l) G2c.out).mono ?_
      rintro e w8 ⟨rfl, rfl⟩
      have t1 : (((bitsAll l).length : Int) != ((bitsAll l).length : Int)) = false := by simp
      go_wp2_with fail
      refine (bytes_any w7 w.heap.size _ v1' (bitsAll l) G1c.out (by omega)).mono ?_
      rintro e w8 ⟨rfl, h8, b8⟩
      have G1d := Lib.hid (G1c.out.below b8)
      have B8 := Lib.hid (B7.out.trans (b8.mono B7.out.size))
      have E8 := Lib.hid (Reads.of_bytes h8)
      clear h8 b8
      go_wp2_with fail
      refine (len_any w8 w.heap.size _ v1' (bitsAll l) G1d.out).mono ?_
      rintro e w9 ⟨rfl, rfl⟩
      go_wp2_with fail
      refine (nr_ok w8 _ _ (bitsAll l) (by omega) E8.out).mono ?_
      rintro e w9 ⟨r, p, rfl, h9, b9, hr, hp⟩
      have B9 := Lib.hid (B8.out.trans (b9.mono B8.out.size))
      have R9 := Lib.hid h9
      have hrB : w.heap.size ≤ r := Nat.le_trans B8.out.size hr
      clear h9 b9 hr hp t1
      go_wp2_with fail
      go_loopw [9] (Read w r p l n) (fun i _ => n - (intOf i).toNat)
      case atStart => exact ⟨0, Nat.zero_le _, rfl, R9.out, B9.out⟩
      case round =>
        obtain ⟨k', hk', rfl, hrd, hbd⟩ := hrel
        have RD := Lib.hid hrd
        have BD := Lib.hid hbd
        clear hrd hbd
        by_cases hlt' : k' < n
        · have hkl : k' < l.length := by rw [HI.out.1]; exact hlt'
          obtain ⟨b, off, rfl, hc⟩ := HI.out.2 (by omega)
          obtain ⟨c0, c1, hv⟩ := hc k' l[k'] (List.getElem?_eq_getElem hkl)
          have HX := Lib.hid (List.getElem?_eq_getElem hkl)
          have ho : okItem l[k'] = true := (List.all_eq_true.1 HO.out) _ (List.getElem_mem hkl)
          generalize l[k'] = x at *
          obtain ⟨x0, m⟩ := x
          simp [okItem] at ho
          obtain ⟨m0, m1, hm⟩ := ho
          obtain ⟨q, rfl⟩ : ∃ q : Nat, m = (q : Int) := ⟨m.toNat, by omega⟩
          have PX := Lib.hid (item_bits HX.out)
          have hbl : b < w.heap.size := HI.out.lt _ rfl (by omega)
          have d1 := (BD.out.cell (p := ⟨b, off + k' * 2 + 1, none⟩) hbl).trans c1
          have C0 := Lib.hid c0
          clear hc hm c0 c1
          have b1 : (k' : Int) < n := by omega
          go_wp2_with fail
          clear d1
          go_loopw [10] (ReadIn w r p l k' q) (fun i _ => (intOf i + 1).toNat)
          case atStart => exact ⟨0, Nat.zero_le _, by simp, RD.out, BD.out⟩
          case round =>
            obtain ⟨j, hj, rfl, hrd2, hbd2⟩ := hrel
            have RD2 := Lib.hid hrd2
            have BD2 := Lib.hid hbd2
            clear hrd2 hbd2
            by_cases hjq : j < q
            · have t0 : (0 : Int) ≤ (q : Int) - 1 - j := by omega
              go_wp2_with fail
              refine (rbit_ok wr r p (bitsAll l) _ RD2.out (by have := PX.out.2.1; simp at this; omega)).mono ?_
              rintro e w10 ⟨rfl, h10, g10⟩
              have RD3 := Lib.hid h10
              have d0 := (((grown_below g10 BD2.out.size hrB).cell (p := ⟨b, off + k' * 2, none⟩) hbl).trans (BD2.out.cell (p := ⟨b, off + k' * 2, none⟩) hbl)).trans C0.out
              have BD3 := Lib.hid (BD2.out.trans (grown_below g10 BD2.out.size hrB))
              rw [bit_item HX.out hjq]
              have t1 := bit_test x0 (q - 1 - j) hv
              generalize x0.testBit (q - 1 - j) = bit at *
              have t2 : (bit != bit) = false := by simp
              clear h10 g10
              go_wp2
              go_roundw
              case rel =>
                refine ⟨j + 1, by omega, ?_, RD3.out, BD3.out⟩
                congr 1; omega
              case measure => simp [intOf]; omega
            · have t0 : ¬ (0 : Int) ≤ (q : Int) - 1 - j := by omega
              go_wp2_with fail
              refine ⟨⟨k' + 1, by omega, by go_num, ?_, BD2.out⟩, by simp [intOf]; omega⟩
              have h1 := PX.out.2.2
              have h2 := RD2.out
              have h3 : j = q := by omega
              subst h3
              simp only [Int.toNat_natCast] at h1
              rw [h1]; exact h2
        · have RE := Lib.hid (show RIs wr r p (bitsAll l) (bitsAll l).length by
            have := RD.out
            rwa [List.take_of_length_le (by rw [HI.out.1]; omega)] at this)
          go_wp2_with fail
          refine (rbit_end wr r p (bitsAll l) RE.out).mono ?_
          rintro e w10 ⟨rfl, h10⟩
          have BE := Lib.hid (BD.out.trans h10.below)
          clear h10
          go_wp2
          go_ret
          exact ⟨rfl, BE.out⟩
end Go.Proofs.Ytehjipbnjffngaa.bitsCut
