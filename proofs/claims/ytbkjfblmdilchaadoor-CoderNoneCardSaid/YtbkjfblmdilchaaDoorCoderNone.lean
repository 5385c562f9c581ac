/- CoderNone: of any step (at most 20 counts) and any symbol: no encoder, no decoder and no table are told so; a symbol that there is not is refused, and nothing changes. Its listed tables of the library are not read. No condition. -/
import Derived.Test.YtbkjfblmdilchaaDoorCSide
import Derived.Test.YtbkjfblmdilchaaDoorCArgs
import Derived.Test.YtbkjfblmdilchaaDoorCards
import Derived.Test.YtbkjfblmdilchaaDoorTie
import Derived.LaidMore
import Derived.Lay
import Derived.SevenTiedAt
import Derived.Stop.Joined
namespace Go.Proofs.YtbkjfblmdilchaaDoor.coderNone
open Go.ChangeShapes Go.WideShapes Go.ChangeAt Go.RowKit

theorem boxed (w : World) (A : Option Addr) (n c : Nat) (s : Int) :
    (w.alloc (.cells #[.slice A n c, .int .i64 s] 36)).cell? ⟨w.heap.size, 0, none⟩ = some (.slice A n c) ∧ (w.alloc (.cells #[.slice A n c, .int .i64 s] 36)).cell? ⟨w.heap.size, 1, none⟩ = some (.int .i64 s) ∧ w.heap.size < (w.alloc (.cells #[.slice A n c, .int .i64 s] 36)).heap.size := by
  have hN : (w.alloc (.cells #[.slice A n c, .int .i64 s] 36)).heap[w.heap.size]? = some (.cells #[.slice A n c, .int .i64 s] 36 (0, 0)) := (Array.getElem?_push_size : (w.heap.push _)[w.heap.size]? = some _)
  exact ⟨by rw [cell_in hN]; rfl, by rw [cell_in hN]; rfl, by simp⟩
theorem done_none : doneOf firstIv [] = true := by decide
theorem done_zero : doneOf firstIv [0] = false := by decide

set_option maxHeartbeats 6400000 in
set_option maxRecDepth 100000 in
theorem many (w : World) (A : Option Addr) (n c : Nat) (s a : Int) (hn : 20 < n) :
    Calls Tryd.prog 9 #[.agg #[.slice A n c, .int .i64 s], .int .i64 a] w fun e w' => e = .returned (.bool true) ∧ Below w.heap.size w w' := by
  obtain ⟨c0, c1, hlt⟩ := boxed w A n c s
  have HB := Lib.hid (alloc_below w (.cells #[.slice A n c, .int .i64 s] 36))
  have t1 : (20 : Int) < n := by omega
  go_enter Tryd.func9, Tryd.ntmps9
  go_wp2_with fail
  generalize w.alloc (.cells #[.slice A n c, .int .i64 s] 36) = w0 at *
  refine (awake_true w0).mono ?_
  rintro e w1 ⟨rfl, b1⟩
  have d0 := (b1.cell (p := ⟨w.heap.size, 0, none⟩) hlt).trans c0
  have B1 := Lib.hid b1
  clear b1
  go_wp2
  go_ret
  exact ⟨rfl, HB.out.trans (B1.out.mono HB.out.size)⟩

set_option maxHeartbeats 6400000 in
set_option maxRecDepth 100000 in
theorem walk (A : Option Addr) (n c : Nat) (s : Int) (l : List Int) (a : Int) (w : World) (_ : -9223372036854775808 ≤ s) (_ : s ≤ 9223372036854775807) (h : Reads w A n (ints l)) (_ : -9223372036854775808 ≤ a) (_ : a ≤ 9223372036854775807) :
    Calls Tryd.prog 9 #[.agg #[.slice A n c, .int .i64 s], .int .i64 a] w fun e w' => e = .returned (.bool true) ∧ Below w.heap.size w w' := by
  by_cases hn : 20 < n
  · exact many w A n c s a hn
  obtain ⟨c0, c1, hlt⟩ := boxed w A n c s
  have HB := Lib.hid (alloc_below w (.cells #[.slice A n c, .int .i64 s] 36))
  have HR := Lib.hid (h.below HB.out)
  have t1 : ¬ (20 : Int) < n := by omega
  have HL := Lib.hid h.len
  clear h
  go_enter Tryd.func9, Tryd.ntmps9
  go_wp2_with fail
  generalize w.alloc (.cells #[.slice A n c, .int .i64 s] 36) = w0 at *
  refine (awake_true w0).mono ?_
  rintro e w1 ⟨rfl, b1⟩
  have d0 := (b1.cell (p := ⟨w.heap.size, 0, none⟩) hlt).trans c0
  have d1 := (b1.cell (p := ⟨w.heap.size, 1, none⟩) hlt).trans c1
  have B1 := Lib.hid b1
  clear b1
  go_wp2_with fail
  refine (right4_any w1 A n c l s (HR.out.below B1.out)).mono ?_
  rintro e w2 ⟨r, rfl, h2, b2⟩
  have B2 := Lib.hid (B1.out.trans (b2.mono B1.out.size))
  have e0 := (B2.out.cell (p := ⟨w.heap.size, 0, none⟩) hlt).trans c0
  clear b2 d0 d1
  cases r with
  | false =>
    clear h2
    go_wp2
    go_ret
    exact ⟨rfl, HB.out.trans (B2.out.mono HB.out.size)⟩
  | true =>
    obtain ⟨ok, s0, s1⟩ := h2 rfl
    obtain ⟨sn, rfl⟩ : ∃ sn : Nat, s = (sn : Int) := ⟨s.toNat, by omega⟩
    have OK := Lib.hid (⟨ok, by omega⟩ : Ok l ∧ sn < l.length)
    clear h2 ok s0 s1
    go_wp2_with fail
    refine (made_ok w2 A n c l (HR.out.below B2.out) OK.out.1).mono ?_
    rintro e w3 ⟨gt, q, ct, rfl, t3, b3, _, _⟩
    have T3 := Lib.hid t3
    have B3 := Lib.hid (B2.out.trans (b3.mono B2.out.size))
    clear t3 b3 e0
    go_wp2_with fail
    refine (decode_nil w3 (.pointer (some ⟨gt, 0, none⟩))).mono ?_
    rintro e w4 ⟨rfl, b4⟩
    have T4 := Lib.hid (T3.out.read b4)
    have B4 := Lib.hid (B3.out.trans b4.below)
    clear b4
    go_wp2_with fail
    refine (encode_nil w4 (.pointer (some ⟨gt, 0, none⟩)) 0).mono ?_
    rintro e w5 ⟨rfl, b5⟩
    have T5 := Lib.hid (T4.out.read b5)
    have B5 := Lib.hid (B4.out.trans b5.below)
    clear b5
    have u1 : ((1 : Int) != 1) = false := by decide
    go_wp2_with fail
    refine (finish_nil w5).mono ?_
    rintro e w6 ⟨rfl, b6⟩
    have T6 := Lib.hid (T5.out.read b6)
    have B6 := Lib.hid (B5.out.trans b6.below)
    clear b6
    go_wp2_with fail
    refine (done_nil w6).mono ?_
    rintro e w7 ⟨rfl, b7⟩
    have T7 := Lib.hid (T6.out.read b7)
    have B7 := Lib.hid (B6.out.trans b7.below)
    clear b7
    go_wp2_with fail
    refine (cnew_any w7 w7.heap.size (Nat.le_refl _)).mono ?_
    rintro e w8 ⟨g, v, rfl, e8, b8, _, _⟩
    have T8 := Lib.hid (T7.out.below b8)
    have E8 := Lib.hid e8
    have B8 := Lib.hid (B7.out.trans (b8.mono B7.out.size))
    have f1 := (B8.out.cell (p := ⟨w.heap.size, 1, none⟩) hlt).trans c1
    clear e8 b8
    go_wp2_with fail
    refine (encode_ok w8 w7.heap.size g v firstIv E8.out good_first (by decide) gt q ct l T8.out OK.out.1 sn OK.out.2).mono ?_
    rintro e w9 ⟨rfl, h9⟩
    have b9 := h9.below E8.out
    obtain ⟨v9, e9, k9, _⟩ := h9
    have T9 := Lib.hid (T8.out.enc E8.out k9)
    have E9 := Lib.hid e9
    have B9 := Lib.hid (B8.out.trans (b9.mono B7.out.size))
    have xg := good_first.come OK.out.1 sn OK.out.2
    have xk := come_k firstIv l sn
    have xk3 : (come firstIv l sn).k ≤ 3 := xk
    generalize come firstIv l sn = x at *
    have XG := Lib.hid xg
    clear e9 k9 b9 xg xk f1
    go_wp2_with fail
    refine (finish_any w9 w7.heap.size g v9 x E9.out XG.out (by omega)).mono ?_
    rintro e w10 ⟨bb, u, rfl, ic, ow, b10⟩
    have E10 := Lib.hid (E9.out.below b10)
    have T10 := Lib.hid (T9.out.below b10)
    have B10 := Lib.hid (B9.out.trans (b10.mono B9.out.size))
    have hbl := isCode_len XG.out ic
    have hb2 : bb.length ≤ 4 := by omega
    obtain ⟨A10, c10, rfl, _, r10⟩ := Reads.of_own ow
    have R10 := Lib.hid (⟨ic, r10⟩ : IsCode x bb ∧ Reads w10 A10 bb.length (bts bb))
    have g0 := (B10.out.cell (p := ⟨w.heap.size, 0, none⟩) hlt).trans c0
    clear ic ow r10 b10 hbl
    by_cases hin : a < 0 ∨ (n : Int) ≤ a
    · have KR := Lib.hid (encode_range w10 ⟨g, 0, none⟩ gt q ct l T10.out OK.out.1 a (by have := HL.out; omega))
      have u2 : ((2 : Int) != 2) = false := by decide
      go_wp2_with fail
      refine KR.out.mono ?_
      rintro e w11 ⟨rfl, b11⟩
      have B11 := Lib.hid (B10.out.trans b11.below)
      have E11 := Lib.hid (E10.out.read b11)
      have R11 := Lib.hid (R10.out.2.read b11)
      have g1 : w11.cell? ⟨w.heap.size, 0, none⟩ = some (.slice A n c) := (B11.out.cell (p := ⟨w.heap.size, 0, none⟩) hlt).trans c0
      have KF := Lib.hid (finish_any w11 w7.heap.size g v9 x E11.out XG.out (by omega))
      clear b11 g0
      have REST := Lib.hid (show ∀ (w12 : World), Below w0.heap.size w0 w12 → Calls Tryd.prog 20 #[.slice none 0 0] w12 (MadeDec w12 w12.heap.size []) from fun w12 _ =>
        newDec_any w12 w12.heap.size none 0 0 [] ⟨rfl, fun h => absurd h (by omega)⟩ (by omega) (fun d hd => by cases hd) (Nat.le_refl _))
      by_cases ha : a < 0
      · clear hin
        go_wp2_with fail
        refine KF.out.mono ?_
        rintro e w12 ⟨b2, u2', rfl, ic2, ow2, b12⟩
        obtain rfl := isCode_one ic2 R10.out.1
        obtain ⟨A12, c12, rfl, _, r12⟩ := Reads.of_own ow2
        have R12 := Lib.hid (⟨r12, R11.out.below b12⟩ : Reads w12 A12 b2.length (bts b2) ∧ Reads w12 A10 b2.length (bts b2))
        have B12 := Lib.hid (B11.out.trans (b12.mono B11.out.size))
        have KS := Lib.hid (same4_any w12 A12 A10 b2.length b2.length c12 c10 b2 b2 R12.out.1 R12.out.2 (by omega) (by omega))
        rw [decide_eq_true (rfl : b2 = b2)] at KS
        clear ic2 ow2 r12 b12
        go_wp2_with fail
        refine KS.out.mono ?_
        rintro e w13 ⟨rfl, b13⟩
        have B13 := Lib.hid (B12.out.trans b13.below)
        clear b13
        go_wp2_with fail
        refine (REST.out w13 B13.out).mono ?_
        rintro e w14 ⟨gd, pk, rfl, d14, b14, _, _⟩
        have D14 := Lib.hid d14
        have B14 := Lib.hid (B13.out.trans (b14.mono B13.out.size))
        clear d14 b14
        go_wp2_with fail
        refine (decode_notab w14 ⟨gd, 0, none⟩).mono ?_
        rintro e w15 ⟨rfl, b15⟩
        have D15 := Lib.hid (D14.out.read b15)
        have B15 := Lib.hid (B14.out.trans b15.below)
        clear b15
        go_wp2_with fail
        refine (encode_notab w15 ⟨g, 0, none⟩ 0).mono ?_
        rintro e w16 ⟨rfl, b16⟩
        have D16 := Lib.hid (D15.out.read b16)
        have B16 := Lib.hid (B15.out.trans b16.below)
        have KD := Lib.hid (done_any w16 w13.heap.size gd pk firstIv [] D16.out good_first (by decide) (by decide))
        rw [done_none] at KD
        clear b16
        go_wp2_with fail
        refine KD.out.mono ?_
        rintro e w17 ⟨rfl, b17⟩
        have B17 := Lib.hid (B16.out.trans b17.below)
        clear b17
        have a17 := alloc_below w17 (.cells #[.int .u8 0] 5)
        have KN := Lib.hid (newDec_any (w17.alloc (.cells #[.int .u8 0] 5)) 0 (some ⟨w17.heap.size, 0, none⟩) 1 1 [0] (reads_one w17 0) (by omega) (fun d hd => by simp at hd; omega) (Nat.zero_le _))
        have B18 := Lib.hid (B17.out.trans (a17.mono B17.out.size))
        clear a17
        go_wp2_with fail
        refine KN.out.mono ?_
        rintro e w19 ⟨g2, pk2, rfl, d19, b19, _, _⟩
        have B19 := Lib.hid (B18.out.trans (b19.mono B18.out.size))
        have KD2 := Lib.hid (done_any w19 0 g2 pk2 firstIv [0] d19 good_first (by decide) (by decide))
        rw [done_zero] at KD2
        clear d19 b19
        go_wp2_with fail
        refine KD2.out.mono ?_
        rintro e w20 ⟨rfl, b20⟩
        have B20 := Lib.hid (B19.out.trans b20.below)
        clear b20
        go_wp2
        go_ret
        exact ⟨rfl, HB.out.trans (B20.out.mono HB.out.size)⟩
      · have ha2 : (n : Int) ≤ a := by omega
        clear hin
        go_wp2_with fail
        refine KF.out.mono ?_
        rintro e w12 ⟨b2, u2', rfl, ic2, ow2, b12⟩
        obtain rfl := isCode_one ic2 R10.out.1
        obtain ⟨A12, c12, rfl, _, r12⟩ := Reads.of_own ow2
        have R12 := Lib.hid (⟨r12, R11.out.below b12⟩ : Reads w12 A12 b2.length (bts b2) ∧ Reads w12 A10 b2.length (bts b2))
        have B12 := Lib.hid (B11.out.trans (b12.mono B11.out.size))
        have KS := Lib.hid (same4_any w12 A12 A10 b2.length b2.length c12 c10 b2 b2 R12.out.1 R12.out.2 (by omega) (by omega))
        rw [decide_eq_true (rfl : b2 = b2)] at KS
        clear ic2 ow2 r12 b12
        go_wp2_with fail
        refine KS.out.mono ?_
        rintro e w13 ⟨rfl, b13⟩
        have B13 := Lib.hid (B12.out.trans b13.below)
        clear b13
        go_wp2_with fail
        refine (REST.out w13 B13.out).mono ?_
        rintro e w14 ⟨gd, pk, rfl, d14, b14, _, _⟩
        have D14 := Lib.hid d14
        have B14 := Lib.hid (B13.out.trans (b14.mono B13.out.size))
        clear d14 b14
        go_wp2_with fail
        refine (decode_notab w14 ⟨gd, 0, none⟩).mono ?_
        rintro e w15 ⟨rfl, b15⟩
        have D15 := Lib.hid (D14.out.read b15)
        have B15 := Lib.hid (B14.out.trans b15.below)
        clear b15
        go_wp2_with fail
        refine (encode_notab w15 ⟨g, 0, none⟩ 0).mono ?_
        rintro e w16 ⟨rfl, b16⟩
        have D16 := Lib.hid (D15.out.read b16)
        have B16 := Lib.hid (B15.out.trans b16.below)
        have KD := Lib.hid (done_any w16 w13.heap.size gd pk firstIv [] D16.out good_first (by decide) (by decide))
        rw [done_none] at KD
        clear b16
        go_wp2_with fail
        refine KD.out.mono ?_
        rintro e w17 ⟨rfl, b17⟩
        have B17 := Lib.hid (B16.out.trans b17.below)
        clear b17
        have a17 := alloc_below w17 (.cells #[.int .u8 0] 5)
        have KN := Lib.hid (newDec_any (w17.alloc (.cells #[.int .u8 0] 5)) 0 (some ⟨w17.heap.size, 0, none⟩) 1 1 [0] (reads_one w17 0) (by omega) (fun d hd => by simp at hd; omega) (Nat.zero_le _))
        have B18 := Lib.hid (B17.out.trans (a17.mono B17.out.size))
        clear a17
        go_wp2_with fail
        refine KN.out.mono ?_
        rintro e w19 ⟨g2, pk2, rfl, d19, b19, _, _⟩
        have B19 := Lib.hid (B18.out.trans (b19.mono B18.out.size))
        have KD2 := Lib.hid (done_any w19 0 g2 pk2 firstIv [0] d19 good_first (by decide) (by decide))
        rw [done_zero] at KD2
        clear d19 b19
        go_wp2_with fail
        refine KD2.out.mono ?_
        rintro e w20 ⟨rfl, b20⟩
        have B20 := Lib.hid (B19.out.trans b20.below)
        clear b20
        go_wp2
        go_ret
        exact ⟨rfl, HB.out.trans (B20.out.mono HB.out.size)⟩
    · obtain ⟨an, rfl⟩ : ∃ an : Nat, a = (an : Int) := ⟨a.toNat, by omega⟩
      have REST := Lib.hid (show ∀ (w12 : World), Below w0.heap.size w0 w12 → Calls Tryd.prog 20 #[.slice none 0 0] w12 (MadeDec w12 w12.heap.size []) from fun w12 _ =>
        newDec_any w12 w12.heap.size none 0 0 [] ⟨rfl, fun h => absurd h (by omega)⟩ (by omega) (fun d hd => by cases hd) (Nat.le_refl _))
      have KE := Lib.hid (encode_ok w10 w7.heap.size g v9 x E10.out XG.out (by omega) gt q ct l T10.out OK.out.1 an (by have := HL.out; omega))
      have ha0 : ¬ (an : Int) < 0 := by omega
      have ha1 : ¬ (n : Int) ≤ (an : Int) := by omega
      have u0 : ((0 : Int) != 0) = false := by decide
      clear hin
      go_wp2_with fail
      refine KE.out.mono ?_
      rintro e w13 ⟨rfl, h13⟩
      have b13 := h13.below E10.out
      have B13 := Lib.hid (B10.out.trans (b13.mono B7.out.size))
      have g1 : w13.cell? ⟨w.heap.size, 0, none⟩ = some (.slice A n c) := (B13.out.cell (p := ⟨w.heap.size, 0, none⟩) hlt).trans c0
      clear b13 h13
      go_wp2_with fail
      refine (REST.out w13 B13.out).mono ?_
      rintro e w14 ⟨gd, pk, rfl, d14, b14, _, _⟩
      have D14 := Lib.hid d14
      have B14 := Lib.hid (B13.out.trans (b14.mono B13.out.size))
      clear d14 b14
      go_wp2_with fail
      refine (decode_notab w14 ⟨gd, 0, none⟩).mono ?_
      rintro e w15 ⟨rfl, b15⟩
      have D15 := Lib.hid (D14.out.read b15)
      have B15 := Lib.hid (B14.out.trans b15.below)
      clear b15
      go_wp2_with fail
      refine (encode_notab w15 ⟨g, 0, none⟩ 0).mono ?_
      rintro e w16 ⟨rfl, b16⟩
      have D16 := Lib.hid (D15.out.read b16)
      have B16 := Lib.hid (B15.out.trans b16.below)
      have KD := Lib.hid (done_any w16 w13.heap.size gd pk firstIv [] D16.out good_first (by decide) (by decide))
      rw [done_none] at KD
      clear b16
      go_wp2_with fail
      refine KD.out.mono ?_
      rintro e w17 ⟨rfl, b17⟩
      have B17 := Lib.hid (B16.out.trans b17.below)
      clear b17
      have a17 := alloc_below w17 (.cells #[.int .u8 0] 5)
      have KN := Lib.hid (newDec_any (w17.alloc (.cells #[.int .u8 0] 5)) 0 (some ⟨w17.heap.size, 0, none⟩) 1 1 [0] (reads_one w17 0) (by omega) (fun d hd => by simp at hd; omega) (Nat.zero_le _))
      have B18 := Lib.hid (B17.out.trans (a17.mono B17.out.size))
      clear a17
      go_wp2_with fail
      refine KN.out.mono ?_
      rintro e w19 ⟨g2, pk2, rfl, d19, b19, _, _⟩
      have B19 := Lib.hid (B18.out.trans (b19.mono B18.out.size))
      have KD2 := Lib.hid (done_any w19 0 g2 pk2 firstIv [0] d19 good_first (by decide) (by decide))
      rw [done_zero] at KD2
      clear d19 b19
      go_wp2_with fail
      refine KD2.out.mono ?_
      rintro e w20 ⟨rfl, b20⟩
      have B20 := Lib.hid (B19.out.trans b20.below)
      clear b20
      go_wp2
      go_ret
      exact ⟨rfl, HB.out.trans (B20.out.mono HB.out.size)⟩

set_option maxRecDepth 100000 in
theorem lifted (os : Os) (started : os.Started) (H : Type) (enc : TypeId × Value → H) :
    ReturnsInHanded {} Tryd.checked os 9 .any (fun w args => (Rows.coderNoneSpec.pre enc Tryd.prog Tryd.f9 Rows.coderNoneRow.domain false w args ∧ laidMetH Tryd.prog Rows.coderNoneRow.laid w) ∧ sizedMet enc Tryd.prog Tryd.f9 (OpenSpec.ofChange Rows.coderNoneSpec) false w args)
      (Rows.coderNoneSpec.post enc Tryd.prog Tryd.f9 false true false false) := by
  refine returnsInHanded_of_change_and (C := Tryd.checked) (X := fun w _ => laidMetH Tryd.prog Rows.coderNoneRow.laid w) (fun _ _ _ hh h => h.of_heap hh) own_knob started (by kernel_rfl) Tryd.func9
    (ChangeSpec.witness_shaped (enc := enc) (C := Tryd.checked) (os := os) (X := fun w _ => laidMetH Tryd.prog Rows.coderNoneRow.laid w) false (World.laidAll Tryd.prog os Rows.coderNoneRow.laid) #[.agg #[.slice none 0 0, .int .i64 0], .int .i64 0] 8 (World.laidAll_os _ _ _)
      (World.shaped_of_ZipB (by kernel_rfl) (by kernel_rfl)) (by kernel_rfl) (by kernel_rfl) (by kernel_rfl)
      (by rw [MakeChecks.laidMetH_plain _ _ _ (by kernel_rfl)]; exact laidMet_laidAll _ (by kernel_rfl) (by kernel_rfl))) ?_
  intro W base args ds gs before hval0 hW hc _ _ _
  have hval : ∀ (j : Nat) t v, Tryd.f9.params[j]? = some t → args[j]? = some v → Value.okWide Tryd.prog W .any base t v := hval0
  have hW' := hW
  obtain ⟨p, q, hA0, hV, rfl, _, _⟩ := hW
  have hA : DataW.TrodAll enc Tryd.prog W 0 (fun _ => true) true Tryd.f9.params.toList args.toList ds p := hA0
  rw [Tryd.params9] at hA hval
  obtain ⟨v0, vs0, d0, ds0, p0, q0, hargs, rfl, rfl, h0, r0⟩ := trodAll_cons hA
  obtain ⟨v1, vs1, d1, ds1, p1, q1, rfl, rfl, rfl, h1, r1⟩ := trodAll_cons r0
  obtain ⟨rfl, rfl, rfl⟩ := trodAll_nil r1
  obtain rfl : args = #[v0, v1] := by cases args; simp_all
  obtain ⟨rfl, rfl⟩ := trodVars_none hV
  have lt0 : ∀ x ∈ p0, x.block < W.heap.size := by obtain ⟨m, hm⟩ := h0; exact DataW.trod_lt m _ _ _ hm
  obtain ⟨a0, len0, cap0, s0, xs0, rfl, lo0, hi0, hr0⟩ := arg_step (hval 0 36 v0 rfl rfl) h0
  obtain ⟨a1, rfl, rfl, rfl, w1⟩ := open_int Tryd.underlying3 (hval 1 3 v1 rfl rfl) h1
  have bd1 := bounds_i64 w1
  clear hA0 hval0
  refine (walk a0 len0 cap0 s0 xs0 a1 W lo0 hi0 hr0 (by omega) (by omega)).mono fun e W' ⟨he, bel⟩ => ?_
  subst he
  exact ⟨_, rfl, _, _, _, [], _, [], hW', trodAll_mk1 (shut_bool Tryd.underlying4 _), (trodAll_cons_mk (Below.trod laid_out (by kernel_rfl) (of_decide_eq_true (by kernel_rfl)) h0 bel lt0) (trodAll_cons_mk (shut_int Tryd.underlying3 w1) trodAll_mk0)), rfl, bel.frame _, fun h => by cases h⟩

theorem over : Rows.CoderNoneSaid :=
  OpenClaim.holds_of_wide 9 Tryd.f9 rfl rfl rfl rfl rfl rfl rfl ⟨rfl, rfl, rfl, rfl, rfl⟩ rfl rfl rfl rfl rfl (by kernel_rfl) Tryd.func9 (by kernel_rfl)
    (of_decide_eq_true (by kernel_rfl)) (by unfold Func.isWrapper; first | (rw [if_pos (by decide +kernel)]; kernel_rfl) | (rw [if_neg (by decide +kernel)]; exact ⟨rfl, rfl⟩))
    (fun os started H enc _ => lifted os started H enc)

theorem plain (f : FuncId) (fn : Func) (hf : Tryd.pinned.checked.prog.funcNamed "gypsum/gypsumlaw04.CoderNone" = some f) (hfn : Tryd.pinned.checked.prog.funcs[f]? = some fn) :
    false = Tryd.pinned.checked.prog.looks [] ∧ ∀ (j : Nat) t, fn.params[j]? = some t → Tryd.pinned.checked.prog.wantsStandIn t = false := by
  obtain rfl : f = 9 := Option.some.inj ((show Tryd.prog.funcNamed "gypsum/gypsumlaw04.CoderNone" = some 9 by kernel_rfl).symm.trans hf) |>.symm
  obtain rfl : fn = Tryd.f9 := (Option.some.inj (Tryd.func9.symm.trans hfn)).symm
  refine ⟨by kernel_rfl, fun j t ht => ?_⟩
  rw [Tryd.params9] at ht
  have hm : t ∈ [36, 3] := by simpa using Array.mem_of_getElem? ht
  have hall : ([36, 3].all fun u => !Tryd.prog.wantsStandIn u) = true := by kernel_rfl
  exact (show Tryd.prog.wantsStandIn t = false by simpa using List.all_eq_true.1 hall t hm)

theorem proved : Rows.CoderNoneCardSaid :=
  Claim7.holds_tied_plain_at .later [] _ _ _ _ over (fun _ h => by cases h) (by kernel_rfl) (fun _ h => by cases h) coderNone_row_tie rfl ⟨rfl, rfl⟩ (by kernel_rfl) rfl plain (by kernel_rfl)
end Go.Proofs.YtbkjfblmdilchaaDoor.coderNone
