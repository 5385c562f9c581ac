/- BitsOne's walk: bytes that are taken as so many bits are those that are written of them. -/
import Derived.Test.YtehjipbnjffngaaAwake
import Derived.Test.YtehjipbnjffngaaSame
import Derived.Test.YtehjipbnjffngaaPair
import Derived.Deep.LoopGhost
namespace Go.Proofs.Ytehjipbnjffngaa.bitsOne
open Go.RowKit

theorem many (w : World) (A : Option Addr) (n c : Nat) (a1 : Int) (h0 : 0 ≤ a1) (h1 : a1 < 65536) (hn : 120 < n) :
    Calls Try.prog 7 #[.slice A n c, .int .u16 a1] w fun e w' => e = .returned (.bool true) ∧ Below w.heap.size w w' := by
  have b : (120 : Int) < n := by omega
  go_enter Try.func7, Try.ntmps7
  go_wp2_with fail
  refine (awake_true w).mono ?_
  rintro e w1 ⟨rfl, b1⟩
  go_wp2_with fail
  refine (awake_true w1).mono ?_
  rintro e w2 ⟨rfl, b2⟩
  go_wp2
  go_ret
  exact ⟨rfl, b1.trans (b2.mono b1.size)⟩

/-- The bytes are refused: there is no reader. -/
theorem refused (w : World) (A : Option Addr) (n c : Nat) (a1 : Int) (h0 : 0 ≤ a1) (h1 : a1 < 65536) (hn : n ≤ 120) (er : Int) (her : (er != 0) = true)
    (h : ∀ w1, Below w.heap.size w w1 → Calls Try.prog 19 #[.slice A n c, .int .i64 (a1 % 969)] w1 fun e w' => e = .returned (.tuple #[.pointer none, .int .i64 er]) ∧ w1 = w') :
    Calls Try.prog 7 #[.slice A n c, .int .u16 a1] w fun e w' => e = .returned (.bool true) ∧ Below w.heap.size w w' := by
  have b : ¬ (120 : Int) < n := by omega
  have H := Lib.hid h
  clear h
  go_enter Try.func7, Try.ntmps7
  go_wp2_with fail
  refine (awake_true w).mono ?_
  rintro e w1 ⟨rfl, b1⟩
  go_wp2_with fail
  refine (H.out w1 b1).mono ?_
  rintro e w2 ⟨rfl, rfl⟩
  go_wp2
  go_ret
  exact ⟨rfl, b1⟩

theorem take_snoc (bs : List Bool) (k : Nat) (h : k < bs.length) : bs.take k ++ [bs.getD k false] = bs.take (k + 1) := by
  rw [List.take_succ_eq_append_getElem h]; simp [List.getElem?_eq_getElem h]

def At (w : World) (B r p : Nat) (bs : List Bool) (g : Nat) (gk : Nat) (wr : World) : Prop :=
  ∃ k v, k + gk = bs.length ∧ RW wr B r p bs k g v (bs.take k) ∧ Below B w wr

set_option maxHeartbeats 1600000 in
theorem taken (w : World) (A : Option Addr) (c : Nat) (a1 : Int) (bs : List Bool) (h0 : 0 ≤ a1) (h1 : a1 < 65536) (hm : a1 % 969 = bs.length) (hn : (pack bs).length ≤ 120)
    (h : Reads w A (pack bs).length (u8s (pack bs))) :
    Calls Try.prog 7 #[.slice A (pack bs).length c, .int .u16 a1] w fun e w' => e = .returned (.bool true) ∧ Below w.heap.size w w' := by
  have hlp := length_pack bs
  have hl : bs.length < 969 := by omega
  have b : ¬ (120 : Int) < ((pack bs).length : Nat) := by omega
  have HR := Lib.hid h
  have HL := Lib.hid hlp
  clear h hlp
  go_enter Try.func7, Try.ntmps7
  go_wp2_with fail
  refine (awake_true w).mono ?_
  rintro e w1 ⟨rfl, b1⟩
  have B1 := Lib.hid b1
  clear b1
  go_wp2_with fail
  refine (nr_ok w1 A c bs (by omega) (HR.out.below B1.out)).mono ?_
  rintro e w2 ⟨r, p, rfl, h2, b2, hr, hp⟩
  have B2 := Lib.hid (B1.out.trans (b2.mono B1.out.size))
  have N0 := Lib.hid (RW.new (B := w.heap.size) w2 h2 (Nat.le_trans B1.out.size hr) B2.out.size)
  clear h2 b2 hr hp
  go_wp2_with fail
  go_loopg [] bs.length (At w w.heap.size r p bs w2.heap.size)
  case atStart => exact ⟨0, _, by omega, by simpa using N0.out, (B2.out.alloc B2.out.size _)⟩
  case round =>
    obtain ⟨k, v, hk, hrw, hb⟩ := hrel
    have R := Lib.hid hrw
    have BR := Lib.hid hb
    clear hrw hb
    go_wp2_with fail
    refine (left_any wr r p bs k R.out.rd).mono ?_
    rintro e w3 ⟨rfl, h3⟩
    have R3 := Lib.hid (R.out.same h3).1
    have B3 := Lib.hid (BR.out.trans (R.out.same h3).2)
    clear h3
    by_cases hlt : k < bs.length
    · have t : (0 : Int) < (bs.length : Int) - k := by omega
      go_wp2_with fail
      refine (rbit_ok w3 r p bs k R3.out.rd hlt).mono ?_
      rintro e w4 ⟨rfl, h4, g4⟩
      generalize hq : bs.getD k false = bit
      have HQ := Lib.hid hq
      clear hq
      have R4 := Lib.hid (R3.out.read h4 g4).1
      have B4 := Lib.hid (B3.out.trans (R3.out.read h4 g4).2)
      clear h4 g4
      go_wp2_with fail
      refine (wbit_any w4 w.heap.size w2.heap.size v (bs.take k) bit R4.out.wr R4.out.b3 (by simp; omega)).mono ?_
      rintro e w5 ⟨rfl, h5⟩
      obtain ⟨v5, r5, b5⟩ := R4.out.write h5
      rw [← HQ.out, take_snoc bs k hlt] at r5
      have R5 := Lib.hid r5
      have B5 := Lib.hid (B4.out.trans b5)
      clear h5 r5 b5
      go_wp2_with fail
      refine (len_any w5 w.heap.size w2.heap.size v5 (bs.take (k + 1)) R5.out.wr).mono ?_
      rintro e w6 ⟨rfl, rfl⟩
      rw [show ((bs.take (k + 1)).length : Int) = (k : Int) + 1 by simp; omega]
      have t2 : ¬ (bs.length : Int) < (k : Int) + 1 := by omega
      go_wp2_with fail
      go_roundg (gk - 1)
      case measure => omega
      case rel => exact ⟨k + 1, v5, by omega, R5.out, B5.out⟩
    · have t : ¬ (0 : Int) < (bs.length : Int) - k := by omega
      have W3 := Lib.hid (show WIs w3 w.heap.size w2.heap.size v bs by
        have := R3.out.wr
        rwa [List.take_of_length_le (by omega)] at this)
      go_wp2_with fail
      refine (len_any w3 w.heap.size w2.heap.size v bs W3.out).mono ?_
      rintro e w4 ⟨rfl, rfl⟩
      go_wp2_with fail
      refine (bytes_any w3 w.heap.size w2.heap.size v bs W3.out (by omega)).mono ?_
      rintro e w5 ⟨rfl, h5, b5⟩
      have B5 := Lib.hid (B3.out.trans (b5.mono B3.out.size))
      have E5 := Lib.hid (Reads.of_bytes h5)
      clear h5 b5
      go_wp2_with fail
      refine (same_any w5 _ A (pack bs).length _ c (pack bs) (by omega) E5.out (HR.out.below B5.out)).mono ?_
      rintro e w6 ⟨rfl, h6⟩
      have B6 := Lib.hid (B5.out.trans h6.below)
      have t3 : (((pack bs).length : Int) == ((bs.length : Int) + 7) / 8) = true := by rw [beq_iff_eq, HL.out]; omega
      clear h6
      go_wp2
      go_ret
      exact ⟨rfl, B6.out⟩
end Go.Proofs.Ytehjipbnjffngaa.bitsOne
