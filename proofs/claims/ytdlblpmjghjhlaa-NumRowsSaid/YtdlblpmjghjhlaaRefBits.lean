/- The document's Bits: bytes as a text of bits. -/
import Derived.Test.YtdlblpmjghjhlaaStr
import Derived.Test.YtdlblpmjghjhlaaCopy
import Derived.Test.YtdlblpmjghjhlaaPlainB
namespace Go.Proofs.Ytdlblpmjghjhlaa
open Go.RowKit

theorem unpack_succ (xs : List Nat) (i : Nat) : unpack xs (i + 1) = unpack xs i ++ [(xs.getD (i / 8) 0).testBit (7 - i % 8)] := by
  simp [unpack, List.range_succ]
theorem bitsOf_one (v : Nat) : bitsOf v 1 = [v.testBit 0] := by rw [bitsOf_succ]; rfl

def BitsAt (xs : List Nat) (n : Nat) (s i : Value) : Prop := ∃ k : Nat, k ≤ n ∧ s = .string (str (unpack xs k)) ∧ i = .int .i64 (k : Int)

set_option maxHeartbeats 1000000 in
set_option maxRecDepth 100000 in
theorem rbits_some (w : World) (ad : Addr) (N c n : Nat) (xs : List Nat) (hl : xs.length = N) (hx : ∀ x ∈ xs, x < 256) (hn : n ≤ 8 * N) (hb : n ≤ 900) (hr : ∀ j u, (u8s xs)[j]? = some u → w.cell? (ad.add j) = some u) :
    Calls Try.prog 36 #[.slice (some ad) N c, .int .i64 (n : Int)] w fun e w' => e = .returned (.string (str (unpack xs n))) ∧ w = w' := by
  have HL := Lib.hid hl
  have HR := Lib.hid hr
  have HX := Lib.hid hx
  clear hl hr hx
  go_enter Try.func36, Try.ntmps36
  go_wp2
  go_loop [5, 6] (BitsAt xs n) (fun _ i => n - (intOf i).toNat)
  case atStart => exact ⟨0, Nat.zero_le _, rfl, rfl⟩
  case round =>
    obtain ⟨k, hk, rfl, rfl⟩ := hrel
    by_cases hlt : k < n
    · have hkl : k / 8 < xs.length := by rw [HL.out]; omega
      have c0 := HR.out (k / 8) (.int .u8 (xs[k / 8] : Nat)) (by simp [u8s, List.getElem?_eq_getElem hkl])
      have h256 := HX.out xs[k / 8] (List.getElem_mem hkl)
      have HK := Lib.hid (show unpack xs (k + 1) = unpack xs k ++ bitsOf (xs[k / 8] / 2 ^ (7 - k % 8)) 1 by
        rw [unpack_succ, bitsOf_one, Nat.testBit_div_two_pow, List.getD_eq_getElem?_getD, List.getElem?_eq_getElem hkl]
        simp)
      have hadd := str_add Try.prog w (unpack xs k) (bitsOf (xs[k / 8] / 2 ^ (7 - k % 8)) 1) (by rw [length_unpack]; omega) (by rw [length_bitsOf]; omega)
      rw [← HK.out] at hadd
      generalize xs[k / 8] = x at *
      have b1 : (k : Int) / 8 < N := by omega
      have hxk : x / 2 ^ (7 - k % 8) < 18446744073709551616 := Nat.lt_of_le_of_lt (Nat.div_le_self _ _) (by omega)
      go_wp2_with fail
      rw [div_cast]
      refine (binary_any w (x / 2 ^ (7 - k % 8)) 1 hxk (by omega)).mono ?_
      rintro e w1 ⟨rfl, rfl⟩
      go_wp2
      exact ⟨⟨k + 1, hlt, rfl, rfl⟩, by simp [intOf]; omega⟩
    · obtain rfl : k = n := by omega
      go_wp2
      go_ret
      exact ⟨rfl, rfl⟩

theorem rbits_none (w : World) (A : Option Addr) (N c : Nat) :
    Calls Try.prog 36 #[.slice A N c, .int .i64 0] w fun e w' => e = .returned (.string (str [])) ∧ w = w' := by
  go_enter Try.func36, Try.ntmps36
  go_wp2
  go_loop [5, 6] (BitsAt [] 0) (fun _ i => 0 - (intOf i).toNat)
  case atStart => exact ⟨0, Nat.zero_le _, rfl, rfl⟩
  case round =>
    obtain ⟨k, hk, rfl, rfl⟩ := hrel
    obtain rfl : k = 0 := by omega
    go_wp2
    go_ret
    exact ⟨rfl, rfl⟩

theorem rbits_any (w : World) (A : Option Addr) (N c n : Nat) (xs : List Nat) (hx : ∀ x ∈ xs, x < 256) (hn : n ≤ 8 * N) (hb : n ≤ 900) (h : Reads w A N (u8s xs)) :
    Calls Try.prog 36 #[.slice A N c, .int .i64 (n : Int)] w fun e w' => e = .returned (.string (str (unpack xs n))) ∧ w = w' := by
  have hl : xs.length = N := by have := h.1; rwa [length_u8s] at this
  by_cases h0 : n = 0
  · subst h0
    exact rbits_none w A N c
  · obtain ⟨ad, rfl, hc⟩ := h.2 (by omega)
    exact rbits_some w ad N c n xs hl hx hn hb hc

theorem unpack_pack (bs : List Bool) : unpack (pack bs) bs.length = bs := by
  apply List.ext_getElem (by rw [length_unpack])
  intro i h1 h2
  have e1 := getD_unpack (pack bs) bs.length i
  rw [if_pos h2] at e1
  have hk : i / 8 < (bs.length + 7) / 8 := by omega
  have e2 : (pack bs).getD (i / 8) 0 = byteAt bs (i / 8) := by
    rw [List.getD_eq_getElem?_getD, getD_pack bs (i / 8) hk]; rfl
  have e3 := bit_of_byte bs i
  rw [List.getD_eq_getElem?_getD, List.getElem?_eq_getElem h1, Option.getD_some, e2, Nat.testBit_eq_decide_div_mod_eq, e3] at e1
  rw [List.getD_eq_getElem?_getD, List.getElem?_eq_getElem h2, Option.getD_some] at e1
  rw [e1]
  cases bs[i] <;> simp
end Go.Proofs.Ytdlblpmjghjhlaa
