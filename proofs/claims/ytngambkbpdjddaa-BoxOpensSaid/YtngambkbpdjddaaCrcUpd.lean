/- proceed, Update and Sum (layer 6): the sum of bytes, by the table of registers. -/
import Derived.Test.YtngambkbpdjddaaCrcTab
namespace Go.Proofs.Ytngambkbpdjddaa
open Go.RowKit

theorem xor_byte (x d : Nat) (hd : d < 256) : (x % 256) ^^^ d = (x ^^^ d) % 256 := by
  have := Nat.xor_mod_two_pow (a := x) (b := d) (n := 8)
  rw [show (2 : Nat) ^ 8 = 256 from rfl] at this
  rw [this, Nat.mod_eq_of_lt hd]
theorem crcReg_snoc (x : Nat) (l : List Nat) (d : Nat) : crcReg x (l ++ [d]) = byteIn (crcReg x l) d := by rw [crcReg_append]; rfl

def ProcAt (w2 : World) (r0 n : Nat) (l : List Nat) (r i : Value) (wr : World) : Prop :=
  wr = w2 ∧ ∃ k : Nat, k ≤ n ∧ i = .int .i64 (k : Int) ∧ r = .int .u32 ((crcReg r0 (l.take k) : Nat) : Int)

set_option maxHeartbeats 2000000 in
set_option maxRecDepth 100000 in
theorem proceed_any (w : World) (A : Option Addr) (n c : Nat) (l : List Nat) (r : Nat) (h : Reads w A n (bts l)) (hd : Dig l) (hr : r < 4294967296) (hn : n ≤ 1000000) :
    Calls Try.prog 53 #[.int .u32 (r : Int), .slice A n c] w fun e w' => e = .returned (.int .u32 ((crcReg r l : Nat) : Int)) ∧ Below w.heap.size w w' := by
  obtain ⟨hv, hi⟩ := zero_of_info Try.infoRegs
  have HR := Lib.hid h
  have HL := Lib.hid h.lenB
  have HD := Lib.hid hd
  have HI := Lib.hid hi
  clear h hd hi
  go_enter Try.func53, Try.ntmps53
  go_wp2_with fail
  refine (regs_any w).mono ?_
  rintro e w1 ⟨rfl, b1⟩
  have B1 := Lib.hid b1
  have hst : (storeCells ⟨w1.heap.size, 0, none⟩ regs6.toList).run Try.prog (w1.alloc (.cells (Array.replicate 256 (.int .u32 0)) 87)) = .ok () (w1.alloc (.cells regs6 87)) :=
    run_storeCells_new (P := Try.prog) w1 87 (Array.replicate 256 (.int .u32 0)) regs6 (by rw [show regs6.size = 256 from regsOf_size _]; exact HI.out) (by rw [show regs6.size = 256 from regsOf_size _]; simp) (regsOf_one _)
  have h256 : regs6.size = 256 := regsOf_size _
  have HC := Lib.hid (fun i (hi : i < 256) => show (w1.alloc (.cells regs6 87)).cell? ⟨w1.heap.size, i, none⟩ = some (.int .u32 ((it6 8 i : Nat) : Int)) by
    rw [cell_in (heap_alloc_last w1 _)]; exact regsOf_at (it6 8) i hi)
  have HB := Lib.hid (b1.trans ((mk_below w1 (.cells regs6 87)).mono b1.size))
  clear b1
  generalize hRR : regs6 = RR at *
  clear hRR
  go_wp2_with fail
  generalize hw2 : w1.alloc (.cells RR 87) = w2 at *
  generalize w1.heap.size = b at *
  clear hw2 hst
  have HS := Lib.hid (HR.out.below HB.out)
  go_loopw [0, 11] (ProcAt w2 r n l) (fun _ i _ => n - (intOf i).toNat)
  case atStart => exact ⟨rfl, 0, Nat.zero_le _, rfl, rfl⟩
  case round =>
    obtain ⟨rfl, k, hk, rfl, rfl⟩ := hrel
    by_cases hlt : k < n
    · obtain ⟨ad, rfl, ck⟩ := HS.out.byte k hlt
      have hkl : k < l.length := by rw [HL.out]; exact hlt
      have hdk := dig_at HD.out k
      have hx := crcReg_lt (dig_take HD.out k) r hr
      have HN := Lib.hid (show crcReg r (l.take (k + 1)) = byteIn (crcReg r (l.take k)) (l.getD k 0) by rw [take_getD l k hkl, crcReg_snoc])
      have HT := Lib.hid (byteIn_table (crcReg r (l.take k)) (l.getD k 0) hdk)
      generalize crcReg r (l.take k) = x at *
      generalize l.getD k 0 = d at *
      generalize byteIn x d = y at *
      have cc := HC.out ((x ^^^ d) % 256) (Nat.mod_lt _ (by omega))
      obtain ⟨X, hX⟩ : ∃ X : Int, X = x := ⟨_, rfl⟩
      obtain ⟨D, hD⟩ : ∃ D : Int, D = d := ⟨_, rfl⟩
      have e1 : IntKind.u8.wrap X = ((x % 256 : Nat) : Int) := by rw [IntKind.wrap_u8]; omega
      have e2 : bits .xor .u8 ((x % 256 : Nat) : Int) D = (((x ^^^ d) % 256 : Nat) : Int) := by rw [hD, u8_xor_nat _ _ (by omega) hdk, xor_byte _ _ hdk]
      have e3 : X / 256 = ((x / 256 : Nat) : Int) := by omega
      have hi8 : (x ^^^ d) % 256 < 256 := Nat.mod_lt _ (by omega)
      have e4 : bits .xor .u32 ((x / 256 : Nat) : Int) ((it6 8 ((x ^^^ d) % 256) : Nat) : Int) = (y : Int) := by
        rw [u32_xor_nat _ _ (by omega) (it6_lt 8 _ (by omega)), HT.out, Nat.xor_comm]
      rw [← hX]
      rw [← hD] at ck
      have bX : 0 ≤ X ∧ X < 4294967296 := by omega
      have bD : 0 ≤ D ∧ D < 256 := by omega
      clear hX hD hx hdk
      generalize (x ^^^ d) % 256 = i at *
      generalize it6 8 i = t at *
      generalize x / 256 = q at *
      generalize x % 256 = p at *
      have t1 : (k : Int) < n := by omega
      have t2 : (i : Int) < 256 := by omega
      go_wp2_with fail
      refine ⟨⟨rfl, k + 1, by omega, by go_num, by rw [HN.out]⟩, by simp [intOf]; omega⟩
    · obtain rfl : k = n := by omega
      have t1 : ¬ (k : Int) < k := by omega
      rw [List.take_of_length_le (by rw [HL.out]; exact Nat.le_refl _)]
      go_wp2
      go_ret
      exact ⟨rfl, HB.out⟩

theorem max32 : IntKind.u32.max = ((4294967295 : Nat) : Int) := by decide
theorem flip32 (x : Nat) (h : x < 4294967296) : bits .xor .u32 IntKind.u32.max (x : Int) = ((4294967295 - x : Nat) : Int) := by
  rw [max32, u32_xor_nat 4294967295 x (by omega) h, Nat.xor_comm, not32 x h]

set_option maxHeartbeats 800000 in
set_option maxRecDepth 100000 in
theorem cupdate_by (w : World) (A : Option Addr) (n c : Nat) (s t v u : Int) (e1 : bits .xor .u32 IntKind.u32.max s = t) (e2 : bits .xor .u32 IntKind.u32.max v = u)
    (K : Hid (Calls Try.prog 53 #[.int .u32 t, .slice A n c] w fun e w' => e = .returned (.int .u32 v) ∧ Below w.heap.size w w')) :
    Calls Try.prog 37 #[.int .u32 s, .slice A n c] w fun e w' => e = .returned (.int .u32 u) ∧ Below w.heap.size w w' := by
  have hsg : IntKind.u32.signed = false := rfl
  go_enter Try.func37, Try.ntmps37
  go_wp2_with fail
  refine K.out.mono ?_
  rintro e w1 ⟨rfl, b1⟩
  have B1 := Lib.hid b1
  clear b1
  go_wp2
  go_ret
  exact ⟨rfl, B1.out⟩
theorem cupdate_any (w : World) (A : Option Addr) (n c : Nat) (l : List Nat) (s : Nat) (h : Reads w A n (bts l)) (hd : Dig l) (hs : s < 4294967296) (hn : n ≤ 1000000) :
    Calls Try.prog 37 #[.int .u32 (s : Int), .slice A n c] w fun e w' => e = .returned (.int .u32 ((crcUpd s l : Nat) : Int)) ∧ Below w.heap.size w w' :=
  cupdate_by w A n c _ _ _ _ (flip32 s hs) (flip32 (crcReg (4294967295 - s) l) (crcReg_lt hd _ (by omega))) (Lib.hid (proceed_any w A n c l (4294967295 - s) h hd (by omega) hn))

set_option maxHeartbeats 800000 in
set_option maxRecDepth 100000 in
theorem csum_any (w : World) (A : Option Addr) (n c : Nat) (l : List Nat) (h : Reads w A n (bts l)) (hd : Dig l) (hn : n ≤ 1000000) :
    Calls Try.prog 19 #[.slice A n c] w fun e w' => e = .returned (.int .u32 ((crcSum l : Nat) : Int)) ∧ Below w.heap.size w w' := by
  have K := Lib.hid (cupdate_any w A n c l 0 h hd (by omega) hn)
  rw [crcUpd_zero] at K
  generalize crcSum l = u at *
  clear h hd
  go_enter Try.func19, Try.ntmps19
  go_wp2_with fail
  refine K.out.mono ?_
  rintro e w1 ⟨rfl, b1⟩
  have B1 := Lib.hid b1
  clear b1
  go_wp2
  go_ret
  exact ⟨rfl, B1.out⟩
theorem csum_nil (w : World) : Calls Try.prog 19 #[.slice none 0 0] w fun e w' => e = .returned (.int .u32 0) ∧ Below w.heap.size w w' :=
  csum_any w none 0 0 [] ⟨rfl, fun h => absurd h (by omega)⟩ (by intro d hd; cases hd) (by omega)
end Go.Proofs.Ytngambkbpdjddaa
