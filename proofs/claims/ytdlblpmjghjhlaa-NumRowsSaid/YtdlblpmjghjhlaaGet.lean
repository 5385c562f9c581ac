/- Reader.Get, Bit, Left, At, in words of bits. -/
import Derived.Test.YtdlblpmjghjhlaaReader
import Derived.Test.YtdlblpmjghjhlaaPlainB
import Derived.Deep.QuietTactic
import Derived.BigQuiet
namespace Go.Proofs.Ytdlblpmjghjhlaa
open Go.RowKit

theorem nr_ok (w : World) (A : Option Addr) (c : Nat) (bs : List Bool) (hl : bs.length ≤ 33554432) (h : Reads w A (pack bs).length (u8s (pack bs))) :
    Calls Try.prog 28 #[.slice A (pack bs).length c, .int .i64 (bs.length : Int)] w (Made w bs) := by
  by_cases hu : bs.length % 8 = 0
  · exact nr_whole w A c bs hl hu h
  · have hlp := length_pack bs
    obtain ⟨ad, rfl, hc⟩ := h.2 (by omega)
    have hn : bs.length / 8 + 1 = (pack bs).length := by omega
    have hx : w.cell? (ad.add (bs.length / 8)) = some (.int .u8 (byteAt bs (bs.length / 8) : Nat)) := hc _ _ (by
      simp only [u8s, List.getElem?_map]
      rw [getD_pack _ _ (by omega)]; rfl)
    rw [← hn] at h ⊢
    exact nr_part w ad (bs.length / 8) c (byteAt bs (bs.length / 8)) bs hl hu hn h hx ((shift_out _ _ (by omega)).2 (byte_free bs))

theorem bitAt_val (bs : List Bool) (i : Nat) : bits BinOp.and IntKind.u8 ((byteAt bs (i / 8) : Nat) / 2 ^ (7 - i % 8)) 1 = ((bs.getD i false).toNat : Int) := by
  have hq : byteAt bs (i / 8) / 2 ^ (7 - i % 8) < 256 := Nat.lt_of_le_of_lt (Nat.div_le_self _ _) (byteAt_lt _ _)
  rw [div_cast, show (1 : Int) = ((1 : Nat) : Int) from rfl, u8_and_nat _ 1 hq (by omega), nat_mask1, bit_of_byte]

theorem bitAt_any (w : World) (p i : Nat) (bs : List Bool) (hi : i < bs.length) (hl : bs.length ≤ 33554432) (h : w.heap[p]? = some (.cells (u8s (pack bs)).toArray 5 (0, 0))) :
    Calls Try.prog 43 #[.slice (some ⟨p, 0, none⟩) (pack bs).length (pack bs).length, .int .i64 (i : Int)] w fun e w' => e = .returned (.int .u8 ((bs.getD i false).toNat : Int)) ∧ w' = w := by
  have hlp := length_pack bs
  have hx : w.cell? ⟨p, i / 8, none⟩ = some (.int .u8 (byteAt bs (i / 8) : Nat)) := by
    rw [cell_in h]
    simp only [u8s, List.getElem?_toArray, List.getElem?_map]
    rw [getD_pack _ _ (by omega)]; rfl
  have hv := bitAt_val bs i
  generalize hn : (pack bs).length = n at *
  have b1 : (i : Int) / 8 < n := by omega
  have HV := Lib.hid hv
  clear hv hlp hn h
  go_enter Try.func43, Try.ntmps43
  go_wp2
  go_ret
  exact ⟨congrArg (fun z => Ending.returned (.int .u8 z)) HV.out, rfl⟩

theorem bitAt_add (w : World) (p k j : Nat) (bs : List Bool) (hi : k + j < bs.length) (hl : bs.length ≤ 33554432) (h : w.heap[p]? = some (.cells (u8s (pack bs)).toArray 5 (0, 0))) :
    Calls Try.prog 43 #[.slice (some ⟨p, 0, none⟩) (pack bs).length (pack bs).length, .int .i64 ((k : Int) + (j : Int))] w fun e w' => e = .returned (.int .u8 ((bs.getD (k + j) false).toNat : Int)) ∧ w' = w := by
  have := bitAt_any w p (k + j) bs hi hl h
  rwa [Int.natCast_add] at this

theorem get_width (w : World) (r : Nat) (n : Int) (h : n < 0 ∨ 64 < n) :
    Calls Try.prog 39 #[.pointer (some ⟨r, 0, none⟩), .int .i64 n] w fun e w' => e = .returned (.tuple #[.int .u64 0, .int .i64 2]) ∧ w = w' := by
  rcases h with h | h
  · go_enter Try.func39, Try.ntmps39
    go_wp2
    go_ret2
    exact ⟨rfl, rfl⟩
  · have h0 : ¬ n < 0 := by omega
    go_enter Try.func39, Try.ntmps39
    go_wp2
    go_ret2
    exact ⟨rfl, rfl⟩

theorem get_end (w : World) (r p : Nat) (bs : List Bool) (k n : Nat) (h : RIs w r p bs k) (hn : n ≤ 64) (he : bs.length - k < n) :
    Calls Try.prog 39 #[.pointer (some ⟨r, 0, none⟩), .int .i64 n] w fun e w' => e = .returned (.tuple #[.int .u64 0, .int .i64 4]) ∧ Same w w w' := by
  have h0 : ¬ (n : Int) < 0 := by omega
  have h1 : ¬ (64 : Int) < (n : Int) := by omega
  have c1 : w.cell? ⟨r, 1, none⟩ = some (.int .i64 (bs.length : Int)) := by rw [cell_in h.blk]; rfl
  have c2 : w.cell? ⟨r, 2, none⟩ = some (.int .i64 (k : Int)) := by rw [cell_in h.blk]; rfl
  have hs := h.size
  have hk := h.le
  have h2 : (bs.length : Int) - k < n := by omega
  have e1 : IntKind.i64.wrap ((bs.length : Int) - k) = (bs.length : Int) - k := IntWalk.i64_in _ (by omega)
  clear h
  go_enter Try.func39, Try.ntmps39
  go_wp2
  go_quiet (fail)
  go_wp2
  go_ret2
  exact ⟨rfl, rfl, rfl, rfl, rfl⟩

theorem same_cell {w w' : World} (h : Same w w w') (a : Addr) : w'.cell? a = w.cell? a := World.cell?_of_block (by rw [h.heap])
theorem same_frozen {w w' : World} (h : Same w w w') (a : Addr) : w'.frozen? a = w.frozen? a := World.frozen?_of_block (by rw [h.heap])

theorem or_step (x : Nat) (hx : x < 9223372036854775808) (b : Bool) : bits BinOp.or IntKind.u64 (IntKind.u64.wrap ((x : Int) * 2)) (IntKind.u64.wrap (b.toNat : Int)) = ((2 * x + b.toNat : Nat) : Int) := by
  have hb := bit_le b
  have e1 : IntKind.u64.wrap ((x : Int) * 2) = ((2 * x : Nat) : Int) := by simp [IntKind.wrap, IntKind.bits, IntKind.signed]; omega
  have e2 : IntKind.u64.wrap (b.toNat : Int) = ((b.toNat : Nat) : Int) := by simp [IntKind.wrap, IntKind.bits, IntKind.signed]; omega
  rw [e1, e2, u64_or_nat _ _ (by omega) (by omega), nat_join 1 _ _ (by omega) (by omega)]
theorem step_val (bs : List Bool) (k j : Nat) (h : k + j < bs.length) (hj : j < 64) :
    Value.int IntKind.u64 (bits BinOp.or IntKind.u64 (IntKind.u64.wrap ((num ((bs.drop k).take j) : Nat) * 2)) (IntKind.u64.wrap ((bs[k + j]?.getD false).toNat : Int))) = .int .u64 (num ((bs.drop k).take (j + 1)) : Nat) := by
  have hl : num ((bs.drop k).take j) < 9223372036854775808 := by
    have h1 := num_lt ((bs.drop k).take j)
    have h2 : 2 ^ ((bs.drop k).take j).length ≤ 2 ^ 63 := Nat.pow_le_pow_right (by omega) (by simp; omega)
    omega
  rw [or_step _ hl]
  rw [List.take_succ_eq_append_getElem (by simp; omega), num_snoc]
  simp [List.getElem_drop, List.getElem?_eq_getElem h]
theorem RIs.ne_ {w : World} {r p : Nat} {bs : List Bool} {k : Nat} (h : RIs w r p bs k) : p ≠ r := by
  rintro rfl
  have h1 := h.blk
  rw [h.row] at h1
  injection h1 with h1
  injection h1 with _ ht
  exact absurd ht (by decide)

def GetAt (w : World) (bs : List Bool) (k n : Nat) (i v : Value) (wr : World) : Prop :=
  ∃ j : Nat, j ≤ n ∧ i = .int .i64 j ∧ v = .int .u64 (num ((bs.drop k).take j) : Nat) ∧ Same w w wr

set_option maxHeartbeats 800000 in
theorem get_ok (w : World) (r p : Nat) (bs : List Bool) (k n : Nat) (h : RIs w r p bs k) (hn : n ≤ 64) (he : k + n ≤ bs.length) :
    Calls Try.prog 39 #[.pointer (some ⟨r, 0, none⟩), .int .i64 n] w fun e w' => e = .returned (.tuple #[.int .u64 (num ((bs.drop k).take n) : Nat), .int .i64 0]) ∧ RIs w' r p bs (k + n) ∧ w.grownBy w' (some r) := by
  have h0 : ¬ (n : Int) < 0 := by omega
  have h1 : ¬ (64 : Int) < (n : Int) := by omega
  have c0 : w.cell? ⟨r, 0, none⟩ = some (.slice (some ⟨p, 0, none⟩) (pack bs).length (pack bs).length) := by rw [cell_in h.blk]; rfl
  have c1 : w.cell? ⟨r, 1, none⟩ = some (.int .i64 (bs.length : Int)) := by rw [cell_in h.blk]; rfl
  have c2 : w.cell? ⟨r, 2, none⟩ = some (.int .i64 (k : Int)) := by rw [cell_in h.blk]; rfl
  have f2 := frozen_in h.blk 2
  have hs := h.size
  have hk := h.le
  have h2 : ¬ (bs.length : Int) - k < n := by omega
  have h3 : decide ((bs.length : Int) - k < n) = false := by simp; omega
  have e1 : IntKind.i64.wrap ((bs.length : Int) - k) = (bs.length : Int) - k := IntWalk.i64_in _ (by omega)
  have HR := Lib.hid h
  clear h
  go_enter Try.func39, Try.ntmps39
  go_wp2
  go_quiet (fail)
  go_wp2
  clear e1
  go_loopw [28, 6] (GetAt w bs k n) (fun i _ _ => n - (intOf i).toNat)
  case atStart => exact ⟨0, Nat.zero_le _, rfl, by simp [num], rfl, rfl, rfl, rfl⟩
  case round =>
    obtain ⟨j, hj, rfl, rfl, hsame⟩ := hrel
    have d0 : wr.cell? ⟨r, 0, none⟩ = some (.slice (some ⟨p, 0, none⟩) (pack bs).length (pack bs).length) := (same_cell hsame _).trans c0
    have d2 : wr.cell? ⟨r, 2, none⟩ = some (.int .i64 (k : Int)) := (same_cell hsame _).trans c2
    have g2 : wr.frozen? ⟨r, 2, none⟩ = false := (same_frozen hsame _).trans f2
    have HP := Lib.hid (show wr.heap[p]? = some (.cells (u8s (pack bs)).toArray 5 (0, 0)) by rw [hsame.heap]; exact HR.out.row)
    have HS := Lib.hid hsame
    clear hsame c0 c1 c2 f2
    by_cases hlt : j < n
    · have e1 : IntKind.i64.wrap ((k : Int) + j) = (k : Int) + j := IntWalk.i64_in _ (by omega)
      go_wp2_with fail
      go_quiet ((go_at_call 43; exact Calls.quiet_of_same (bitAt_add _ p k j bs (by omega) (by omega) HP.out)))
      clear e1
      go_wp2
      refine ⟨⟨j + 1, by omega, by go_num, ?_, ⟨HS.out.heap, HS.out.os, HS.out.tape, HS.out.output⟩⟩, by simp [intOf]; omega⟩
      rw [step_val bs k j (by omega) (by omega)]
    · go_wp2
      go_ret2
      have hjn : j = n := by omega
      subst hjn
      have hb : wr.heap[r]? = some (.cells #[.slice (some ⟨p, 0, none⟩) (pack bs).length (pack bs).length, .int .i64 (bs.length : Int), .int .i64 (k : Int)] 71 (0, 0)) := by rw [HS.out.heap]; exact HR.out.blk
      refine ⟨rfl, ⟨?_, ?_, by omega, hs⟩, HS.out.os, HS.out.tape, HS.out.output, ?_, ?_⟩
      · rw [heap_set hb]; simp
      · have hpr : p ≠ r := HR.out.ne_
        exact heap_far HP.out (p := ⟨r, 2, none⟩) hpr _
      · show w.heap.size ≤ (wr.setCell _ _).heap.size
        simp [HS.out.heap]
      · intro q hq hqr
        rw [Below.heap_setCell _ _ _ _ (by rintro rfl; exact hqr rfl), HS.out.heap]
end Go.Proofs.Ytdlblpmjghjhlaa
