/- Texts laid one behind the other: NumFix, NumUnf, RowUnf, Halve, StepRow, Ref. -/
import Derived.Test.YtjbfgajognnmiaaDoorGBits
import Derived.Test.YtjbfgajognnmiaaDoorLen64
import Derived.Test.YtjbfgajognnmiaaDoorBase
import Derived.Deep.RegionHeld3
import Derived.StillTailTactics

/- num.Width and Fixed, in words of bits. -/
namespace Go.Proofs.YtjbfgajognnmiaaDoor
open Go.RowKit

theorem len64_int (w : World) (x : Int) (n : Nat) (hx : x = (n : Int)) (hn : n < 18446744073709551616) :
    Calls Tryd.prog 69 #[.int .u64 x] w fun e w' => e = .returned (.int .i64 (bitLen n : Nat)) ∧ w = w' := by
  subst hx; exact len64_any w n hn

/-- The width of a bound. -/
def wide (b : Int) : Nat := bitLen (b.toNat - 1)

set_option maxHeartbeats 1000000 in
set_option maxRecDepth 100000 in
theorem width_any (w : World) (b : Int) (hb : b < 9223372036854775808) :
    Calls Tryd.prog 52 #[.int .i64 b] w fun e w' => e = .returned (.int .i64 (wide b : Nat)) ∧ w = w' := by
  by_cases h : b ≤ 1
  · go_enter Tryd.func52, Tryd.ntmps52
    go_wp2
    go_ret
    refine ⟨congrArg Ending.returned (congrArg (Value.int IntKind.i64) ?_), rfl⟩
    rw [wide, show b.toNat - 1 = 0 by omega]; rfl
  · have h1 : 1 < b := by omega
    go_enter Tryd.func52, Tryd.ntmps52
    go_wp2_with fail
    refine (len64_int w _ (b.toNat - 1) (by omega) (by omega)).mono ?_
    rintro e w1 ⟨rfl, rfl⟩
    go_wp2
    go_ret
    exact ⟨rfl, rfl⟩
theorem wide_le (b : Int) (hb : b < 9223372036854775808) : wide b ≤ 63 := digits_le _ _ (by omega)
theorem wide_lt (b v : Int) (h : v < b) (h0 : 0 < b) : v.toNat < 2 ^ wide b := Nat.lt_of_le_of_lt (by omega) (digits_lt (b.toNat - 1))

theorem fixed_nil (w : World) (v b : Int) : Calls Tryd.prog 55 #[.pointer none, .int .i64 v, .int .i64 b] w fun e w' => e = .returned (.int .i64 1) ∧ w = w' := by
  go_enter Tryd.func55, Tryd.ntmps55
  go_wp2
  go_ret
  exact ⟨rfl, rfl⟩
theorem fixed_range (w : World) (g : Nat) (v b : Int) (h : v < 0 ∨ b ≤ v) : Calls Tryd.prog 55 #[.pointer (some ⟨g, 0, none⟩), .int .i64 v, .int .i64 b] w fun e w' => e = .returned (.int .i64 2) ∧ w = w' := by
  by_cases h0 : v < 0
  · clear h
    go_enter Tryd.func55, Tryd.ntmps55
    go_wp2
    go_ret
    exact ⟨rfl, rfl⟩
  · have h1 : b ≤ v := by omega
    have h2 : 0 ≤ v := by omega
    clear h h0
    go_enter Tryd.func55, Tryd.ntmps55
    go_wp2
    go_ret
    exact ⟨rfl, rfl⟩

set_option maxHeartbeats 1000000 in
set_option maxRecDepth 100000 in
theorem fixed_ok (w : World) (B g : Nat) (u : Value) (bs : List Bool) (v : Nat) (b : Int) (hv : (v : Int) < b) (hb : b < 9223372036854775808) (h : WIs w B g u bs) (hB : B ≤ w.heap.size) (hl : bs.length + 64 ≤ 33554432) :
    Calls Tryd.prog 55 #[.pointer (some ⟨g, 0, none⟩), .int .i64 (v : Int), .int .i64 b] w fun e w' => e = .returned (.int .i64 0) ∧ Wrote w w' B g u (bs ++ bitsOf v (wide b)) := by
  have HW := Lib.hid h
  have HL := Lib.hid hl
  have hd := wide_le b hb
  have HD := Lib.hid (show v < 2 ^ wide b from by have := wide_lt b v hv (by omega); simpa using this)
  clear h hl
  go_enter Tryd.func55, Tryd.ntmps55
  go_wp2_with fail
  refine (width_any w b hb).mono ?_
  rintro e w1 ⟨rfl, rfl⟩
  go_wp2_with fail
  refine (put_ok w B g u bs v (wide b) (by omega) HD.out HW.out hB (by have := HL.out; omega)).mono ?_
  rintro e w1 ⟨rfl, h1⟩
  have H1 := Lib.hid h1
  clear h1
  go_wp2
  go_ret
  exact ⟨rfl, H1.out⟩
end Go.Proofs.YtjbfgajognnmiaaDoor

/- num.Unfixed, in words of bits. -/
namespace Go.Proofs.YtjbfgajognnmiaaDoor
open Go.RowKit

theorem grown_refl (w : World) (o : Option Nat) : w.grownBy w o := ⟨rfl, rfl, rfl, Nat.le_refl _, fun _ _ _ => rfl⟩
theorem grown_same {w w1 w2 : World} {o : Option Nat} (h : w.grownBy w1 o) (k : Same w1 w1 w2) : w.grownBy w2 o :=
  ⟨k.os.trans h.os, k.tape.trans h.tape, k.output.trans h.output, by rw [k.heap]; exact h.size, fun i hi hn => by rw [k.heap]; exact h.block i hi hn⟩

theorem unfixed_nil (w : World) (b : Int) : Calls Tryd.prog 66 #[.pointer none, .int .i64 b] w fun e w' => e = .returned (.tuple #[.int .i64 0, .int .i64 1]) ∧ w = w' := by
  go_enter Tryd.func66, Tryd.ntmps66
  go_wp2
  go_ret2
  exact ⟨rfl, rfl⟩
theorem unfixed_range (w : World) (r : Nat) (b : Int) (hb : b < 1) : Calls Tryd.prog 66 #[.pointer (some ⟨r, 0, none⟩), .int .i64 b] w fun e w' => e = .returned (.tuple #[.int .i64 0, .int .i64 2]) ∧ w = w' := by
  go_enter Tryd.func66, Tryd.ntmps66
  go_wp2
  go_ret2
  exact ⟨rfl, rfl⟩

set_option maxHeartbeats 1000000 in
set_option maxRecDepth 100000 in
theorem unfixed_end (w : World) (r p : Nat) (bs : List Bool) (k : Nat) (b : Int) (h : RIs w r p bs k) (hb : 1 ≤ b) (hb2 : b < 9223372036854775808) (he : bs.length - k < wide b) :
    Calls Tryd.prog 66 #[.pointer (some ⟨r, 0, none⟩), .int .i64 b] w fun e w' => e = .returned (.tuple #[.int .i64 0, .int .i64 4]) ∧ Same w w w' := by
  have hd := wide_le b hb2
  have C := get_end w r p bs k (wide b) h (by omega) he
  clear h he
  go_enter Tryd.func66, Tryd.ntmps66
  go_wp2_with fail
  refine (width_any w b hb2).mono ?_
  rintro e w1 ⟨rfl, rfl⟩
  go_wp2_with fail
  refine C.mono ?_
  rintro e w1 ⟨rfl, s1⟩
  have S1 := Lib.hid s1
  clear s1
  go_wp2
  go_ret2
  exact ⟨rfl, S1.out⟩

set_option maxHeartbeats 1000000 in
set_option maxRecDepth 100000 in
theorem unfixed_form (w : World) (r p : Nat) (bs : List Bool) (k : Nat) (b : Int) (h : RIs w r p bs k) (hb : 1 ≤ b) (hb2 : b < 9223372036854775808) (he : k + wide b ≤ bs.length) (hv : b ≤ (num ((bs.drop k).take (wide b)) : Nat)) :
    Calls Tryd.prog 66 #[.pointer (some ⟨r, 0, none⟩), .int .i64 b] w fun e w' => e = .returned (.tuple #[.int .i64 0, .int .i64 3]) ∧ w.grownBy w' (some r) := by
  have hd := wide_le b hb2
  have C := get_ok w r p bs k (wide b) h (by omega) he
  clear h he
  generalize num ((bs.drop k).take (wide b)) = m at *
  go_enter Tryd.func66, Tryd.ntmps66
  go_wp2_with fail
  refine (width_any w b hb2).mono ?_
  rintro e w1 ⟨rfl, rfl⟩
  go_wp2_with fail
  refine C.mono ?_
  rintro e w1 ⟨rfl, _, g1⟩
  have G1 := Lib.hid g1
  clear g1
  go_wp2
  go_ret2
  exact ⟨rfl, G1.out⟩

set_option maxHeartbeats 1000000 in
set_option maxRecDepth 100000 in
theorem unfixed_ok (w : World) (r p : Nat) (bs : List Bool) (k : Nat) (b : Int) (h : RIs w r p bs k) (hb : 1 ≤ b) (hb2 : b < 9223372036854775808) (he : k + wide b ≤ bs.length) (hv : ((num ((bs.drop k).take (wide b)) : Nat) : Int) < b) :
    Calls Tryd.prog 66 #[.pointer (some ⟨r, 0, none⟩), .int .i64 b] w fun e w' => e = .returned (.tuple #[.int .i64 (num ((bs.drop k).take (wide b)) : Nat), .int .i64 0]) ∧ RIs w' r p bs (k + wide b) ∧ w.grownBy w' (some r) := by
  have hd := wide_le b hb2
  have C := get_ok w r p bs k (wide b) h (by omega) he
  clear h he
  generalize num ((bs.drop k).take (wide b)) = m at *
  go_enter Tryd.func66, Tryd.ntmps66
  go_wp2_with fail
  refine (width_any w b hb2).mono ?_
  rintro e w1 ⟨rfl, rfl⟩
  go_wp2_with fail
  refine C.mono ?_
  rintro e w1 ⟨rfl, r1, g1⟩
  have R1 := Lib.hid r1
  have G1 := Lib.hid g1
  clear r1 g1
  go_wp2
  go_ret2
  exact ⟨rfl, R1.out, G1.out⟩
end Go.Proofs.YtjbfgajognnmiaaDoor

/- A fixed-width code that stands next is read. -/
namespace Go.Proofs.YtjbfgajognnmiaaDoor
open Go.RowKit

theorem getD_next {bs l : List Bool} {k : Nat} (hd : bs.drop k = l) (j : Nat) : bs.getD (k + j) false = l.getD j false := by
  rw [← hd, List.getD_eq_getElem?_getD, List.getD_eq_getElem?_getD, List.getElem?_drop]
theorem length_next {bs l : List Bool} {k : Nat} (hd : bs.drop k = l) (hk : k ≤ bs.length) : bs.length = k + l.length := by
  rw [← hd, List.length_drop]; omega

theorem unfixed_row (w : World) (r p : Nat) (bs rest : List Bool) (k v : Nat) (b : Int) (h : RIs w r p bs k) (hb : 1 ≤ b) (hb2 : b < 9223372036854775808) (hv : (v : Int) < b) (hd : bs.drop k = bitsOf v (wide b) ++ rest) :
    Calls Tryd.prog 66 #[.pointer (some ⟨r, 0, none⟩), .int .i64 b] w fun e w' => e = .returned (.tuple #[.int .i64 (v : Int), .int .i64 0]) ∧ RIs w' r p bs (k + wide b) ∧ w.grownBy w' (some r) := by
  have hl := length_next hd h.le
  rw [List.length_append, length_bitsOf] at hl
  have hlt := wide_lt b v hv (by omega)
  have e : num ((bs.drop k).take (wide b)) = v := by
    rw [hd, List.take_left' (length_bitsOf _ _), num_bitsOf]
    exact Nat.mod_eq_of_lt (by simpa using hlt)
  have := unfixed_ok w r p bs k b h hb hb2 (by omega) (by rw [e]; exact hv)
  rwa [e] at this
end Go.Proofs.YtjbfgajognnmiaaDoor

/- A number's bits, one by one: half of what is left. -/
namespace Go.Proofs.YtjbfgajognnmiaaDoor
open Go.RowKit

theorem halve (v k : Nat) (hv : v < 18446744073709551616) : Value.int IntKind.u64 (IntKind.u64.wrap (((v : Int) / 2 ^ k).tdiv 2)) = .int .u64 (v / 2 ^ (k + 1) : Nat) := by
  have h1 : v / 2 ^ (k + 1) = v / 2 ^ k / 2 := by rw [Nat.pow_succ, Nat.div_div_eq_div_mul]
  have h2 : v / 2 ^ k ≤ v := Nat.div_le_self _ _
  rw [div_cast, h1]
  generalize v / 2 ^ k = q at *
  rw [show (2 : Int) = ((2 : Nat) : Int) from rfl, ← Int.ofNat_tdiv]
  generalize hr : q / 2 = r
  have : r ≤ q := by omega
  congr 1
  simp [IntKind.wrap, IntKind.bits, IntKind.signed]
  omega
end Go.Proofs.YtjbfgajognnmiaaDoor

/- A step of a region that draws its order: append of a row that reads so, perhaps of no elements. -/
namespace Go.Proofs.YtjbfgajognnmiaaDoor
open Go.RowKit

theorem step_append_row {P : Program} {w : World} {ops : Array Oper} {o : Oper} {a : Act} {K : Act → World → Prop} {Q : Exit → Act → World → Prop} {E : Prop} (hgd : o.guard = none) (s x : Operand) (t : TypeId)
    (ho : o.op = .call { callee := .builtin .append, args := #[s, x], argTypes := #[t, t] }) (base : Nat) (e : TypeId) (i : TypeInfo) (z : Value) (bytes : Nat) (ht : P.underlying t = some (.slice e)) (hi : P.info? e = some i)
    (hz : i.zero = some z ∧ i.size = 1 ∧ i.bytes = bytes) (hzs : z.cells.size = 1) (v : Value) (n : Nat) (xs : List Value) (hs : a.eval s = v) (hown : w.ownsRow base e 1 v n xs) (ad : Addr) (m c : Nat) (news : List Value) (hx : a.eval x = .slice (some ad) m c)
    (hl : news.length = m) (hnews : ∀ j u, news[j]? = some u → w.cell? (ad.add j) = some u) (h1 : ∀ u ∈ news, u.oneCell' = true) (h63 : n + m ≤ maxLen) (hbytes : (n + m) * bytes ≤ 140737488355328) (hbase : base ≤ w.heap.size)
    (h : ∀ v' w', w'.ownsRow base e 1 v' (n + m) (xs ++ news) → w.grownBy w' v.ownBlock → K (a.put o.dst v') w') : if Region.wanted o (yielded ops a.tmps) = true then Oper.wp P o a w K Q else E := by
  have hw : Region.wanted o (yielded ops a.tmps) = true := by simp [Region.wanted, hgd]
  rw [if_pos hw]
  exact wp_append_own w s x t ho base e i z 1 bytes ht hi hz.1 hz.2.1 hz.2.2 hzs (by omega) v n xs hs hown ad m c news hx (by omega) hnews h1 h63 hbytes hbase fun v' w' h2 h3 _ => h v' w' h2 h3
end Go.Proofs.YtjbfgajognnmiaaDoor

/- The document's own answers for layer 1: Value, Bytes, Number, in words of bits. -/
namespace Go.Proofs.YtjbfgajognnmiaaDoor
open Go.RowKit

theorem Tryd.info3 : (Tryd.prog.info? 3).map (fun i => (i.zero, i.size, i.bytes)) = some (some (.int .i64 0), 1, 8) := by kernel_rfl
/-- Bits as ints. -/
def i64s (bs : List Bool) : List Value := bs.map fun b => Value.int .i64 (b.toNat : Int)
theorem length_i64s (bs : List Bool) : (i64s bs).length = bs.length := by simp [i64s]
theorem i64s_one (bs : List Bool) : ∀ u ∈ i64s bs, u.oneCell' = true := by
  intro u hu
  simp only [i64s, List.mem_map] at hu
  obtain ⟨x, _, rfl⟩ := hu
  rfl
theorem i64s_append (a b : List Bool) : i64s (a ++ b) = i64s a ++ i64s b := by simp [i64s]

/-- The bits of v as they stand when j of n are laid, from the last one on. -/
def vhalf (v n j : Nat) : List Bool := List.replicate (n - j) false ++ (bitsOf v n).drop (n - j)
theorem vhalf_all (v n : Nat) : vhalf v n n = bitsOf v n := by simp [vhalf]
theorem vhalf_zero (v n : Nat) : vhalf v n 0 = List.replicate n false := by simp [vhalf, bitsOf]
theorem length_vhalf (v n j : Nat) : (vhalf v n j).length = n := by simp [vhalf, length_bitsOf]
theorem vhalf_step (v n j : Nat) (h : j < n) : (vhalf v n j).set (n - 1 - j) (v.testBit j) = vhalf v n (j + 1) := by
  unfold vhalf
  have e1 : n - j = (n - (j + 1)) + 1 := by omega
  have hl : (bitsOf v n).length = n := length_bitsOf v n
  have hd : (bitsOf v n).drop (n - (j + 1)) = v.testBit j :: (bitsOf v n).drop (n - j) := by
    rw [List.drop_eq_getElem_cons (by omega), ← e1]
    congr 1
    simp only [bitsOf, List.getElem_map, List.getElem_range]
    congr 1
    omega
  rw [hd, e1, List.replicate_succ', List.append_assoc]
  rw [List.set_append_right _ _ (by simp; omega)]
  have : n - 1 - j - (List.replicate (n - (j + 1)) false).length = 0 := by simp; omega
  rw [this]
  simp

theorem low_bit (v j : Nat) : wrap64 (((v : Int) / 2 ^ j).tmod 2) = ((v.testBit j).toNat : Int) := by
  rw [div_cast, Nat.toNat_testBit]
  generalize v / 2 ^ j = q
  rw [show (2 : Int) = ((2 : Nat) : Int) from rfl, ← Int.ofNat_tmod]
  unfold wrap64
  omega

def ValueAt (w : World) (v n : Nat) (x i : Value) (wr : World) : Prop :=
  ∃ j : Nat, j ≤ n ∧ i = .int .i64 ((n : Int) - 1 - j) ∧ x = .int .u64 (v / 2 ^ j : Nat) ∧ wr.heap[w.heap.size]? = some (.cells (i64s (vhalf v n j)).toArray 3 (0, 0)) ∧ Below w.heap.size w wr

set_option maxHeartbeats 1600000 in
set_option maxRecDepth 100000 in
theorem refValue_any (w : World) (v n : Nat) (hn : n ≤ 64) (hv : v < 18446744073709551616) :
    Calls Tryd.prog 23 #[.int .u64 v, .int .i64 n] w fun e w' => e = .returned (.slice (some ⟨w.heap.size, 0, none⟩) n n) ∧ w'.heap[w.heap.size]? = some (.cells (i64s (bitsOf v n)).toArray 3 (0, 0)) ∧ Below w.heap.size w w' := by
  have hmk := fun W => run_make_row' (P := Tryd.prog) 22 3 (.int .i64 0) 8 Tryd.underlying22 Tryd.info3 rfl .i64 .i64 n (by omega) (by omega) W
  have R0 := Lib.hid (show (w.alloc (.cells (madeCells #[.int .i64 0] n) 3)).heap[w.heap.size]? = some (.cells (i64s (vhalf v n 0)).toArray 3 (0, 0)) by
    rw [heap_alloc_new, vhalf_zero]
    congr 2
    apply Array.ext'
    rw [toList_madeCells_one]; simp [i64s])
  have B0 := Lib.hid (show Below w.heap.size w (w.alloc (.cells (madeCells #[.int .i64 0] n) 3)) from (Below.refl _ _).alloc (Nat.le_refl _) _)
  go_enter Tryd.func23, Tryd.ntmps23
  go_wp2_with fail
  clear hmk
  go_loopw [0, 6] (ValueAt w v n) (fun _ i _ => (intOf i + 1).toNat)
  case atStart => exact ⟨0, Nat.zero_le _, by simp, by simp, R0.out, B0.out⟩
  case round =>
    obtain ⟨j, hj, rfl, rfl, hr, hb⟩ := hrel
    by_cases hjn : j < n
    · have t0 : (0 : Int) ≤ (n : Int) - 1 - j := by omega
      have hl := length_vhalf v n j
      obtain ⟨old, c0⟩ : ∃ old : Int, wr.cell? ⟨w.heap.size, n - 1 - j, none⟩ = some (.int .i64 old) := by
        have hlt : n - 1 - j < (vhalf v n j).length := by omega
        exact ⟨((vhalf v n j)[n - 1 - j].toNat : Int), by rw [cell_in hr]; simp [i64s, List.getElem?_eq_getElem hlt]⟩
      have f0 := frozen_in hr (n - 1 - j)
      have HR := Lib.hid hr
      have HB := Lib.hid hb
      clear hr hb
      have t1 : (n : Int) - 1 - j < n := by omega
      go_wp2_with fail
      refine ⟨⟨j + 1, by omega, by congr 1; omega, ?_, ?_, ?_⟩, by simp [intOf]; omega⟩
      · rw [halve v j hv]
      · rw [low_bit v j, heap_set HR.out, ← vhalf_step v n j hjn]; simp [i64s, List.map_set]
      · exact HB.out.setCell (Nat.le_refl _) _
    · have t0 : ¬ (0 : Int) ≤ (n : Int) - 1 - j := by omega
      have hjn' : j = n := by omega
      rw [hjn', vhalf_all] at hr
      have HR := Lib.hid hr
      have HB := Lib.hid hb
      clear hr hb
      go_wp2
      go_ret
      exact ⟨rfl, HR.out, HB.out⟩

/-- The number that the first k bits of byte i make. -/
def bpart (bs : List Bool) (i k : Nat) : Nat := num ((List.range k).map fun j => bs.getD (8 * i + j) false)
theorem bpart_zero (bs : List Bool) (i : Nat) : bpart bs i 0 = 0 := rfl
theorem bpart_eight (bs : List Bool) (i : Nat) : bpart bs i 8 = byteAt bs i := rfl
theorem bpart_succ (bs : List Bool) (i k : Nat) : bpart bs i (k + 1) = 2 * bpart bs i k + (bs.getD (8 * i + k) false).toNat := by
  unfold bpart
  rw [List.range_succ, List.map_append, List.map_singleton, num_snoc]
theorem bpart_lt (bs : List Bool) (i k : Nat) (h : k ≤ 8) : bpart bs i k < 256 := by
  have h1 := num_lt ((List.range k).map fun j => bs.getD (8 * i + j) false)
  have h2 : 2 ^ ((List.range k).map fun j => bs.getD (8 * i + j) false).length ≤ 2 ^ 8 := Nat.pow_le_pow_right (by omega) (by simpa using h)
  unfold bpart; omega

/-- A slice of ints that reads as bits (nil let in), by its own cells. -/
def BitRow (w : World) (A : Option Addr) (n : Nat) (bs : List Bool) : Prop := Reads w A n (i64s bs)

def BytesAt (w : World) (bs : List Bool) (v i : Value) (wr : World) : Prop :=
  ∃ k s : Nat, s = 8 * k ∧ k ≤ (bs.length + 7) / 8 ∧ i = .int .i64 s ∧ wr.ownsRow w.heap.size 5 1 v k (u8s ((pack bs).take k)) ∧ Below w.heap.size w wr
def InAt (bs : List Bool) (i : Nat) (x k : Value) : Prop := ∃ j : Nat, j ≤ 8 ∧ k = .int .i64 j ∧ x = .int .i64 (bpart bs i j : Nat)

def Told (w : World) (bs : List Bool) (e : Ending) (w' : World) : Prop :=
  ∃ A c, e = .returned (.slice A (pack bs).length c) ∧ Reads w' A (pack bs).length (u8s (pack bs)) ∧ Below w.heap.size w w'

theorem reads_own {w : World} {base : Nat} {e : TypeId} {v : Value} {n : Nat} {xs : List Value} (h : w.ownsRow base e 1 v n xs) : ∃ A c, v = .slice A n c ∧ Reads w A n xs := by
  have hl : xs.length = n := by have := h.1; omega
  rcases h.2 with ⟨h1, h2⟩ | ⟨q, cap, cur, rfl, _⟩
  · exact ⟨none, 0, by rw [h1, h2], hl, fun hn => absurd hn (by omega)⟩
  · exact ⟨_, _, rfl, hl, fun _ => ⟨_, rfl, h.cells rfl⟩⟩
theorem told_of {w w' : World} {bs : List Bool} {v : Value} (h : w'.ownsRow w.heap.size 5 1 v (pack bs).length (u8s (pack bs))) (hb : Below w.heap.size w w') : Told w bs (.returned v) w' := by
  obtain ⟨A, c, rfl, hr⟩ := reads_own h
  exact ⟨A, c, rfl, hr, hb⟩

/-- The bytes that Bytes tells lie in memory of their own. -/
def ToldO (w : World) (bs : List Bool) (e : Ending) (w' : World) : Prop := ∃ v, e = .returned v ∧ w'.ownsRow w.heap.size 5 1 v (pack bs).length (u8s (pack bs)) ∧ Below w.heap.size w w'

set_option maxHeartbeats 1600000 in
set_option maxRecDepth 100000 in
theorem refBytes_some (w : World) (ad : Addr) (n c : Nat) (bs : List Bool) (hn : n ≤ 33554432) (hl : bs.length = n) (hr : ∀ j u, (i64s bs)[j]? = some u → w.cell? (ad.add j) = some u) :
    Calls Tryd.prog 25 #[.slice (some ad) n c] w (ToldO w bs) := by
  obtain ⟨i0, hi, hz0, hz1, hz2⟩ := info_parts Tryd.info5
  have HL := Lib.hid hl
  have HR := Lib.hid hr
  have HI := Lib.hid hi
  have HZ := Lib.hid (And.intro hz0 (And.intro hz1 hz2))
  clear hl hr hi hz0 hz1 hz2
  go_enter Tryd.func25, Tryd.ntmps25
  go_wp2_with fail
  go_loopw [3, 4] (BytesAt w bs) (fun _ i _ => n + 8 - (intOf i).toNat)
  case atStart => exact ⟨0, 0, rfl, Nat.zero_le _, rfl, World.ownsRow_nil _ _ _ _, Below.refl _ _⟩
  case round =>
    obtain ⟨k, s, hs, hk, rfl, how, hb⟩ := hrel
    have HO := Lib.hid how
    have HB := Lib.hid hb
    have HS := Lib.hid hs
    clear how hb hs
    by_cases hlt : s < n
    · have t0 : (s : Int) < n := by omega
      have H8 := Lib.hid hk
      clear hk
      go_wp2_with fail
      go_loop [5, 6] (InAt bs k) (fun _ i => 8 - (intOf i).toNat)
      case atStart => exact ⟨0, by omega, rfl, rfl⟩
      case round =>
        obtain ⟨j, hj, rfl, rfl⟩ := hrel
        have hpl := bpart_lt bs k j hj
        have PS := Lib.hid (bpart_succ bs k j)
        by_cases hj8 : j < 8
        · by_cases hin : s + j < n
          · have hbl : s + j < bs.length := by rw [HL.out]; exact hin
            have c0 := HR.out (s + j) (.int .i64 ((bs.getD (s + j) false).toNat : Int)) (by simp [i64s, List.getElem?_eq_getElem hbl])
            have d0 := (HB.out.cell (World.block_lt_of_cell? w _ c0)).trans c0
            have hb1 := bit_le (bs.getD (s + j) false)
            have HE := Lib.hid (show 8 * k + j = s + j by rw [HS.out])
            generalize bpart bs k j = x at *
            generalize hbit : (bs.getD (s + j) false).toNat = bit at *
            have HBT := Lib.hid hbit
            clear c0 hbit hbl
            have t1 : (s : Int) + j < n := by omega
            go_wp2_with fail
            refine ⟨⟨j + 1, by omega, by go_num, ?_⟩, by simp [intOf]; omega⟩
            rw [PS.out, HE.out, HBT.out]; go_num
          · have hz : bs.getD (8 * k + j) false = false := getD_over bs _ (by rw [HL.out, ← HS.out]; omega)
            have PZ := Lib.hid (show bpart bs k (j + 1) = 2 * bpart bs k j by rw [PS.out, hz]; rfl)
            clear hz
            generalize bpart bs k j = x at *
            have t1 : ¬ (s : Int) + j < n := by omega
            go_wp2_with fail
            refine ⟨⟨j + 1, by omega, by go_num, ?_⟩, by simp [intOf]; omega⟩
            rw [PZ.out]; go_num
        · have hj' : j = 8 := by omega
          subst hj'
          rw [bpart_eight]
          have hbt := byteAt_lt bs k
          generalize hby : byteAt bs k = by8 at *
          have HBY := Lib.hid hby
          clear hby
          go_wp2_with (at_builtin; refine wpList_append_lies _ rfl (.tmp 33) (.tmp 36) 25 rfl w.heap.size 5 i0 (.int .u8 0) 1 1 Tryd.underlying25 HI.out HZ.out.1 HZ.out.2.1 HZ.out.2.2 rfl (by decide) u3 k (u8s ((pack bs).take k)) rfl (HO.out.alloc _) ⟨wr.heap.size, 0, none⟩ 1 1 [.int .u8 (by8 : Int)] rfl rfl (cell_one_new _ _ _) ?c2 (by decide) ?b1 ?b2 ?b3 (wr.heap.size + 1) ?b4 ?_)
          case c2 => rfl
          case b1 => have := H8.out; have := HL.out; unfold maxLen; omega
          case b2 => have := H8.out; have := HL.out; omega
          case b3 => have := HB.out.size; simp; omega
          intro q cap w1 hown hgr hq hlt1
          have hkn : k < (bs.length + 7) / 8 := by have := HL.out; have := HS.out; omega
          have O1 := Lib.hid (show w1.ownsRow w.heap.size 5 1 (.slice (some ⟨q, 0, none⟩) (k + 1) cap) (k + 1) (u8s ((pack bs).take (k + 1))) by
            have e : u8s ((pack bs).take (k + 1)) = u8s ((pack bs).take k) ++ [.int .u8 (by8 : Int)] := by
              have hp : k < (pack bs).length := by rw [length_pack]; exact hkn
              rw [List.take_succ_eq_append_getElem hp, u8s_snoc]
              have := getD_pack bs k hkn
              rw [List.getElem?_eq_getElem hp] at this
              injection this with this
              rw [this, HBY.out]
            rw [e]; exact hown)
          have B1 := Lib.hid ((HB.out.alloc HB.out.size (.cells #[.int .u8 (by8 : Int)] 5)).grown hgr (by have := HB.out.size; simp; omega) (fun j e => (HO.out.lt j e).1))
          clear hown hgr hq hlt1
          go_wp2_with fail
          refine ⟨⟨k + 1, s + 8, by have := HS.out; omega, by omega, by go_num, O1.out, B1.out⟩, by simp [intOf]; omega⟩
    · have hkk : k = (pack bs).length := by have h1 := HL.out; have h2 := HS.out; rw [length_pack]; omega
      go_wp2_with fail
      go_ret
      have := HO.out
      rw [List.take_of_length_le (by omega), hkk] at this
      exact ⟨_, rfl, this, HB.out⟩

theorem refBytes_none (w : World) (A : Option Addr) (c : Nat) : Calls Tryd.prog 25 #[.slice A 0 c] w (ToldO w []) := by
  go_enter Tryd.func25, Tryd.ntmps25
  go_wp2_with fail
  go_loop [3, 4] (fun v i => v = .slice none 0 0 ∧ i = .int .i64 0) (fun _ _ => 0)
  case atStart => exact ⟨rfl, rfl⟩
  case round =>
    obtain ⟨rfl, rfl⟩ := hrel
    go_wp2_with fail
    go_ret
    exact ⟨_, rfl, World.ownsRow_nil _ _ _ _, Below.refl _ _⟩

theorem refBytes_own (w : World) (A : Option Addr) (n c : Nat) (bs : List Bool) (hn : n ≤ 33554432) (h : Reads w A n (i64s bs)) : Calls Tryd.prog 25 #[.slice A n c] w (ToldO w bs) := by
  have hl : bs.length = n := by have := h.1; rwa [length_i64s] at this
  by_cases h0 : n = 0
  · subst h0
    have : bs = [] := List.eq_nil_of_length_eq_zero hl
    subst this
    exact refBytes_none w A c
  · obtain ⟨ad, rfl, hc⟩ := h.2 (by omega)
    exact refBytes_some w ad n c bs hn hl hc
theorem refBytes_any (w : World) (A : Option Addr) (n c : Nat) (bs : List Bool) (hn : n ≤ 33554432) (h : Reads w A n (i64s bs)) : Calls Tryd.prog 25 #[.slice A n c] w (Told w bs) := by
  refine (refBytes_own w A n c bs hn h).mono ?_
  rintro e w' ⟨v, rfl, h1, h2⟩
  exact told_of h1 h2
end Go.Proofs.YtjbfgajognnmiaaDoor
