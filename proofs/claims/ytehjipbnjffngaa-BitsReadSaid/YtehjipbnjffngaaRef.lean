/- The document's own answers for layer 1: Value, Bytes, Number, in words of bits. -/
import Derived.Test.YtehjipbnjffngaaItems
namespace Go.Proofs.Ytehjipbnjffngaa
open Go.RowKit

theorem Try.info3 : (Try.prog.info? 3).map (fun i => (i.zero, i.size, i.bytes)) = some (some (.int .i64 0), 1, 8) := by kernel_rfl
/-- Bits as ints. -/
def i64s (bs : List Bool) : List Value := bs.map fun b => Value.int .i64 (b.toNat : Int)
theorem length_i64s (bs : List Bool) : (i64s bs).length = bs.length := by simp [i64s]
theorem i64s_one (bs : List Bool) : ∀ u ∈ i64s bs, u.oneCell' = true := by
  intro u hu
  simp only [i64s, List.mem_map] at hu
  obtain ⟨x, _, rfl⟩ := hu
  rfl
theorem i64s_append (a b : List Bool) : i64s (a ++ b) = i64s a ++ i64s b := by simp [i64s]

/-- The bits of v as they stand when j of n are laid, from the last one on. -/
def half (v n j : Nat) : List Bool := List.replicate (n - j) false ++ (bitsOf v n).drop (n - j)
theorem half_all (v n : Nat) : half v n n = bitsOf v n := by simp [half]
theorem half_zero (v n : Nat) : half v n 0 = List.replicate n false := by simp [half, bitsOf]
theorem length_half (v n j : Nat) : (half v n j).length = n := by simp [half, length_bitsOf]
theorem half_step (v n j : Nat) (h : j < n) : (half v n j).set (n - 1 - j) (v.testBit j) = half v n (j + 1) := by
  unfold half
  have e1 : n - j = (n - (j + 1)) + 1 := by omega
  have hl : (bitsOf v n).length = n := length_bitsOf v n
  have hd : (bitsOf v n).drop (n - (j + 1)) = v.testBit j :: (bitsOf v n).drop (n - j) := by
    rw [List.drop_eq_getElem_cons (by omega), ← e1]
    congr 1
    simp only [bitsOf, List.getElem_map, List.getElem_range]
    congr 1
    omega
  rw [hd, e1, List.replicate_succ', List.append_assoc]
  rw [List.set_append_right _ _ (by simp; omega)]
  have : n - 1 - j - (List.replicate (n - (j + 1)) false).length = 0 := by simp; omega
  rw [this]
  simp

theorem low_bit (v j : Nat) : wrap64 (((v : Int) / 2 ^ j).tmod 2) = ((v.testBit j).toNat : Int) := by
  rw [div_cast, Nat.toNat_testBit]
  generalize v / 2 ^ j = q
  rw [show (2 : Int) = ((2 : Nat) : Int) from rfl, ← Int.ofNat_tmod]
  unfold wrap64
  omega

def ValueAt (w : World) (v n : Nat) (x i : Value) (wr : World) : Prop :=
  ∃ j : Nat, j ≤ n ∧ i = .int .i64 ((n : Int) - 1 - j) ∧ x = .int .u64 (v / 2 ^ j : Nat) ∧ wr.heap[w.heap.size]? = some (.cells (i64s (half v n j)).toArray 3 (0, 0)) ∧ Below w.heap.size w wr

set_option maxHeartbeats 1600000 in
theorem refValue_any (w : World) (v n : Nat) (hn : n ≤ 64) (hv : v < 18446744073709551616) :
    Calls Try.prog 13 #[.int .u64 v, .int .i64 n] w fun e w' => e = .returned (.slice (some ⟨w.heap.size, 0, none⟩) n n) ∧ w'.heap[w.heap.size]? = some (.cells (i64s (bitsOf v n)).toArray 3 (0, 0)) ∧ Below w.heap.size w w' := by
  have hmk := fun W => run_make_row' (P := Try.prog) 27 3 (.int .i64 0) 8 Try.underlying27 Try.info3 rfl .i64 .i64 n (by omega) (by omega) W
  have R0 := Lib.hid (show (w.alloc (.cells (madeCells #[.int .i64 0] n) 3)).heap[w.heap.size]? = some (.cells (i64s (half v n 0)).toArray 3 (0, 0)) by
    rw [heap_alloc_new, half_zero]
    congr 2
    apply Array.ext'
    rw [toList_madeCells_one]; simp [i64s])
  have B0 := Lib.hid (show Below w.heap.size w (w.alloc (.cells (madeCells #[.int .i64 0] n) 3)) from (Below.refl _ _).alloc (Nat.le_refl _) _)
  go_enter Try.func13, Try.ntmps13
  go_wp2_with fail
  clear hmk
  go_loopw [0, 6] (ValueAt w v n) (fun _ i _ => (intOf i + 1).toNat)
  case atStart => exact ⟨0, Nat.zero_le _, by simp, by simp, R0.out, B0.out⟩
  case round =>
    obtain ⟨j, hj, rfl, rfl, hr, hb⟩ := hrel
    by_cases hjn : j < n
    · have t0 : (0 : Int) ≤ (n : Int) - 1 - j := by omega
      have hl := length_half v n j
      obtain ⟨old, c0⟩ : ∃ old : Int, wr.cell? ⟨w.heap.size, n - 1 - j, none⟩ = some (.int .i64 old) := by
        have hlt : n - 1 - j < (half v n j).length := by omega
        exact ⟨((half v n j)[n - 1 - j].toNat : Int), by rw [cell_in hr]; simp [i64s, List.getElem?_eq_getElem hlt]⟩
      have f0 := frozen_in hr (n - 1 - j)
      have HR := Lib.hid hr
      have HB := Lib.hid hb
      clear hr hb
      have t1 : (n : Int) - 1 - j < n := by omega
      go_wp2_with fail
      refine ⟨⟨j + 1, by omega, by congr 1; omega, ?_, ?_, ?_⟩, by simp [intOf]; omega⟩
      · rw [halve v j hv]
      · rw [low_bit v j, heap_set HR.out, ← half_step v n j hjn]; simp [i64s, List.map_set]
      · exact HB.out.setCell (Nat.le_refl _) _
    · have t0 : ¬ (0 : Int) ≤ (n : Int) - 1 - j := by omega
      have hjn' : j = n := by omega
      rw [hjn', half_all] at hr
      have HR := Lib.hid hr
      have HB := Lib.hid hb
      clear hr hb
      go_wp2
      go_ret
      exact ⟨rfl, HR.out, HB.out⟩

/-- The number that the first k bits of byte i make. -/
def part (bs : List Bool) (i k : Nat) : Nat := num ((List.range k).map fun j => bs.getD (8 * i + j) false)
theorem part_zero (bs : List Bool) (i : Nat) : part bs i 0 = 0 := rfl
theorem part_eight (bs : List Bool) (i : Nat) : part bs i 8 = byteAt bs i := rfl
theorem part_succ (bs : List Bool) (i k : Nat) : part bs i (k + 1) = 2 * part bs i k + (bs.getD (8 * i + k) false).toNat := by
  unfold part
  rw [List.range_succ, List.map_append, List.map_singleton, num_snoc]
theorem part_lt (bs : List Bool) (i k : Nat) (h : k ≤ 8) : part bs i k < 256 := by
  have h1 := num_lt ((List.range k).map fun j => bs.getD (8 * i + j) false)
  have h2 : 2 ^ ((List.range k).map fun j => bs.getD (8 * i + j) false).length ≤ 2 ^ 8 := Nat.pow_le_pow_right (by omega) (by simpa using h)
  unfold part; omega

/-- A slice of ints that reads as bits (nil let in), by its own cells. -/
def BitRow (w : World) (A : Option Addr) (n : Nat) (bs : List Bool) : Prop := Reads w A n (i64s bs)

def BytesAt (w : World) (bs : List Bool) (v i : Value) (wr : World) : Prop :=
  ∃ k s : Nat, s = 8 * k ∧ k ≤ (bs.length + 7) / 8 ∧ i = .int .i64 s ∧ wr.ownsRow w.heap.size 5 1 v k (u8s ((pack bs).take k)) ∧ Below w.heap.size w wr
def InAt (bs : List Bool) (i : Nat) (x k : Value) : Prop := ∃ j : Nat, j ≤ 8 ∧ k = .int .i64 j ∧ x = .int .i64 (part bs i j : Nat)

def Told (w : World) (bs : List Bool) (e : Ending) (w' : World) : Prop :=
  ∃ A c, e = .returned (.slice A (pack bs).length c) ∧ Reads w' A (pack bs).length (u8s (pack bs)) ∧ Below w.heap.size w w'

theorem reads_own {w : World} {base : Nat} {e : TypeId} {v : Value} {n : Nat} {xs : List Value} (h : w.ownsRow base e 1 v n xs) : ∃ A c, v = .slice A n c ∧ Reads w A n xs := by
  have hl : xs.length = n := by have := h.1; omega
  rcases h.2 with ⟨h1, h2⟩ | ⟨q, cap, cur, rfl, _⟩
  · exact ⟨none, 0, by rw [h1, h2], hl, fun hn => absurd hn (by omega)⟩
  · exact ⟨_, _, rfl, hl, fun _ => ⟨_, rfl, h.cells rfl⟩⟩
theorem told_of {w w' : World} {bs : List Bool} {v : Value} (h : w'.ownsRow w.heap.size 5 1 v (pack bs).length (u8s (pack bs))) (hb : Below w.heap.size w w') : Told w bs (.returned v) w' := by
  obtain ⟨A, c, rfl, hr⟩ := reads_own h
  exact ⟨A, c, rfl, hr, hb⟩

set_option maxHeartbeats 1600000 in
theorem refBytes_some (w : World) (ad : Addr) (n c : Nat) (bs : List Bool) (hn : n ≤ 33554432) (hl : bs.length = n) (hr : ∀ j u, (i64s bs)[j]? = some u → w.cell? (ad.add j) = some u) :
    Calls Try.prog 18 #[.slice (some ad) n c] w (Told w bs) := by
  obtain ⟨i0, hi, hz0, hz1, hz2⟩ := info_parts Try.info5
  have HL := Lib.hid hl
  have HR := Lib.hid hr
  have HI := Lib.hid hi
  have HZ := Lib.hid (And.intro hz0 (And.intro hz1 hz2))
  clear hl hr hi hz0 hz1 hz2
  go_enter Try.func18, Try.ntmps18
  go_wp2_with fail
  go_loopw [3, 4] (BytesAt w bs) (fun _ i _ => n + 8 - (intOf i).toNat)
  case atStart => exact ⟨0, 0, rfl, Nat.zero_le _, rfl, World.ownsRow_nil _ _ _ _, Below.refl _ _⟩
  case round =>
    obtain ⟨k, s, hs, hk, rfl, how, hb⟩ := hrel
    have HO := Lib.hid how
    have HB := Lib.hid hb
    have HS := Lib.hid hs
    clear how hb hs
    by_cases hlt : s < n
    · have t0 : (s : Int) < n := by omega
      have H8 := Lib.hid hk
      clear hk
      go_wp2_with fail
      go_loop [5, 6] (InAt bs k) (fun _ i => 8 - (intOf i).toNat)
      case atStart => exact ⟨0, by omega, rfl, rfl⟩
      case round =>
        obtain ⟨j, hj, rfl, rfl⟩ := hrel
        have hpl := part_lt bs k j hj
        have PS := Lib.hid (part_succ bs k j)
        by_cases hj8 : j < 8
        · by_cases hin : s + j < n
          · have hbl : s + j < bs.length := by rw [HL.out]; exact hin
            have c0 := HR.out (s + j) (.int .i64 ((bs.getD (s + j) false).toNat : Int)) (by simp [i64s, List.getElem?_eq_getElem hbl])
            have d0 := (HB.out.cell (World.block_lt_of_cell? w _ c0)).trans c0
            have hb1 := bit_le (bs.getD (s + j) false)
            have HE := Lib.hid (show 8 * k + j = s + j by rw [HS.out])
            generalize part bs k j = x at *
            generalize hbit : (bs.getD (s + j) false).toNat = bit at *
            have HBT := Lib.hid hbit
            clear c0 hbit hbl
            have t1 : (s : Int) + j < n := by omega
            go_wp2_with fail
            refine ⟨⟨j + 1, by omega, by go_num, ?_⟩, by simp [intOf]; omega⟩
            rw [PS.out, HE.out, HBT.out]; go_num
          · have hz : bs.getD (8 * k + j) false = false := getD_over bs _ (by rw [HL.out, ← HS.out]; omega)
            have PZ := Lib.hid (show part bs k (j + 1) = 2 * part bs k j by rw [PS.out, hz]; rfl)
            clear hz
            generalize part bs k j = x at *
            have t1 : ¬ (s : Int) + j < n := by omega
            go_wp2_with fail
            refine ⟨⟨j + 1, by omega, by go_num, ?_⟩, by simp [intOf]; omega⟩
            rw [PZ.out]; go_num
        · have hj' : j = 8 := by omega
          subst hj'
          rw [part_eight]
          have hbt := byteAt_lt bs k
          generalize hby : byteAt bs k = by8 at *
          have HBY := Lib.hid hby
          clear hby
          go_wp2_with (at_builtin; refine wpList_append_lies _ rfl (.tmp 33) (.tmp 36) 24 rfl w.heap.size 5 i0 (.int .u8 0) 1 1 Try.underlying24 HI.out HZ.out.1 HZ.out.2.1 HZ.out.2.2 rfl (by decide) u3 k (u8s ((pack bs).take k)) rfl (HO.out.alloc _) ⟨wr.heap.size, 0, none⟩ 1 1 [.int .u8 (by8 : Int)] rfl rfl (cell_one_new _ _ _) ?c2 (by decide) ?b1 ?b2 ?b3 (wr.heap.size + 1) ?b4 ?_)
          case c2 => rfl
          case b1 => have := H8.out; have := HL.out; unfold maxLen; omega
          case b2 => have := H8.out; have := HL.out; omega
          case b3 => have := HB.out.size; simp; omega
          intro q cap w1 hown hgr hq hlt1
          have hkn : k < (bs.length + 7) / 8 := by have := HL.out; have := HS.out; omega
          have O1 := Lib.hid (show w1.ownsRow w.heap.size 5 1 (.slice (some ⟨q, 0, none⟩) (k + 1) cap) (k + 1) (u8s ((pack bs).take (k + 1))) by
            have e : u8s ((pack bs).take (k + 1)) = u8s ((pack bs).take k) ++ [.int .u8 (by8 : Int)] := by
              have hp : k < (pack bs).length := by rw [length_pack]; exact hkn
              rw [List.take_succ_eq_append_getElem hp, u8s_snoc]
              have := getD_pack bs k hkn
              rw [List.getElem?_eq_getElem hp] at this
              injection this with this
              rw [this, HBY.out]
            rw [e]; exact hown)
          have B1 := Lib.hid ((HB.out.alloc HB.out.size (.cells #[.int .u8 (by8 : Int)] 5)).grown hgr (by have := HB.out.size; simp; omega) (fun j e => (HO.out.lt j e).1))
          clear hown hgr hq hlt1
          go_wp2_with fail
          refine ⟨⟨k + 1, s + 8, by have := HS.out; omega, by omega, by go_num, O1.out, B1.out⟩, by simp [intOf]; omega⟩
    · have hkk : k = (pack bs).length := by have h1 := HL.out; have h2 := HS.out; rw [length_pack]; omega
      go_wp2_with fail
      go_ret
      refine told_of ?_ HB.out
      have := HO.out
      rwa [List.take_of_length_le (by omega), hkk] at this

theorem refBytes_none (w : World) (A : Option Addr) (c : Nat) : Calls Try.prog 18 #[.slice A 0 c] w (Told w []) := by
  go_enter Try.func18, Try.ntmps18
  go_wp2_with fail
  go_loop [3, 4] (fun v i => v = .slice none 0 0 ∧ i = .int .i64 0) (fun _ _ => 0)
  case atStart => exact ⟨rfl, rfl⟩
  case round =>
    obtain ⟨rfl, rfl⟩ := hrel
    go_wp2_with fail
    go_ret
    exact told_of (World.ownsRow_nil _ _ _ _) (Below.refl _ _)

theorem refBytes_any (w : World) (A : Option Addr) (n c : Nat) (bs : List Bool) (hn : n ≤ 33554432) (h : Reads w A n (i64s bs)) : Calls Try.prog 18 #[.slice A n c] w (Told w bs) := by
  have hl : bs.length = n := by have := h.1; rwa [length_i64s] at this
  by_cases h0 : n = 0
  · subst h0
    have : bs = [] := List.eq_nil_of_length_eq_zero hl
    subst this
    exact refBytes_none w A c
  · obtain ⟨ad, rfl, hc⟩ := h.2 (by omega)
    exact refBytes_some w ad n c bs hn hl hc
end Go.Proofs.Ytehjipbnjffngaa
