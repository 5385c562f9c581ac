/- The document's own answers for layer 1, continued: All, Number. -/
import Derived.Test.YtehjipbnjffngaaRef
namespace Go.Proofs.Ytehjipbnjffngaa
open Go.RowKit

/-- All bits of bytes. -/
def allBits (xs : List Nat) : List Bool := xs.flatMap fun x => bitsOf x 8
theorem allBits_snoc (xs : List Nat) (x : Nat) : allBits (xs ++ [x]) = allBits xs ++ bitsOf x 8 := by simp [allBits]
theorem length_allBits (xs : List Nat) : (allBits xs).length = 8 * xs.length := by
  induction xs with
  | nil => rfl
  | cons x xs ih =>
    have : allBits (x :: xs) = bitsOf x 8 ++ allBits xs := by simp [allBits]
    rw [this, List.length_append, length_bitsOf, ih, List.length_cons]; omega
theorem getD_allBits : ∀ (xs : List Nat) (i : Nat), i < 8 * xs.length → (allBits xs).getD i false = (xs.getD (i / 8) 0).testBit (7 - i % 8)
  | [], i, h => by simp at h
  | x :: xs, i, h => by
    have e : allBits (x :: xs) = bitsOf x 8 ++ allBits xs := by simp [allBits]
    have hl := length_bitsOf x 8
    rw [e, List.getD_eq_getElem?_getD, List.getElem?_append, hl]
    by_cases h8 : i < 8
    · rw [if_pos h8, show i / 8 = 0 by omega, show i % 8 = i by omega]
      simp [bitsOf, h8]
    · rw [if_neg h8]
      have ih := getD_allBits xs (i - 8) (by simp at h; omega)
      rw [List.getD_eq_getElem?_getD] at ih
      rw [ih, show i / 8 = (i - 8) / 8 + 1 by omega, show i % 8 = (i - 8) % 8 by omega]
      rfl
theorem take_allBits (xs : List Nat) (m : Nat) (h : m ≤ 8 * xs.length) : (allBits xs).take m = unpack xs m := by
  apply List.ext_getElem?
  intro i
  by_cases hi : i < m
  · have h1 := getD_allBits xs i (by omega)
    have hlt : i < (allBits xs).length := by rw [length_allBits]; omega
    have h2 := getD_unpack xs m i
    rw [if_pos hi] at h2
    have hlu : i < (unpack xs m).length := by rw [length_unpack]; exact hi
    rw [List.getElem?_take, if_pos hi, List.getElem?_eq_getElem hlt, List.getElem?_eq_getElem hlu]
    rw [List.getD_eq_getElem?_getD, List.getElem?_eq_getElem hlt] at h1
    rw [List.getD_eq_getElem?_getD, List.getElem?_eq_getElem hlu] at h2
    simp at h1 h2
    rw [h1, h2]
  · rw [List.getElem?_eq_none (by simp; omega), List.getElem?_eq_none (by rw [length_unpack]; omega)]

theorem bit_low (x u i : Nat) (h : x % 2 ^ (8 - u) = 0) (hi : u ≤ i) (h8 : i < 8) : x.testBit (7 - i) = false := by
  have h1 := Nat.testBit_mod_two_pow x (8 - u) (7 - i)
  rw [h] at h1
  simp at h1
  exact h1 (by omega)
/-- The bits behind the first m are noughts just if the last byte's are. -/
theorem tail_noughts (xs : List Nat) (m : Nat) (hl : xs.length = (m + 7) / 8) (h : m % 8 = 0 ∨ xs.getD (m / 8) 0 * 2 ^ (m % 8) % 256 = 0) (i : Nat) (h1 : m ≤ i) (h2 : i < 8 * xs.length) : (allBits xs).getD i false = false := by
  rw [getD_allBits xs i h2]
  rcases h with h | h
  · omega
  · have e : i / 8 = m / 8 := by omega
    rw [e]
    exact bit_low _ (m % 8) (i % 8) ((shift_out _ _ (by omega)).1 h) (by omega) (by omega)
theorem tail_one (xs : List Nat) (m : Nat) (hl : xs.length = (m + 7) / 8) (hu : m % 8 ≠ 0) (h : xs.getD (m / 8) 0 * 2 ^ (m % 8) % 256 ≠ 0) : ∃ i, m ≤ i ∧ i < 8 * xs.length ∧ (allBits xs).getD i false = true := by
  have h' : xs.getD (m / 8) 0 % 2 ^ (8 - m % 8) ≠ 0 := fun e => h ((shift_out _ _ (by omega)).2 e)
  generalize hx : xs.getD (m / 8) 0 = x at *
  have hex : ∃ j, j < 8 - m % 8 ∧ x.testBit j = true := by
    apply Classical.byContradiction
    intro hno
    apply h'
    apply Nat.eq_of_testBit_eq
    intro j
    rw [Nat.testBit_mod_two_pow]
    by_cases hj : j < 8 - m % 8
    · have : x.testBit j = false := by
        cases hb : x.testBit j
        · rfl
        · exact absurd ⟨j, hj, hb⟩ hno
      simp [this]
    · simp [hj]
  obtain ⟨j, hj, hb⟩ := hex
  refine ⟨8 * (m / 8) + (7 - j), by omega, by omega, ?_⟩
  rw [getD_allBits _ _ (by omega), show (8 * (m / 8) + (7 - j)) / 8 = m / 8 by omega, show 7 - (8 * (m / 8) + (7 - j)) % 8 = j by omega, hx]
  exact hb

def AllAt (w : World) (xs : List Nat) (n : Nat) (v i : Value) (wr : World) : Prop :=
  ∃ k : Nat, k ≤ n ∧ i = .int .i64 k ∧ wr.ownsRow w.heap.size 3 1 v (8 * k) (i64s (allBits (xs.take k))) ∧ Below w.heap.size w wr
/-- A row of ints has been made that reads as bits. -/
def Bits (w : World) (bs : List Bool) (e : Ending) (w' : World) : Prop :=
  ∃ v, e = .returned v ∧ w'.ownsRow w.heap.size 3 1 v bs.length (i64s bs) ∧ Below w.heap.size w w'

set_option maxHeartbeats 1600000 in
theorem refAll_some (w : World) (ad : Addr) (n c : Nat) (xs : List Nat) (hn : n ≤ 120) (hx : ∀ x ∈ xs, x < 256) (hl : xs.length = n) (hr : ∀ j u, (u8s xs)[j]? = some u → w.cell? (ad.add j) = some u) :
    Calls Try.prog 31 #[.slice (some ad) n c] w (Bits w (allBits xs)) := by
  obtain ⟨i0, hi, hz0, hz1, hz2⟩ := info_parts Try.info3
  have HL := Lib.hid hl
  have HR := Lib.hid hr
  have HX := Lib.hid hx
  have HI := Lib.hid hi
  have HZ := Lib.hid (And.intro hz0 (And.intro hz1 hz2))
  clear hl hr hi hz0 hz1 hz2 hx
  go_enter Try.func31, Try.ntmps31
  go_wp2_with fail
  go_loopw [3, 4] (AllAt w xs n) (fun _ i _ => n - (intOf i).toNat)
  case atStart => exact ⟨0, Nat.zero_le _, rfl, World.ownsRow_nil _ _ _ _, Below.refl _ _⟩
  case round =>
    obtain ⟨k, hk, rfl, how, hb⟩ := hrel
    have HO := Lib.hid how
    have HB := Lib.hid hb
    clear how hb
    by_cases hlt : k < n
    · have hkl : k < xs.length := by rw [HL.out]; exact hlt
      have c0 := HR.out k (.int .u8 (xs[k] : Nat)) (by simp [u8s, List.getElem?_eq_getElem hkl])
      have d0 := (HB.out.cell (World.block_lt_of_cell? w _ c0)).trans c0
      have h256 := HX.out xs[k] (List.getElem_mem hkl)
      have HK := Lib.hid (List.take_succ_eq_append_getElem hkl)
      generalize xs[k] = x at *
      have t0 : (k : Int) < n := by omega
      clear c0
      go_wp2_with fail
      refine (refValue_any wr x 8 (by omega) (by omega)).mono ?_
      rintro e wv ⟨rfl, hrv, hbv⟩
      have NW := Lib.hid (show ∀ j u, (i64s (bitsOf x 8))[j]? = some u → wv.cell? ((⟨wr.heap.size, 0, none⟩ : Addr).add j) = some u from fun j u hj => World.news_of_block hrv j u (by simpa using hj))
      have OV := Lib.hid (show wv.ownsRow w.heap.size 3 1 u3 (8 * k) (i64s (allBits (xs.take k))) from ⟨HO.out.1, by
        rcases HO.out.2 with h2 | ⟨q, cap, cur, rfl, hq, hh, rest⟩
        · exact .inl h2
        · exact .inr ⟨q, cap, cur, rfl, hq, (hbv.block q (heap_lt hh)).trans hh, rest⟩⟩)
      have BV := Lib.hid (HB.out.trans (hbv.mono HB.out.size))
      clear hrv hbv d0
      go_wp2_with (at_builtin; refine wpList_append_own _ rfl (.tmp 11) (.tmp 17) 27 rfl w.heap.size 3 i0 (.int .i64 0) 1 8 Try.underlying27 HI.out HZ.out.1 HZ.out.2.1 HZ.out.2.2 rfl (by decide) u3 (8 * k) (i64s (allBits (xs.take k))) rfl OV.out ⟨wr.heap.size, 0, none⟩ 8 8 (i64s (bitsOf x 8)) rfl ?c0 ?c1 (i64s_one _) ?b1 ?b2 BV.out.size ?_)
      case c0 => rw [length_i64s, length_bitsOf]
      case c1 => exact NW.out
      case b1 => unfold maxLen; omega
      case b2 => omega
      intro v' wa hown hgr _
      have O1 := Lib.hid (show wa.ownsRow w.heap.size 3 1 v' (8 * (k + 1)) (i64s (allBits (xs.take (k + 1)))) by
        rw [HK.out, allBits_snoc, i64s_append]; exact hown)
      have B1 := Lib.hid (BV.out.grown hgr BV.out.size (fun j e => (OV.out.lt j e).1))
      clear hown hgr
      go_wp2_with fail
      exact ⟨⟨k + 1, by omega, by go_num, O1.out, B1.out⟩, by simp [intOf]; omega⟩
    · have HE := Lib.hid (show wr.ownsRow w.heap.size 3 1 u3 (allBits xs).length (i64s (allBits xs)) by
        have := HO.out
        rw [List.take_of_length_le (by rw [HL.out]; omega)] at this
        rw [length_allBits, HL.out, show n = k by omega]; exact this)
      go_wp2_with fail
      go_ret
      exact ⟨_, rfl, HE.out, HB.out⟩

theorem refAll_none (w : World) (A : Option Addr) (c : Nat) : Calls Try.prog 31 #[.slice A 0 c] w (Bits w []) := by
  go_enter Try.func31, Try.ntmps31
  go_wp2_with fail
  go_loop [3, 4] (fun v i => v = .slice none 0 0 ∧ i = .int .i64 0) (fun _ _ => 0)
  case atStart => exact ⟨rfl, rfl⟩
  case round =>
    obtain ⟨rfl, rfl⟩ := hrel
    go_wp2_with fail
    go_ret
    exact ⟨_, rfl, World.ownsRow_nil _ _ _ _, Below.refl _ _⟩

theorem refAll_any (w : World) (A : Option Addr) (n c : Nat) (xs : List Nat) (hn : n ≤ 120) (hx : ∀ x ∈ xs, x < 256) (h : Reads w A n (u8s xs)) : Calls Try.prog 31 #[.slice A n c] w (Bits w (allBits xs)) := by
  have hl : xs.length = n := by have := h.1; rwa [length_u8s] at this
  by_cases h0 : n = 0
  · subst h0
    have : xs = [] := List.eq_nil_of_length_eq_zero hl
    subst this
    exact refAll_none w A c
  · obtain ⟨ad, rfl, hc⟩ := h.2 (by omega)
    exact refAll_some w ad n c xs hn hx hl hc

def NumAt (bs : List Bool) (n : Nat) (x i : Value) : Prop := ∃ k : Nat, k ≤ n ∧ i = .int .i64 k ∧ x = .int .u64 (num (bs.take k) : Nat)

theorem refNumber_some (w : World) (ad : Addr) (n c : Nat) (bs : List Bool) (hn : n ≤ 64) (hl : bs.length = n) (hr : ∀ j u, (i64s bs)[j]? = some u → w.cell? (ad.add j) = some u) :
    Calls Try.prog 22 #[.slice (some ad) n c] w fun e w' => e = .returned (.int .u64 (num bs : Nat)) ∧ w = w' := by
  have HL := Lib.hid hl
  have HR := Lib.hid hr
  clear hl hr
  go_enter Try.func22, Try.ntmps22
  go_wp2_with fail
  go_loop [3, 4] (NumAt bs n) (fun _ i => n - (intOf i).toNat)
  case atStart => exact ⟨0, Nat.zero_le _, rfl, rfl⟩
  case round =>
    obtain ⟨k, hk, rfl, rfl⟩ := hrel
    by_cases hlt : k < n
    · have hkl : k < bs.length := by rw [HL.out]; exact hlt
      have d0 := HR.out k (.int .i64 (bs[k].toNat : Int)) (by simp [i64s, List.getElem?_eq_getElem hkl])
      have hb := bit_le bs[k]
      have HN := Lib.hid (show num (bs.take (k + 1)) = 2 * num (bs.take k) + bs[k].toNat by rw [List.take_succ_eq_append_getElem hkl, num_snoc])
      have hx : num (bs.take k) < 9223372036854775808 := by
        have h1 := num_lt (bs.take k)
        have h2 : 2 ^ (bs.take k).length ≤ 2 ^ 63 := Nat.pow_le_pow_right (by omega) (by simp; omega)
        omega
      generalize bs[k].toNat = bit at *
      generalize num (bs.take k) = x at *
      have t0 : (k : Int) < n := by omega
      go_wp2_with fail
      refine ⟨⟨k + 1, by omega, by go_num, ?_⟩, by simp [intOf]; omega⟩
      rw [HN.out]; go_num
    · have HE := Lib.hid (show bs.take k = bs from List.take_of_length_le (by rw [HL.out]; omega))
      go_wp2_with fail
      go_ret
      exact ⟨congrArg (fun b => Ending.returned (.int .u64 (num b : Nat))) HE.out, rfl⟩

theorem refNumber_none (w : World) (A : Option Addr) (c : Nat) : Calls Try.prog 22 #[.slice A 0 c] w fun e w' => e = .returned (.int .u64 0) ∧ w = w' := by
  go_enter Try.func22, Try.ntmps22
  go_wp2_with fail
  go_loop [3, 4] (fun x i => x = .int .u64 0 ∧ i = .int .i64 0) (fun _ _ => 0)
  case atStart => exact ⟨rfl, rfl⟩
  case round =>
    obtain ⟨rfl, rfl⟩ := hrel
    go_wp2_with fail
    go_ret
    exact ⟨rfl, rfl⟩
theorem refNumber_any (w : World) (A : Option Addr) (n c : Nat) (bs : List Bool) (hn : n ≤ 64) (h : Reads w A n (i64s bs)) : Calls Try.prog 22 #[.slice A n c] w fun e w' => e = .returned (.int .u64 (num bs : Nat)) ∧ w = w' := by
  have hl : bs.length = n := by have := h.1; rwa [length_i64s] at this
  by_cases h0 : n = 0
  · subst h0
    have : bs = [] := List.eq_nil_of_length_eq_zero hl
    subst this
    exact refNumber_none w A c
  · obtain ⟨ad, rfl, hc⟩ := h.2 (by omega)
    exact refNumber_some w ad n c bs hn hl hc

theorem open_range (w : World) (A : Option Addr) (n c : Nat) (m : Int) (h : m < 0 ∨ 33554432 < m) :
    Calls Try.prog 20 #[.slice A n c, .int .i64 m] w fun e w' => e = .returned (.tuple #[.slice none 0 0, .int .i64 2]) ∧ w = w' := by
  rcases h with h | h
  · go_enter Try.func20, Try.ntmps20
    go_wp2_with fail
    go_ret2
    exact ⟨rfl, rfl⟩
  · have h0 : ¬ m < 0 := by omega
    go_enter Try.func20, Try.ntmps20
    go_wp2_with fail
    go_ret2
    exact ⟨rfl, rfl⟩
theorem open_end (w : World) (A : Option Addr) (n c m : Nat) (hm : m ≤ 33554432) (hn : n ≤ 120) (h : 8 * n < m) :
    Calls Try.prog 20 #[.slice A n c, .int .i64 m] w fun e w' => e = .returned (.tuple #[.slice none 0 0, .int .i64 4]) ∧ w = w' := by
  have h0 : ¬ (m : Int) < 0 := by omega
  have h1 : ¬ (33554432 : Int) < m := by omega
  have h2 : 8 * (n : Int) < m := by omega
  clear h
  go_enter Try.func20, Try.ntmps20
  go_wp2_with fail
  go_ret2
  exact ⟨rfl, rfl⟩
theorem open_more (w : World) (A : Option Addr) (n c m : Nat) (hm : m ≤ 33554432) (hn : n ≤ 120) (h : m + 8 ≤ 8 * n) :
    Calls Try.prog 20 #[.slice A n c, .int .i64 m] w fun e w' => e = .returned (.tuple #[.slice none 0 0, .int .i64 5]) ∧ w = w' := by
  have h0 : ¬ (m : Int) < 0 := by omega
  have h1 : ¬ (33554432 : Int) < m := by omega
  have h2 : ¬ 8 * (n : Int) < m := by omega
  have h3 : (m : Int) + 8 ≤ 8 * (n : Int) := by omega
  clear h
  go_enter Try.func20, Try.ntmps20
  go_wp2_with fail
  go_ret2
  exact ⟨rfl, rfl⟩

theorem slice_head (A : Option Addr) (N c m : Nat) (hN : m ≤ c) (hA : A = none ∨ ∃ q, A = some ⟨q, 0, none⟩) (W : World) :
    (Instr.slice 27 (.slice A N c) none (some (.int .i64 (m : Int))) none).run Try.prog W = .ok (.slice A m c) W := by
  rw [run_slice_h (P := Try.prog) W 27 A N c (by kernel_rfl) .i64 m (by omega) (by omega)]
  rcases hA with rfl | ⟨q, rfl⟩
  · have : (sizeOf (Try.prog.elem 27)).run Try.prog W = .ok 1 W := by kernel_rfl
    rw [this]; simp [sliced]
  · have : (sizeOf (Try.prog.elem 27)).run Try.prog W = .ok 1 W := by kernel_rfl
    rw [this]; simp [sliced, Addr.add]

def OpenAt (m i0 : Nat) (i : Value) : Prop := ∃ k : Nat, m ≤ k ∧ k ≤ i0 ∧ i = .int .i64 k

/-- The bits are refused: one behind the first m is no nought. -/
theorem open_form (w : World) (A : Option Addr) (n c m i0 : Nat) (xs : List Nat) (hn : n ≤ 120) (hx : ∀ x ∈ xs, x < 256) (h : Reads w A n (u8s xs)) (h0 : 8 * n < m + 8) (h1 : m ≤ i0) (h2 : i0 < 8 * n) (hb : (allBits xs).getD i0 false = true) :
    Calls Try.prog 20 #[.slice A n c, .int .i64 m] w fun e w' => e = .returned (.tuple #[.slice none 0 0, .int .i64 3]) ∧ Below w.heap.size w w' := by
  have hl : xs.length = n := by have := h.1; rwa [length_u8s] at this
  have HC := Lib.hid (refAll_any w A n c xs hn hx h)
  have HB := Lib.hid hb
  have HL := Lib.hid (show (allBits xs).length = 8 * n by rw [length_allBits, hl])
  have e0 : ¬ (m : Int) < 0 := by omega
  have e1 : ¬ (33554432 : Int) < m := by omega
  have e2 : ¬ 8 * (n : Int) < m := by omega
  have e3 : ¬ (m : Int) + 8 ≤ 8 * (n : Int) := by omega
  clear h hx hb hl
  go_enter Try.func20, Try.ntmps20
  go_wp2_with fail
  refine HC.out.mono ?_
  rintro e w1 ⟨v, rfl, hv, b1⟩
  have hg : ∃ q cap, v = .slice (some ⟨q, 0, none⟩) (allBits xs).length cap := by
    obtain ⟨q, cap, hq, _⟩ := hv.form (by rw [HL.out]; omega)
    exact ⟨q, cap, hq⟩
  obtain ⟨q, cap, rfl⟩ := hg
  have HV := Lib.hid hv
  clear hv
  rw [HL.out]
  have t8 : ((8 * n : Nat) : Int) = 8 * (n : Int) := by omega
  generalize hN : 8 * n = N at *
  have HN := Lib.hid hN
  clear t8 hN
  go_wp2_with fail
  go_loop [7] (OpenAt m i0) (fun i => N - (intOf i).toNat)
  case atStart => exact ⟨m, Nat.le_refl _, h1, rfl⟩
  case round =>
    obtain ⟨k, hk1, hk2, rfl⟩ := hrel
    have hkl : k < (allBits xs).length := by rw [HL.out]; omega
    have d0 : w1.cell? ⟨q, k, none⟩ = some (.int .i64 (((allBits xs).getD k false).toNat : Int)) := by
      have hv := HV.out
      rw [hv.cellAt k (by omega)]
      simp [i64s, List.getElem?_eq_getElem hkl]
    have t0 : (k : Int) < N := by omega
    by_cases hki : k = i0
    · subst hki
      rw [HB.out] at d0
      have d1 : w1.cell? ⟨q, k, none⟩ = some (.int .i64 1) := d0
      clear d0
      go_wp2_with fail
      go_ret2
      exact ⟨rfl, b1⟩
    · cases hbit : (allBits xs).getD k false
      · rw [hbit] at d0
        have d1 : w1.cell? ⟨q, k, none⟩ = some (.int .i64 0) := d0
        clear d0 hbit
        go_wp2_with fail
        exact ⟨⟨k + 1, by omega, by omega, by go_num⟩, by simp [intOf]; omega⟩
      · rw [hbit] at d0
        have d1 : w1.cell? ⟨q, k, none⟩ = some (.int .i64 1) := d0
        clear d0 hbit
        go_wp2_with fail
        go_ret2
        exact ⟨rfl, b1⟩

/-- The bits are taken: their list is the head of all bits of the bytes. -/
def Opened2 (w : World) (xs : List Nat) (m : Nat) (e : Ending) (w' : World) : Prop :=
  ∃ A c, e = .returned (.tuple #[.slice A m c, .int .i64 0]) ∧ w'.ownsRow w.heap.size 3 1 (.slice A (allBits xs).length c) (allBits xs).length (i64s (allBits xs)) ∧ Below w.heap.size w w'

theorem open_ok (w : World) (A : Option Addr) (n c m : Nat) (xs : List Nat) (hn : n ≤ 120) (hx : ∀ x ∈ xs, x < 256) (h : Reads w A n (u8s xs)) (h0 : 8 * n < m + 8) (h1 : m ≤ 8 * n) (hb : ∀ i, m ≤ i → i < 8 * n → (allBits xs).getD i false = false) :
    Calls Try.prog 20 #[.slice A n c, .int .i64 m] w (Opened2 w xs m) := by
  have hl : xs.length = n := by have := h.1; rwa [length_u8s] at this
  have HC := Lib.hid (refAll_any w A n c xs hn hx h)
  have HB := Lib.hid hb
  have HL := Lib.hid (show (allBits xs).length = 8 * n by rw [length_allBits, hl])
  have e0 : ¬ (m : Int) < 0 := by omega
  have e1 : ¬ (33554432 : Int) < m := by omega
  have e2 : ¬ 8 * (n : Int) < m := by omega
  have e3 : ¬ (m : Int) + 8 ≤ 8 * (n : Int) := by omega
  clear h hx hb hl
  go_enter Try.func20, Try.ntmps20
  go_wp2_with fail
  refine HC.out.mono ?_
  rintro e w1 ⟨v, rfl, hv, b1⟩
  have hg : ∃ A' cap, v = .slice A' (allBits xs).length cap ∧ (allBits xs).length ≤ cap ∧ (A' = none ∨ ∃ q, A' = some ⟨q, 0, none⟩) := by
    rcases hv.2 with ⟨r1, r2⟩ | ⟨q, cap, cur, r1, _, _, r2, _⟩
    · exact ⟨none, 0, by rw [r1, r2], by omega, .inl rfl⟩
    · exact ⟨_, cap, r1, r2, .inr ⟨q, rfl⟩⟩
  obtain ⟨A', cap, rfl, hcap, hA'⟩ := hg
  have hsl := fun W => slice_head A' (8 * n) cap m (by have := HL.out; omega) hA' W
  have HV := Lib.hid hv
  have HA := Lib.hid hA'
  clear hv hA'
  rw [HL.out]
  generalize hN : 8 * n = N at *
  have HN := Lib.hid hN
  clear hN
  go_wp2_with fail
  go_loop [7] (OpenAt m N) (fun i => N - (intOf i).toNat)
  case atStart => exact ⟨m, Nat.le_refl _, h1, rfl⟩
  case round =>
    obtain ⟨k, hk1, hk2, rfl⟩ := hrel
    by_cases hlt : k < N
    · have hkl : k < (allBits xs).length := by rw [HL.out]; omega
      obtain ⟨q, rfl⟩ : ∃ q, A' = some ⟨q, 0, none⟩ := by
        rcases HA.out with e | e
        · subst e
          have := (HV.out.form (by omega))
          obtain ⟨g, c', hh, _⟩ := this
          simp at hh
        · exact e
      have d0 : w1.cell? ⟨q, k, none⟩ = some (.int .i64 0) := by
        have hv := HV.out
        rw [hv.cellAt k (by omega)]
        have := HB.out k hk1 hlt
        simp [List.getElem?_eq_getElem hkl] at this
        simp [i64s, List.getElem?_eq_getElem hkl, this]
      have t0 : (k : Int) < N := by omega
      clear hsl
      go_wp2_with fail
      exact ⟨⟨k + 1, by omega, by omega, by go_num⟩, by simp [intOf]; omega⟩
    · have t0 : ¬ (k : Int) < N := by omega
      go_wp2_with fail
      go_ret2
      exact ⟨A', cap, rfl, HV.out, b1⟩
end Go.Proofs.Ytehjipbnjffngaa
