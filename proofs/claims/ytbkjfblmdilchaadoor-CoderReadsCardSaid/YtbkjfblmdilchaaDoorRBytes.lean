/- The document's Bytes: the code of an interval. -/
import Derived.Test.YtbkjfblmdilchaaDoorRDec
namespace Go.Proofs.YtbkjfblmdilchaaDoor
open Go.RowKit

instance (x : Iv) (m : Nat) : Decidable (Fits x m) := by unfold Fits; exact inferInstance
theorem digs_cons (m v : Nat) : digs (m + 1) v = (v / 256 ^ m % 256) :: digs m v := by
  induction m generalizing v with
  | zero => simp [digs]
  | succ m ih =>
    rw [digs, ih (v / 256), Nat.div_div_eq_div_mul, Nat.mul_comm 256, ← Nat.pow_succ]
    rfl
theorem val_pos_of {l : List Nat} {k : Nat} (hk : k < l.length) (h : 0 < l.getD k 0) : 0 < val l := by
  have h1 : l = l.take k ++ l.getD k 0 :: l.drop (k + 1) := by
    rw [List.getD_eq_getElem?_getD, List.getElem?_eq_getElem hk]
    simp
  rw [h1, val_append, val_cons]
  have h2 : 1 * 256 ^ (l.drop (k + 1)).length ≤ l.getD k 0 * 256 ^ (l.drop (k + 1)).length := Nat.mul_le_mul_right _ h
  have h3 := pow_pos' (l.drop (k + 1)).length
  omega
/-- The front of L, and what stands behind it. -/
theorem front_val {x : Iv} (hx : x.Good) (m : Nat) : val ((digs (4 + x.k) x.L).take m) = x.L / 256 ^ (4 + x.k - m) ∧ val ((digs (4 + x.k) x.L).drop m) = x.L % 256 ^ (4 + x.k - m) := by
  have hL : x.L < 256 ^ (4 + x.k) := by have := hx.top; have := hx.lo; omega
  have h1 := val_append ((digs (4 + x.k) x.L).take m) ((digs (4 + x.k) x.L).drop m)
  rw [List.take_append_drop, val_digs _ _ hL, List.length_drop, length_digs] at h1
  have h2 := val_lt ((digs (4 + x.k) x.L).drop m) (fun d hd => dig_digs _ _ d (List.mem_of_mem_drop hd))
  rw [List.length_drop, length_digs] at h2
  generalize val ((digs (4 + x.k) x.L).take m) = a at *
  generalize val ((digs (4 + x.k) x.L).drop m) = d at *
  have hu := pow_pos' (4 + x.k - m)
  generalize 256 ^ (4 + x.k - m) = u at *
  rw [Nat.mul_comm] at h1
  rw [h1]
  exact ⟨by rw [Nat.mul_add_div hu, Nat.div_eq_of_lt h2, Nat.add_zero], by rw [Nat.mul_add_mod, Nat.mod_eq_of_lt h2]⟩
theorem ceil_even {x : Iv} (m : Nat) (h : x.L % 256 ^ (4 + x.k - m) = 0) : ceilAt x m = x.L / 256 ^ (4 + x.k - m) := by
  unfold ceilAt
  have hu := pow_pos' (4 + x.k - m)
  generalize 256 ^ (4 + x.k - m) = u at *
  have h1 := Nat.div_add_mod x.L u
  rw [h, Nat.add_zero] at h1
  generalize x.L / u = q at *
  rw [← h1, Nat.mul_add_div hu, Nat.div_eq_of_lt (by omega), Nat.add_zero]
theorem ceil_odd {x : Iv} (m : Nat) (h : 0 < x.L % 256 ^ (4 + x.k - m)) : ceilAt x m = x.L / 256 ^ (4 + x.k - m) + 1 := by
  unfold ceilAt
  have hu := pow_pos' (4 + x.k - m)
  generalize 256 ^ (4 + x.k - m) = u at *
  have h1 := Nat.div_add_mod x.L u
  have h2 := Nat.mod_lt x.L hu
  generalize x.L / u = q at *
  generalize x.L % u = r at *
  have h3 : x.L + (u - 1) = u * (q + 1) + (r - 1) := by rw [Nat.mul_add, Nat.mul_one]; omega
  rw [h3, Nat.mul_add_div hu, Nat.div_eq_of_lt (by omega), Nat.add_zero]
theorem ceil_le_pow {x : Iv} (hx : x.Good) (m : Nat) (hm : m ≤ 4 + x.k) : ceilAt x m ≤ 256 ^ m := by
  refine ceil_le x m _ ?_
  rw [← Nat.pow_add, show m + (4 + x.k - m) = 4 + x.k by omega]
  have := hx.top
  omega
theorem over_not_fits {x : Iv} (hx : x.Good) (m : Nat) (hm : m ≤ 4 + x.k) (h : ceilAt x m = 256 ^ m) : ¬ Fits x m := by
  unfold Fits
  rw [h, ← Nat.pow_add, show m + (4 + x.k - m) = 4 + x.k by omega]
  have := hx.top
  omega
theorem inside_fits {x : Iv} (m : Nat) (hm : m ≤ 4 + x.k) (h : ceilAt x m < 256 ^ m) : Inside x (digs m (ceilAt x m)) ↔ Fits x m := by
  have e := scale_short (digs m (ceilAt x m)) (4 + x.k) (by rw [length_digs]; exact hm)
  rw [length_digs, val_digs _ _ h] at e
  unfold Inside Fits
  rw [e]
  exact ⟨fun hI => hI.2, fun hF => ⟨ceil_ge x m, hF⟩⟩

def BytesAt (w : World) (x : Iv) (i : Value) (wr : World) : Prop := ∃ m : Nat, m ≤ x.k + 1 ∧ i = .int .i64 (m : Int) ∧ (∀ j, j < m → ¬ Fits x j) ∧ Below w.heap.size w wr
def UpAt (w4 : World) (D : List Nat) (m N : Nat) (u i : Value) (wr : World) : Prop :=
  ∃ (j : Nat) (r : Bool), m + 1 ≤ j ∧ j ≤ N ∧ i = .int .i64 (j : Int) ∧ u = .bool r ∧ (r = true → ∃ t, m ≤ t ∧ t + 1 < j ∧ 0 < D.getD t 0) ∧ (r = false → ∀ t, m ≤ t → t + 1 < j → D.getD t 0 = 0) ∧ wr = w4
def OutAt (w : World) (D : List Nat) (m : Nat) (o i : Value) (wr : World) : Prop := ∃ j : Nat, j ≤ m ∧ i = .int .i64 ((j : Int) + 1) ∧ wr.ownsRow w.heap.size 5 1 o j (bts (D.take j)) ∧ Below w.heap.size w wr

set_option maxHeartbeats 9600000 in
set_option maxRecDepth 100000 in
theorem rbytes_any (w : World) (ad : Addr) (c : Nat) (x : Iv) (h : Reads w (some ad) (4 + x.k) (ints (dints (digs (4 + x.k) x.L)))) (hx : x.Good) (hk : x.k ≤ 50000) :
    Calls Tryd.prog 19 #[.agg #[.slice (some ad) (4 + x.k) c, .int .i64 (x.R : Int)]] w (CodeIs w x) := by
  obtain ⟨i0, hi, hz0, hz1, hz2⟩ := info_parts Tryd.infoInt
  obtain ⟨j0, hj, hw0, hw1, hw2⟩ := info_parts Tryd.infoU8
  have HI := Lib.hid hi
  have HZ := Lib.hid (And.intro hz0 (And.intro hz1 hz2))
  have JI := Lib.hid hj
  have JZ := Lib.hid (And.intro hw0 (And.intro hw1 hw2))
  have a0 := alloc_below w (.cells #[.slice (some ad) (4 + x.k) c, .int .i64 (x.R : Int)] 29)
  have k0 : (w.alloc (.cells #[.slice (some ad) (4 + x.k) c, .int .i64 (x.R : Int)] 29)).heap[w.heap.size]? = some (.cells #[.slice (some ad) (4 + x.k) c, .int .i64 (x.R : Int)] 29 (0, 0)) := (Array.getElem?_push_size : (w.heap.push _)[w.heap.size]? = some _)
  have hlt0 : w.heap.size < (w.alloc (.cells #[.slice (some ad) (4 + x.k) c, .int .i64 (x.R : Int)] 29)).heap.size := heap_lt k0
  have c0 : (w.alloc (.cells #[.slice (some ad) (4 + x.k) c, .int .i64 (x.R : Int)] 29)).cell? ⟨w.heap.size, 0, none⟩ = some (.slice (some ad) (4 + x.k) c) := by rw [cell_in k0]; rfl
  have c1 : (w.alloc (.cells #[.slice (some ad) (4 + x.k) c, .int .i64 (x.R : Int)] 29)).cell? ⟨w.heap.size, 1, none⟩ = some (.int .i64 (x.R : Int)) := by rw [cell_in k0]; rfl
  have HB := Lib.hid a0
  have RD := Lib.hid (h.below a0)
  have HX := Lib.hid hx
  clear h a0 k0 hx hi hz0 hz1 hz2 hj hw0 hw1 hw2
  go_enter Tryd.func19, Tryd.ntmps19
  go_wp2_with fail
  generalize w.alloc (.cells #[.slice (some ad) (4 + x.k) c, .int .i64 (x.R : Int)] 29) = w0 at *
  go_loopw [3] (BytesAt w0 x) (fun i _ => x.k + 2 - (intOf i).toNat)
  case atStart => exact ⟨0, Nat.zero_le _, rfl, fun j hj => by omega, Below.refl _ _⟩
  case round =>
    obtain ⟨m, hm, rfl, hno, hbl⟩ := hrel
    have d0 := (hbl.cell (p := ⟨w.heap.size, 0, none⟩) hlt0).trans c0
    have NOJ := Lib.hid hno
    have BR := Lib.hid hbl
    have NEXT := Lib.hid (show ¬ Fits x m → m + 1 ≤ x.k + 1 from fun hf => by
      rcases Nat.lt_or_ge m (x.k + 1) with h1 | h1
      · omega
      · obtain rfl : m = x.k + 1 := by omega
        exact absurd (fits_k HX.out) hf)
    have NOF := Lib.hid (show ¬ Fits x m → ∀ j, j < m + 1 → ¬ Fits x j from fun hf j hj => by
      rcases Nat.lt_or_ge j m with h1 | h1
      · exact hno j h1
      · obtain rfl : j = m := by omega
        exact hf)
    have R3 := Lib.hid (RD.out.below hbl)
    have N3 := Lib.hid (one_int wr)
    have a3 := alloc_below wr (.cells #[.int .i64 0] 3)
    have R3' := Lib.hid (R3.out.below a3)
    have A3 := Lib.hid a3
    have d0' := (a3.cell (p := ⟨w.heap.size, 0, none⟩) (Nat.lt_of_lt_of_le hlt0 hbl.size)).trans d0
    clear hno hbl a3
    go_wp2_with (at_builtin; refine wpList_append_reads rfl (.tmp 12) (.tmp 14) 27 rfl wr.heap.size 3 i0 (.int .i64 0) 8 Tryd.underlying27 HI.out HZ.out rfl (.slice (some ⟨wr.heap.size, 0, none⟩) 1 1) 1 (ints (dints [0])) rfl N3.out (some ad) (4 + x.k) c (ints (dints (digs (4 + x.k) x.L))) rfl R3'.out (fun e => (nomatch e)) (ints_one _) (by unfold maxLen; omega) (by omega) (by simp) ?_)
    intro v4 w4 hown hgr
    have bw4 : Below wr.heap.size wr w4 := own_grown_below A3.out hgr A3.out.size (fun p hp => by simp [Value.ownBlock] at hp; omega)
    rw [ints_zero_cons, show 1 + (4 + x.k) = 5 + x.k by omega] at hown
    obtain ⟨q4, cap4, rest4, rfl, row4, hcap4, _, _, hq4⟩ := ownI_block hown (by omega)
    have O4 := Lib.hid (⟨row4, hown, BR.out.trans (bw4.mono BR.out.size)⟩ : IRow w4 q4 (0 :: digs (4 + x.k) x.L) rest4 ∧ w4.ownsRow wr.heap.size 3 1 (.slice (some ⟨q4, 0, none⟩) (5 + x.k) cap4) (5 + x.k) (ints (dints (0 :: digs (4 + x.k) x.L))) ∧ Below w0.heap.size w0 w4)
    have ST := Lib.hid (show UpAt w4 (digs (4 + x.k) x.L) m (5 + x.k) (.bool false) (.int .i64 ((m : Int) + 1)) w4 from ⟨m + 1, false, Nat.le_refl _, by omega, by go_num, rfl, fun e => (nomatch e), fun _ t h1 h2 => by omega, rfl⟩)
    have em : IntKind.i64.wrap ((m : Int) + 1) = (m : Int) + 1 := IntWalk.i64_in _ (by omega)
    clear hown hgr bw4 row4 hq4 d0 d0'
    go_wp2_with fail
    go_loopw [5, 6] (UpAt w4 (digs (4 + x.k) x.L) m (5 + x.k)) (fun _ i _ => 5 + x.k - (intOf i).toNat)
    case atStart => exact ST.out
    case round =>
      obtain ⟨j, r, hj1, hj2, rfl, rfl, hrt, hrf, rfl⟩ := hrel
      by_cases hjn : j < 5 + x.k
      · obtain ⟨t, rfl⟩ : ∃ t, j = t + 1 := ⟨j - 1, by omega⟩
        have ck := O4.out.1.cell (t + 1) (by rw [List.length_cons, length_digs]; omega)
        have hd4 : (0 :: digs (4 + x.k) x.L).getD (t + 1) 0 = (digs (4 + x.k) x.L).getD t 0 := rfl
        rw [hd4] at ck
        generalize hdt : (digs (4 + x.k) x.L).getD t 0 = d at *
        have U := Lib.hid (⟨hrt, hrf, hdt⟩ : (r = true → ∃ t', m ≤ t' ∧ t' + 1 < t + 1 ∧ 0 < (digs (4 + x.k) x.L).getD t' 0) ∧ (r = false → ∀ t', m ≤ t' → t' + 1 < t + 1 → (digs (4 + x.k) x.L).getD t' 0 = 0) ∧ (digs (4 + x.k) x.L).getD t 0 = d)
        have b2 : ((t + 1 : Nat) : Int) < 5 + (x.k : Int) := by omega
        have b2' : ((t + 1 : Nat) : Int) < ((5 + x.k : Nat) : Int) := by omega
        have b3 : (t : Int) + 1 < 5 + (x.k : Int) := by omega
        clear hrt hrf hdt hd4
        cases r with
        | true =>
          go_wp2_with fail
          refine ⟨⟨t + 1 + 1, true, by omega, by omega, by go_num, rfl, fun _ => ?_, fun e => (nomatch e), rfl⟩, by simp [intOf]; omega⟩
          obtain ⟨t', h1, h2, h3⟩ := U.out.1 (by trivial)
          exact ⟨t', h1, by omega, h3⟩
        | false =>
          by_cases hd0 : 0 < d
          · have t9 : (0 : Int) < (d : Int) := by omega
            go_wp2_with fail
            refine ⟨⟨t + 1 + 1, true, by omega, by omega, by go_num, rfl, fun _ => ⟨t, by omega, by omega, by rw [U.out.2.2]; exact hd0⟩, fun e => (nomatch e), rfl⟩, by simp [intOf]; omega⟩
          · have t9 : ¬ (0 : Int) < (d : Int) := by omega
            have HD0 := Lib.hid (show d = 0 by omega)
            clear hd0
            go_wp2_with fail
            refine ⟨⟨t + 1 + 1, false, by omega, by omega, by go_num, by rw [HD0.out]; rfl, fun e => (nomatch e), fun _ t' h1 h2 => ?_, rfl⟩, by simp [intOf]; omega⟩
            rcases Nat.lt_or_ge t' t with h3 | h3
            · exact U.out.2.1 (by trivial) t' h1 (by omega)
            · obtain rfl : t' = t := by omega
              rw [U.out.2.2]; exact HD0.out
      · obtain rfl : j = 5 + x.k := by omega
        have b2 : ¬ ((5 + x.k : Nat) : Int) < 5 + (x.k : Int) := by omega
        have b2' : ¬ (5 + (x.k : Int)) < 5 + (x.k : Int) := by omega
        have fv := front_val HX.out m
        have hval : val ((0 :: digs (4 + x.k) x.L).take (m + 1)) = x.L / 256 ^ (4 + x.k - m) := by rw [List.take_succ_cons, val_zero_cons]; exact fv.1
        have hcl := ceil_le_pow HX.out m (by omega)
        have hzero : r = false → x.L % 256 ^ (4 + x.k - m) = 0 := fun hr => by
          rw [← fv.2]
          apply val_zero
          intro d hd
          obtain ⟨i, hi, rfl⟩ := List.mem_iff_getElem.1 hd
          rw [List.length_drop, length_digs] at hi
          have := hrf hr (m + i) (by omega) (by omega)
          rw [List.getD_eq_getElem?_getD, List.getElem?_eq_getElem (by rw [length_digs]; omega)] at this
          rw [List.getElem_drop]
          simpa using this
        have hposi : r = true → 0 < x.L % 256 ^ (4 + x.k - m) := fun hr => by
          obtain ⟨t, h1, h2, h3⟩ := hrt hr
          rw [← fv.2]
          refine val_pos_of (k := t - m) (by rw [List.length_drop, length_digs]; omega) ?_
          rw [List.getD_eq_getElem?_getD, List.getElem?_drop, show m + (t - m) = t by omega, ← List.getD_eq_getElem?_getD]
          exact h3
        have hfl : ((0 :: digs (4 + x.k) x.L).take (m + 1)).length = m + 1 := by rw [List.length_take, List.length_cons, length_digs]; omega
        have hfd : Dig ((0 :: digs (4 + x.k) x.L).take (m + 1)) := dig_take (dig_zero_cons (dig_digs _ _)) _
        obtain ⟨A4, c4, hv4, _, r4⟩ := Reads.of_own O4.out.2.1
        injection hv4 with hA4 _ hc4
        subst hA4 hc4
        have r5 : Reads wr (some ⟨q4, 0, none⟩) (m + 1) (ints (dints ((0 :: digs (4 + x.k) x.L).take (m + 1)))) := by
          refine ⟨by rw [length_ints, length_dints, hfl], fun _ => ?_⟩
          obtain ⟨ad', he, hc'⟩ := r4.2 (by omega)
          refine ⟨ad', he, fun i u hu => hc' i u ?_⟩
          rw [dints_take] at hu
          have hu2 : ((ints (dints (0 :: digs (4 + x.k) x.L))).take (m + 1))[i]? = some u := by
            rw [← hu]; simp [ints, List.map_take]
          rw [List.getElem?_take] at hu2
          split at hu2
          · exact hu2
          · cases hu2
        have N5 := Lib.hid (empty_ints wr)
        have a5 := alloc_below wr (.cells #[] 3)
        have R5 := Lib.hid (r5.below a5)
        have A5 := Lib.hid a5
        have FV := Lib.hid (⟨hval, hfl, hfd, hcl⟩ : val ((0 :: digs (4 + x.k) x.L).take (m + 1)) = x.L / 256 ^ (4 + x.k - m) ∧ ((0 :: digs (4 + x.k) x.L).take (m + 1)).length = m + 1 ∧ Dig ((0 :: digs (4 + x.k) x.L).take (m + 1)) ∧ ceilAt x m ≤ 256 ^ m)
        have HZE := Lib.hid (⟨hzero, hposi⟩ : (r = false → x.L % 256 ^ (4 + x.k - m) = 0) ∧ (r = true → 0 < x.L % 256 ^ (4 + x.k - m)))
        have hc5 : m + 1 ≤ cap4 := by omega
        have hc5' : (m : Int) + 1 ≤ (cap4 : Int) := by omega
        clear r4 r5 a5 hval hfl hfd hcl hzero hposi fv hrt hrf
        generalize hF : (0 :: digs (4 + x.k) x.L).take (m + 1) = fr at *
        have HFR := Lib.hid hF
        clear hF
        go_wp2_with (at_builtin; refine wpList_append_reads rfl (.tmp 32) (.tmp 36) 27 rfl wr.heap.size 3 i0 (.int .i64 0) 8 Tryd.underlying27 HI.out HZ.out rfl (.slice (some ⟨wr.heap.size, 0, none⟩) 0 0) 0 [] rfl N5.out (some ⟨q4, 0, none⟩) (m + 1) cap4 (ints (dints fr)) rfl R5.out (fun e => (nomatch e)) (ints_one _) (by unfold maxLen; omega) (by omega) (by simp) ?_)
        intro v5 w5 hown hgr
        have hown2 : w5.ownsRow wr.heap.size 3 1 v5 (m + 1) (ints (dints fr)) := by simpa using hown
        have bw5 : Below wr.heap.size wr w5 := own_grown_below A5.out hgr A5.out.size (fun p hp => by simp [Value.ownBlock] at hp; omega)
        have B5 := Lib.hid (O4.out.2.2.trans (bw5.mono O4.out.2.2.size))
        obtain ⟨A6, c6, rfl, hA6, r6⟩ := Reads.of_own hown2
        have O5 := Lib.hid (⟨hown2, r6, hA6⟩ : w5.ownsRow wr.heap.size 3 1 (.slice A6 (m + 1) c6) (m + 1) (ints (dints fr)) ∧ Reads w5 A6 (m + 1) (ints (dints fr)) ∧ (A6 = none → c6 = 0))
        clear hown hown2 hgr bw5 r6 hA6
        obtain ⟨V, hV⟩ : ∃ V, V = ceilAt x m := ⟨_, rfl⟩
        have HV := Lib.hid (show m ≤ 4 + x.k ∧ V = ceilAt x m ∧ V ≤ 256 ^ m ∧ (V = 256 ^ m → ¬ Fits x m) ∧ (V < 256 ^ m → (Inside x (digs m V) ↔ Fits x m)) from
          ⟨by omega, hV, by rw [hV]; exact FV.out.2.2.2, fun h1 => over_not_fits HX.out m (by omega) (by rw [← hV]; exact h1), fun h1 => by rw [hV] at h1 ⊢; exact inside_fits m (by omega) h1⟩)
        clear hV
        cases r with
        | true =>
          have KA := Lib.hid (add_any w5 A6 (m + 1) c6 fr 1 O5.out.2.1 O5.out.2.2 FV.out.2.2.1 (by omega) (by omega) (by omega) (by
            have h1 := ceil_odd m (HZE.out.2 (by trivial))
            have h2 := FV.out.2.2.2
            have h3 : 256 ^ m < 256 ^ (m + 1) := Nat.pow_lt_pow_right (by omega) (by omega)
            rw [FV.out.1]
            omega))
          have hVe : val fr + 1 = V := by rw [FV.out.1, HV.out.2.1, ceil_odd m (HZE.out.2 (by trivial))]
          rw [hVe] at KA
          clear hVe
          go_wp2_with fail
          refine KA.out.mono ?_
          rintro e w6 ⟨v6, rfl, o6, b6⟩
          have FR := Lib.hid (⟨o6, B5.out.trans (b6.mono B5.out.size)⟩ : w6.ownsRow w5.heap.size 3 1 v6 (m + 1) (ints (dints (digs (m + 1) V))) ∧ Below w0.heap.size w0 w6)
          obtain ⟨A7, c7, rfl, _, _⟩ := Reads.of_own o6
          clear o6 b6
          go_wp2_with fail
          have ZZ := Lib.hid (digs_cons m V)
          obtain ⟨q7, cap7, rest7, hv7, row7, _, _, _, hq7⟩ := ownI_block FR.out.1 (by omega)
          have k7 : w6.cell? ⟨q7, 0, none⟩ = some (.int .i64 (((V / 256 ^ m % 256 : Nat)) : Int)) := by
            rw [row7.cell 0 (by rw [length_digs]; omega), ZZ.out]; rfl
          have hVl : V ≤ 256 ^ m := HV.out.2.2.1
          injection hv7 with hA7 _ hc7
          subst hA7 hc7
          by_cases hov : V = 256 ^ m
          · have t9 : V / 256 ^ m % 256 = 1 := by rw [hov, Nat.div_self (pow_pos' m)]
            rw [t9] at k7
            have HNF := Lib.hid (HV.out.2.2.2.1 hov)
            clear hov t9 row7 hq7
            go_wp2_with fail
            exact ⟨⟨m + 1, NEXT.out HNF.out, by go_num, NOF.out HNF.out, FR.out.2⟩, by simp [intOf]; omega⟩
          · have hVlt : V < 256 ^ m := by omega
            have t9 : V / 256 ^ m % 256 = 0 := by rw [Nat.div_eq_of_lt hVlt]
            rw [t9] at k7
            have RW := Lib.hid (⟨row7, hVlt⟩ : IRow w6 q7 (digs (m + 1) V) rest7 ∧ V < 256 ^ m)
            have BW := Lib.hid FR.out.2
            clear hov t9 row7 hq7 FR hVl hVlt
            go_wp2_with fail
            go_loopw [8, 9] (OutAt w6 (digs m V) m) (fun _ i _ => m + 1 - (intOf i).toNat)
            case atStart => exact ⟨0, Nat.zero_le _, by go_num, World.ownsRow_nil _ _ _ _, Below.refl _ _⟩
            case round =>
              obtain ⟨j, hj, rfl, oj, bj⟩ := hrel
              obtain ⟨A8, c8, rfl, hA8, r8⟩ := Reads.of_own oj
              by_cases hjm : j < m
              · have rowj : IRow wr q7 (digs (m + 1) V) rest7 := (bj.block q7 (heap_lt RW.out.1)).trans RW.out.1
                have ck := rowj.cell (j + 1) (by rw [length_digs]; omega)
                have hd8 : (digs (m + 1) V).getD (j + 1) 0 = (digs m V).getD j 0 := by rw [ZZ.out]; rfl
                rw [hd8] at ck
                have bd := dig_at (dig_digs m V) j
                have htk := List.take_succ_eq_append_getElem (l := digs m V) (i := j) (by rw [length_digs]; exact hjm)
                have hge : (digs m V)[j]'(by rw [length_digs]; exact hjm) = (digs m V).getD j 0 := by rw [List.getD_eq_getElem?_getD, List.getElem?_eq_getElem (by rw [length_digs]; exact hjm)]; rfl
                rw [hge] at htk
                generalize (digs m V).getD j 0 = d at *
                have HO := Lib.hid (oj.alloc (.cells #[.int .u8 (d : Int)] 5))
                have ZJ := Lib.hid (⟨oj, bj, htk⟩ : wr.ownsRow w6.heap.size 5 1 (.slice A8 j c8) j (bts ((digs m V).take j)) ∧ Below w6.heap.size w6 wr ∧ (digs m V).take (j + 1) = (digs m V).take j ++ [d])
                have hsz := bj.size
                have t10 : (j : Int) + 1 < (m : Int) + 1 := by omega
                have t11 : ((j : Int) + 1) < ((m + 1 : Nat) : Int) := by omega
                have m10 : IntKind.u8.wrap (d : Int) = (d : Int) := IntWalk.u8_in _ (by omega)
                have e10 : IntKind.i64.wrap ((j : Int) + 1) = (j : Int) + 1 := IntWalk.i64_in _ (by omega)
                have ck2 : wr.cell? ((⟨q7, 0, none⟩ : Addr).add (j + 1)) = some (.int .i64 (d : Int)) := by rw [add_zero_addr]; exact ck
                clear oj bj htk hge hd8 rowj hA8 r8
                go_wp2_with (at_builtin; refine wpList_append_lies _ rfl (.tmp 51) (.tmp 57) 39 rfl w6.heap.size 5 j0 (.int .u8 0) 1 1 Tryd.underlying39 JI.out JZ.out.1 JZ.out.2.1 JZ.out.2.2 rfl (by decide) (.slice A8 j c8) j (bts ((digs m V).take j)) rfl HO.out ⟨wr.heap.size, 0, none⟩ 1 1 [.int .u8 (d : Int)] rfl rfl (cell_one_new _ _ _) (by intro u hu; simp at hu; subst hu; rfl) (by decide) (by unfold maxLen; omega) (by omega) (by have := hsz; simp; omega) (wr.heap.size + 1) (by simp) ?_)
                intro q9 cap9 w9 hown hgr hq9 hlt9
                have B9 := Lib.hid (show Below w6.heap.size w6 w9 from own_grown_below (ZJ.out.2.1.alloc hsz _) hgr (by simp; omega) (fun p hp => (own_lt ZJ.out.1 p hp).1))
                have e9 : bts ((digs m V).take j) ++ [.int .u8 (d : Int)] = bts ((digs m V).take (j + 1)) := by rw [ZJ.out.2.2, bts_append]; rfl
                rw [e9] at hown
                have O9 := Lib.hid hown
                clear hown hgr hq9 hlt9 e9
                go_wp2_with fail
                exact ⟨⟨j + 1, by omega, by go_num, O9.out, B9.out⟩, by simp [intOf]; omega⟩
              · obtain rfl : j = m := by omega
                have t10 : ¬ (j : Int) + 1 < (j : Int) + 1 := by omega
                have hall : (digs j V).take j = digs j V := List.take_of_length_le (by rw [length_digs]; exact Nat.le_refl _)
                rw [hall] at oj r8
                have bj' := BW.out.trans (bj.mono BW.out.size)
                have dd0 := (bj'.cell (p := ⟨w.heap.size, 0, none⟩) hlt0).trans c0
                have dd1 := (bj'.cell (p := ⟨w.heap.size, 1, none⟩) hlt0).trans c1
                have KI := Lib.hid (in_any wr ad c x A8 j c8 (digs j V) (RD.out.below bj') HX.out (by omega) r8 (dig_digs _ _))
                have hiff : decide (Inside x (digs j V)) = decide (Fits x j) := decide_eq_decide.2 (HV.out.2.2.2.2 RW.out.2)
                rw [hiff] at KI
                have ZJ := Lib.hid (⟨oj, bj'⟩ : wr.ownsRow w6.heap.size 5 1 (.slice A8 j c8) j (bts (digs j V)) ∧ Below w0.heap.size w0 wr)
                clear oj bj bj' r8 hA8 hall hiff
                go_wp2_with fail
                refine KI.out.mono ?_
                rintro e w9 ⟨rfl, b9⟩
                have B9 := Lib.hid (ZJ.out.2.trans (b9.mono ZJ.out.2.size))
                have O9 := Lib.hid (own_keep (S := fun _ => False) ZJ.out.1 (.of_below b9) (fun _ _ => id))
                clear b9
                by_cases hF : Fits x j
                · rw [decide_eq_true hF]
                  have HF := Lib.hid hF
                  clear hF
                  go_wp2
                  go_ret
                  refine ⟨digs j V, _, rfl, ⟨j, HV.out.1, by rw [HV.out.2.1], HF.out, NOJ.out⟩, ?_, HB.out.trans (B9.out.mono HB.out.size)⟩
                  rw [length_digs]
                  exact own_base O9.out (Nat.le_trans HB.out.size BW.out.size)
                · rw [decide_eq_false hF]
                  have HF := Lib.hid hF
                  clear hF
                  go_wp2_with fail
                  exact ⟨⟨j + 1, NEXT.out HF.out, by go_num, NOF.out HF.out, B9.out⟩, by simp [intOf]; omega⟩
        | false =>
          have hVe : fr = digs (m + 1) V := by
            have h1 := digs_val fr FV.out.2.2.1
            rw [FV.out.2.1, FV.out.1, ← ceil_even m (HZE.out.1 (by trivial)), ← HV.out.2.1] at h1
            exact h1.symm
          have FR := Lib.hid (show w5.ownsRow wr.heap.size 3 1 (.slice A6 (m + 1) c6) (m + 1) (ints (dints (digs (m + 1) V))) ∧ Below w0.heap.size w0 w5 from ⟨by rw [← hVe]; exact O5.out.1, B5.out⟩)
          clear hVe
          go_wp2_with fail
          have ZZ := Lib.hid (digs_cons m V)
          obtain ⟨q7, cap7, rest7, hv7, row7, _, _, _, hq7⟩ := ownI_block FR.out.1 (by omega)
          have k7 : w5.cell? ⟨q7, 0, none⟩ = some (.int .i64 (((V / 256 ^ m % 256 : Nat)) : Int)) := by
            rw [row7.cell 0 (by rw [length_digs]; omega), ZZ.out]; rfl
          have hVl : V ≤ 256 ^ m := HV.out.2.2.1
          injection hv7 with hA7 _ hc7
          subst hA7 hc7
          by_cases hov : V = 256 ^ m
          · have t9 : V / 256 ^ m % 256 = 1 := by rw [hov, Nat.div_self (pow_pos' m)]
            rw [t9] at k7
            have HNF := Lib.hid (HV.out.2.2.2.1 hov)
            clear hov t9 row7 hq7
            go_wp2_with fail
            exact ⟨⟨m + 1, NEXT.out HNF.out, by go_num, NOF.out HNF.out, FR.out.2⟩, by simp [intOf]; omega⟩
          · have hVlt : V < 256 ^ m := by omega
            have t9 : V / 256 ^ m % 256 = 0 := by rw [Nat.div_eq_of_lt hVlt]
            rw [t9] at k7
            have RW := Lib.hid (⟨row7, hVlt⟩ : IRow w5 q7 (digs (m + 1) V) rest7 ∧ V < 256 ^ m)
            have BW := Lib.hid FR.out.2
            clear hov t9 row7 hq7 FR hVl hVlt
            go_wp2_with fail
            go_loopw [8, 9] (OutAt w5 (digs m V) m) (fun _ i _ => m + 1 - (intOf i).toNat)
            case atStart => exact ⟨0, Nat.zero_le _, by go_num, World.ownsRow_nil _ _ _ _, Below.refl _ _⟩
            case round =>
              obtain ⟨j, hj, rfl, oj, bj⟩ := hrel
              obtain ⟨A8, c8, rfl, hA8, r8⟩ := Reads.of_own oj
              by_cases hjm : j < m
              · have rowj : IRow wr q7 (digs (m + 1) V) rest7 := (bj.block q7 (heap_lt RW.out.1)).trans RW.out.1
                have ck := rowj.cell (j + 1) (by rw [length_digs]; omega)
                have hd8 : (digs (m + 1) V).getD (j + 1) 0 = (digs m V).getD j 0 := by rw [ZZ.out]; rfl
                rw [hd8] at ck
                have bd := dig_at (dig_digs m V) j
                have htk := List.take_succ_eq_append_getElem (l := digs m V) (i := j) (by rw [length_digs]; exact hjm)
                have hge : (digs m V)[j]'(by rw [length_digs]; exact hjm) = (digs m V).getD j 0 := by rw [List.getD_eq_getElem?_getD, List.getElem?_eq_getElem (by rw [length_digs]; exact hjm)]; rfl
                rw [hge] at htk
                generalize (digs m V).getD j 0 = d at *
                have HO := Lib.hid (oj.alloc (.cells #[.int .u8 (d : Int)] 5))
                have ZJ := Lib.hid (⟨oj, bj, htk⟩ : wr.ownsRow w5.heap.size 5 1 (.slice A8 j c8) j (bts ((digs m V).take j)) ∧ Below w5.heap.size w5 wr ∧ (digs m V).take (j + 1) = (digs m V).take j ++ [d])
                have hsz := bj.size
                have t10 : (j : Int) + 1 < (m : Int) + 1 := by omega
                have t11 : ((j : Int) + 1) < ((m + 1 : Nat) : Int) := by omega
                have m10 : IntKind.u8.wrap (d : Int) = (d : Int) := IntWalk.u8_in _ (by omega)
                have e10 : IntKind.i64.wrap ((j : Int) + 1) = (j : Int) + 1 := IntWalk.i64_in _ (by omega)
                have ck2 : wr.cell? ((⟨q7, 0, none⟩ : Addr).add (j + 1)) = some (.int .i64 (d : Int)) := by rw [add_zero_addr]; exact ck
                clear oj bj htk hge hd8 rowj hA8 r8
                go_wp2_with (at_builtin; refine wpList_append_lies _ rfl (.tmp 51) (.tmp 57) 39 rfl w5.heap.size 5 j0 (.int .u8 0) 1 1 Tryd.underlying39 JI.out JZ.out.1 JZ.out.2.1 JZ.out.2.2 rfl (by decide) (.slice A8 j c8) j (bts ((digs m V).take j)) rfl HO.out ⟨wr.heap.size, 0, none⟩ 1 1 [.int .u8 (d : Int)] rfl rfl (cell_one_new _ _ _) (by intro u hu; simp at hu; subst hu; rfl) (by decide) (by unfold maxLen; omega) (by omega) (by have := hsz; simp; omega) (wr.heap.size + 1) (by simp) ?_)
                intro q9 cap9 w9 hown hgr hq9 hlt9
                have B9 := Lib.hid (show Below w5.heap.size w5 w9 from own_grown_below (ZJ.out.2.1.alloc hsz _) hgr (by simp; omega) (fun p hp => (own_lt ZJ.out.1 p hp).1))
                have e9 : bts ((digs m V).take j) ++ [.int .u8 (d : Int)] = bts ((digs m V).take (j + 1)) := by rw [ZJ.out.2.2, bts_append]; rfl
                rw [e9] at hown
                have O9 := Lib.hid hown
                clear hown hgr hq9 hlt9 e9
                go_wp2_with fail
                exact ⟨⟨j + 1, by omega, by go_num, O9.out, B9.out⟩, by simp [intOf]; omega⟩
              · obtain rfl : j = m := by omega
                have t10 : ¬ (j : Int) + 1 < (j : Int) + 1 := by omega
                have hall : (digs j V).take j = digs j V := List.take_of_length_le (by rw [length_digs]; exact Nat.le_refl _)
                rw [hall] at oj r8
                have bj' := BW.out.trans (bj.mono BW.out.size)
                have dd0 := (bj'.cell (p := ⟨w.heap.size, 0, none⟩) hlt0).trans c0
                have dd1 := (bj'.cell (p := ⟨w.heap.size, 1, none⟩) hlt0).trans c1
                have KI := Lib.hid (in_any wr ad c x A8 j c8 (digs j V) (RD.out.below bj') HX.out (by omega) r8 (dig_digs _ _))
                have hiff : decide (Inside x (digs j V)) = decide (Fits x j) := decide_eq_decide.2 (HV.out.2.2.2.2 RW.out.2)
                rw [hiff] at KI
                have ZJ := Lib.hid (⟨oj, bj'⟩ : wr.ownsRow w5.heap.size 5 1 (.slice A8 j c8) j (bts (digs j V)) ∧ Below w0.heap.size w0 wr)
                clear oj bj bj' r8 hA8 hall hiff
                go_wp2_with fail
                refine KI.out.mono ?_
                rintro e w9 ⟨rfl, b9⟩
                have B9 := Lib.hid (ZJ.out.2.trans (b9.mono ZJ.out.2.size))
                have O9 := Lib.hid (own_keep (S := fun _ => False) ZJ.out.1 (.of_below b9) (fun _ _ => id))
                clear b9
                by_cases hF : Fits x j
                · rw [decide_eq_true hF]
                  have HF := Lib.hid hF
                  clear hF
                  go_wp2
                  go_ret
                  refine ⟨digs j V, _, rfl, ⟨j, HV.out.1, by rw [HV.out.2.1], HF.out, NOJ.out⟩, ?_, HB.out.trans (B9.out.mono HB.out.size)⟩
                  rw [length_digs]
                  exact own_base O9.out (Nat.le_trans HB.out.size BW.out.size)
                · rw [decide_eq_false hF]
                  have HF := Lib.hid hF
                  clear hF
                  go_wp2_with fail
                  exact ⟨⟨j + 1, NEXT.out HF.out, by go_num, NOF.out HF.out, B9.out⟩, by simp [intOf]; omega⟩
end Go.Proofs.YtbkjfblmdilchaaDoor
