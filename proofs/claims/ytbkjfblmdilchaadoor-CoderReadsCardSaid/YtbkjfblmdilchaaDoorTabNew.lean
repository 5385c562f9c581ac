/- slices.Min of a slice of integers; New: a table of the counts, or none, and why. -/
import Derived.Test.YtbkjfblmdilchaaDoorTabIs
import Derived.Lib.MinMax
namespace Go.Proofs.YtbkjfblmdilchaaDoor
open Go.RowKit

theorem add_none {ad : Addr} {w : World} {u : Value} (h : w.cell? (ad.add 0) = some u) : ad.add 0 = ad := by
  obtain ⟨b, off, spot⟩ := ad
  have hspot : spot = none := by simpa [Addr.add] using World.cell?_spot h
  subst hspot
  unfold Addr.add
  split <;> simp_all

def MinAt (l : List Int) (n : Nat) (m i : Value) : Prop := ∃ (k : Nat) (x : Int), 0 < k ∧ k ≤ n ∧ i = .int .i64 (k : Int) ∧ m = .int .i64 x ∧ Hid ((∃ j, j < k ∧ l.getD j 0 = x) ∧ ∀ j, j < k → x ≤ l.getD j 0)

set_option maxHeartbeats 1000000 in
set_option maxRecDepth 100000 in
theorem min_any (w : World) (A : Option Addr) (n c : Nat) (l : List Int) (h : Reads w A n (ints l)) (h0 : 0 < n) (hm : n ≤ 1000000) :
    Calls Tryd.prog 48 #[.slice A n c] w fun e w' => (∃ x, e = .returned (.int .i64 x) ∧ (∃ j, j < n ∧ l.getD j 0 = x) ∧ ∀ j, j < n → x ≤ l.getD j 0) ∧ w' = w := by
  obtain ⟨ad, rfl, c0⟩ := h.int 0 h0
  have HR := Lib.hid h
  clear h
  rw [add_none c0] at c0
  have e1 : (1 : Int) ≤ n := by omega
  have e2 : (0 : Int) < n := by omega
  go_enter Tryd.func48, Tryd.ntmps48
  go_wp2_with fail
  go_loop [3, 4] (MinAt l n) (fun _ i => n - (intOf i).toNat)
  case atStart => exact ⟨1, l.getD 0 0, by omega, by omega, rfl, rfl, Lib.hid ⟨⟨0, by omega, rfl⟩, fun j hj => by rw [show j = 0 by omega]; exact Int.le_refl _⟩⟩
  case round =>
    obtain ⟨k, x, hk0, hk, rfl, rfl, H⟩ := hrel
    by_cases hlt : k < n
    · obtain ⟨ad', he, ck⟩ := HR.out.int k hlt
      injection he with he
      subst he
      have hkn : (k : Int) < n := by omega
      obtain ⟨y, hy⟩ : ∃ y, l.getD k 0 = y := ⟨_, rfl⟩
      rw [hy] at ck
      have HY := Lib.hid hy
      clear hy c0
      go_wp2_with fail
      refine ⟨⟨k + 1, min x y, by omega, by omega, by go_num, rfl, Lib.hid ⟨?_, fun j hj => ?_⟩⟩, by simp [intOf]; omega⟩
      · obtain ⟨⟨j, hj, hx⟩, _⟩ := H.out
        by_cases hxy : x ≤ y
        · exact ⟨j, by omega, by rw [hx]; omega⟩
        · exact ⟨k, by omega, by rw [HY.out]; omega⟩
      · by_cases hjk : j = k
        · subst hjk; rw [HY.out]; omega
        · have := H.out.2 j (by omega); omega
    · obtain rfl : k = n := by omega
      go_wp2
      go_ret
      exact ⟨⟨x, rfl, H.out⟩, rfl⟩

theorem new_arg (w : World) (A : Option Addr) (n c : Nat) (h : n = 0 ∨ 256 < n) :
    Calls Tryd.prog 32 #[.slice A n c] w fun e w' => e = .returned (.tuple #[.pointer none, .int .i64 1]) ∧ w' = w := by
  rcases h with rfl | h
  · go_enter Tryd.func32, Tryd.ntmps32
    go_wp2
    go_ret2
    exact ⟨rfl, rfl⟩
  · have e1 : ((n : Int) == 0) = false := by simp; omega
    have e2 : (256 : Int) < n := by omega
    go_enter Tryd.func32, Tryd.ntmps32
    go_wp2
    go_ret2
    exact ⟨rfl, rfl⟩

theorem new_range (w : World) (A : Option Addr) (n c : Nat) (l : List Int) (h : Reads w A n (ints l)) (h0 : 0 < n) (hm : n ≤ 256) (j : Nat) (hj : j < n) (hx : l.getD j 0 < 1) :
    Calls Tryd.prog 32 #[.slice A n c] w fun e w' => e = .returned (.tuple #[.pointer none, .int .i64 2]) ∧ w' = w := by
  have K := Lib.hid (min_any w A n c l h h0 (by omega))
  have HX := Lib.hid hx
  have e1 : ((n : Int) == 0) = false := by simp; omega
  have e2 : ¬ (256 : Int) < n := by omega
  clear h hx
  go_enter Tryd.func32, Tryd.ntmps32
  go_wp2_with fail
  refine K.out.mono ?_
  rintro e w1 ⟨⟨x, rfl, _, hle⟩, rfl⟩
  have hx1 : x < 1 := by have := hle j hj; have := HX.out; omega
  clear hle
  go_wp2
  go_ret2
  exact ⟨rfl, rfl⟩

def NewAt (w : World) (l : List Int) (n : Nat) (v s i : Value) (wr : World) : Prop :=
  ∃ k : Nat, k ≤ n ∧ i = .int .i64 (k : Int) ∧ s = .int .i64 (low l k) ∧ low l k ≤ 65536 ∧ wr.ownsRow w.heap.size 3 1 v k (ints ((ends l).take k)) ∧ Below w.heap.size w wr

theorem ends_snoc (l : List Int) (k : Nat) (h : k < l.length) : ints ((ends l).take (k + 1)) = ints ((ends l).take k) ++ [.int .i64 (low l (k + 1))] := by
  have hk : k < (ends l).length := by rw [length_ends]; exact h
  have := ends_at l k h
  rw [List.getElem?_eq_getElem hk] at this
  injection this with this
  rw [List.take_succ_eq_append_getElem hk, ints_append, this]
  rfl

/-- What New leaves. -/
def Newly (w : World) (l : List Int) (e : Ending) (w' : World) : Prop :=
  if l.sum ≤ 65536 then ∃ g q cap, e = .returned (.tuple #[.pointer (some ⟨g, 0, none⟩), .int .i64 0]) ∧ TIs w' g q cap l ∧ w.heap.size ≤ g ∧ w.heap.size ≤ q ∧ Below w.heap.size w w'
  else e = .returned (.tuple #[.pointer none, .int .i64 7]) ∧ Below w.heap.size w w'

set_option maxHeartbeats 2000000 in
set_option maxRecDepth 100000 in
theorem new_any (w : World) (A : Option Addr) (n c : Nat) (l : List Int) (h : Reads w A n (ints l)) (h0 : 0 < n) (hm : n ≤ 256) (hone : ∀ x ∈ l, 1 ≤ x) :
    Calls Tryd.prog 32 #[.slice A n c] w (Newly w l) := by
  have K := Lib.hid (min_any w A n c l h h0 (by omega))
  have e1 : ((n : Int) == 0) = false := by simp; omega
  have e2 : ¬ (256 : Int) < n := by omega
  obtain ⟨i0, hi, hz0, hz1, hz2⟩ := info_parts Tryd.infoInt
  have hmk : ∀ W : World, (Instr.makeSlice 27 (.int .i64 0) (.int .i64 (n : Int))).run Tryd.prog W = .ok (.slice (some ⟨W.heap.size, 0, none⟩) 0 n) (W.alloc (.cells (madeCells #[.int .i64 0] n) 3)) := by
    intro W
    have := run_make (P := Tryd.prog) W 27 3 i0 (.int .i64 0) Tryd.underlying27 hi hz0 .i64 .i64 0 n (Int.le_refl _) (by omega) (by rw [hz2]; omega) (by omega)
    rw [hz1] at this
    simp at this
    exact this
  have O0 := Lib.hid (World.ownsRow_made (base := w.heap.size) (e := 3) (size := 1) w (madeCells #[.int .i64 0] n) n (Nat.le_refl _) (by unfold maxLen; omega) (by rw [size_madeCells]; omega))
  have B0 := Lib.hid ((Below.refl w.heap.size w).alloc (Nat.le_refl _) (.cells (madeCells #[.int .i64 0] n) 3))
  have HL := Lib.hid h.len
  have HR := Lib.hid h
  have H1 := Lib.hid hone
  have HI := Lib.hid hi
  have HZ := Lib.hid (And.intro hz0 (And.intro hz1 hz2))
  have HZERO := Lib.hid (fun x hx => show (0 : Int) ≤ x by have := hone x hx; omega)
  clear h hone hi hz0 hz1 hz2
  go_enter Tryd.func32, Tryd.ntmps32
  go_wp2_with fail
  refine K.out.mono ?_
  rintro e w1 ⟨⟨x, rfl, ⟨j, hj, hx⟩, _⟩, rfl⟩
  have hx1 : 1 ≤ x := by
    have := one_at H1.out j (by rw [HL.out]; exact hj)
    omega
  clear hx hj
  go_wp2_with fail
  go_loopw [4, 5, 24] (NewAt w1 l n) (fun _ _ i _ => n - (intOf i).toNat)
  case atStart => exact ⟨0, Nat.zero_le _, rfl, by rw [low_zero], by rw [low_zero]; omega, O0.out, B0.out⟩
  case round =>
    obtain ⟨k, hk, rfl, rfl, hlo, how, hb⟩ := hrel
    have HO := Lib.hid how
    have HB := Lib.hid hb
    have hln := low_nonneg HZERO.out k
    clear how hb
    by_cases hlt : k < n
    · obtain ⟨ad, rfl, ckw⟩ := HR.out.int k hlt
      have ck := (HB.out.cell (World.block_lt_of_cell? _ _ ckw)).trans ckw
      clear ckw
      have hs := low_succ l k
      have hy1 := one_at H1.out k (by rw [HL.out]; exact hlt)
      generalize hy : l.getD k 0 = y at *
      have hkn : (k : Int) < n := by omega
      have e5 : IntKind.i64.wrap (65536 - low l k) = 65536 - low l k := IntWalk.i64_in _ (by omega)
      by_cases hfull : 65536 - low l k < y
      · have HF := Lib.hid (show ¬ l.sum ≤ 65536 by
          have := low_sum HZERO.out (k + 1)
          omega)
        clear hs hy
        generalize low l k = t at *
        go_wp2
        go_ret2
        unfold Newly
        rw [if_neg (by have := HF.out; omega)]
        exact ⟨rfl, HB.out⟩
      · have HS := Lib.hid hs
        have HSN := Lib.hid (ends_snoc l k (by rw [HL.out]; exact hlt))
        have H6 := Lib.hid (show low l (k + 1) ≤ 65536 by omega)
        have e6 : IntKind.i64.wrap (low l k + y) = low l k + y := IntWalk.i64_in _ (by omega)
        clear hs hy
        generalize htt : low l k = t at *
        have HT := Lib.hid htt
        clear htt
        go_wp2_with (at_builtin; refine wpList_append_lies _ rfl (.tmp 35) (.tmp 37) 27 rfl w1.heap.size 3 i0 (.int .i64 0) 1 8 Tryd.underlying27 HI.out HZ.out.1 HZ.out.2.1 HZ.out.2.2 rfl (by decide) u4 k (ints ((ends l).take k)) rfl (HO.out.alloc _) ⟨wr.heap.size, 0, none⟩ 1 1 [.int .i64 (t + y)] rfl rfl (cell_one_new _ _ _) ?c2 (by decide) ?b1 ?b2 ?b3 (wr.heap.size + 1) ?b4 ?_)
        case c2 => rfl
        case b1 => unfold maxLen; omega
        case b2 => omega
        case b3 => have := HB.out.size; simp; omega
        intro q cap w2 hown hgr hq hlt1
        have O1 := Lib.hid (show w2.ownsRow w1.heap.size 3 1 (.slice (some ⟨q, 0, none⟩) (k + 1) cap) (k + 1) (ints ((ends l).take (k + 1))) by
          rw [HSN.out, HS.out]; exact hown)
        have B1 := Lib.hid ((HB.out.alloc HB.out.size (.cells #[.int .i64 (t + y)] 3)).grown hgr (by have := HB.out.size; simp; omega) (fun j e => (HO.out.lt j e).1))
        clear hown hgr hq hlt1
        go_wp2_with fail
        exact ⟨⟨k + 1, by omega, by go_num, by rw [HS.out], H6.out, O1.out, B1.out⟩, by simp [intOf]; omega⟩
    · obtain rfl : k = n := by omega
      have HF := Lib.hid (show l.sum ≤ 65536 by rw [low_all l k (by rw [HL.out]; exact Nat.le_refl _)] at hlo; exact hlo)
      have hown := HO.out
      rw [List.take_of_length_le (by rw [length_ends, HL.out]; exact Nat.le_refl _)] at hown
      obtain ⟨q, cap, rfl, hq⟩ := hown.form (by omega)
      have HW := Lib.hid hown
      clear hown
      have hbk : ¬ (k : Int) < k := by omega
      go_wp2
      go_ret2
      unfold Newly
      rw [if_pos (by have := HF.out; omega)]
      refine ⟨_, q, cap, rfl, ⟨?_, ?_⟩, HB.out.size, hq.1, HB.out.alloc HB.out.size _⟩
      · rw [heap_alloc_new, HL.out]
      · rcases HW.out.2 with ⟨h1, h2⟩ | ⟨q', cap', cur, h1, _, hh, hc, _, hs, ht⟩
        · cases h1
        · simp only [Value.slice.injEq, Option.some.injEq, Addr.mk.injEq] at h1
          obtain ⟨⟨rfl, _⟩, _, rfl⟩ := h1
          refine ⟨cur.toList.drop k, ?_⟩
          rw [Below.heap_alloc _ _ _ (heap_lt hh), hh]
          rw [Nat.mul_one] at ht
          rw [← ht, List.take_append_drop]
end Go.Proofs.YtbkjfblmdilchaaDoor
