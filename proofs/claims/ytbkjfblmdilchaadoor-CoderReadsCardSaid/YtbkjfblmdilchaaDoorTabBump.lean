/- Bump: the count of one symbol, and all counts where the total is too great; halve. -/
import Derived.Test.YtbkjfblmdilchaaDoorTabLow
namespace Go.Proofs.YtbkjfblmdilchaaDoor
open Go.RowKit

theorem grown_set {w w1 : World} {q k : Nat} (h : w.grownBy w1 (some q)) (u : Value) : w.grownBy (w1.setCell ⟨q, k, none⟩ u) (some q) :=
  ⟨h.os, h.tape, h.output, by have := h.size; simpa using this, fun j hj hne => by
    rw [Below.heap_setCell w1 ⟨q, k, none⟩ u j (fun e => hne (by rw [e]))]
    exact h.block j hj hne⟩
theorem grown_read {w w1 w2 : World} {q : Nat} (h : w.grownBy w1 (some q)) (hr : Reading w1 w2) : w.grownBy w2 (some q) := by
  obtain ⟨n, rfl⟩ := hr
  exact ⟨h.os, h.tape, h.output, h.size, h.block⟩
theorem grown_trans {w w1 w2 : World} {q : Nat} (h : w.grownBy w1 (some q)) (k : w1.grownBy w2 (some q)) : w.grownBy w2 (some q) :=
  ⟨k.os.trans h.os, k.tape.trans h.tape, k.output.trans h.output, Nat.le_trans h.size k.size, fun j hj hne => (k.block j (Nat.lt_of_lt_of_le hj h.size) hne).trans (h.block j hj hne)⟩
theorem turned_below {w w1 : World} {B q : Nat} (h : w.grownBy w1 (some q)) (hq : B ≤ q) (hB : B ≤ w.heap.size) : Below B w w1 :=
  ⟨h.os, h.tape, h.output, h.size, fun j hj => h.block j (by omega) (fun e => by injection e; omega)⟩

theorem row_set (l : List Int) (rest : List Value) (k : Nat) (x : Int) (h : k < l.length) : (ints l ++ rest).toArray.setIfInBounds k (.int .i64 x) = (ints (l.set k x) ++ rest).toArray := by
  have hk : k < (ints l).length := by rw [length_ints]; exact h
  rw [List.setIfInBounds_toArray, List.set_append_left _ _ hk]
  simp [ints, List.map_set]

/-- Block q holds the first k of a, the others of b. -/
def Half (w : World) (q : Nat) (a b : List Int) (rest : List Value) (k : Nat) (wr : World) : Prop :=
  wr.heap[q]? = some (.cells (ints (mix a b k) ++ rest).toArray 3 (0, 0)) ∧ w.grownBy wr (some q)

theorem Half.cell {w wr : World} {q : Nat} {a b : List Int} {rest : List Value} {k : Nat} (h : Half w q a b rest k wr) (hl : a.length = b.length) (x : Int) (hx : b[k]? = some x) : wr.cell? ⟨q, k, none⟩ = some (.int .i64 x) := by
  rw [cell_in h.1]
  have hk : k < b.length := (List.getElem?_eq_some_iff.1 hx).1
  have := mix_at a b k x hl hx
  rw [List.getElem?_toArray, List.getElem?_append_left (by rw [length_ints, length_mix a b k hl]; omega)]
  simp [ints, this]
theorem Half.set {w wr : World} {q : Nat} {a b : List Int} {rest : List Value} {k : Nat} (h : Half w q a b rest k wr) (hl : a.length = b.length) (x : Int) (hx : a[k]? = some x) : Half w q a b rest (k + 1) (wr.setCell ⟨q, k, none⟩ (.int .i64 x)) := by
  have hk : k < a.length := (List.getElem?_eq_some_iff.1 hx).1
  refine ⟨?_, grown_set h.2 _⟩
  rw [heap_set h.1, row_set _ _ _ _ (by rw [length_mix a b k hl]; exact hk), mix_succ a b k x hl hx]

def HalveAt (w : World) (q : Nat) (c : List Int) (rest : List Value) (n : Nat) (s t i : Value) (wr : World) : Prop :=
  ∃ k : Nat, k ≤ n ∧ i = .int .i64 (k : Int) ∧ s = .int .i64 (low c k) ∧ t = .int .i64 (low (half c) k) ∧ Half w q (ends (half c)) (ends c) rest k wr

set_option maxHeartbeats 2000000 in
set_option maxRecDepth 100000 in
theorem halve_any (w : World) (g q cap : Nat) (c : List Int) (h : TIs w g q cap c) (hone : ∀ x ∈ c, 1 ≤ x) (hs : c.sum ≤ 70000) (hm : c.length ≤ 256) :
    Calls Tryd.prog 44 #[.pointer (some ⟨g, 0, none⟩)] w fun e w' => e = .returned (.tuple #[]) ∧ TIs w' g q cap (half c) ∧ w.grownBy w' (some q) := by
  obtain ⟨rest, hrow⟩ := h.row
  have hne := h.ne
  have hz : ∀ x ∈ c, 0 ≤ x := fun x hx => by have := hone x hx; omega
  have c0w := h.head
  have HT := Lib.hid h
  have HZ := Lib.hid hz
  have HZ2 := Lib.hid (fun x hx => show (0 : Int) ≤ x by have := one_half hone x hx; omega)
  have HL := Lib.hid (show (ends (half c)).length = (ends c).length by rw [length_ends, length_ends, length_half])
  have HS := Lib.hid hs
  have HROW := Lib.hid hrow
  obtain ⟨n, hn⟩ : ∃ n, c.length = n := ⟨_, rfl⟩
  rw [hn] at c0w hm
  have HN := Lib.hid hn
  clear h hz hone hs hrow hn
  go_enter Tryd.func44, Tryd.ntmps44
  go_wp2_with fail
  go_loopw [2, 3, 11] (HalveAt w q c rest n) (fun _ _ i _ => n - (intOf i).toNat)
  case atStart => exact ⟨0, Nat.zero_le _, rfl, by rw [low_zero], by rw [low_zero], by rw [mix_zero]; exact HROW.out, World.grownBy.refl w _⟩
  case round =>
    obtain ⟨k, hk, rfl, rfl, rfl, hh⟩ := hrel
    have HH := Lib.hid hh
    have c0 := (hh.2.cell_far ⟨g, 0, none⟩ HT.out.lt (fun e => hne (by injection e))).trans c0w
    by_cases hlt : k < n
    · have hkc : k < c.length := by rw [HN.out]; exact hlt
      have ck := hh.cell HL.out _ (ends_at c k hkc)
      have fk := frozen_in hh.1 k
      have s1 := low_succ c k
      have s2 := low_succ (half c) k
      rw [half_at c k hkc] at s2
      have b1 := low_nonneg HZ.out k
      have b2 := low_sum HZ.out (k + 1)
      have b3 := zero_at HZ.out k
      have b4 := low_nonneg HZ2.out k
      have b5 := half_le c (k + 1) (by omega)
      have b6 := HS.out
      have HW := Lib.hid (hh.set HL.out _ (ends_at (half c) k (by rw [length_half]; exact hkc)))
      have hkn : (k : Int) < n := by omega
      clear hh
      obtain ⟨y, hy⟩ : ∃ y, c.getD k 0 = y := ⟨_, rfl⟩
      rw [hy] at s1 s2 b3
      have e1 : low c (k + 1) - low c k = y := by omega
      have HS2 := Lib.hid s2
      have HS1 := Lib.hid s1
      rw [s1] at ck b2
      have b7 : low (half c) (k + 1) ≤ 70000 := by omega
      rw [s2] at b7
      clear hy e1 b5 s1 s2
      generalize hA : low c k = A at *
      generalize hD : low (half c) k = D at *
      have HA := Lib.hid hA
      have HD := Lib.hid hD
      clear hA hD
      have e2 : IntKind.i64.wrap (A + y - A) = y := by rw [show A + y - A = y by omega]; exact IntWalk.i64_in _ (by omega)
      have e2' : IntKind.i64.wrap y = y := IntWalk.i64_in _ (by omega)
      have e3 : IntKind.i64.wrap (y + 1) = y + 1 := IntWalk.i64_in _ (by omega)
      have e4 : IntKind.i64.wrap ((y + 1) / 2) = (y + 1) / 2 := IntWalk.i64_in _ (by omega)
      have e5 : IntKind.i64.wrap (D + (y + 1) / 2) = D + (y + 1) / 2 := IntWalk.i64_in _ (by omega)
      go_wp2_with fail
      rw [← HS2.out]
      exact ⟨⟨k + 1, by omega, by go_num, by rw [HS1.out], rfl, HW.out⟩, by simp [intOf]; omega⟩
    · obtain rfl : k = n := by omega
      clear hh
      have hnl : ¬ (k : Int) < k := by omega
      go_wp2
      go_end0
      refine ⟨rfl, ⟨?_, ?_⟩, HH.out.2⟩
      · rw [HH.out.2.block g HT.out.lt (fun e => hne (by injection e)), HT.out.blk, length_half]
      · refine ⟨rest, ?_⟩
        have := HH.out.1
        rwa [mix_all _ _ _ HL.out (by rw [length_ends, length_half, HN.out]; exact Nat.le_refl _)] at this

theorem bump_nil (w : World) : Calls Tryd.prog 25 #[.pointer none, .int .i64 0] w fun e w' => e = .returned (.int .i64 1) ∧ Reading w w' := by
  go_enter Tryd.func25, Tryd.ntmps25
  go_wp2
  go_ret
  exact ⟨rfl, 0, rfl⟩

theorem bump_range (w : World) (g q cap : Nat) (c : List Int) (x : Int) (h : TIs w g q cap c) (hx : ¬ (0 ≤ x ∧ x < c.length)) :
    Calls Tryd.prog 25 #[.pointer (some ⟨g, 0, none⟩), .int .i64 x] w fun e w' => e = .returned (.int .i64 2) ∧ Reading w w' := by
  have K := has_any w g q cap c x h
  rw [show decide (0 ≤ x ∧ x < c.length) = false by simpa using hx] at K
  have KH := Lib.hid K
  clear h K hx
  go_enter Tryd.func25, Tryd.ntmps25
  go_wp2_with fail
  refine KH.out.mono ?_
  rintro e w1 ⟨rfl, b1⟩
  have B1 := Lib.hid b1
  clear b1
  go_wp2
  go_ret
  exact ⟨rfl, B1.out⟩

def BumpAt (w : World) (q : Nat) (a b : List Int) (rest : List Value) (s n : Nat) (i : Value) (wr : World) : Prop :=
  ∃ k : Nat, s ≤ k ∧ k ≤ n ∧ i = .int .i64 (k : Int) ∧ Half w q a b rest k wr

set_option maxHeartbeats 2000000 in
set_option maxRecDepth 100000 in
theorem bump_ok (w : World) (g q cap : Nat) (c : List Int) (s : Nat) (h : TIs w g q cap c) (ok : Ok c) (hs : s < c.length) :
    Calls Tryd.prog 25 #[.pointer (some ⟨g, 0, none⟩), .int .i64 (s : Int)] w fun e w' => e = .returned (.int .i64 0) ∧ TIs w' g q cap (bumped c s) ∧ w.grownBy w' (some q) := by
  have K := has_any w g q cap c (s : Int) h
  rw [show decide (0 ≤ (s : Int) ∧ (s : Int) < c.length) = true by simp; omega] at K
  have KH := Lib.hid K
  obtain ⟨rest, hrow⟩ := h.row
  have hne := h.ne
  have hfew := ok.few
  have HROW := Lib.hid hrow
  have HT := Lib.hid h
  have HOK := Lib.hid ok
  have HL := Lib.hid (show (ends (more c s)).length = (ends c).length by rw [length_ends, length_ends, length_more])
  have HM := Lib.hid (show mix (ends (more c s)) (ends c) s = ends c from mix_start _ _ _ fun k hk => by
    rw [ends_at c k (by omega), ends_at (more c s) k (by rw [length_more]; omega), low_more c s (k + 1) hs, if_neg (by omega)])
  have H2 := Lib.hid (fun W (t : TIs W g q cap (more c s)) => total_any W g q cap (more c s) t (by rw [length_more]; omega) (by rw [length_more]; omega))
  have H3 := Lib.hid (fun W (t : TIs W g q cap (more c s)) => halve_any W g q cap (more c s) t (one_more ok.one s hs) (by rw [sum_more c s hs]; have := ok.total; omega) (by rw [length_more]; omega))
  rw [sum_more c s hs] at H2
  have HB := Lib.hid (show bumped c s = if 65536 < c.sum + 32 then half (more c s) else more c s from rfl)
  have c0w := h.head
  obtain ⟨n, hn⟩ : ∃ n, c.length = n := ⟨_, rfl⟩
  rw [hn] at c0w hs hfew
  have HN := Lib.hid hn
  clear h K ok hrow hn
  go_enter Tryd.func25, Tryd.ntmps25
  go_wp2_with fail
  refine KH.out.mono ?_
  rintro e w1 ⟨rfl, b1⟩
  have HG := Lib.hid (show w.grownBy w1 (some q) from grown_read (World.grownBy.refl w _) b1)
  have HROW1 := Lib.hid (show w1.heap[q]? = some (.cells (ints (ends c) ++ rest).toArray 3 (0, 0)) by rw [b1.heap]; exact HROW.out)
  clear b1
  go_wp2_with fail
  go_loopw [5] (BumpAt w q (ends (more c s)) (ends c) rest s n) (fun i _ => n - (intOf i).toNat)
  case atStart => exact ⟨s, Nat.le_refl _, by omega, rfl, by rw [HM.out]; exact HROW1.out, HG.out⟩
  case round =>
    obtain ⟨k, hk0, hk, rfl, hh⟩ := hrel
    have HH := Lib.hid hh
    have c0 := (hh.2.cell_far ⟨g, 0, none⟩ HT.out.lt (fun e => hne (by injection e))).trans c0w
    by_cases hlt : k < n
    · have hkc : k < c.length := by rw [HN.out]; exact hlt
      have ck := hh.cell HL.out _ (ends_at c k hkc)
      have fk := frozen_in hh.1 k
      have HW := hh.set HL.out _ (ends_at (more c s) k (by rw [length_more]; exact hkc))
      rw [low_more c s (k + 1) (by rw [HN.out]; exact hs), if_pos (by omega)] at HW
      have HW2 := Lib.hid HW
      have hb := HOK.out.low_le' (k + 1)
      have hkn : (k : Int) < n := by omega
      clear hh HW
      generalize low c (k + 1) = y at *
      have e3 : IntKind.i64.wrap (y + 32) = y + 32 := IntWalk.i64_in _ (by omega)
      go_wp2_with fail
      exact ⟨⟨k + 1, by omega, by omega, by go_num, HW2.out⟩, by simp [intOf]; omega⟩
    · obtain rfl : k = n := by omega
      have T1 := Lib.hid (show TIs wr g q cap (more c s) from ⟨by rw [hh.2.block g HT.out.lt (fun e => hne (by injection e)), HT.out.blk, length_more], rest, by
        have := hh.1
        rwa [mix_all _ _ _ HL.out (by rw [length_ends, length_more, HN.out]; exact Nat.le_refl _)] at this⟩)
      clear hh
      have hnl : ¬ (k : Int) < k := by omega
      go_wp2_with fail
      refine (H2.out wr T1.out).mono ?_
      rintro e w2 ⟨rfl, b2⟩
      have T2 := Lib.hid (T1.out.read b2)
      have G2 := Lib.hid (grown_read HH.out.2 b2)
      clear b2
      have hbb := HB.out
      generalize c.sum + 32 = S at *
      by_cases hS : 65536 < S
      · have HE := Lib.hid (show bumped c s = half (more c s) by rw [hbb, if_pos hS])
        clear hbb
        go_wp2_with fail
        refine (H3.out w2 T2.out).mono ?_
        rintro e w3 ⟨rfl, t3, g3⟩
        have T3 := Lib.hid t3
        have G3 := Lib.hid (grown_trans G2.out g3)
        clear t3 g3
        go_wp2
        go_ret
        rw [HE.out]
        exact ⟨rfl, T3.out, G3.out⟩
      · have HE := Lib.hid (show bumped c s = more c s by rw [hbb, if_neg hS])
        clear hbb
        go_wp2
        go_ret
        rw [HE.out]
        exact ⟨rfl, T2.out, G2.out⟩
end Go.Proofs.YtbkjfblmdilchaaDoor
