/- Layer 8: edges compared and sorted. -/
import Derived.Test.YtoianhaocjiffaaGP
import Derived.Test.YtoianhaocjiffaaSortLay
import Derived.Test.YtoianhaocjiffaaGM
import Derived.Deep.RegionHeld3
namespace Go.Proofs.Ytoianhaocjiffaa
open Go.RowKit Go.Sort

/-- cmp.Compare of two ints. -/
def cmpZ (a b : Int) : Int := if a < b then -1 else if b < a then 1 else 0

set_option maxHeartbeats 1600000 in
set_option maxRecDepth 100000 in
theorem isNaN_any (w : World) (a : Int) : Calls Try.prog 70 #[.int .i64 a] w fun e w' => e = .returned (.bool false) ∧ w' = w := by
  go_enter Try.func70, Try.ntmps70
  go_wp2
  go_ret
  exact ⟨rfl, rfl⟩

set_option maxHeartbeats 1600000 in
set_option maxRecDepth 100000 in
theorem cmpInt_any (w : World) (a b : Int) : Calls Try.prog 54 #[.int .i64 a, .int .i64 b] w fun e w' => e = .returned (.int .i64 (cmpZ a b)) ∧ w' = w := by
  have K := Lib.hid isNaN_any
  unfold cmpZ
  by_cases h1 : a < b
  · rw [if_pos h1]
    go_enter Try.func54, Try.ntmps54
    go_wp2_with (go_at_call 70; refine (K.out _ _).mono ?_; rintro e w' ⟨rfl, rfl⟩)
    go_ret
    exact ⟨rfl, rfl⟩
  · rw [if_neg h1]
    by_cases h2 : b < a
    · rw [if_pos h2]
      go_enter Try.func54, Try.ntmps54
      go_wp2_with (go_at_call 70; refine (K.out _ _).mono ?_; rintro e w' ⟨rfl, rfl⟩)
      go_ret
      exact ⟨rfl, rfl⟩
    · rw [if_neg h2]
      go_enter Try.func54, Try.ntmps54
      go_wp2_with (go_at_call 70; refine (K.out _ _).mono ?_; rintro e w' ⟨rfl, rfl⟩)
      go_ret
      exact ⟨rfl, rfl⟩

def OrAt (w : World) (x y : Int) (i : Value) (wr : World) : Prop := w = wr ∧ ∃ k : Nat, i = .int .i64 (k : Int) ∧ (k = 0 ∨ (k = 1 ∧ x = 0) ∨ (k = 2 ∧ x = 0 ∧ y = 0))
def orZ (x y : Int) : Int := if x = 0 then y else x
def OrTold (w : World) (z : Int) (e : Ending) (w' : World) : Prop := e = .returned (.int .i64 z) ∧ w' = w

set_option maxHeartbeats 1600000 in
set_option maxRecDepth 100000 in
theorem cmpOr_any (w : World) (q c : Nat) (x y : Int) (c0 : w.cell? ⟨q, 0, none⟩ = some (.int .i64 x)) (c1 : w.cell? ⟨q, 1, none⟩ = some (.int .i64 y)) : Calls Try.prog 53 #[.slice (some ⟨q, 0, none⟩) 2 c] w (OrTold w (orZ x y)) := by
  go_enter Try.func53, Try.ntmps53
  go_wp2_with fail
  go_loopw [8] (OrAt w x y) (fun i _ => 2 - (intOf i).toNat)
  case atStart => exact ⟨rfl, 0, rfl, .inl rfl⟩
  case round =>
    obtain ⟨rfl, k, rfl, h⟩ := hrel
    rcases h with rfl | ⟨rfl, rfl⟩ | ⟨rfl, rfl, rfl⟩
    · by_cases hx : x = 0
      · subst hx
        go_wp2_with fail
        exact ⟨⟨rfl, 1, rfl, .inr (.inl ⟨rfl, rfl⟩)⟩, by simp [intOf]⟩
      · have f0 : (x != 0) = true := by simpa using hx
        have HX := Lib.hid hx
        clear hx
        go_wp2
        go_ret
        exact ⟨by rw [orZ, if_neg HX.out]; rfl, rfl⟩
    · by_cases hx : y = 0
      · subst hx
        go_wp2_with fail
        exact ⟨⟨rfl, 2, rfl, .inr (.inr ⟨rfl, rfl, rfl⟩)⟩, by simp [intOf]⟩
      · have f0 : (y != 0) = true := by simpa using hx
        clear hx
        go_wp2
        go_ret
        exact ⟨rfl, rfl⟩
    · go_wp2
      go_ret
      exact ⟨rfl, rfl⟩

/-- The order of edges. -/
def cmpE (a b : Ed) : Int := orZ (cmpZ a.1 b.1) (cmpZ a.2 b.2)
def CmpTold (w : World) (z : Int) (e : Ending) (w' : World) : Prop := e = .returned (.int .i64 z) ∧ ∃ n os, w' = grow (w.drewN n) os

set_option maxHeartbeats 4000000 in
set_option maxRecDepth 100000 in
theorem scmp_any (w : World) (x0 x1 y0 y1 : Int) : Calls Try.prog 41 #[.agg #[.int .i64 x0, .int .i64 x1], .agg #[.int .i64 y0, .int .i64 y1]] w (CmpTold w (cmpE (x0, x1) (y0, y1))) := by
  have KC := Lib.hid (fun W a b => cmpInt_any W a b)
  have KO := Lib.hid (fun W q x y h0 h1 => cmpOr_any W q 2 x y h0 h1)
  go_enter Try.func41, Try.ntmps41
  go_wp2_with fail
  obtain ⟨w1, hw1⟩ : ∃ w1, w.alloc (.cells #[.int .i64 x0, .int .i64 x1] 45) = w1 := ⟨_, rfl⟩
  have s1 : w1.heap.size = w.heap.size + 1 := by rw [← hw1]; simp
  obtain ⟨w2, hw2⟩ : ∃ w2, w1.alloc (.cells #[.int .i64 y0, .int .i64 y1] 45) = w2 := ⟨_, rfl⟩
  have q0 : w2.heap[w.heap.size]? = some (.cells #[.int .i64 x0, .int .i64 x1] 45 (0, 0)) := by rw [← hw2]; exact (((Below.refl _ w1).alloc (Nat.le_refl _) _).block _ (by omega)).trans (by rw [← hw1]; exact heap_alloc_new w _)
  have q1 : w2.heap[w.heap.size + 1]? = some (.cells #[.int .i64 y0, .int .i64 y1] 45 (0, 0)) := by rw [← hw2, ← s1]; exact heap_alloc_new w1 _
  simp only [hw1, hw2]
  have HW := Lib.hid (And.intro hw1 hw2)
  obtain ⟨g, hg⟩ : ∃ g, w.heap.size = g := ⟨_, rfl⟩
  simp only [hg]
  rw [hg] at q0 q1
  have d0 := cell_in q0 0
  have d1 := cell_in q0 1
  have d2 := cell_in q1 0
  have d3 := cell_in q1 1
  simp only [List.getElem?_toArray, List.getElem?_cons_zero, List.getElem?_cons_succ] at d0 d1 d2 d3
  have hd : w2.drew.cell? ⟨g, 0, none⟩ = some (.int .i64 x0) ∧ w2.drew.cell? ⟨g, 1, none⟩ = some (.int .i64 x1) ∧ w2.drew.cell? ⟨g + 1, 0, none⟩ = some (.int .i64 y0) ∧ w2.drew.cell? ⟨g + 1, 1, none⟩ = some (.int .i64 y1) := ⟨d0, d1, d2, d3⟩
  have HD := Lib.hid (fun (o : Obj) => (⟨(((Below.refl _ w2.drew).alloc (Nat.le_refl _) o).cell (World.block_lt_of_cell? w2.drew _ hd.1)).trans hd.1, (((Below.refl _ w2.drew).alloc (Nat.le_refl _) o).cell (World.block_lt_of_cell? w2.drew _ hd.2.1)).trans hd.2.1, (((Below.refl _ w2.drew).alloc (Nat.le_refl _) o).cell (World.block_lt_of_cell? w2.drew _ hd.2.2.1)).trans hd.2.2.1, (((Below.refl _ w2.drew).alloc (Nat.le_refl _) o).cell (World.block_lt_of_cell? w2.drew _ hd.2.2.2)).trans hd.2.2.2⟩ : _ ∧ _ ∧ _ ∧ _))
  clear q0 q1 hw1 hw2 s1 hg
  obtain ⟨z0, hz0⟩ : ∃ z, cmpZ x0 y0 = z := ⟨_, rfl⟩
  obtain ⟨z1, hz1⟩ : ∃ z, cmpZ x1 y1 = z := ⟨_, rfl⟩
  have KC0 := Lib.hid (fun W => KC.out W x0 y0)
  have KC1 := Lib.hid (fun W => KC.out W x1 y1)
  rw [hz0] at KC0
  rw [hz1] at KC1
  have HZ := Lib.hid (And.intro hz0 hz1)
  clear hz0 hz1
  go_region_held3 (fun w' => w'.cell? ⟨g, 0, none⟩ = some (.int .i64 x0) ∧ w'.cell? ⟨g, 1, none⟩ = some (.int .i64 x1) ∧ w'.cell? ⟨g + 1, 0, none⟩ = some (.int .i64 y0) ∧ w'.cell? ⟨g + 1, 1, none⟩ = some (.int .i64 y1))
    (first | exact hd | exact HD.out _ | fail)
    (first
      | (go_at_call 54; (with_reducible refine (KC0.out _).mono ?_); rintro e w' ⟨rfl, rfl⟩)
      | (go_at_call 54; (with_reducible refine (KC1.out _).mono ?_); rintro e w' ⟨rfl, rfl⟩)
      | (go_at_call 53; refine (KO.out _ _ z0 z1 (cell_in (heap_alloc_new w2.drew (.cells #[.int .i64 z0, .int .i64 z1] 3)) 0) (cell_in (heap_alloc_new w2.drew (.cells #[.int .i64 z0, .int .i64 z1] 3)) 1)).mono ?_; rintro e w' ⟨rfl, rfl⟩)
      | fail)
  all_goals
    go_wp2_with fail
    go_ret
    exact ⟨by rw [cmpE, HZ.out.1, HZ.out.2]; rfl, 1, _, by rw [← HW.out.2, ← HW.out.1, alloc_eq_grow, alloc_eq_grow, alloc_eq_grow, grow_grow, grow_grow]; rfl⟩

def encE (x : Ed) : List Value := [.int .i64 x.1, .int .i64 x.2]
theorem cmpLaysE (blk off size : Nat) (w : World) : CmpLays Try.prog 41 #[] encE 2 cmpE blk off size w :=
  fun _ _ _ _ x y => scmp_any _ x.1 x.2 y.1 y.2
/-- The order of edges: by the first vertex, then by the second. -/
instance (a b : Ed) : Decidable (ltE a b) := inferInstanceAs (Decidable (_ ∨ _))
theorem ltOf_cmp (a b : Ed) : ltOf cmpE a b = decide (ltE a b) := by
  have key : cmpE a b < 0 ↔ ltE a b := by
    unfold cmpE orZ cmpZ ltE
    by_cases h1 : a.1 < b.1
    · simp [h1]
    · by_cases h2 : b.1 < a.1
      · have : ¬ a.1 = b.1 := by omega
        simp [h1, h2, this]
      · have e : a.1 = b.1 := by omega
        by_cases h3 : a.2 < b.2
        · simp [e, h3]
        · by_cases h4 : b.2 < a.2 <;> simp [e, h3, h4]
  unfold ltOf
  rw [Bool.eq_iff_iff, decide_eq_true_iff, decide_eq_true_iff, key]
theorem swoE : SWO (ltOf cmpE) where
  irrefl x := by rw [ltOf_cmp]; simp [ltE]
  trans x y z h1 h2 := by
    rw [ltOf_cmp, decide_eq_true_iff] at *
    unfold ltE at *
    omega
  ntrans x y z h1 h2 := by
    rw [ltOf_cmp, decide_eq_false_iff_not] at *
    unfold ltE at *
    omega
theorem ints_at8 (xs : List Int) (i : Nat) : (ints xs)[i]? = (xs[i]?).map (Value.int .i64) := by simp [ints]
theorem flatK_list (L : List Ed) : (flatK encE 2 L.toArray).toList = ints (flat2 L) := by
  apply List.ext_getElem?
  intro t
  have hs : (flatK encE 2 L.toArray).size = L.length * 2 := by rw [size_flatK, List.size_toArray]
  by_cases h : t < L.length * 2
  · have hg := get_flatK encE 2 L.toArray t (by rw [List.size_toArray]; exact h)
    have h1 : (flatK encE 2 L.toArray).toList[t]? = some ((encE L.toArray[t / 2]!)[t % 2]!) := by
      rw [← hg, Array.getElem?_toList, Array.getElem?_eq_getElem (by rw [hs]; exact h), getElem!_pos _ t (by rw [hs]; exact h)]
    obtain ⟨a0, a1⟩ := flat2_at L (t / 2) (by omega)
    have hd : L.toArray[t / 2]! = L.getD (t / 2) z2 := by
      rw [getElem!_pos L.toArray (t / 2) (by rw [List.size_toArray]; omega), List.getD_eq_getElem?_getD, List.getElem?_eq_getElem (by omega)]
      simp
    rw [h1, hd]
    rcases (show t % 2 = 0 ∨ t % 2 = 1 by omega) with e | e
    · rw [e, ints_at8, show t = 2 * (t / 2) by omega, show 2 * (t / 2) / 2 = t / 2 by omega, a0]; rfl
    · rw [e, ints_at8, show t = 2 * (t / 2) + 1 by omega, show (2 * (t / 2) + 1) / 2 = t / 2 by omega, a1]; rfl
  · rw [List.getElem?_eq_none (by rw [Array.length_toList, hs]; omega), List.getElem?_eq_none (by rw [length_ints, length_flat2]; omega)]
def SortTold (w : World) (B q n cap : Nat) (L : List Ed) (e : Ending) (w' : World) : Prop :=
  ∃ L' : List Ed, e = .returned (.tuple #[]) ∧ L'.Perm L ∧ L'.Pairwise (fun a b => ¬ ltE b a) ∧ w'.ownsRow B 45 2 (.slice (some ⟨q, 0, none⟩) n cap) n (ints (flat2 L')) ∧ Below B w w'

theorem ssort_any (w : World) (B q n cap : Nat) (L : List Ed) (h : w.ownsRow B 45 2 (.slice (some ⟨q, 0, none⟩) n cap) n (ints (flat2 L))) (hn : n ≤ 1000000) :
    Calls Try.prog 40 #[.slice (some ⟨q, 0, none⟩) n cap, .func (.func 41) #[] #[]] w (SortTold w B q n cap L) := by
  have hl : L.length = n := by have := h.1; rw [length_ints, length_flat2] at this; omega
  rcases h.2 with ⟨h1, _⟩ | ⟨g, cap', cur, h1, hq, hh, hc, hm, hs, ht⟩
  · cases h1
  injection h1 with h1 _ h3
  injection h1 with h1
  injection h1 with h1 _
  subst h1 h3
  have hsz : L.toArray.size = n := by rw [List.size_toArray]; exact hl
  have hH : HoldsK encE 2 w q 0 L.toArray := by
    intro j hj
    rw [size_flatK, hsz] at hj
    rw [Nat.zero_add]
    refine ⟨?_, frozen_in hh j⟩
    rw [cell_in hh]
    have e1 : cur.toList[j]? = (ints (flat2 L))[j]? := by rw [← ht, List.getElem?_take, if_pos hj]
    rw [Array.getElem?_toList] at e1
    rw [e1, ← flatK_list, Array.getElem?_toList]
    rw [Array.getElem?_eq_getElem (by rw [size_flatK, hsz]; exact hj), getElem!_pos _ j (by rw [size_flatK, hsz]; exact hj)]
    rfl
  have eg : ∀ args w, (callFunc 41 args).run Try.prog w = .ok (.enter 41 args) w := enters_of Try.func41 (by kernel_rfl) rfl
  have hcon := AnyQ.slices_SortFunc Try.sortE 2 Try.isAgg45 Try.sizeOf45 encE (fun _ => rfl) (fun x v hv => by simp [encE] at hv; rcases hv with rfl | rfl <;> rfl) cmpE swoE 41 #[] q 0 cap L.toArray w eg (cmpLaysE q 0 _ w) hH (heap_lt hh) (by rw [hsz]; omega)
  rw [hsz] at hcon
  refine hcon.mono ?_
  rintro e w' ⟨rfl, d', m, os, hp, hsd, rfl⟩
  have hd' : d'.size = n := by rw [hp.1, hsz]
  have hperm : d'.toList.Perm L := by
    have := hp.2.2
    rw [Array.extract_eq_self_of_le (by omega), Array.extract_eq_self_of_le (by omega)] at this
    simpa using this
  have hlen' : d'.toList.length = n := by rw [Array.length_toList]; exact hd'
  have hsorted : d'.toList.Pairwise (fun a b => ¬ ltE b a) := by
    rw [List.pairwise_iff_getElem]
    intro i j hi hj hij
    have := hsd i j (Nat.zero_le _) hij (by omega)
    rw [ltOf_cmp, decide_eq_false_iff_not, getElem!_pos d' j (by omega), getElem!_pos d' i (by omega)] at this
    simpa using this
  refine ⟨d'.toList, rfl, hperm, hsorted, ?_, ?_⟩
  · refine ⟨by rw [length_ints, length_flat2, hlen']; omega, .inr ⟨q, cap, putCells id 0 (flatK encE 2 d') cur, rfl, hq, ?_, hc, hm, by simp [putCells, hs], ?_⟩⟩
    · show (grow (putRowK encE 2 (Sort.ahead w m) q 0 d') os).heap[q]? = _
      have e1 : (putRowK encE 2 (Sort.ahead w m) q 0 d').heap[q]? = some (.cells (putCells id 0 (flatK encE 2 d') cur) 45 (0, 0)) := by
        show ((Sort.ahead w m).heap.modify q _)[q]? = _
        rw [Array.getElem?_modify, if_pos rfl]
        show (w.heap[q]?).map _ = _
        rw [hh]
        rfl
      show ((putRowK encE 2 (Sort.ahead w m) q 0 d').heap ++ os)[q]? = _
      rw [Array.getElem?_append_left (heap_lt e1), e1]
    · have hfl := flatK_list d'.toList
      rw [Array.toArray_toList] at hfl
      have hfs : (flatK encE 2 d').size = n * 2 := by rw [size_flatK, hd']
      apply List.ext_getElem?
      intro t
      rw [List.getElem?_take, ← hfl]
      by_cases htn : t < n * 2
      · rw [if_pos htn, Array.getElem?_toList, Array.getElem?_toList]
        have htc : t < cur.size := by rw [hs]; omega
        simp only [putCells, Array.getElem?_mapIdx, Array.getElem?_eq_getElem htc, Option.map_some]
        rw [if_pos ⟨Nat.zero_le _, by rw [hfs]; omega⟩, Nat.sub_zero, getElem!_pos _ t (by rw [hfs]; exact htn), Array.getElem?_eq_getElem (by rw [hfs]; exact htn)]
        rfl
      · rw [if_neg htn, Array.getElem?_toList, Array.getElem?_eq_none (by rw [hfs]; omega)]
  · refine ⟨rfl, rfl, rfl, ?_, fun j hj => ?_⟩
    · show w.heap.size ≤ ((putRowK encE 2 (Sort.ahead w m) q 0 d').heap ++ os).size
      rw [Array.size_append, size_putRowK]
      show w.heap.size ≤ w.heap.size + os.size
      omega
    · show ((putRowK encE 2 (Sort.ahead w m) q 0 d').heap ++ os)[j]? = _
      have hjq : q ≠ j := by omega
      have hq2 := heap_lt hh
      have hjs : j < (putRowK encE 2 (Sort.ahead w m) q 0 d').heap.size := by
        rw [size_putRowK]
        show j < w.heap.size
        omega
      rw [Array.getElem?_append_left hjs]
      show ((Sort.ahead w m).heap.modify q _)[j]? = _
      rw [Array.getElem?_modify, if_neg hjq]
      rfl
end Go.Proofs.Ytoianhaocjiffaa
