/- Layer 9: All, Check, Is, True. -/
import Derived.Test.YtelbmjbjpgcdaaaCeRep
import Derived.Test.YtelbmjbjpgcdaaaCeApp
namespace Go.Proofs.Ytelbmjbjpgcdaaa
open Go.RowKit

theorem kind_idx {k : Int} {q : Tr → Bool} {l : List Tr} {x : Wt} (h : x ∈ idxW k q l) : x.1 = k := by
  unfold idxW at h
  obtain ⟨i, _, rfl⟩ := List.mem_map.1 h
  rfl
theorem kind_pair {k : Int} {q : Tr → Tr → Bool} {l : List Tr} {x : Wt} (h : x ∈ pairW k q l) : x.1 = k := by
  unfold pairW at h
  obtain ⟨b, _, h2⟩ := List.mem_flatMap.1 h
  obtain ⟨i, _, rfl⟩ := List.mem_map.1 h2
  rfl
theorem kind_vert {k : Int} {q : Int → Bool} {N : Int} {x : Wt} (h : x ∈ vertW k q N) : x.1 = k := by
  unfold vertW at h
  obtain ⟨i, _, rfl⟩ := List.mem_map.1 h
  rfl
theorem firstL_in : ∀ (L : List (List Wt)), firstL L = [] ∨ firstL L ∈ L
  | [] => .inl rfl
  | [] :: r => by rcases firstL_in r with h | h
                  · exact .inl h
                  · exact .inr (List.mem_cons_of_mem _ h)
  | (x :: a) :: r => .inr (List.mem_cons_self)
/-- All that is told at once is of one kind, which is none of 0. -/
theorem wits_kind (p : Int → Bool) (N : Int) (tl : List Tr) : ∃ k : Int, 1 ≤ k ∧ ∀ x ∈ wits p N tl, x.1 = k := by
  rw [wits_stgs]
  rcases firstL_in (stgs p N tl) with h | h
  · exact ⟨1, by omega, fun x hx => by rw [h] at hx; cases hx⟩
  · generalize firstL (stgs p N tl) = ws at *
    simp only [stgs, List.mem_cons, List.not_mem_nil, or_false] at h
    rcases h with rfl | rfl | rfl | rfl | rfl | rfl
    · refine ⟨1, by omega, fun x hx => ?_⟩
      unfold indexW at hx
      split at hx
      · rw [List.mem_singleton.1 hx]
      · exact kind_idx hx
    · exact ⟨2, by omega, fun x hx => kind_idx hx⟩
    · exact ⟨3, by omega, fun x hx => kind_pair hx⟩
    · exact ⟨4, by omega, fun x hx => kind_pair hx⟩
    · exact ⟨5, by omega, fun x hx => kind_vert hx⟩
    · exact ⟨6, by omega, fun x hx => kind_vert hx⟩
theorem idxW_len9 (k : Int) (q : Tr → Bool) (l : List Tr) : (idxW k q l).length ≤ l.length := by
  unfold idxW
  rw [List.length_map]
  have := List.length_filter_le (fun i => q (l.getD i z3)) (List.range l.length)
  rwa [List.length_range] at this
theorem pairW_len9 (k : Int) (q : Tr → Tr → Bool) (l : List Tr) : (pairW k q l).length ≤ l.length * l.length := by
  have key : ∀ m, ((List.range m).flatMap fun b => ((List.range b).filter fun a => q (l.getD a z3) (l.getD b z3)).map fun a => ((k, ((a : Nat) : Int), ((b : Nat) : Int)) : Wt)).length ≤ m * m := by
    intro m
    induction m with
    | zero => simp
    | succ m ih =>
      rw [List.range_succ, List.flatMap_append, List.length_append, List.flatMap_singleton, List.length_map]
      have := List.length_filter_le (fun a => q (l.getD a z3) (l.getD m z3)) (List.range m)
      rw [List.length_range] at this
      rw [Nat.mul_add, Nat.add_mul]
      omega
  exact key _
theorem vertW_len9 (k : Int) (q : Int → Bool) (N : Int) : (vertW k q N).length ≤ N.toNat := by
  unfold vertW
  rw [List.length_map]
  have := List.length_filter_le (fun v : Nat => q v) (List.range N.toNat)
  rwa [List.length_range] at this
theorem wits_len (p : Int → Bool) (N : Int) (tl : List Tr) : (wits p N tl).length ≤ 67108864 := by
  unfold wits
  by_cases hr : N < 0 ∨ 4096 < N ∨ 8192 < tl.length
  · rw [if_pos hr]; simp
  · rw [if_neg hr]
    rcases firstL_in (stagesW p N tl) with h | h
    · rw [h]; simp
    · generalize firstL (stagesW p N tl) = ws at *
      have hm : tl.length * tl.length ≤ 8192 * 8192 := Nat.mul_le_mul (by omega) (by omega)
      have hm1 := pairW_len9 3 (fun t u => decide (twice t u)) tl
      have hm2 := pairW_len9 4 (fun t u => decide (mirrd t u)) tl
      have hm3 := idxW_len9 1 (fun t => decide (badT N t)) tl
      have hm4 := idxW_len9 2 (fun t => decide (loopT t)) tl
      have hm5 := vertW_len9 5 (lonely tl) N
      have hm6 := vertW_len9 6 p N
      simp only [stagesW, List.mem_cons, List.not_mem_nil, or_false] at h
      rcases h with rfl | rfl | rfl | rfl | rfl | rfl <;> omega
theorem handed_all {ws l : List Wt} (h : Handed ws (fun _ => true) l) : l = ws := by
  rcases h with ⟨h, _⟩ | ⟨m, x, _, _, _, h⟩
  · exact h
  · cases h
theorem handed_first {ws l : List Wt} (h : Handed ws (fun _ => false) l) : l.getLastD (0, 0, 0) = ws.headD (0, 0, 0) := by
  rcases h with ⟨rfl, h⟩ | ⟨m, x, rfl, hp, hm, _⟩
  · cases l with
    | nil => rfl
    | cons x r => exact absurd (h [x] ⟨r, rfl⟩ (by simp)) (by simp)
  · cases m with
    | nil =>
      obtain ⟨t, rfl⟩ := hp
      rfl
    | cons y r => exact absurd (hm [y] ⟨r, rfl⟩ (by simp)) (by simp)
theorem handed_among {ws l : List Wt} {y : Wt} (h : Handed ws (fun l => !decide (l.getLast? = some y)) l) : decide (l.getLast? = some y) = decide (y ∈ ws) := by
  have no : ∀ {m : List Wt}, AllGo (fun l => !decide (l.getLast? = some y)) m → y ∉ m := fun {m} hm hy => by
    obtain ⟨a, b, rfl⟩ := List.append_of_mem hy
    have := hm (a ++ [y]) ⟨b, by simp⟩ (by simp)
    simp at this
  rcases h with ⟨rfl, h⟩ | ⟨m, x, rfl, hp, hm, hx⟩
  · have hn := no h
    have : ¬ l.getLast? = some y := fun e => hn (List.mem_of_getLast? e)
    simp [this, hn]
  · have hx' : (m ++ [x]).getLast? = some y := by simpa using hx
    rw [List.getLast?_concat] at hx'
    injection hx' with hx'
    subst hx'
    have : x ∈ ws := hp.subset (by simp)
    simp [this]

theorem A_far {w : World} {A : Option Addr} {n : Nat} {tl : List Tr} (ht : T3 w A n tl) {S : Nat → Prop} (hS : ∀ b, S b → w.heap.size ≤ b) : 0 < n → ∀ b off, A = some ⟨b, off, none⟩ → ¬ S b := fun hn b off e hs => by
  obtain ⟨b', off', e', hc⟩ := ht.2 hn
  rw [e] at e'
  injection e' with e'
  injection e' with e1 e2
  subst e1
  have h1 : b < w.heap.size := World.block_lt_of_cell? w _ (hc 0 hn).1
  have := hS b hs
  omega
def CheckTold (w : World) (ws : List Wt) (e : Ending) (w' : World) : Prop := e = .returned (wv (ws.headD (0, 0, 0))) ∧ Below w.heap.size w w'
def AllTold (w : World) (ws : List Wt) (e : Ending) (w' : World) : Prop := ∃ q, e = .returned (.slice (some ⟨q, 0, none⟩) ws.length ws.length) ∧ T3 w' (some ⟨q, 0, none⟩) ws.length ws ∧ Below w.heap.size w w' ∧ w.heap.size ≤ q
def BoolTold9 (w : World) (b : Bool) (e : Ending) (w' : World) : Prop := e = .returned (.bool b) ∧ Below w.heap.size w w'

set_option maxHeartbeats 4000000 in
set_option maxRecDepth 100000 in
theorem ccheck_any (w : World) (N : Int) (A : Option Addr) (n c : Nat) (tl : List Tr) (p : Int → Bool) (ht : T3 w A n tl) (hp : IsPin tl p) (hn : n ≤ 1000000) : Calls Try.prog 18 #[.agg #[.int .i64 N, .slice A n c]] w (CheckTold w (wits p N tl)) := by
  obtain ⟨w1, hw1⟩ : ∃ w1, w.alloc (.cells #[.int .i64 N, .slice A n c] 24) = w1 := ⟨_, rfl⟩
  obtain ⟨a, ha⟩ : ∃ a, w.heap.size = a := ⟨_, rfl⟩
  have b1 : Below w.heap.size w w1 := by rw [← hw1]; exact (Below.refl _ w).alloc (Nat.le_refl _) _
  have x1 : Bx w1 a N A n c := by rw [← hw1, ← ha]; exact Bx.made w N A n c
  obtain ⟨w2, hw2⟩ : ∃ w2, w1.alloc (.cells #[.int .i64 0, .int .i64 0, .int .i64 0] 35) = w2 := ⟨_, rfl⟩
  obtain ⟨rb, hrb⟩ : ∃ rb, w1.heap.size = rb := ⟨_, rfl⟩
  have b2 : Below w1.heap.size w1 w2 := by rw [← hw2]; exact (Below.refl _ w1).alloc (Nat.le_refl _) _
  have r2 : w2.heap[rb]? = some (.cells #[.int .i64 0, .int .i64 0, .int .i64 0] 35 (0, 0)) := by rw [← hw2, ← hrb]; exact heap_alloc_new w1 _
  obtain ⟨w3, hw3⟩ : ∃ w3, w2.alloc (.cells #[.int .i64 0, .int .i64 0, .int .i64 0] 35) = w3 := ⟨_, rfl⟩
  obtain ⟨q, hq⟩ : ∃ q, w2.heap.size = q := ⟨_, rfl⟩
  have b3 : Below w2.heap.size w2 w3 := by rw [← hw3]; exact (Below.refl _ w2).alloc (Nat.le_refl _) _
  have q3 : w3.heap[q]? = some (.cells #[.int .i64 0, .int .i64 0, .int .i64 0] 35 (0, 0)) := by rw [← hw3, ← hq]; exact heap_alloc_new w2 _
  have hrq : rb < q := by rw [← hq]; exact heap_lt r2
  have r3 := (b3.block rb (heap_lt r2)).trans r2
  have b13 := b1.trans ((b2.trans (b3.mono b2.size)).mono b1.size)
  have x3 := x1.below (b2.trans (b3.mono b2.size))
  have z0 := x3.c0
  have z1 := x3.c1
  have hwq : w.heap.size ≤ q := by have := b1.size; omega
  have hwr : w.heap.size ≤ rb := by rw [← hrb]; exact b1.size
  have KR := Lib.hid (creport_any (check1_taker q (wits p N tl)) w3 N A n c tl p (ht.below b13) (show CheckSt q [] w3 from q3) (A_far ht fun b hb => by rw [show b = q from hb]; exact hwq) hp rfl hn)
  have HB := Lib.hid (And.intro b13 (And.intro r3 (And.intro hrq (And.intro hwq hwr))))
  have hmf : ∀ (fn : Fn) (first cap : Array Value) (w : World), (Instr.makeFunc fn first cap).run Try.prog w = .ok (.func fn first cap) w := fun _ _ _ _ => rfl
  clear b1 b2 b3 x1 x3 r2 r3 q3 hrq b13 hwq hwr ht hp
  go_enter Try.func18, Try.ntmps18
  go_wp2_with fail
  refine KR.out.mono ?_
  rintro e w4 ⟨rfl, l, hl, hi, hc⟩
  have hfi := handed_first hl
  unfold CheckSt at hi
  rw [hfi] at hi
  obtain ⟨y, hy⟩ : ∃ y, (wits p N tl).headD (0, 0, 0) = y := ⟨_, rfl⟩
  rw [hy] at hi
  have y0 : w4.cell? ⟨q, 0, none⟩ = some (.int .i64 y.1) := by rw [cell_in hi]; rfl
  have y1 : w4.cell? ⟨q, 1, none⟩ = some (.int .i64 y.2.1) := by rw [cell_in hi]; rfl
  have y2 : w4.cell? ⟨q, 2, none⟩ = some (.int .i64 y.2.2) := by rw [cell_in hi]; rfl
  have r4 := (hc.far rb (heap_lt HB.out.2.1) (fun e => by have h1 := HB.out.2.2.1; have : rb = q := e; omega)).trans HB.out.2.1
  have d0 : w4.cell? ⟨rb, 0, none⟩ = some (.int .i64 0) := by rw [cell_in r4]; rfl
  have d1 : w4.cell? ⟨rb, 1, none⟩ = some (.int .i64 0) := by rw [cell_in r4]; rfl
  have d2 : w4.cell? ⟨rb, 2, none⟩ = some (.int .i64 0) := by rw [cell_in r4]; rfl
  have f0 := frozen_in r4 0
  have f1 := frozen_in r4 1
  have f2 := frozen_in r4 2
  have HE := Lib.hid (And.intro r4 (And.intro (HB.out.1.trans (hc.below HB.out.1.size (fun b hb => by rw [show b = q from hb]; exact HB.out.2.2.2.1))) hy))
  clear hi hl hfi hc r4 hy
  go_wp2_with fail
  refine bodyPost_ret (results_cell_row rfl _ _ rb 35 #[.int .i64 y.1, .int .i64 y.2.1, .int .i64 y.2.2] (0, 0) _ rfl (set3 (w := w4) HE.out.1) under_wit rfl (by kernel_rfl)) rfl ?_
  exact ⟨by rw [HE.out.2.2], below_set3 HE.out.2.1 HB.out.2.2.2.2 _ _ _⟩
theorem field9 (W : World) (a b c : Int) : (Instr.field 35 (.agg #[.int .i64 a, .int .i64 b, .int .i64 c]) 0).run Try.prog W = .ok (.int .i64 a) W := by kernel_rfl
set_option maxRecDepth 100000 in
theorem cis_any (w : World) (N : Int) (A : Option Addr) (n c : Nat) (tl : List Tr) (p : Int → Bool) (ht : T3 w A n tl) (hp : IsPin tl p) (hn : n ≤ 1000000) : Calls Try.prog 16 #[.agg #[.int .i64 N, .slice A n c]] w (BoolTold9 w (wits p N tl).isEmpty) := by
  obtain ⟨w1, hw1⟩ : ∃ w1, w.alloc (.cells #[.int .i64 N, .slice A n c] 24) = w1 := ⟨_, rfl⟩
  obtain ⟨a, ha⟩ : ∃ a, w.heap.size = a := ⟨_, rfl⟩
  have b1 : Below w.heap.size w w1 := by rw [← hw1]; exact (Below.refl _ w).alloc (Nat.le_refl _) _
  have x1 : Bx w1 a N A n c := by rw [← hw1, ← ha]; exact Bx.made w N A n c
  have z0 := x1.c0
  have z1 := x1.c1
  have K := Lib.hid (ccheck_any w1 N A n c tl p (ht.below b1) hp hn)
  have B1 := Lib.hid b1
  obtain ⟨k, hk, hkind⟩ := wits_kind p N tl
  obtain ⟨ws, hws⟩ : ∃ ws, wits p N tl = ws := ⟨_, rfl⟩
  rw [hws] at K hkind ⊢
  clear b1 x1 ht hp hws
  cases ws with
  | nil =>
    have hfd := field9
    go_enter Try.func16, Try.ntmps16
    go_wp2_with fail
    refine K.out.mono ?_
    rintro e w2 ⟨rfl, b2⟩
    have B2 := Lib.hid (B1.out.trans (b2.mono B1.out.size))
    clear b2
    simp only [List.headD_nil, wv]
    go_wp2
    go_ret
    exact ⟨rfl, B2.out⟩
  | cons x r =>
    have hx := hkind x List.mem_cons_self
    have hz : (x.1 == 0) = false := by rw [beq_eq_false_iff_ne]; omega
    clear hkind hx
    have hfd := field9
    go_enter Try.func16, Try.ntmps16
    go_wp2_with fail
    refine K.out.mono ?_
    rintro e w2 ⟨rfl, b2⟩
    have B2 := Lib.hid (B1.out.trans (b2.mono B1.out.size))
    clear b2
    simp only [List.headD_cons, wv]
    go_wp2
    go_ret
    exact ⟨rfl, B2.out⟩
set_option maxHeartbeats 4000000 in
set_option maxRecDepth 100000 in
theorem ctrue_any (w : World) (N : Int) (A : Option Addr) (n c : Nat) (tl : List Tr) (p : Int → Bool) (y : Wt) (ht : T3 w A n tl) (hp : IsPin tl p) (hn : n ≤ 1000000) : Calls Try.prog 20 #[.agg #[.int .i64 N, .slice A n c], wv y] w (BoolTold9 w (decide (y ∈ wits p N tl))) := by
  obtain ⟨w1, hw1⟩ : ∃ w1, w.alloc (.cells #[.int .i64 N, .slice A n c] 24) = w1 := ⟨_, rfl⟩
  obtain ⟨a, ha⟩ : ∃ a, w.heap.size = a := ⟨_, rfl⟩
  have b1 : Below w.heap.size w w1 := by rw [← hw1]; exact (Below.refl _ w).alloc (Nat.le_refl _) _
  have x1 : Bx w1 a N A n c := by rw [← hw1, ← ha]; exact Bx.made w N A n c
  obtain ⟨w2, hw2⟩ : ∃ w2, w1.alloc (.cells #[.int .i64 y.1, .int .i64 y.2.1, .int .i64 y.2.2] 35) = w2 := ⟨_, rfl⟩
  obtain ⟨pb, hpb⟩ : ∃ pb, w1.heap.size = pb := ⟨_, rfl⟩
  have b2 : Below w1.heap.size w1 w2 := by rw [← hw2]; exact (Below.refl _ w1).alloc (Nat.le_refl _) _
  have p2 : w2.heap[pb]? = some (.cells #[.int .i64 y.1, .int .i64 y.2.1, .int .i64 y.2.2] 35 (0, 0)) := by rw [← hw2, ← hpb]; exact heap_alloc_new w1 _
  obtain ⟨w3, hw3⟩ : ∃ w3, w2.alloc (.cells #[.bool false] 4) = w3 := ⟨_, rfl⟩
  obtain ⟨q, hq⟩ : ∃ q, w2.heap.size = q := ⟨_, rfl⟩
  have b3 : Below w2.heap.size w2 w3 := by rw [← hw3]; exact (Below.refl _ w2).alloc (Nat.le_refl _) _
  have q3 : w3.heap[q]? = some (.cells #[.bool false] 4 (0, 0)) := by rw [← hw3, ← hq]; exact heap_alloc_new w2 _
  have hpq : pb < q := by rw [← hq]; exact heap_lt p2
  have p3 := (b3.block pb (heap_lt p2)).trans p2
  have b13 := b1.trans ((b2.trans (b3.mono b2.size)).mono b1.size)
  have x3 := x1.below (b2.trans (b3.mono b2.size))
  have z0 := x3.c0
  have z1 := x3.c1
  have z2 : w3.cell? ⟨q, 0, none⟩ = some (.bool false) := by rw [cell_in q3]; rfl
  have z2f := frozen_in q3 0
  have z2s := set_same9 q3
  have hwp : w.heap.size ≤ pb := by rw [← hpb]; exact b1.size
  have KR := Lib.hid (creport_any (true1_taker pb q (by omega) y (wits p N tl)) w3 N A n c tl p (ht.below b13) (show TrueSt pb q y [] w3 from ⟨p3, by simpa using q3⟩) (A_far ht fun b hb => by rcases hb with rfl | rfl <;> omega) hp rfl hn)
  have HB := Lib.hid (And.intro b13 (And.intro hpq hwp))
  have hmf : ∀ (fn : Fn) (first cap : Array Value) (w : World), (Instr.makeFunc fn first cap).run Try.prog w = .ok (.func fn first cap) w := fun _ _ _ _ => rfl
  clear b1 b2 b3 x1 x3 p2 p3 q3 hpq b13 hwp ht hp
  go_enter Try.func20, Try.ntmps20
  go_wp2_with fail
  refine KR.out.mono ?_
  rintro e w4 ⟨rfl, l, hl, hi, hc⟩
  have hfi := handed_among hl
  have y0 : w4.cell? ⟨q, 0, none⟩ = some (.bool (decide (y ∈ wits p N tl))) := by rw [cell_in hi.among, ← hfi]; rfl
  have HE := Lib.hid (HB.out.1.trans (hc.below HB.out.1.size (fun b hb => by have h1 := HB.out.2.1; have h2 := HB.out.2.2; rcases hb with rfl | rfl <;> omega)))
  clear hi hl hfi hc
  go_wp2
  go_ret
  exact ⟨rfl, HE.out⟩
theorem makeW9 (n : Nat) (hn : n ≤ 67108864) (W : World) : (Instr.makeSlice 27 (.int .i64 0) (.int .i64 (n : Int))).run Try.prog W = .ok (.slice (some ⟨W.heap.size, 0, none⟩) 0 n) (W.alloc (.cells (ints (List.replicate (n * 3) 0)).toArray 35)) := by
  obtain ⟨i0, hi, hz0, hz1, hz2⟩ := info_parts Try.infoWit
  have := run_make (P := Try.prog) W 27 35 i0 _ Try.underlying27 hi hz0 .i64 .i64 0 (n : Int) (by omega) (by omega) (by rw [hz2]; omega) (by omega)
  rw [this, hz1]
  have e : madeCells (Value.agg #[.int .i64 0, .int .i64 0, .int .i64 0]).cells ((n : Int).toNat * 3) = (ints (List.replicate (n * 3) 0)).toArray := by
    apply Array.toList_inj.1
    show (madeCells #[.int .i64 0, .int .i64 0, .int .i64 0] (n * 3)).toList = _
    rw [made_zero]; simp [ints]
  rw [e]
  rfl
theorem WRow.told {w : World} {q : Nat} {l : List Wt} {cap : Nat} (h : WRow w q l cap) : T3 w (some ⟨q, 0, none⟩) l.length l := by
  obtain ⟨_, rest, _, hh⟩ := h
  refine ⟨rfl, fun _ => ⟨q, 0, rfl, fun i hi => ?_⟩⟩
  obtain ⟨a0, a1, a2⟩ := flat3_at l i hi
  have hl : ∀ j v, (flat3 l)[j]? = some v → w.cell? ⟨q, j, none⟩ = some (.int .i64 v) := fun j v hv => by
    have hj : j < (ints (flat3 l)).length := by rw [length_ints]; exact (List.getElem?_eq_some_iff.1 hv).1
    rw [cell_in hh, List.getElem?_toArray, List.getElem?_append_left hj, ints_at, hv]; rfl
  simp only [Nat.zero_add, Nat.mul_comm i 3]
  exact ⟨hl _ _ a0, hl _ _ a1, hl _ _ a2⟩

set_option maxHeartbeats 4000000 in
set_option maxRecDepth 100000 in
theorem call_any (w : World) (N : Int) (A : Option Addr) (n c : Nat) (tl : List Tr) (p : Int → Bool) (ht : T3 w A n tl) (hp : IsPin tl p) (hn : n ≤ 1000000) : Calls Try.prog 13 #[.agg #[.int .i64 N, .slice A n c]] w (AllTold w (wits p N tl)) := by
  obtain ⟨w1, hw1⟩ : ∃ w1, w.alloc (.cells #[.int .i64 N, .slice A n c] 24) = w1 := ⟨_, rfl⟩
  obtain ⟨a, ha⟩ : ∃ a, w.heap.size = a := ⟨_, rfl⟩
  have b1 : Below w.heap.size w w1 := by rw [← hw1]; exact (Below.refl _ w).alloc (Nat.le_refl _) _
  have x1 : Bx w1 a N A n c := by rw [← hw1, ← ha]; exact Bx.made w N A n c
  obtain ⟨w3, hw3⟩ : ∃ w3, w1.alloc (.cells #[.int .i64 0] 3) = w3 := ⟨_, rfl⟩
  obtain ⟨q, hq⟩ : ∃ q, w1.heap.size = q := ⟨_, rfl⟩
  have b3 : Below w1.heap.size w1 w3 := by rw [← hw3]; exact (Below.refl _ w1).alloc (Nat.le_refl _) _
  have q3 : w3.heap[q]? = some (.cells #[.int .i64 0] 3 (0, 0)) := by rw [← hw3, ← hq]; exact heap_alloc_new w1 _
  have b13 := b1.trans (b3.mono b1.size)
  have x3 := x1.below b3
  have z0 := x3.c0
  have z1 := x3.c1
  have z2 : w3.cell? ⟨q, 0, none⟩ = some (.int .i64 0) := by rw [cell_in q3]; rfl
  have z2f := frozen_in q3 0
  have z2s := set_same9 q3
  have hwq : w.heap.size ≤ q := by rw [← hq]; exact b1.size
  have haq : a < q := by rw [← hq]; exact heap_lt x1
  have hlen := wits_len p N tl
  obtain ⟨ws, hws⟩ : ∃ ws, wits p N tl = ws := ⟨_, rfl⟩
  have KR := Lib.hid (creport_any (all1_taker q ws (by rw [← hws]; omega)) w3 N A n c tl p (ht.below b13) ⟨Nat.zero_le _, q3⟩ (A_far ht fun b hb => by rw [show b = q from hb]; exact hwq) hp hws.symm hn)
  have KR2 := Lib.hid (fun W q2 r2 hqr (h1 : T3 W A n tl) (h2 : ListSt q2 r2 ws.length [] W) hA => creport_any (list_taker q2 r2 hqr ws) W N A n c tl p h1 h2 hA hp hws.symm hn)
  rw [hws] at hlen ⊢
  have HB := Lib.hid (And.intro b13 (And.intro hwq (And.intro x3 haq)))
  have HT := Lib.hid ht
  have hmf : ∀ (fn : Fn) (first cap : Array Value) (w : World), (Instr.makeFunc fn first cap).run Try.prog w = .ok (.func fn first cap) w := fun _ _ _ _ => rfl
  have hmk := fun W => makeW9 ws.length hlen W
  clear b1 b3 x1 x3 q3 b13 hwq haq ht hp hws
  go_enter Try.func13, Try.ntmps13
  go_wp2_with fail
  refine KR.out.mono ?_
  rintro e w4 ⟨rfl, l, hl, ⟨_, hi⟩, hc⟩
  obtain rfl := handed_all hl
  have b4 := hc.below HB.out.1.size (fun b hb => by rw [show b = q from hb]; exact HB.out.2.1)
  have x4 : Bx w4 a N A n c := (hc.far a (heap_lt HB.out.2.2.1) (fun e => by have h1 : a = q := e; have h2 := HB.out.2.2.2; omega)).trans HB.out.2.2.1
  have y0 : w4.cell? ⟨q, 0, none⟩ = some (.int .i64 (l.length : Int)) := by rw [cell_in hi]; rfl
  obtain ⟨w5, hw5⟩ : ∃ w5, w4.alloc (.cells (ints (List.replicate (l.length * 3) 0)).toArray 35) = w5 := ⟨_, rfl⟩
  obtain ⟨r, hr⟩ : ∃ r, w4.heap.size = r := ⟨_, rfl⟩
  have b5 : Below w4.heap.size w4 w5 := by rw [← hw5]; exact (Below.refl _ w4).alloc (Nat.le_refl _) _
  have r5 : w5.heap[r]? = some (.cells (ints (List.replicate (l.length * 3) 0)).toArray 35 (0, 0)) := by rw [← hw5, ← hr]; exact heap_alloc_new w4 _
  obtain ⟨w6, hw6⟩ : ∃ w6, w5.alloc (.cells #[.slice (some ⟨r, 0, none⟩) 0 l.length] 27) = w6 := ⟨_, rfl⟩
  obtain ⟨s, hs⟩ : ∃ s, w5.heap.size = s := ⟨_, rfl⟩
  have b6 : Below w5.heap.size w5 w6 := by rw [← hw6]; exact (Below.refl _ w5).alloc (Nat.le_refl _) _
  have s6 : w6.heap[s]? = some (.cells #[.slice (some ⟨r, 0, none⟩) 0 l.length] 27 (0, 0)) := by rw [← hw6, ← hs]; exact heap_alloc_new w5 _
  have r6 := (b6.block r (heap_lt r5)).trans r5
  have hrs : r < s := by rw [← hs]; exact heap_lt r5
  have hsz := HB.out.1.size
  have hsz4 := b4.size
  have b36 := (HB.out.1.trans b4).trans ((b5.trans (b6.mono b5.size)).mono (Nat.le_trans HB.out.1.size hc.size))
  have x6 := x4.below (b5.trans (b6.mono b5.size))
  have z3 := x6.c0
  have z4 := x6.c1
  have L6 : ListSt s r l.length [] w6 := ⟨Nat.zero_le _, s6, Nat.zero_le _, ints (List.replicate (l.length * 3) 0), by simp [ints], r6⟩
  have hwr : w.heap.size ≤ r := by have := hc.size; omega
  have K2 := Lib.hid (KR2.out w6 s r (by omega) (HT.out.below b36) L6 (A_far HT.out fun b hb => by rcases hb with rfl | rfl <;> omega))
  have HE := Lib.hid (And.intro b36 (And.intro hwr hrs))
  clear b4 x4 hi hc hl b5 r5 b6 s6 r6 hrs hsz hsz4 b36 x6 L6 hwr
  go_wp2_with fail
  refine K2.out.mono ?_
  rintro e w7 ⟨rfl, l', hl', hi', hc'⟩
  obtain rfl := handed_all hl'
  have y7 : w7.cell? ⟨s, 0, none⟩ = some (.slice (some ⟨r, 0, none⟩) l'.length l'.length) := by rw [cell_in hi'.cell]; rfl
  have HF := Lib.hid (And.intro hi'.row.told (HE.out.1.trans (hc'.below HE.out.1.size (fun b hb => by have h1 := HE.out.2.1; have h2 := HE.out.2.2; rcases hb with rfl | rfl <;> omega))))
  clear hi' hc' hl'
  go_wp2
  go_ret
  exact ⟨r, rfl, HF.out.1, HF.out.2, HE.out.2.1⟩
end Go.Proofs.Ytelbmjbjpgcdaaa
