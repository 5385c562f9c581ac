/- Texts laid one behind the other: KoRef, KoFac, KoTab, TriApp, KoLook, KoNew. -/
import Derived.Test.YtkcmieblnajmpaaGP
import Derived.Test.YtkcmieblnajmpaaGM
import Derived.BigQuiet
import Derived.Handy
import Derived.IntWalk
import Derived.Deep.RegionHeld3
import Derived.Test.YtkcmieblnajmpaaGC
import Derived.Test.YtkcmieblnajmpaaGS
import Derived.Test.YtkcmieblnajmpaaGD

/- Layer 10: the document's answers: corners, by definition. -/
namespace Go.Proofs.Ytkcmieblnajmpaa
open Go.RowKit

def IntTold (w : World) (x : Int) (e : Ending) (w' : World) : Prop := e = .returned (.int .i64 x) ∧ Below w.heap.size w w'
def IntSame (w : World) (x : Int) (e : Ending) (w' : World) : Prop := e = .returned (.int .i64 x) ∧ w' = w
def BoolTold10 (w : World) (b : Bool) (e : Ending) (w' : World) : Prop := e = .returned (.bool b) ∧ Below w.heap.size w w'
def EdTold (w : World) (d : Ed) (e : Ending) (w' : World) : Prop := e = .returned (.agg #[.int .i64 d.1, .int .i64 d.2]) ∧ Below w.heap.size w w'
theorem below_set2' {B q : Nat} {w w1 : World} (h : Below B w w1) (hq : B ≤ q) (a b : Value) : Below B w ((w1.setCell ⟨q, 0, none⟩ a).setCell ⟨q, 1, none⟩ b) := below_set2 h hq a b

set_option maxRecDepth 100000 in
theorem r10next_any (w : World) (k : Nat) (hk : k ≤ 1000000000) : Calls Try.prog 27 #[.int .i64 (k : Int)] w (IntSame w (nxt k : Int)) := by
  have hw1 : IntKind.i64.wrap ((k : Int) - 2) = (k : Int) - 2 := IntWalk.i64_in _ (by omega)
  have hw2 : IntKind.i64.wrap ((k : Int) + 1) = (k : Int) + 1 := IntWalk.i64_in _ (by omega)
  by_cases h : k % 3 = 2
  · have tm : Int.tmod (k : Int) 3 = 2 := by rw [Int.tmod_eq_emod_of_nonneg (by omega)]; omega
    have HE := Lib.hid (show ((nxt k : Nat) : Int) = (k : Int) - 2 by unfold nxt; rw [if_pos h]; omega)
    clear h
    go_enter Try.func27, Try.ntmps27
    go_wp2
    go_ret
    exact ⟨by rw [HE.out]; rfl, rfl⟩
  · have HE := Lib.hid (show ((nxt k : Nat) : Int) = (k : Int) + 1 by unfold nxt; rw [if_neg h]; omega)
    rcases (show k % 3 = 0 ∨ k % 3 = 1 by omega) with h' | h'
    · have tm : Int.tmod (k : Int) 3 = 0 := by rw [Int.tmod_eq_emod_of_nonneg (by omega)]; omega
      clear h h'
      go_enter Try.func27, Try.ntmps27
      go_wp2
      go_ret
      exact ⟨by rw [HE.out]; rfl, rfl⟩
    · have tm : Int.tmod (k : Int) 3 = 1 := by rw [Int.tmod_eq_emod_of_nonneg (by omega)]; omega
      clear h h'
      go_enter Try.func27, Try.ntmps27
      go_wp2
      go_ret
      exact ⟨by rw [HE.out]; rfl, rfl⟩
set_option maxRecDepth 100000 in
theorem r10prev_any (w : World) (k : Nat) (hk : k ≤ 1000000000) : Calls Try.prog 28 #[.int .i64 (k : Int)] w (IntSame w (prv k : Int)) := by
  have hw1 : IntKind.i64.wrap ((k : Int) - 1) = (k : Int) - 1 := IntWalk.i64_in _ (by omega)
  have hw2 : IntKind.i64.wrap ((k : Int) + 2) = (k : Int) + 2 := IntWalk.i64_in _ (by omega)
  by_cases h : k % 3 = 0
  · have tm : Int.tmod (k : Int) 3 = 0 := by rw [Int.tmod_eq_emod_of_nonneg (by omega)]; omega
    have HE := Lib.hid (show ((prv k : Nat) : Int) = (k : Int) + 2 by unfold prv; rw [if_pos h]; omega)
    clear h
    go_enter Try.func28, Try.ntmps28
    go_wp2
    go_ret
    exact ⟨by rw [HE.out]; rfl, rfl⟩
  · have HE := Lib.hid (show ((prv k : Nat) : Int) = (k : Int) - 1 by unfold prv; rw [if_neg h]; omega)
    rcases (show k % 3 = 1 ∨ k % 3 = 2 by omega) with h' | h'
    · have tm : Int.tmod (k : Int) 3 = 1 := by rw [Int.tmod_eq_emod_of_nonneg (by omega)]; omega
      clear h h'
      go_enter Try.func28, Try.ntmps28
      go_wp2
      go_ret
      exact ⟨by rw [HE.out]; rfl, rfl⟩
    · have tm : Int.tmod (k : Int) 3 = 2 := by rw [Int.tmod_eq_emod_of_nonneg (by omega)]; omega
      clear h h'
      go_enter Try.func28, Try.ntmps28
      go_wp2
      go_ret
      exact ⟨by rw [HE.out]; rfl, rfl⟩
set_option maxHeartbeats 2000000 in
set_option maxRecDepth 100000 in
theorem r10vertex_any (w : World) (N : Int) (A : Option Addr) (n c : Nat) (l : List Tr) (ht : T3 w A n l) (hn : n ≤ 1000000) (k : Nat) (hk : k < 3 * n) : Calls Try.prog 26 #[.agg #[.int .i64 N, .slice A n c], .int .i64 (k : Int)] w (IntTold w (vtx l k)) := by
  obtain ⟨w1, hw1⟩ : ∃ w1, w.alloc (.cells #[.int .i64 N, .slice A n c] 24) = w1 := ⟨_, rfl⟩
  obtain ⟨g, hg⟩ : ∃ g, w.heap.size = g := ⟨_, rfl⟩
  have b1 : Below w.heap.size w w1 := by rw [← hw1]; exact (Below.refl _ w).alloc (Nat.le_refl _) _
  have x1 : Bx w1 g N A n c := by rw [← hw1, ← hg]; exact Bx.made w N A n c
  have e1 := x1.c1
  obtain ⟨d, hd⟩ : ∃ d, k / 3 = d := ⟨_, rfl⟩
  have hdn : d < n := by omega
  obtain ⟨bA, off, rfl, hat⟩ := (ht.below b1).2 (by have := ht.1; omega)
  obtain ⟨c0, c1, c2⟩ := hat d hdn
  have td : Int.tdiv (k : Int) 3 = (d : Int) := by rw [Int.tdiv_eq_ediv_of_nonneg (by omega)]; omega
  have hdn' : (d : Int) < n := by omega
  have B1 := Lib.hid b1
  have HV : ∀ r, k % 3 = r → vtx l k = cor3 (l.getD d z3) r := fun r h => by unfold vtx; rw [hd, h]
  rcases (show k % 3 = 0 ∨ k % 3 = 1 ∨ k % 3 = 2 by omega) with h | h | h
  · have tm : Int.tmod (k : Int) 3 = 0 := by rw [Int.tmod_eq_emod_of_nonneg (by omega)]; omega
    rw [HV 0 h]
    clear b1 x1 ht hat hd h HV
    go_enter Try.func26, Try.ntmps26
    go_wp2
    go_ret
    exact ⟨rfl, B1.out⟩
  · have tm : Int.tmod (k : Int) 3 = 1 := by rw [Int.tmod_eq_emod_of_nonneg (by omega)]; omega
    rw [HV 1 h]
    clear b1 x1 ht hat hd h HV
    go_enter Try.func26, Try.ntmps26
    go_wp2
    go_ret
    exact ⟨rfl, B1.out⟩
  · have tm : Int.tmod (k : Int) 3 = 2 := by rw [Int.tmod_eq_emod_of_nonneg (by omega)]; omega
    rw [HV 2 h]
    clear b1 x1 ht hat hd h HV
    go_enter Try.func26, Try.ntmps26
    go_wp2
    go_ret
    exact ⟨rfl, B1.out⟩
set_option maxHeartbeats 4000000 in
set_option maxRecDepth 100000 in
theorem r10edge_any (w : World) (N : Int) (A : Option Addr) (n c : Nat) (l : List Tr) (ht : T3 w A n l) (hn : n ≤ 1000000) (k : Nat) (hk : k < 3 * n) : Calls Try.prog 30 #[.agg #[.int .i64 N, .slice A n c], .int .i64 (k : Int)] w (EdTold w (edgeC l k)) := by
  obtain ⟨w1, hw1⟩ : ∃ w1, w.alloc (.cells #[.int .i64 N, .slice A n c] 24) = w1 := ⟨_, rfl⟩
  obtain ⟨g, hg⟩ : ∃ g, w.heap.size = g := ⟨_, rfl⟩
  have b1 : Below w.heap.size w w1 := by rw [← hw1]; exact (Below.refl _ w).alloc (Nat.le_refl _) _
  have x1 : Bx w1 g N A n c := by rw [← hw1, ← hg]; exact Bx.made w N A n c
  obtain ⟨w2, hw2⟩ : ∃ w2, w1.alloc (.cells #[.int .i64 0, .int .i64 0] 41) = w2 := ⟨_, rfl⟩
  obtain ⟨q, hq⟩ : ∃ q, w1.heap.size = q := ⟨_, rfl⟩
  have b2 : Below w1.heap.size w1 w2 := by rw [← hw2]; exact (Below.refl _ w1).alloc (Nat.le_refl _) _
  have q2 : w2.heap[q]? = some (.cells #[.int .i64 0, .int .i64 0] 41 (0, 0)) := by rw [← hw2, ← hq]; exact heap_alloc_new w1 _
  have B2 := Lib.hid (up2 b1 b2)
  have X2 := Lib.hid (x1.below b2)
  have Q2 := Lib.hid q2
  have HQ0 := Lib.hid (show w.heap.size ≤ q by rw [← hq]; exact b1.size)
  have KN := Lib.hid (fun W => r10next_any W k (by omega))
  have KP := Lib.hid (fun W => r10prev_any W k (by omega))
  have KV1 := Lib.hid (fun W (b : Below w2.heap.size w2 W) => (show Calls Try.prog 26 #[.agg #[.int .i64 N, .slice A n c], .int .i64 ((nxt k : Nat) : Int)] W (IntTold W (edgeC l k).1) from r10vertex_any W N A n c l (ht.below (up2 B2.out b)) hn (nxt k) (nxt_lt hk)))
  have KV2 := Lib.hid (fun W (b : Below w2.heap.size w2 W) => (show Calls Try.prog 26 #[.agg #[.int .i64 N, .slice A n c], .int .i64 ((prv k : Nat) : Int)] W (IntTold W (edgeC l k).2) from r10vertex_any W N A n c l (ht.below (up2 B2.out b)) hn (prv k) (prv_lt hk)))
  have HS := Lib.hid (fun W (b : Below w2.heap.size w2 W) => (show W.cell? ⟨g, 0, none⟩ = some (.int .i64 N) ∧ W.cell? ⟨g, 1, none⟩ = some (.slice A n c) from ⟨(X2.out.below b).c0, (X2.out.below b).c1⟩))
  have HS1 := Lib.hid (fun W (b : Below w1.heap.size w1 W) => (show W.cell? ⟨g, 0, none⟩ = some (.int .i64 N) ∧ W.cell? ⟨g, 1, none⟩ = some (.slice A n c) from ⟨(x1.below b).c0, (x1.below b).c1⟩))
  have B12 := Lib.hid b2
  have HQ1 := Lib.hid (show w1.heap.size ≤ q by omega)
  have hd := HS.out w2.drew (Reading.below ⟨1, rfl⟩)
  have bd : Below w2.heap.size w2 w2.drew := Reading.below ⟨1, rfl⟩
  clear b1 x1 b2 q2 ht
  go_enter Try.func30, Try.ntmps30
  go_wp2_with fail
  refine wp_region_noPanic ?_
  refine wp_region_held_drew (S := fun w' => w'.cell? ⟨g, 0, none⟩ = some (.int .i64 N) ∧ w'.cell? ⟨g, 1, none⟩ = some (.slice A n c)) (by kernel_rfl) hd (fun _ => ?_)
  refine wpAnyH_take (i := 0) (v := ?v0z1) rfl (by kernel_rfl) (by kernel_rfl) (by kernel_rfl) (fun _ _ _ h => h) (Or.inl ⟨by rfl, ?y0z1⟩) hd ?_
  case y0z1 => (intro w hSw; (try dsimp only at hSw); go_simp; try with_reducible rfl)
  simp only [Act.put, List.setIfInBounds_toArray, List.set_cons_zero, List.set_cons_succ, List.getElem_toArray, List.getElem_cons_zero]
  refine wpAnyH_take (i := 1) (v := ?v1z2) rfl (by kernel_rfl) (by kernel_rfl) (by kernel_rfl) (fun _ _ _ h => h) (Or.inl ⟨by rfl, ?y1z2⟩) hd ?_
  case y1z2 => (intro w hSw; (try dsimp only at hSw); go_simp; try with_reducible rfl)
  simp only [Act.put, List.setIfInBounds_toArray, List.set_cons_zero, List.set_cons_succ, List.getElem_toArray, List.getElem_cons_zero, List.getElem_cons_succ]
  refine wpAnyH_take (i := 4) (v := ?v4z3) rfl (by kernel_rfl) (by kernel_rfl) (by kernel_rfl) (fun _ _ _ h => h) (Or.inl ⟨by rfl, ?y4z3⟩) hd ?_
  case y4z3 => (intro w hSw; (try dsimp only at hSw); go_simp; try with_reducible rfl)
  simp only [Act.put, List.setIfInBounds_toArray, List.set_cons_zero, List.set_cons_succ, List.getElem_toArray, List.getElem_cons_zero, List.getElem_cons_succ]
  refine wpAnyH_take (i := 5) (v := ?v5z4) rfl (by kernel_rfl) (by kernel_rfl) (by kernel_rfl) (fun _ _ _ h => h) (Or.inl ⟨by rfl, ?y5z4⟩) hd ?_
  case y5z4 => (intro w hSw; (try dsimp only at hSw); go_simp; try with_reducible rfl)
  simp only [Act.put, List.setIfInBounds_toArray, List.set_cons_zero, List.set_cons_succ, List.getElem_toArray, List.getElem_cons_zero, List.getElem_cons_succ]
  refine wpAnyH_ready (rs := [2]) (by kernel_rfl) (by simp) ?_
  refine AllReadyH.cons rfl (fun K hK => ?_) AllReadyH.nil
  rw [if_pos (by rfl)]
  go_wp2_with fail
  refine (KN.out _).mono ?_
  rintro e v9 ⟨rfl, rfl⟩
  go_wp2_with fail
  refine hK.out _ _ (HS.out _ bd) (fun _ => ?_)
  clear hK K
  try simp only [Act.put, List.setIfInBounds_toArray, List.set_cons_zero, List.set_cons_succ, List.getElem_toArray, List.getElem_cons_zero, List.getElem_cons_succ]
  refine wpAnyH_ready (rs := [3]) (by kernel_rfl) (by simp) ?_
  refine AllReadyH.cons rfl (fun K hK => ?_) AllReadyH.nil
  rw [if_pos (by rfl)]
  go_wp2_with fail
  refine (KV1.out _ bd).mono ?_
  rintro e v2 ⟨rfl, b9⟩
  have d2 := up2 bd b9
  clear b9
  go_wp2_with fail
  refine hK.out _ _ (HS.out _ d2) (fun _ => ?_)
  clear hK K
  try simp only [Act.put, List.setIfInBounds_toArray, List.set_cons_zero, List.set_cons_succ, List.getElem_toArray, List.getElem_cons_zero, List.getElem_cons_succ]
  refine wpAnyH_ready (rs := [6]) (by kernel_rfl) (by simp) ?_
  refine AllReadyH.cons rfl (fun K hK => ?_) AllReadyH.nil
  rw [if_pos (by rfl)]
  go_wp2_with fail
  refine (KP.out _).mono ?_
  rintro e v9 ⟨rfl, rfl⟩
  go_wp2_with fail
  refine hK.out _ _ (HS.out _ d2) (fun _ => ?_)
  clear hK K
  try simp only [Act.put, List.setIfInBounds_toArray, List.set_cons_zero, List.set_cons_succ, List.getElem_toArray, List.getElem_cons_zero, List.getElem_cons_succ]
  refine wpAnyH_ready (rs := [7]) (by kernel_rfl) (by simp) ?_
  refine AllReadyH.cons rfl (fun K hK => ?_) AllReadyH.nil
  rw [if_pos (by rfl)]
  go_wp2_with fail
  refine (KV2.out _ d2).mono ?_
  rintro e v4 ⟨rfl, b9⟩
  have d4 := up2 d2 b9
  clear b9
  go_wp2_with fail
  refine hK.out _ _ (HS.out _ d4) (fun _ => ?_)
  clear hK K
  try simp only [Act.put, List.setIfInBounds_toArray, List.set_cons_zero, List.set_cons_succ, List.getElem_toArray, List.getElem_cons_zero, List.getElem_cons_succ]
  refine wpAnyH_take (i := 8) (v := ?v8z5) rfl (by kernel_rfl) (by kernel_rfl) (by kernel_rfl) (fun _ _ _ h => h) (Or.inl ⟨by rfl, ?y8z5⟩) (HS.out _ d4) ?_
  case y8z5 => (intro w hSw; (try dsimp only at hSw); go_simp; try with_reducible rfl)
  simp only [Act.put, List.setIfInBounds_toArray, List.set_cons_zero, List.set_cons_succ, List.getElem_toArray, List.getElem_cons_zero, List.getElem_cons_succ]
  have q4 := (d4.block q (heap_lt Q2.out)).trans Q2.out
  have f0 := frozen_in q4 0
  have f1 := frozen_in q4 1
  have z0 := cell_in q4 0
  have z1 := cell_in q4 1
  simp only [List.getElem?_toArray, List.getElem?_cons_zero, List.getElem?_cons_succ] at z0 z1
  have Q4 := Lib.hid q4
  clear q4
  refine wpAnyH_ready (rs := [9]) (by kernel_rfl) (by simp) ?_
  refine AllReadyH.cons rfl (fun K hK => ?_) AllReadyH.nil
  go_simp
  refine hK.out _ _ (HS1.out _ (below_set2' (up2 B12.out d4) HQ1.out _ _)) (fun _ => ?_)
  clear hK K
  try simp only [Act.put, List.setIfInBounds_toArray, List.set_cons_zero, List.set_cons_succ, List.getElem_toArray, List.getElem_cons_zero, List.getElem_cons_succ]
  refine wpAnyH_done (by kernel_rfl) ?_ _
  refine NoPanic.normal ?_
  go_wp2_with fail
  refine bodyPost_ret (results_cell_row rfl _ _ q 41 #[.int .i64 (edgeC l k).1, .int .i64 (edgeC l k).2] (0, 0) _ rfl (set2 Q4.out) Try.underlying41 rfl (by kernel_rfl)) rfl ?_
  exact ⟨rfl, below_set2 (up2 B2.out d4) (by have := HQ0.out; omega) _ _⟩
end Go.Proofs.Ytkcmieblnajmpaa

/- Layer 10: the document's answers: the corner that faces an edge, the one across, the least one at a vertex; are two soups one; the law's great. -/
namespace Go.Proofs.Ytkcmieblnajmpaa
open Go.RowKit

def IsC (n : Nat) (x : Int) : Prop := 0 ≤ x ∧ x < 3 * (n : Int)
instance (n : Nat) (x : Int) : Decidable (IsC n x) := inferInstanceAs (Decidable (_ ∧ _))
def SameS (N M : Int) (a b : List Tr) : Prop := N = M ∧ a = b
instance (N M : Int) (a b : List Tr) : Decidable (SameS N M a b) := inferInstanceAs (Decidable (_ ∧ _))
def GreatS (n : Nat) (N : Int) : Prop := (40 : Int) < n ∨ 60 < N ∨ N < -1000
instance (n : Nat) (N : Int) : Decidable (GreatS n N) := inferInstanceAs (Decidable (_ ∨ _))
def great01 (n : Nat) (N : Int) : Int := if GreatS n N then 1 else 0
def FcR (w : World) (n : Nat) (l : List Tr) (e : Ed) (i : Value) (wr : World) : Prop := ∃ k : Nat, k ≤ 3 * n ∧ i = .int .i64 (k : Int) ∧ Below w.heap.size w wr ∧ ∀ a, a < k → edgeC l a ≠ e
set_option maxHeartbeats 4000000 in
set_option maxRecDepth 100000 in
theorem r10facing_any (w : World) (N : Int) (A : Option Addr) (n c : Nat) (l : List Tr) (ht : T3 w A n l) (hn : n ≤ 1000000) (e0 e1 : Int) : Calls Try.prog 32 #[.agg #[.int .i64 N, .slice A n c], .agg #[.int .i64 e0, .int .i64 e1]] w (IntTold w (facing l (e0, e1))) := by
  obtain ⟨w1, hw1⟩ : ∃ w1, w.alloc (.cells #[.int .i64 N, .slice A n c] 24) = w1 := ⟨_, rfl⟩
  obtain ⟨g, hg⟩ : ∃ g, w.heap.size = g := ⟨_, rfl⟩
  have b1 : Below w.heap.size w w1 := by rw [← hw1]; exact (Below.refl _ w).alloc (Nat.le_refl _) _
  have x1 : Bx w1 g N A n c := by rw [← hw1, ← hg]; exact Bx.made w N A n c
  obtain ⟨w2, hw2⟩ : ∃ w2, w1.alloc (.cells #[.int .i64 e0, .int .i64 e1] 41) = w2 := ⟨_, rfl⟩
  obtain ⟨ge, hq⟩ : ∃ q, w1.heap.size = q := ⟨_, rfl⟩
  have b2 : Below w1.heap.size w1 w2 := by rw [← hw2]; exact (Below.refl _ w1).alloc (Nat.le_refl _) _
  have q2 : w2.heap[ge]? = some (.cells #[.int .i64 e0, .int .i64 e1] 41 (0, 0)) := by rw [← hw2, ← hq]; exact heap_alloc_new w1 _
  have HL := Lib.hid ht
  have B2 := Lib.hid (up2 b1 b2)
  have HS := Lib.hid (fun W (b : Below w2.heap.size w2 W) => (show W.cell? ⟨g, 0, none⟩ = some (.int .i64 N) ∧ W.cell? ⟨g, 1, none⟩ = some (.slice A n c) ∧ W.cell? ⟨ge, 0, none⟩ = some (.int .i64 e0) ∧ W.cell? ⟨ge, 1, none⟩ = some (.int .i64 e1) from by
    have x2 := x1.below (up2 b2 b)
    have q3 := (b.block ge (heap_lt q2)).trans q2
    exact ⟨x2.c0, x2.c1, by rw [cell_in q3]; rfl, by rw [cell_in q3]; rfl⟩))
  have hmul : IntKind.i64.wrap (3 * (n : Int)) = 3 * (n : Int) := IntWalk.i64_in _ (by omega)
  clear b1 x1 b2 q2 ht
  go_enter Try.func32, Try.ntmps32
  go_wp2_with fail
  clear hw1 hw2 hg hq
  go_loopw [5] (FcR w2 n l (e0, e1)) (fun i _ => 3 * n - (intOf i).toNat)
  case atStart => exact ⟨0, Nat.zero_le _, rfl, Below.refl _ _, fun a h => absurd h (by omega)⟩
  case round =>
    obtain ⟨k, hk, rfl, hb, hno⟩ := hrel
    have HB := Lib.hid hb
    have HN := Lib.hid hno
    have hs := HS.out wr hb
    clear hb hno
    by_cases hlt : k < 3 * n
    · have b1 : (k : Int) < 3 * (n : Int) := by omega
      obtain ⟨d0, hd0⟩ : ∃ x, (edgeC l k).1 = x := ⟨_, rfl⟩
      obtain ⟨d1, hd1⟩ : ∃ x, (edgeC l k).2 = x := ⟨_, rfl⟩
      have HE := Lib.hid (show edgeC l k = (d0, d1) by rw [← hd0, ← hd1])
      have ke := fun W (b : Below wr.heap.size wr W) => r10edge_any W N A n c l (HL.out.below (up2 B2.out (up2 HB.out b))) hn k hlt
      unfold EdTold at ke
      rw [hd0, hd1] at ke
      have KE := Lib.hid ke
      have hd := HS.out wr.drew (up2 HB.out (Reading.below ⟨1, rfl⟩))
      have bd : Below wr.heap.size wr wr.drew := Reading.below ⟨1, rfl⟩
      have gd := fun W op u v xs ys => run_eqGuard_agg (P := Try.prog) W op 41 u v xs ys Try.eqGuardType41
      have ql := fun W => eql2 W d0 d1 e0 e1
      clear ke hd0 hd1
      by_cases heq : (d0, d1) = (e0, e1)
      · have h1 : (d0 == e0 && d1 == e1) = true := by simpa [Prod.ext_iff] using heq
        simp only [h1] at ql
        have HF := Lib.hid (show facing l (e0, e1) = (k : Int) from findC_spec.2 ⟨by rw [HL.out.1]; exact hlt, decide_eq_true (by rw [HE.out]; exact heq), fun a ha => decide_eq_false (HN.out a ha)⟩)
        clear heq h1
        go_wp2_with fail
        refine wp_region_noPanic ?_
        refine wp_region_held_drew (S := fun w' => w'.cell? ⟨g, 0, none⟩ = some (.int .i64 N) ∧ w'.cell? ⟨g, 1, none⟩ = some (.slice A n c) ∧ w'.cell? ⟨ge, 0, none⟩ = some (.int .i64 e0) ∧ w'.cell? ⟨ge, 1, none⟩ = some (.int .i64 e1)) (by kernel_rfl) hd (fun _ => ?_)
        refine wpAnyH_take (i := 0) (v := ?v0z1) rfl (by kernel_rfl) (by kernel_rfl) (by kernel_rfl) (fun _ _ _ h => h) (Or.inl ⟨by rfl, ?y0z1⟩) hd ?_
        case y0z1 => (intro w hSw; (try dsimp only at hSw); go_simp; try with_reducible rfl)
        simp only [Act.put, List.setIfInBounds_toArray, List.set_cons_zero, List.set_cons_succ, List.getElem_toArray, List.getElem_cons_zero]
        refine wpAnyH_take (i := 1) (v := ?v1z2) rfl (by kernel_rfl) (by kernel_rfl) (by kernel_rfl) (fun _ _ _ h => h) (Or.inl ⟨by rfl, ?y1z2⟩) hd ?_
        case y1z2 => (intro w hSw; (try dsimp only at hSw); go_simp; try with_reducible rfl)
        simp only [Act.put, List.setIfInBounds_toArray, List.set_cons_zero, List.set_cons_succ, List.getElem_toArray, List.getElem_cons_zero, List.getElem_cons_succ]
        refine wpAnyH_take (i := 3) (v := ?v3z3) rfl (by kernel_rfl) (by kernel_rfl) (by kernel_rfl) (fun _ _ _ h => h) (Or.inl ⟨by rfl, ?y3z3⟩) hd ?_
        case y3z3 => (intro w hSw; (try dsimp only at hSw); go_simp; try with_reducible rfl)
        simp only [Act.put, List.setIfInBounds_toArray, List.set_cons_zero, List.set_cons_succ, List.getElem_toArray, List.getElem_cons_zero, List.getElem_cons_succ]
        refine wpAnyH_ready (rs := [2]) (by kernel_rfl) (by simp) ?_
        refine AllReadyH.cons rfl (fun K hK => ?_) AllReadyH.nil
        rw [if_pos (by rfl)]
        go_wp2_with fail
        refine (KE.out _ bd).mono ?_
        rintro e v1 ⟨rfl, b9⟩
        have d1' := up2 bd b9
        clear b9
        go_wp2_with fail
        refine hK.out _ _ (HS.out _ (up2 HB.out d1')) (fun _ => ?_)
        clear hK K
        try simp only [Act.put, List.setIfInBounds_toArray, List.set_cons_zero, List.set_cons_succ, List.getElem_toArray, List.getElem_cons_zero, List.getElem_cons_succ]
        refine wpAnyH_take (i := 4) (v := ?v4z4) rfl (by kernel_rfl) (by kernel_rfl) (by kernel_rfl) (fun _ _ _ h => h) (Or.inl ⟨by rfl, ?y4z4⟩) (HS.out _ (up2 HB.out d1')) ?_
        case y4z4 => (intro w hSw; (try dsimp only at hSw); go_simp; try with_reducible rfl)
        simp only [Act.put, List.setIfInBounds_toArray, List.set_cons_zero, List.set_cons_succ, List.getElem_toArray, List.getElem_cons_zero, List.getElem_cons_succ]
        refine wpAnyH_done (by kernel_rfl) ?_ _
        refine NoPanic.normal ?_
        go_wp2_with fail
        go_ret
        exact ⟨by rw [HF.out]; rfl, up2 B2.out (up2 HB.out d1')⟩
      · have h1 : (d0 == e0 && d1 == e1) = false := by
          rw [Bool.eq_false_iff]
          intro h
          exact heq (by simpa [Prod.ext_iff] using h)
        simp only [h1] at ql
        have HF := Lib.hid (show edgeC l k ≠ (e0, e1) by rw [HE.out]; exact heq)
        clear heq h1
        go_wp2_with fail
        refine wp_region_noPanic ?_
        refine wp_region_held_drew (S := fun w' => w'.cell? ⟨g, 0, none⟩ = some (.int .i64 N) ∧ w'.cell? ⟨g, 1, none⟩ = some (.slice A n c) ∧ w'.cell? ⟨ge, 0, none⟩ = some (.int .i64 e0) ∧ w'.cell? ⟨ge, 1, none⟩ = some (.int .i64 e1)) (by kernel_rfl) hd (fun _ => ?_)
        refine wpAnyH_take (i := 0) (v := ?v0z5) rfl (by kernel_rfl) (by kernel_rfl) (by kernel_rfl) (fun _ _ _ h => h) (Or.inl ⟨by rfl, ?y0z5⟩) hd ?_
        case y0z5 => (intro w hSw; (try dsimp only at hSw); go_simp; try with_reducible rfl)
        simp only [Act.put, List.setIfInBounds_toArray, List.set_cons_zero, List.set_cons_succ, List.getElem_toArray, List.getElem_cons_zero]
        refine wpAnyH_take (i := 1) (v := ?v1z6) rfl (by kernel_rfl) (by kernel_rfl) (by kernel_rfl) (fun _ _ _ h => h) (Or.inl ⟨by rfl, ?y1z6⟩) hd ?_
        case y1z6 => (intro w hSw; (try dsimp only at hSw); go_simp; try with_reducible rfl)
        simp only [Act.put, List.setIfInBounds_toArray, List.set_cons_zero, List.set_cons_succ, List.getElem_toArray, List.getElem_cons_zero, List.getElem_cons_succ]
        refine wpAnyH_take (i := 3) (v := ?v3z7) rfl (by kernel_rfl) (by kernel_rfl) (by kernel_rfl) (fun _ _ _ h => h) (Or.inl ⟨by rfl, ?y3z7⟩) hd ?_
        case y3z7 => (intro w hSw; (try dsimp only at hSw); go_simp; try with_reducible rfl)
        simp only [Act.put, List.setIfInBounds_toArray, List.set_cons_zero, List.set_cons_succ, List.getElem_toArray, List.getElem_cons_zero, List.getElem_cons_succ]
        refine wpAnyH_ready (rs := [2]) (by kernel_rfl) (by simp) ?_
        refine AllReadyH.cons rfl (fun K hK => ?_) AllReadyH.nil
        rw [if_pos (by rfl)]
        go_wp2_with fail
        refine (KE.out _ bd).mono ?_
        rintro e v1 ⟨rfl, b9⟩
        have d1' := up2 bd b9
        clear b9
        go_wp2_with fail
        refine hK.out _ _ (HS.out _ (up2 HB.out d1')) (fun _ => ?_)
        clear hK K
        try simp only [Act.put, List.setIfInBounds_toArray, List.set_cons_zero, List.set_cons_succ, List.getElem_toArray, List.getElem_cons_zero, List.getElem_cons_succ]
        refine wpAnyH_take (i := 4) (v := ?v4z8) rfl (by kernel_rfl) (by kernel_rfl) (by kernel_rfl) (fun _ _ _ h => h) (Or.inl ⟨by rfl, ?y4z8⟩) (HS.out _ (up2 HB.out d1')) ?_
        case y4z8 => (intro w hSw; (try dsimp only at hSw); go_simp; try with_reducible rfl)
        simp only [Act.put, List.setIfInBounds_toArray, List.set_cons_zero, List.set_cons_succ, List.getElem_toArray, List.getElem_cons_zero, List.getElem_cons_succ]
        refine wpAnyH_done (by kernel_rfl) ?_ _
        refine NoPanic.normal ?_
        go_wp2_with fail
        refine ⟨⟨k + 1, by omega, by go_num, up2 HB.out d1', fun a ha => ?_⟩, by simp [intOf]; omega⟩
        rcases (show a < k ∨ a = k by omega) with h | rfl
        · exact HN.out a h
        · exact HF.out
    · have b1 : ¬ (k : Int) < 3 * (n : Int) := by omega
      have HF := Lib.hid (show facing l (e0, e1) = -1 from findC_none.2 fun a ha => decide_eq_false (HN.out a (by rw [HL.out.1] at ha; omega)))
      go_wp2
      go_ret
      exact ⟨by rw [HF.out]; rfl, up2 B2.out HB.out⟩
set_option maxHeartbeats 2000000 in
set_option maxRecDepth 100000 in
theorem r10opp_any (w : World) (N : Int) (A : Option Addr) (n c : Nat) (l : List Tr) (ht : T3 w A n l) (hn : n ≤ 1000000) (k : Nat) (hk : k < 3 * n) : Calls Try.prog 29 #[.agg #[.int .i64 N, .slice A n c], .int .i64 (k : Int)] w (IntTold w (oppC l k)) := by
  obtain ⟨w1, hw1⟩ : ∃ w1, w.alloc (.cells #[.int .i64 N, .slice A n c] 24) = w1 := ⟨_, rfl⟩
  obtain ⟨g, hg⟩ : ∃ g, w.heap.size = g := ⟨_, rfl⟩
  have b1 : Below w.heap.size w w1 := by rw [← hw1]; exact (Below.refl _ w).alloc (Nat.le_refl _) _
  have x1 : Bx w1 g N A n c := by rw [← hw1, ← hg]; exact Bx.made w N A n c
  have e0 := x1.c0
  have e1 := x1.c1
  have B1 := Lib.hid b1
  have X1 := Lib.hid x1
  have HL := Lib.hid ht
  have KE := Lib.hid (r10edge_any w1 N A n c l (ht.below b1) hn k hk)
  clear b1 x1 ht
  go_enter Try.func29, Try.ntmps29
  go_wp2_with fail
  clear hw1 hg e0 e1
  refine KE.out.mono ?_
  rintro e w2 ⟨rfl, b2⟩
  obtain ⟨d0, hd0⟩ : ∃ x, (edgeC l k).1 = x := ⟨_, rfl⟩
  obtain ⟨d1, hd1⟩ : ∃ x, (edgeC l k).2 = x := ⟨_, rfl⟩
  have HO := Lib.hid (show oppC l k = facing l (d1, d0) by rw [← hd0, ← hd1]; rfl)
  simp only [hd0, hd1]
  obtain ⟨w3, hw3⟩ : ∃ w3, w2.alloc (.cells #[.int .i64 d0, .int .i64 d1] 41) = w3 := ⟨_, rfl⟩
  obtain ⟨q, hq⟩ : ∃ q, w2.heap.size = q := ⟨_, rfl⟩
  have b3 : Below w2.heap.size w2 w3 := by rw [← hw3]; exact (Below.refl _ w2).alloc (Nat.le_refl _) _
  have q3 : w3.heap[q]? = some (.cells #[.int .i64 d0, .int .i64 d1] 41 (0, 0)) := by rw [← hw3, ← hq]; exact heap_alloc_new w2 _
  have r0 := cell_in q3 0
  have r1 := cell_in q3 1
  simp only [List.getElem?_toArray, List.getElem?_cons_zero, List.getElem?_cons_succ] at r0 r1
  have B3 := Lib.hid (up2 b2 b3)
  have e0 := (X1.out.below B3.out).c0
  have e1 := (X1.out.below B3.out).c1
  have KF := Lib.hid (r10facing_any w3 N A n c l (HL.out.below (up2 B1.out B3.out)) hn d1 d0)
  clear hd0 hd1 b2 b3 q3
  go_wp2_with fail
  refine KF.out.mono ?_
  rintro e w4 ⟨rfl, b4⟩
  have B4 := Lib.hid (up2 B1.out (up2 B3.out b4))
  clear b4
  go_wp2_with fail
  go_ret
  exact ⟨by rw [HO.out]; rfl, B4.out⟩
def CoR (w : World) (n : Nat) (l : List Tr) (v : Int) (i : Value) (wr : World) : Prop := ∃ k : Nat, k ≤ 3 * n ∧ i = .int .i64 (k : Int) ∧ Below w.heap.size w wr ∧ ∀ a, a < k → vtx l a ≠ v
set_option maxHeartbeats 4000000 in
set_option maxRecDepth 100000 in
theorem r10corner_any (w : World) (N : Int) (A : Option Addr) (n c : Nat) (l : List Tr) (ht : T3 w A n l) (hn : n ≤ 1000000) (v : Int) : Calls Try.prog 34 #[.agg #[.int .i64 N, .slice A n c], .int .i64 v] w (IntTold w (cornerAt l v)) := by
  obtain ⟨w1, hw1⟩ : ∃ w1, w.alloc (.cells #[.int .i64 N, .slice A n c] 24) = w1 := ⟨_, rfl⟩
  obtain ⟨g, hg⟩ : ∃ g, w.heap.size = g := ⟨_, rfl⟩
  have b1 : Below w.heap.size w w1 := by rw [← hw1]; exact (Below.refl _ w).alloc (Nat.le_refl _) _
  have x1 : Bx w1 g N A n c := by rw [← hw1, ← hg]; exact Bx.made w N A n c
  have HL := Lib.hid ht
  have B1 := Lib.hid b1
  have X1 := Lib.hid x1
  have hmul : IntKind.i64.wrap (3 * (n : Int)) = 3 * (n : Int) := IntWalk.i64_in _ (by omega)
  clear b1 x1 ht
  go_enter Try.func34, Try.ntmps34
  go_wp2_with fail
  clear hw1 hg
  go_loopw [5] (CoR w1 n l v) (fun i _ => 3 * n - (intOf i).toNat)
  case atStart => exact ⟨0, Nat.zero_le _, rfl, Below.refl _ _, fun a h => absurd h (by omega)⟩
  case round =>
    obtain ⟨k, hk, rfl, hb, hno⟩ := hrel
    have HB := Lib.hid hb
    have HN := Lib.hid hno
    have e0 := (X1.out.below hb).c0
    have e1 := (X1.out.below hb).c1
    clear hb hno
    by_cases hlt : k < 3 * n
    · have b1 : (k : Int) < 3 * (n : Int) := by omega
      obtain ⟨x, hx⟩ : ∃ x, vtx l k = x := ⟨_, rfl⟩
      have HX := Lib.hid hx
      have ke := r10vertex_any wr N A n c l (HL.out.below (up2 B1.out HB.out)) hn k hlt
      rw [hx] at ke
      have KE := Lib.hid ke
      clear ke hx
      by_cases heq : x = v
      · have h1 : (x == v) = true := by simp [heq]
        have HF := Lib.hid (show cornerAt l v = (k : Int) from findC_spec.2 ⟨by rw [HL.out.1]; exact hlt, decide_eq_true (by rw [HX.out]; exact heq), fun a ha => decide_eq_false (HN.out a ha)⟩)
        clear heq
        go_wp2_with fail
        refine KE.out.mono ?_
        rintro e w3 ⟨rfl, b3⟩
        have B3 := Lib.hid (up2 B1.out (up2 HB.out b3))
        clear b3
        go_wp2_with fail
        go_ret
        exact ⟨by rw [HF.out]; rfl, B3.out⟩
      · have h1 : (x == v) = false := by simpa using heq
        have HF := Lib.hid (show vtx l k ≠ v by rw [HX.out]; exact heq)
        clear heq
        go_wp2_with fail
        refine KE.out.mono ?_
        rintro e w3 ⟨rfl, b3⟩
        have B3 := Lib.hid (up2 HB.out b3)
        clear b3
        go_wp2_with fail
        refine ⟨⟨k + 1, by omega, by go_num, B3.out, fun a ha => ?_⟩, by simp [intOf]; omega⟩
        rcases (show a < k ∨ a = k by omega) with h | rfl
        · exact HN.out a h
        · exact HF.out
    · have b1 : ¬ (k : Int) < 3 * (n : Int) := by omega
      have HF := Lib.hid (show cornerAt l v = -1 from findC_none.2 fun a ha => decide_eq_false (HN.out a (by rw [HL.out.1] at ha; omega)))
      go_wp2
      go_ret
      exact ⟨by rw [HF.out]; rfl, up2 B1.out HB.out⟩
set_option maxHeartbeats 2000000 in
set_option maxRecDepth 100000 in
theorem r10is_any (w : World) (N : Int) (A : Option Addr) (n c : Nat) (hn : n ≤ 1000000) (x : Int) : Calls Try.prog 20 #[.agg #[.int .i64 N, .slice A n c], .int .i64 x] w (BoolTold10 w (decide (IsC n x))) := by
  have b1 := (Below.refl _ w).alloc (Nat.le_refl _) (.cells #[.int .i64 N, .slice A n c] 24)
  have hmul : IntKind.i64.wrap (3 * (n : Int)) = 3 * (n : Int) := IntWalk.i64_in _ (by omega)
  have HB := Lib.hid b1
  clear b1
  by_cases h0 : 0 ≤ x
  · by_cases h1 : x < 3 * (n : Int)
    · have HD := Lib.hid (show decide (IsC n x) = true from decide_eq_true ⟨h0, h1⟩)
      go_enter Try.func20, Try.ntmps20
      go_wp2
      go_ret
      exact ⟨by rw [HD.out]; rfl, HB.out⟩
    · have HD := Lib.hid (show decide (IsC n x) = false from decide_eq_false fun h => h1 h.2)
      go_enter Try.func20, Try.ntmps20
      go_wp2
      go_ret
      exact ⟨by rw [HD.out]; rfl, HB.out⟩
  · have HD := Lib.hid (show decide (IsC n x) = false from decide_eq_false fun h => h0 h.1)
    go_enter Try.func20, Try.ntmps20
    go_wp2
    go_ret
    exact ⟨by rw [HD.out]; rfl, HB.out⟩
set_option maxHeartbeats 2000000 in
set_option maxRecDepth 100000 in
theorem great10_any (w : World) (N : Int) (A : Option Addr) (n c : Nat) : Calls Try.prog 12 #[.agg #[.int .i64 N, .slice A n c]] w (IntTold w (great01 n N)) := by
  have b1 := (Below.refl _ w).alloc (Nat.le_refl _) (.cells #[.int .i64 N, .slice A n c] 24)
  have HB := Lib.hid b1
  clear b1
  by_cases h0 : (40 : Int) < n
  · have HD := Lib.hid (show great01 n N = 1 from if_pos (.inl h0))
    go_enter Try.func12, Try.ntmps12
    go_wp2
    go_ret
    exact ⟨by rw [HD.out]; rfl, HB.out⟩
  · by_cases h1 : 60 < N
    · have HD := Lib.hid (show great01 n N = 1 from if_pos (.inr (.inl h1)))
      go_enter Try.func12, Try.ntmps12
      go_wp2
      go_ret
      exact ⟨by rw [HD.out]; rfl, HB.out⟩
    · by_cases h2 : N < -1000
      · have HD := Lib.hid (show great01 n N = 1 from if_pos (.inr (.inr h2)))
        go_enter Try.func12, Try.ntmps12
        go_wp2
        go_ret
        exact ⟨by rw [HD.out]; rfl, HB.out⟩
      · have HD := Lib.hid (show great01 n N = 0 from if_neg (by unfold GreatS; omega))
        go_enter Try.func12, Try.ntmps12
        go_wp2
        go_ret
        exact ⟨by rw [HD.out]; rfl, HB.out⟩
def SmR (w : World) (n : Nat) (a b : List Tr) (i : Value) (wr : World) : Prop := Below w.heap.size w wr ∧ ∃ k : Nat, k ≤ n ∧ i = .int .i64 (k : Int) ∧ ∀ j, j < k → a.getD j z3 = b.getD j z3
set_option maxHeartbeats 4000000 in
set_option maxRecDepth 100000 in
theorem r10same_any (w : World) (N M : Int) (A B : Option Addr) (n c m d : Nat) (a b : List Tr) (ha : T3 w A n a) (hb : T3 w B m b) (hn : n ≤ 1000000) : Calls Try.prog 15 #[.agg #[.int .i64 N, .slice A n c], .agg #[.int .i64 M, .slice B m d]] w (BoolTold10 w (decide (SameS N M a b))) := by
  obtain ⟨w1, hw1⟩ : ∃ w1, w.alloc (.cells #[.int .i64 N, .slice A n c] 24) = w1 := ⟨_, rfl⟩
  obtain ⟨w2, hw2⟩ : ∃ w2, w1.alloc (.cells #[.int .i64 M, .slice B m d] 24) = w2 := ⟨_, rfl⟩
  obtain ⟨g, hg⟩ : ∃ g, w.heap.size = g := ⟨_, rfl⟩
  obtain ⟨g2, hg2⟩ : ∃ g2, w1.heap.size = g2 := ⟨_, rfl⟩
  have b1 : Below w.heap.size w w1 := by rw [← hw1]; exact (Below.refl _ w).alloc (Nat.le_refl _) _
  have b2 : Below w1.heap.size w1 w2 := by rw [← hw2]; exact (Below.refl _ w1).alloc (Nat.le_refl _) _
  have x1 : Bx w2 g N A n c := Bx.below (by rw [← hw1, ← hg]; exact Bx.made w N A n c) b2
  have x2 : Bx w2 g2 M B m d := by rw [← hw2, ← hg2]; exact Bx.made w1 M B m d
  have X1 := Lib.hid x1
  have X2 := Lib.hid x2
  have B2 := Lib.hid (up2 b1 b2)
  have HA := Lib.hid ha
  have HB := Lib.hid hb
  have e0 := x1.c0
  have e1 := x1.c1
  have f0 := x2.c0
  have f1 := x2.c1
  clear b1 b2 x1 x2 ha hb
  by_cases hN : N = M
  case neg =>
    have h1 : (N == M) = false := by simpa using hN
    have HD := Lib.hid (show decide (SameS N M a b) = false from decide_eq_false fun h => hN h.1)
    clear hN
    go_enter Try.func15, Try.ntmps15
    go_wp2
    go_ret
    exact ⟨by rw [HD.out]; rfl, B2.out⟩
  subst hN
  by_cases hnm : n = m
  case neg =>
    have h1 : ((n : Int) == (m : Int)) = false := by simp; omega
    have HD := Lib.hid (show decide (SameS N N a b) = false from decide_eq_false fun h => hnm (by rw [← HA.out.1, ← HB.out.1, h.2]))
    clear hnm
    go_enter Try.func15, Try.ntmps15
    go_wp2
    go_ret
    exact ⟨by rw [HD.out]; rfl, B2.out⟩
  subst hnm
  go_enter Try.func15, Try.ntmps15
  go_wp2_with fail
  clear hw1 hw2 hg hg2 e0 e1 f0 f1
  go_loopw [5] (SmR w2 n a b) (fun i _ => n - (intOf i).toNat)
  case atStart => exact ⟨Below.refl _ _, 0, Nat.zero_le _, rfl, fun j h => absurd h (by omega)⟩
  case round =>
    obtain ⟨hbb, k, hk, rfl, hal⟩ := hrel
    have HR := Lib.hid (And.intro hbb hal)
    have e1 := (X1.out.below hbb).c1
    have f1 := (X2.out.below hbb).c1
    clear hbb hal
    by_cases hlt : k < n
    · have b1 : (k : Int) < n := by omega
      obtain ⟨ba, oa, rfl, hat⟩ := (HA.out.below (up2 B2.out HR.out.1)).2 (by omega)
      obtain ⟨c0, c1, c2⟩ := hat k hlt
      obtain ⟨bb, ob, rfl, hbt⟩ := (HB.out.below (up2 B2.out HR.out.1)).2 (by omega)
      obtain ⟨d0, d1, d2⟩ := hbt k hlt
      clear hat hbt
      obtain ⟨x, hx⟩ : ∃ x, a.getD k z3 = x := ⟨_, rfl⟩
      obtain ⟨y, hy⟩ : ∃ y, b.getD k z3 = y := ⟨_, rfl⟩
      have HX := Lib.hid (And.intro hx hy)
      rw [hx] at c0 c1 c2
      rw [hy] at d0 d1 d2
      clear hx hy
      obtain ⟨x0, x1, x2⟩ := x
      obtain ⟨y0, y1, y2⟩ := y
      have gd := fun W op u v => run_eqGuard_agg (P := Try.prog) W op 56 u v #[.int .i64 x0, .int .i64 x1, .int .i64 x2] #[.int .i64 y0, .int .i64 y1, .int .i64 y2] Try.eqGuardType56
      have nq := fun W => neq3 W x0 x1 x2 y0 y1 y2
      by_cases hxy : (x0, x1, x2) = (y0, y1, y2)
      · rw [(eq3_iff (x0, x1, x2) (y0, y1, y2)).2 hxy] at nq
        have HE := Lib.hid hxy
        clear hxy
        go_wp2_with fail
        go_quiet (fail)
        go_wp2_with fail
        refine ⟨⟨HR.out.1.trans (Reading.below ⟨_, rfl⟩), k + 1, by omega, by go_num, fun j hj => ?_⟩, by simp [intOf]; omega⟩
        rcases Nat.lt_or_ge j k with h3 | h3
        · exact HR.out.2 j h3
        · obtain rfl : j = k := by omega
          rw [HX.out.1, HX.out.2]; exact HE.out
      · rw [eq3_no (x := (x0, x1, x2)) (y := (y0, y1, y2)) hxy] at nq
        have HD := Lib.hid (show decide (SameS N N a b) = false from decide_eq_false fun h => hxy (by rw [← HX.out.1, ← HX.out.2, h.2]))
        clear hxy
        go_wp2_with fail
        go_quiet (fail)
        go_wp2_with fail
        go_ret
        exact ⟨by rw [HD.out]; rfl, up2 B2.out (HR.out.1.trans (Reading.below ⟨_, rfl⟩))⟩
    · obtain rfl : k = n := by omega
      have b1 : ¬ (k : Int) < k := by omega
      have HD := Lib.hid (show decide (SameS N N a b) = true from decide_eq_true ⟨rfl, by
        refine List.ext_getElem (by rw [HA.out.1, HB.out.1]) fun j h1 h2 => ?_
        have := HR.out.2 j (by rw [← HA.out.1]; exact h1)
        rwa [List.getD_eq_getElem?_getD, List.getD_eq_getElem?_getD, List.getElem?_eq_getElem h1, List.getElem?_eq_getElem h2] at this⟩)
      go_wp2
      go_ret
      exact ⟨by rw [HD.out]; rfl, up2 B2.out HR.out.1⟩
end Go.Proofs.Ytkcmieblnajmpaa

/- Layer 10: a table's methods, told by the cells of its block: numbers, vertices, next, previous, the edge. -/
namespace Go.Proofs.Ytkcmieblnajmpaa
open Go.RowKit

/-- A table's cells in the block g: the soup's two, and three more. -/
def KB (w : World) (g : Nat) (N : Int) (A : Option Addr) (n c : Nat) (vo vm vl : Value) : Prop := w.heap[g]? = some (.cells #[.int .i64 N, .slice A n c, vo, vm, vl] 60 (0, 0))
theorem KB.c0 {w : World} {g : Nat} {N : Int} {A : Option Addr} {n c : Nat} {vo vm vl : Value} (h : KB w g N A n c vo vm vl) : w.cell? ⟨g, 0, none⟩ = some (.int .i64 N) := by rw [cell_in h]; rfl
theorem KB.c1 {w : World} {g : Nat} {N : Int} {A : Option Addr} {n c : Nat} {vo vm vl : Value} (h : KB w g N A n c vo vm vl) : w.cell? ⟨g, 1, none⟩ = some (.slice A n c) := by rw [cell_in h]; rfl
theorem KB.c2 {w : World} {g : Nat} {N : Int} {A : Option Addr} {n c : Nat} {vo vm vl : Value} (h : KB w g N A n c vo vm vl) : w.cell? ⟨g, 2, none⟩ = some vo := by rw [cell_in h]; rfl
theorem KB.c3 {w : World} {g : Nat} {N : Int} {A : Option Addr} {n c : Nat} {vo vm vl : Value} (h : KB w g N A n c vo vm vl) : w.cell? ⟨g, 3, none⟩ = some vm := by rw [cell_in h]; rfl
theorem KB.c4 {w : World} {g : Nat} {N : Int} {A : Option Addr} {n c : Nat} {vo vm vl : Value} (h : KB w g N A n c vo vm vl) : w.cell? ⟨g, 4, none⟩ = some vl := by rw [cell_in h]; rfl
theorem KB.below {w w' : World} {g : Nat} {N : Int} {A : Option Addr} {n c : Nat} {vo vm vl : Value} (h : KB w g N A n c vo vm vl) (hb : Below w.heap.size w w') : KB w' g N A n c vo vm vl := (hb.block g (heap_lt h)).trans h
def vtxI (l : List Tr) (n : Nat) (x : Int) : Int := if IsC n x then vtx l x.toNat else -1
def besC (k y : Nat) : Nat := k - k % 3 + (k + y) % 3
theorem besC_one (k : Nat) : besC k 1 = nxt k := by unfold besC nxt; split <;> omega
theorem besC_two (k : Nat) : besC k 2 = prv k := by unfold besC prv; split <;> omega
def besI (n : Nat) (x : Int) (y : Nat) : Int := if IsC n x then ((besC x.toNat y : Nat) : Int) else -1
def edgI (l : List Tr) (n : Nat) (x : Int) : Ed := if IsC n x then edgeC l x.toNat else (-1, -1)
def BoolSame (w : World) (b : Bool) (e : Ending) (w' : World) : Prop := e = .returned (.bool b) ∧ w' = w

set_option maxRecDepth 100000 in
theorem ktris_any (w : World) (g : Nat) (N : Int) (A : Option Addr) (n c : Nat) (vo vm vl : Value) (h : KB w g N A n c vo vm vl) : Calls Try.prog 17 #[.pointer (some ⟨g, 0, none⟩)] w (IntSame w (n : Int)) := by
  have c1 := h.c1
  clear h
  go_enter Try.func17, Try.ntmps17
  go_wp2
  go_ret
  exact ⟨rfl, rfl⟩
set_option maxRecDepth 100000 in
theorem ktris_nil (w : World) : Calls Try.prog 17 #[.pointer none] w (IntSame w 0) := by
  go_enter Try.func17, Try.ntmps17
  go_wp2
  go_ret
  exact ⟨rfl, rfl⟩
set_option maxRecDepth 100000 in
theorem kverts_any (w : World) (g : Nat) (N : Int) (A : Option Addr) (n c : Nat) (vo vm vl : Value) (h : KB w g N A n c vo vm vl) : Calls Try.prog 18 #[.pointer (some ⟨g, 0, none⟩)] w (IntSame w N) := by
  have c0 := h.c0
  clear h
  go_enter Try.func18, Try.ntmps18
  go_wp2
  go_ret
  exact ⟨rfl, rfl⟩
set_option maxRecDepth 100000 in
theorem kverts_nil (w : World) : Calls Try.prog 18 #[.pointer none] w (IntSame w 0) := by
  go_enter Try.func18, Try.ntmps18
  go_wp2
  go_ret
  exact ⟨rfl, rfl⟩
/-- Is it a corner: of a table, and of none (n = 0). -/
def TabP (w : World) (n : Nat) (v : Value) : Prop := Calls Try.prog 17 #[v] w (IntSame w (n : Int))
set_option maxHeartbeats 1000000 in
set_option maxRecDepth 100000 in
theorem khas_of (w : World) (p : Option Addr) (n : Nat) (hn : n ≤ 1000000) (hv : TabP w n (.pointer p)) (x : Int) : Calls Try.prog 44 #[.pointer p, .int .i64 x] w (BoolSame w (decide (IsC n x))) := by
  have K := Lib.hid hv
  clear hv
  have e3 : IntKind.i64.wrap (3 * (n : Int)) = 3 * (n : Int) := IntWalk.i64_in _ (by omega)
  by_cases h0 : 0 ≤ x
  · have d0 : decide (x ≥ 0) = true := by simpa using h0
    by_cases h1 : x < 3 * (n : Int)
    · have d1 : decide (x < 3 * (n : Int)) = true := by simpa using h1
      have HE := Lib.hid (show decide (IsC n x) = true from decide_eq_true ⟨h0, h1⟩)
      clear h0 h1
      go_enter Try.func44, Try.ntmps44
      go_wp2_with fail
      refine K.out.mono ?_
      rintro e w1 ⟨rfl, rfl⟩
      go_wp2
      go_ret
      exact ⟨by rw [HE.out]; rfl, rfl⟩
    · have d1 : decide (x < 3 * (n : Int)) = false := by simpa using h1
      have HE := Lib.hid (show decide (IsC n x) = false from decide_eq_false fun h => h1 h.2)
      clear h0 h1
      go_enter Try.func44, Try.ntmps44
      go_wp2_with fail
      refine K.out.mono ?_
      rintro e w1 ⟨rfl, rfl⟩
      go_wp2
      go_ret
      exact ⟨by rw [HE.out]; rfl, rfl⟩
  · have d0 : decide (x ≥ 0) = false := by simpa using h0
    have HE := Lib.hid (show decide (IsC n x) = false from decide_eq_false fun h => h0 h.1)
    clear h0
    go_enter Try.func44, Try.ntmps44
    go_wp2_with fail
    go_ret
    exact ⟨by rw [HE.out]; rfl, rfl⟩
theorem khas_any (w : World) (g : Nat) (N : Int) (A : Option Addr) (n c : Nat) (vo vm vl : Value) (h : KB w g N A n c vo vm vl) (hn : n ≤ 1000000) (x : Int) : Calls Try.prog 44 #[.pointer (some ⟨g, 0, none⟩), .int .i64 x] w (BoolSame w (decide (IsC n x))) :=
  khas_of w _ n hn (ktris_any w g N A n c vo vm vl h) x
theorem khas_nil (w : World) (x : Int) : Calls Try.prog 44 #[.pointer none, .int .i64 x] w (BoolSame w false) := by
  have := khas_of w none 0 (by omega) (ktris_nil w) x
  rwa [show decide (IsC 0 x) = false from decide_eq_false fun h => by have := h.1; have := h.2; omega] at this
set_option maxHeartbeats 1000000 in
set_option maxRecDepth 100000 in
theorem kbeside_of (w : World) (p : Option Addr) (n : Nat) (hn : n ≤ 1000000) (hv : TabP w n (.pointer p)) (x : Int) (y : Nat) (hy : y ≤ 2) : Calls Try.prog 45 #[.pointer p, .int .i64 x, .int .i64 (y : Int)] w (IntSame w (besI n x y)) := by
  have K := Lib.hid (khas_of w p n hn hv x)
  clear hv
  by_cases hc : IsC n x
  · have HE := Lib.hid (show besI n x y = ((besC x.toNat y : Nat) : Int) by unfold besI; rw [if_pos hc])
    rw [decide_eq_true hc] at K
    obtain ⟨k, hk⟩ : ∃ k : Nat, x = (k : Int) := ⟨x.toNat, by have := hc.1; omega⟩
    subst hk
    have hb := hc.2
    obtain ⟨r, hr⟩ : ∃ r, k % 3 = r := ⟨_, rfl⟩
    obtain ⟨s, hs⟩ : ∃ s, (k + y) % 3 = s := ⟨_, rfl⟩
    have tm : Int.tmod (k : Int) 3 = (r : Int) := by rw [Int.tmod_eq_emod_of_nonneg (by omega)]; omega
    have tm2 : Int.tmod ((k : Int) + (y : Int)) 3 = (s : Int) := by rw [Int.tmod_eq_emod_of_nonneg (by omega)]; omega
    have w1 : IntKind.i64.wrap ((k : Int) - (r : Int)) = (k : Int) - (r : Int) := IntWalk.i64_in _ (by omega)
    have w2 : IntKind.i64.wrap ((k : Int) + (y : Int)) = (k : Int) + (y : Int) := IntWalk.i64_in _ (by omega)
    have w3 : IntKind.i64.wrap ((k : Int) - (r : Int) + (s : Int)) = (k : Int) - (r : Int) + (s : Int) := IntWalk.i64_in _ (by omega)
    have HF := Lib.hid (show ((besC k y : Nat) : Int) = (k : Int) - (r : Int) + (s : Int) by unfold besC; rw [hr, hs]; omega)
    clear hc hr hs hb
    go_enter Try.func45, Try.ntmps45
    go_wp2_with fail
    refine K.out.mono ?_
    rintro e w1 ⟨rfl, rfl⟩
    go_wp2
    go_ret
    refine ⟨?_, rfl⟩
    rw [HE.out, Int.toNat_natCast, HF.out]
    rfl
  · have HE := Lib.hid (show besI n x y = -1 by unfold besI; rw [if_neg hc])
    rw [decide_eq_false hc] at K
    clear hc
    go_enter Try.func45, Try.ntmps45
    go_wp2_with fail
    refine K.out.mono ?_
    rintro e w1 ⟨rfl, rfl⟩
    go_wp2
    go_ret
    exact ⟨by rw [HE.out]; rfl, rfl⟩
def nxtI (n : Nat) (x : Int) : Int := if IsC n x then ((nxt x.toNat : Nat) : Int) else -1
def prvI (n : Nat) (x : Int) : Int := if IsC n x then ((prv x.toNat : Nat) : Int) else -1
theorem besI_one (n : Nat) (x : Int) : besI n x 1 = nxtI n x := by unfold besI nxtI; rw [besC_one]
theorem besI_two (n : Nat) (x : Int) : besI n x 2 = prvI n x := by unfold besI prvI; rw [besC_two]
set_option maxRecDepth 100000 in
theorem knext_of (w : World) (p : Option Addr) (n : Nat) (hn : n ≤ 1000000) (hv : TabP w n (.pointer p)) (x : Int) : Calls Try.prog 22 #[.pointer p, .int .i64 x] w (IntSame w (nxtI n x)) := by
  have K := Lib.hid (kbeside_of w p n hn hv x 1 (by omega))
  rw [besI_one] at K
  clear hv
  go_enter Try.func22, Try.ntmps22
  go_wp2_with fail
  refine K.out.mono ?_
  rintro e w1 ⟨rfl, rfl⟩
  go_wp2
  go_ret
  exact ⟨rfl, rfl⟩
set_option maxRecDepth 100000 in
theorem kprev_of (w : World) (p : Option Addr) (n : Nat) (hn : n ≤ 1000000) (hv : TabP w n (.pointer p)) (x : Int) : Calls Try.prog 23 #[.pointer p, .int .i64 x] w (IntSame w (prvI n x)) := by
  have K := Lib.hid (kbeside_of w p n hn hv x 2 (by omega))
  rw [besI_two] at K
  clear hv
  go_enter Try.func23, Try.ntmps23
  go_wp2_with fail
  refine K.out.mono ?_
  rintro e w1 ⟨rfl, rfl⟩
  go_wp2
  go_ret
  exact ⟨rfl, rfl⟩
set_option maxHeartbeats 2000000 in
set_option maxRecDepth 100000 in
theorem kvertex_any (w : World) (g : Nat) (N : Int) (A : Option Addr) (n c : Nat) (vo vm vl : Value) (h : KB w g N A n c vo vm vl) (hn : n ≤ 1000000) (l : List Tr) (ht : T3 w A n l) (x : Int) : Calls Try.prog 21 #[.pointer (some ⟨g, 0, none⟩), .int .i64 x] w (IntSame w (vtxI l n x)) := by
  have K := Lib.hid (khas_any w g N A n c vo vm vl h hn x)
  have e1 := h.c1
  clear h
  by_cases hc : IsC n x
  · have HE := Lib.hid (show vtxI l n x = vtx l x.toNat by unfold vtxI; rw [if_pos hc])
    rw [decide_eq_true hc] at K
    obtain ⟨k, hk⟩ : ∃ k : Nat, x = (k : Int) := ⟨x.toNat, by have := hc.1; omega⟩
    subst hk
    have hb := hc.2
    obtain ⟨d, hd⟩ : ∃ d, k / 3 = d := ⟨_, rfl⟩
    have hdn : d < n := by omega
    obtain ⟨bA, off, rfl, hat⟩ := ht.2 (by omega)
    obtain ⟨c0, c1, c2⟩ := hat d hdn
    have td : Int.tdiv (k : Int) 3 = (d : Int) := by rw [Int.tdiv_eq_ediv_of_nonneg (by omega)]; omega
    have hdn' : (d : Int) < n := by omega
    have HV : ∀ r, k % 3 = r → vtx l k = cor3 (l.getD d z3) r := fun r h => by unfold vtx; rw [hd, h]
    rw [Int.toNat_natCast] at HE
    rcases (show k % 3 = 0 ∨ k % 3 = 1 ∨ k % 3 = 2 by omega) with h | h | h
    · have tm : Int.tmod (k : Int) 3 = 0 := by rw [Int.tmod_eq_emod_of_nonneg (by omega)]; omega
      rw [HV 0 h] at HE
      clear ht hat hd h HV hc hb
      go_enter Try.func21, Try.ntmps21
      go_wp2_with fail
      refine K.out.mono ?_
      rintro e w1 ⟨rfl, rfl⟩
      go_wp2
      go_ret
      exact ⟨by rw [HE.out]; rfl, rfl⟩
    · have tm : Int.tmod (k : Int) 3 = 1 := by rw [Int.tmod_eq_emod_of_nonneg (by omega)]; omega
      rw [HV 1 h] at HE
      clear ht hat hd h HV hc hb
      go_enter Try.func21, Try.ntmps21
      go_wp2_with fail
      refine K.out.mono ?_
      rintro e w1 ⟨rfl, rfl⟩
      go_wp2
      go_ret
      exact ⟨by rw [HE.out]; rfl, rfl⟩
    · have tm : Int.tmod (k : Int) 3 = 2 := by rw [Int.tmod_eq_emod_of_nonneg (by omega)]; omega
      rw [HV 2 h] at HE
      clear ht hat hd h HV hc hb
      go_enter Try.func21, Try.ntmps21
      go_wp2_with fail
      refine K.out.mono ?_
      rintro e w1 ⟨rfl, rfl⟩
      go_wp2
      go_ret
      exact ⟨by rw [HE.out]; rfl, rfl⟩
  · have HE := Lib.hid (show vtxI l n x = -1 by unfold vtxI; rw [if_neg hc])
    rw [decide_eq_false hc] at K
    clear hc ht
    go_enter Try.func21, Try.ntmps21
    go_wp2_with fail
    refine K.out.mono ?_
    rintro e w1 ⟨rfl, rfl⟩
    go_wp2
    go_ret
    exact ⟨by rw [HE.out]; rfl, rfl⟩
set_option maxRecDepth 100000 in
theorem kvertex_nil (w : World) (x : Int) : Calls Try.prog 21 #[.pointer none, .int .i64 x] w (IntSame w (-1)) := by
  have K := Lib.hid (khas_nil w x)
  go_enter Try.func21, Try.ntmps21
  go_wp2_with fail
  refine K.out.mono ?_
  rintro e w1 ⟨rfl, rfl⟩
  go_wp2
  go_ret
  exact ⟨rfl, rfl⟩
theorem isC_nxt {n : Nat} {x : Int} (h : IsC n x) : IsC n (nxtI n x) ∧ (nxtI n x).toNat = nxt x.toNat := by
  unfold nxtI
  rw [if_pos h]
  have := nxt_lt (c := x.toNat) (n := n) (by have := h.1; have := h.2; omega)
  exact ⟨⟨by omega, by omega⟩, by omega⟩
theorem isC_prv {n : Nat} {x : Int} (h : IsC n x) : IsC n (prvI n x) ∧ (prvI n x).toNat = prv x.toNat := by
  unfold prvI
  rw [if_pos h]
  have := prv_lt (c := x.toNat) (n := n) (by have := h.1; have := h.2; omega)
  exact ⟨⟨by omega, by omega⟩, by omega⟩
theorem not_isC (n : Nat) : ¬ IsC n (-1) := fun h => by have := h.1; omega
theorem vtx_nxtI (l : List Tr) (n : Nat) (x : Int) : vtxI l n (nxtI n x) = (edgI l n x).1 := by
  by_cases h : IsC n x
  · obtain ⟨h1, h2⟩ := isC_nxt h
    unfold vtxI edgI
    rw [if_pos h1, if_pos h, h2]; rfl
  · unfold nxtI edgI vtxI
    rw [if_neg h, if_neg h, if_neg (not_isC n)]
theorem vtx_prvI (l : List Tr) (n : Nat) (x : Int) : vtxI l n (prvI n x) = (edgI l n x).2 := by
  by_cases h : IsC n x
  · obtain ⟨h1, h2⟩ := isC_prv h
    unfold vtxI edgI
    rw [if_pos h1, if_pos h, h2]; rfl
  · unfold prvI edgI vtxI
    rw [if_neg h, if_neg h, if_neg (not_isC n)]
set_option maxHeartbeats 2000000 in
set_option maxRecDepth 100000 in
theorem kedge_of (w : World) (p : Option Addr) (d : Ed) (x nx px : Int) (HN : ∀ W, Below w.heap.size w W → Calls Try.prog 22 #[.pointer p, .int .i64 x] W (IntSame W nx)) (HP : ∀ W, Below w.heap.size w W → Calls Try.prog 23 #[.pointer p, .int .i64 x] W (IntSame W px))
    (HV1 : ∀ W, Below w.heap.size w W → Calls Try.prog 21 #[.pointer p, .int .i64 nx] W (IntSame W d.1)) (HV2 : ∀ W, Below w.heap.size w W → Calls Try.prog 21 #[.pointer p, .int .i64 px] W (IntSame W d.2)) :
    Calls Try.prog 25 #[.pointer p, .int .i64 x] w (EdTold w d) := by
  obtain ⟨w2, hw2⟩ : ∃ w2, w.alloc (.cells #[.int .i64 0, .int .i64 0] 41) = w2 := ⟨_, rfl⟩
  obtain ⟨q, hq⟩ : ∃ q, w.heap.size = q := ⟨_, rfl⟩
  have b2 : Below w.heap.size w w2 := by rw [← hw2]; exact (Below.refl _ w).alloc (Nat.le_refl _) _
  have q2 : w2.heap[q]? = some (.cells #[.int .i64 0, .int .i64 0] 41 (0, 0)) := by rw [← hw2, ← hq]; exact heap_alloc_new w _
  have f0 := frozen_in q2 0
  have f1 := frozen_in q2 1
  have z0 := cell_in q2 0
  have z1 := cell_in q2 1
  simp only [List.getElem?_toArray, List.getElem?_cons_zero, List.getElem?_cons_succ] at z0 z1
  have KN := Lib.hid (HN w2 b2)
  have KP := Lib.hid (HP w2 b2)
  have K1 := Lib.hid (HV1 w2 b2)
  have K2 := Lib.hid (HV2 w2 b2)
  have Q2 := Lib.hid (And.intro q2 (And.intro b2 hq))
  clear b2 q2 HN HP HV1 HV2
  obtain ⟨d0, d1⟩ := d
  go_enter Try.func25, Try.ntmps25
  go_wp2_with fail
  refine KN.out.mono ?_
  rintro e w3 ⟨rfl, rfl⟩
  go_wp2_with fail
  refine K1.out.mono ?_
  rintro e w4 ⟨rfl, rfl⟩
  go_wp2_with fail
  refine KP.out.mono ?_
  rintro e w5 ⟨rfl, rfl⟩
  go_wp2_with fail
  refine K2.out.mono ?_
  rintro e w6 ⟨rfl, rfl⟩
  go_wp2_with fail
  refine bodyPost_ret (results_cell_row rfl _ _ q 41 #[.int .i64 d0, .int .i64 d1] (0, 0) _ rfl (set2 Q2.out.1) Try.underlying41 rfl (by kernel_rfl)) rfl ?_
  exact ⟨rfl, below_set2 Q2.out.2.1 (by have := Q2.out.2.2; omega) _ _⟩
theorem kedge_any (w : World) (g : Nat) (N : Int) (A : Option Addr) (n c : Nat) (vo vm vl : Value) (h : KB w g N A n c vo vm vl) (hn : n ≤ 1000000) (l : List Tr) (ht : T3 w A n l) (x : Int) : Calls Try.prog 25 #[.pointer (some ⟨g, 0, none⟩), .int .i64 x] w (EdTold w (edgI l n x)) :=
  kedge_of w _ _ x (nxtI n x) (prvI n x) (fun W b => knext_of W _ n hn (ktris_any W g N A n c vo vm vl (h.below b)) x) (fun W b => kprev_of W _ n hn (ktris_any W g N A n c vo vm vl (h.below b)) x)
    (fun W b => by rw [← vtx_nxtI]; exact kvertex_any W g N A n c vo vm vl (h.below b) hn l (ht.below b) _) (fun W b => by rw [← vtx_prvI]; exact kvertex_any W g N A n c vo vm vl (h.below b) hn l (ht.below b) _)
theorem nxtI_none (x : Int) : nxtI 0 x = -1 := by unfold nxtI; rw [if_neg fun h => by have := h.1; have := h.2; omega]
theorem prvI_none (x : Int) : prvI 0 x = -1 := by unfold prvI; rw [if_neg fun h => by have := h.1; have := h.2; omega]
theorem knext_nil (w : World) (x : Int) : Calls Try.prog 22 #[.pointer none, .int .i64 x] w (IntSame w (-1)) := by
  have := knext_of w none 0 (by omega) (ktris_nil w) x
  rwa [nxtI_none] at this
theorem kprev_nil (w : World) (x : Int) : Calls Try.prog 23 #[.pointer none, .int .i64 x] w (IntSame w (-1)) := by
  have := kprev_of w none 0 (by omega) (ktris_nil w) x
  rwa [prvI_none] at this
theorem kedge_nil (w : World) (x : Int) : Calls Try.prog 25 #[.pointer none, .int .i64 x] w (EdTold w (-1, -1)) :=
  kedge_of w none (-1, -1) x (-1) (-1) (fun W _ => knext_nil W x) (fun W _ => kprev_nil W x) (fun W _ => kvertex_nil W _) (fun W _ => kvertex_nil W _)
end Go.Proofs.Ytkcmieblnajmpaa

/- A list of triangles behind an empty row of one's own; rows of their own beside stores; witnesses compared (out of CrOwn). -/
namespace Go.Proofs.Ytkcmieblnajmpaa
open Go.RowKit

theorem run_append_zero (W : World) (ty : TypeId) (q c : Nat) (A : Option Addr) : (Builtin.append_ #[22, 22] ty #[.slice (some ⟨q, 0, none⟩) 0 0, .slice A 0 c]).run Try.prog W = .ok (.slice (some ⟨q, 0, none⟩) 0 0) W := by
  obtain ⟨i0, hi, hz0, hz1, hz2⟩ := info_parts Try.infoTri
  cases A <;> simp [Builtin.append_, run_underlying Try.underlying22, sizeOf, typeInfo, hi, Builtin.lenOf, Builtin.firstCells, loadCells, loadCellsFrom, storeCells]
theorem wpl_append0 {ops : Array Oper} {rest : List Oper} {o : Oper} {a : Act} {Q : Exit → Act → World → Prop} {w : World} (hgd : o.guard = none) (s x : Operand)
    (ho : o.op = .call { callee := .builtin .append, args := #[s, x], argTypes := #[22, 22] }) (q c : Nat) (A : Option Addr) (hs : a.eval s = .slice (some ⟨q, 0, none⟩) 0 0) (hx : a.eval x = .slice A 0 c)
    (h : wpList Try.prog ops Q rest (a.put o.dst (.slice (some ⟨q, 0, none⟩) 0 0)) w) : wpList Try.prog ops Q (o :: rest) a w :=
  wpList_plain hgd fun _ hK => by
    have hr := run_append_zero w o.type q c A
    unfold Oper.wp execOp
    simp only [ho, resolve, invoke, builtin, Sem.run_bind, Sem.run_pure, Result.andThen_ok, List.map_toArray, List.map_cons, List.map_nil, hs, hx, hr]
    exact hK _ _ h
theorem T3.flat {w : World} {b off n : Nat} {l : List Tr} (h : T3 w (some ⟨b, off, none⟩) n l) : ∀ j u, (ints (flat3 l))[j]? = some u → w.cell? ((⟨b, off, none⟩ : Addr).add j) = some u := by
  intro j u hj
  have hlt : j < (ints (flat3 l)).length := by
    rcases Nat.lt_or_ge j (ints (flat3 l)).length with h1 | h1
    · exact h1
    · rw [List.getElem?_eq_none h1] at hj; cases hj
  rw [length_ints, length_flat3] at hlt
  obtain ⟨b', off', e, hc⟩ := h.2 (by have := h.1; omega)
  injection e with e
  injection e with e1 e2
  subst e1 e2
  have hl := h.1
  obtain ⟨c0, c1, c2⟩ := hc (j / 3) (by omega)
  obtain ⟨a0, a1, a2⟩ := flat3_at l (j / 3) (by omega)
  rw [ints_at] at hj
  have hadd : (⟨b, off, none⟩ : Addr).add j = ⟨b, off + j, none⟩ := by simp [Addr.add]
  rw [hadd]
  rcases (show j = 3 * (j / 3) ∨ j = 3 * (j / 3) + 1 ∨ j = 3 * (j / 3) + 2 by omega) with e | e | e
  · rw [show off + j = off + j / 3 * 3 by omega, c0]
    rw [e, a0] at hj
    exact hj
  · rw [show off + j = off + j / 3 * 3 + 1 by omega, c1]
    rw [e, a1] at hj
    exact hj
  · rw [show off + j = off + j / 3 * 3 + 2 by omega, c2]
    rw [e, a2] at hj
    exact hj
theorem ints_one9 (xs : List Int) : ∀ u ∈ ints xs, u.oneCell' = true := by
  intro u hu
  unfold ints at hu
  obtain ⟨x, _, rfl⟩ := List.mem_map.1 hu
  rfl
theorem ownK9_set {W : World} {B n s r : Nat} {t t' : TypeId} {v : Value} {xs : List Value} {cs : Array Value} {fr : Nat × Nat} (h : W.ownsRow B t s v n xs) (hr : W.heap[r]? = some (.cells cs t' fr)) (ht : t ≠ t') (i : Nat) (u : Value) : (W.setCell ⟨r, i, none⟩ u).ownsRow B t s v n xs := by
  refine ⟨h.1, ?_⟩
  rcases h.2 with h2 | ⟨q, cap, cur, h1, hq, hh, hx⟩
  · exact .inl h2
  · refine .inr ⟨q, cap, cur, h1, hq, heap_far hh ?_ u, hx⟩
    intro e
    have e : q = r := e
    subst e
    rw [hh] at hr
    injection hr with hr
    injection hr with _ hr _
    exact ht hr
theorem neqW9 (w : World) (x0 x1 x2 y0 y1 y2 : Int) : (binOp .neq 29 (.agg #[.int .i64 x0, .int .i64 x1, .int .i64 x2]) (.agg #[.int .i64 y0, .int .i64 y1, .int .i64 y2])).run Try.prog w = .ok (.bool (!(x0 == y0 && (x1 == y1 && x2 == y2)))) w := by
  rw [run_neq_struct, eqInW w (x0, x1, x2) (y0, y1, y2)]; rfl
end Go.Proofs.Ytkcmieblnajmpaa

/- Layer 10: a table's methods that look up: the corner that faces an edge, the opposite one, the least one at a vertex. -/
namespace Go.Proofs.Ytkcmieblnajmpaa
open Go.RowKit

def lookL (L : List (Ed × Int)) (e : Ed) : Int := (lastV L e).getD (-1)
set_option maxHeartbeats 2000000 in
set_option maxRecDepth 100000 in
theorem kfacing_look (w : World) (g : Nat) (N : Int) (A : Option Addr) (n c b : Nat) (vo vl : Value) (L : List (Ed × Int)) (h : KB w g N A n c vo (.map (some b)) vl) (hm : MapL w b L) (e0 e1 : Int) (hw : wfE (e0, e1)) :
    Calls Try.prog 31 #[.pointer (some ⟨g, 0, none⟩), .agg #[.int .i64 e0, .int .i64 e1]] w (IntTold w (lookL L (e0, e1))) := by
  obtain ⟨w1, hw1⟩ : ∃ w1, w.alloc (.cells #[.int .i64 e0, .int .i64 e1] 41) = w1 := ⟨_, rfl⟩
  obtain ⟨q, hq⟩ : ∃ q, w.heap.size = q := ⟨_, rfl⟩
  have b1 : Below w.heap.size w w1 := by rw [← hw1]; exact (Below.refl _ w).alloc (Nat.le_refl _) _
  have q1 : w1.heap[q]? = some (.cells #[.int .i64 e0, .int .i64 e1] 41 (0, 0)) := by rw [← hw1, ← hq]; exact heap_alloc_new w _
  have z0 : w1.cell? ⟨q, 0, none⟩ = some (.int .i64 e0) := by rw [cell_in q1]; rfl
  have z1 : w1.cell? ⟨q, 1, none⟩ = some (.int .i64 e1) := by rw [cell_in q1]; rfl
  have c3 := (h.below b1).c3
  have hlk := fun s => (show MapL (w1.drewN s) b L from hm.kept (b1.block b hm.lt)).look (e0, e1) hw
  have B1 := Lib.hid b1
  obtain ⟨v, hv⟩ : ∃ v, lastV L (e0, e1) = v := ⟨_, rfl⟩
  simp only [hv] at hlk
  have HV := Lib.hid (show lookL L (e0, e1) = v.getD (-1) by unfold lookL; rw [hv])
  clear h hm hw b1 q1 hv
  go_enter Try.func31, Try.ntmps31
  go_wp2_with fail
  go_quiet (fail)
  have BD := Lib.hid (B1.out.trans (Reading.below (w := w1) (w' := w1.drewN nq) ⟨nq, rfl⟩))
  clear hlk
  cases v with
  | none =>
    simp only [Option.getD_none, Option.isSome_none] at *
    go_wp2
    go_ret
    exact ⟨by rw [HV.out]; rfl, BD.out⟩
  | some z =>
    simp only [Option.getD_some, Option.isSome_some] at *
    go_wp2
    go_ret
    exact ⟨by rw [HV.out]; rfl, BD.out⟩
set_option maxRecDepth 100000 in
theorem kfacing_nil (w : World) (e0 e1 : Int) : Calls Try.prog 31 #[.pointer none, .agg #[.int .i64 e0, .int .i64 e1]] w (IntTold w (-1)) := by
  have b1 := (Below.refl _ w).alloc (Nat.le_refl _) (.cells #[.int .i64 e0, .int .i64 e1] 41)
  have B1 := Lib.hid b1
  clear b1
  go_enter Try.func31, Try.ntmps31
  go_wp2
  go_ret
  exact ⟨rfl, B1.out⟩
def oppI (l : List Tr) (n : Nat) (x : Int) : Int := if IsC n x then oppC l x.toNat else -1
set_option maxHeartbeats 1000000 in
set_option maxRecDepth 100000 in
theorem kopp_row (w : World) (g : Nat) (N : Int) (A : Option Addr) (n c qo : Nat) (vm vl : Value) (l : List Tr) (h : KB w g N A n c (.slice (some ⟨qo, 0, none⟩) (3 * n) (3 * n)) vm vl) (hn : n ≤ 1000000) (ho : ∀ k, k < 3 * n → w.cell? ⟨qo, k, none⟩ = some (.int .i64 (oppC l k))) (x : Int) :
    Calls Try.prog 24 #[.pointer (some ⟨g, 0, none⟩), .int .i64 x] w (IntSame w (oppI l n x)) := by
  have K := Lib.hid (khas_any w g N A n c _ _ _ h hn x)
  have c2 := h.c2
  clear h
  by_cases hc : IsC n x
  · have HE := Lib.hid (show oppI l n x = oppC l x.toNat by unfold oppI; rw [if_pos hc])
    rw [decide_eq_true hc] at K
    obtain ⟨k, hk⟩ : ∃ k : Nat, x = (k : Int) := ⟨x.toNat, by have := hc.1; omega⟩
    subst hk
    have hb : (k : Int) < ((3 * n : Nat) : Int) := by have := hc.2; omega
    have h0 : 0 ≤ (k : Int) := by omega
    have c0 := ho k (by omega)
    rw [Int.toNat_natCast] at HE
    clear ho hc
    go_enter Try.func24, Try.ntmps24
    go_wp2_with fail
    refine K.out.mono ?_
    rintro e w1 ⟨rfl, rfl⟩
    go_wp2
    go_ret
    exact ⟨by rw [HE.out]; rfl, rfl⟩
  · have HE := Lib.hid (show oppI l n x = -1 by unfold oppI; rw [if_neg hc])
    rw [decide_eq_false hc] at K
    clear hc ho
    go_enter Try.func24, Try.ntmps24
    go_wp2_with fail
    refine K.out.mono ?_
    rintro e w1 ⟨rfl, rfl⟩
    go_wp2
    go_ret
    exact ⟨by rw [HE.out]; rfl, rfl⟩
set_option maxRecDepth 100000 in
theorem kopp_nil (w : World) (x : Int) : Calls Try.prog 24 #[.pointer none, .int .i64 x] w (IntSame w (-1)) := by
  have K := Lib.hid (khas_nil w x)
  go_enter Try.func24, Try.ntmps24
  go_wp2_with fail
  refine K.out.mono ?_
  rintro e w1 ⟨rfl, rfl⟩
  go_wp2
  go_ret
  exact ⟨rfl, rfl⟩
def corI (l : List Tr) (N v : Int) : Int := if 0 ≤ v ∧ v < N then cornerAt l v else -1
set_option maxHeartbeats 1000000 in
set_option maxRecDepth 100000 in
theorem kcorner_row (w : World) (g : Nat) (N : Int) (A : Option Addr) (n c ql : Nat) (vo vm : Value) (l : List Tr) (h : KB w g N A n c vo vm (.slice (some ⟨ql, 0, none⟩) N.toNat N.toNat)) (ho : ∀ k, k < N.toNat → w.cell? ⟨ql, k, none⟩ = some (.int .i64 (cornerAt l (k : Int)))) (x : Int) :
    Calls Try.prog 33 #[.pointer (some ⟨g, 0, none⟩), .int .i64 x] w (IntSame w (corI l N x)) := by
  have K := Lib.hid (kverts_any w g N A n c _ _ _ h)
  have c4 := h.c4
  clear h
  by_cases h0 : x < 0
  · have d0 : decide (x < 0) = true := by simpa using h0
    have HE := Lib.hid (show corI l N x = -1 by unfold corI; rw [if_neg fun h => by omega])
    clear h0 ho
    go_enter Try.func33, Try.ntmps33
    go_wp2_with fail
    go_ret
    exact ⟨by rw [HE.out]; rfl, rfl⟩
  · have d0 : decide (x < 0) = false := by simpa using h0
    by_cases h1 : x < N
    · have d1 : decide (x ≥ N) = false := by simpa using h1
      have HE := Lib.hid (show corI l N x = cornerAt l x by unfold corI; rw [if_pos ⟨by omega, h1⟩])
      obtain ⟨k, hk⟩ : ∃ k : Nat, x = (k : Int) := ⟨x.toNat, by omega⟩
      subst hk
      have hb : (k : Int) < ((N.toNat : Nat) : Int) := by omega
      have c0 := ho k (by omega)
      have h2 : 0 ≤ (k : Int) := by omega
      clear ho h0 h1
      go_enter Try.func33, Try.ntmps33
      go_wp2_with fail
      refine K.out.mono ?_
      rintro e w1 ⟨rfl, rfl⟩
      go_wp2
      go_ret
      exact ⟨by rw [HE.out]; rfl, rfl⟩
    · have d1 : decide (x ≥ N) = true := by simpa using h1
      have HE := Lib.hid (show corI l N x = -1 by unfold corI; rw [if_neg fun h => by omega])
      clear ho h0 h1
      go_enter Try.func33, Try.ntmps33
      go_wp2_with fail
      refine K.out.mono ?_
      rintro e w1 ⟨rfl, rfl⟩
      go_wp2
      go_ret
      exact ⟨by rw [HE.out]; rfl, rfl⟩
set_option maxRecDepth 100000 in
theorem kcorner_nil (w : World) (x : Int) : Calls Try.prog 33 #[.pointer none, .int .i64 x] w (IntSame w (-1)) := by
  have K := Lib.hid (kverts_nil w)
  by_cases h0 : x < 0
  · have d0 : decide (x < 0) = true := by simpa using h0
    clear h0
    go_enter Try.func33, Try.ntmps33
    go_wp2_with fail
    go_ret
    exact ⟨rfl, rfl⟩
  · have d0 : decide (x < 0) = false := by simpa using h0
    have d1 : decide (x ≥ 0) = true := by simp; omega
    clear h0
    go_enter Try.func33, Try.ntmps33
    go_wp2_with fail
    refine K.out.mono ?_
    rintro e w1 ⟨rfl, rfl⟩
    go_wp2
    go_ret
    exact ⟨rfl, rfl⟩
end Go.Proofs.Ytkcmieblnajmpaa

/- Layer 10: a copy of a soup; a table's map, its opposite corners, its least corners; New. -/
namespace Go.Proofs.Ytkcmieblnajmpaa
open Go.RowKit

theorem cell_far1 {w : World} {g j r i : Nat} {u : Value} (h : g ≠ r) : (w.setCell ⟨r, i, none⟩ u).cell? ⟨g, j, none⟩ = w.cell? ⟨g, j, none⟩ := World.cell?_setCell_other _ _ _ _ (by intro e; simp only [Addr.mk.injEq] at e; omega)
theorem eqlIn_nilT (d : Nat) (w : World) (a : Option Addr) (n c : Nat) : (Op.equalIn (d + 1) 22 (.slice a n c) (.slice none 0 0)).run Try.prog w = .ok a.isNone w := by
  cases a <;> simp [Op.equalIn, run_underlying Try.underlying22]
theorem eql_nilT (w : World) (a : Option Addr) (n c : Nat) : (binOp .eql 22 (.slice a n c) (.slice none 0 0)).run Try.prog w = .ok (.bool a.isNone) w := by
  have h : (Op.equal 22 (.slice a n c) (.slice none 0 0)).run Try.prog w = .ok a.isNone w := eqlIn_nilT 9999 w a n c
  simp [binOp, h]
def CloneTold (w : World) (n : Nat) (l : List Tr) (e : Ending) (w' : World) : Prop := ∃ A c, e = .returned (.slice A n c) ∧ w'.ownsRow w.heap.size 56 3 (.slice A n c) n (ints (flat3 l)) ∧ Below w.heap.size w w'
set_option maxHeartbeats 2000000 in
set_option maxRecDepth 100000 in
theorem clone3_any (w : World) (A : Option Addr) (n c : Nat) (l : List Tr) (ht : T3 w A n l) (hn : n ≤ 1000000) : Calls Try.prog 51 #[.slice A n c] w (CloneTold w n l) := by
  have hq := eql_nilT w A n c
  cases A with
  | none =>
    have h0 : n = 0 := by
      rcases Nat.eq_zero_or_pos n with h | h
      · exact h
      · obtain ⟨b, o, e, _⟩ := ht.2 h; cases e
    subst h0
    have hl : l = [] := List.eq_nil_of_length_eq_zero ht.1
    subst hl
    simp only [Option.isNone_none] at hq
    clear ht
    go_enter Try.func51, Try.ntmps51
    go_wp2
    go_ret
    exact ⟨none, 0, rfl, ⟨rfl, .inl ⟨rfl, rfl⟩⟩, Below.refl _ _⟩
  | some ad =>
    simp only [Option.isNone_some] at hq
    obtain ⟨w1, hw1⟩ : ∃ w1, w.alloc (.cells #[] 56) = w1 := ⟨_, rfl⟩
    obtain ⟨q, hqq⟩ : ∃ q, w.heap.size = q := ⟨_, rfl⟩
    have b1 : Below w.heap.size w w1 := by rw [← hw1]; exact (Below.refl _ w).alloc (Nat.le_refl _) _
    have q1 : w1.heap[q]? = some (.cells #[] 56 (0, 0)) := by rw [← hw1, ← hqq]; exact heap_alloc_new w _
    have o1 : w1.ownsRow q 56 3 (.slice (some ⟨q, 0, none⟩) 0 0) 0 (ints (flat3 [])) := ⟨rfl, .inr ⟨q, 0, _, rfl, Nat.le_refl _, q1, Nat.le_refl _, by decide, rfl, rfl⟩⟩
    have hsz : q ≤ w1.heap.size := by rw [← hw1, World.size_alloc]; omega
    by_cases h0 : n = 0
    · subst h0
      have hl : l = [] := List.eq_nil_of_length_eq_zero ht.1
      subst hl
      have O1 := Lib.hid (And.intro o1 (And.intro b1 hqq))
      clear ht o1 b1 q1 hsz
      go_enter Try.func51, Try.ntmps51
      go_wp2_with (at_builtin; refine wpl_append0 rfl (.tmp 5) (.tmp 6) rfl q c (some ad) rfl rfl ?_)
      go_ret
      refine ⟨some ⟨q, 0, none⟩, 0, rfl, ?_, O1.out.2.1⟩
      rw [O1.out.2.2]
      exact O1.out.1
    · have HI := Lib.hid (info_parts Try.infoTri)
      obtain ⟨bA, off, e, _⟩ := ht.2 (by omega)
      injection e with e
      subst e
      obtain ⟨i0, hi, hz0, hz1, hz2⟩ := HI.out
      have t1 := Lib.hid (ht.below b1)
      have O1 := Lib.hid (And.intro o1 (And.intro b1 (And.intro hqq hsz)))
      clear ht o1 b1 q1 hsz
      go_enter Try.func51, Try.ntmps51
      go_wp2_with (at_builtin; refine wpList_append_lies _ rfl (.tmp 5) (.tmp 6) 22 rfl q 56 i0 (.agg #[.int .i64 0, .int .i64 0, .int .i64 0]) 3 24 Try.underlying22 hi hz0 hz1 hz2 rfl (by decide) (.slice (some ⟨q, 0, none⟩) 0 0) 0 (ints (flat3 [])) rfl O1.out.1 ⟨bA, off, none⟩ n c (ints (flat3 l)) rfl (by rw [length_ints, length_flat3]; have := t1.out.1; omega) t1.out.flat (ints_one9 _) (by omega) (by unfold maxLen; omega) (by omega) O1.out.2.2.2 _ rfl ?_)
      intro g9 cap9 w9 own9 gr9 _ _
      have own' : w9.ownsRow q 56 3 (.slice (some ⟨g9, 0, none⟩) n cap9) n (ints (flat3 l)) := own9
      have B9 := Lib.hid (And.intro own' (own_grown_below O1.out.2.1 gr9 O1.out.2.1.size (fun k hk => by have e : some q = some k := hk; injection e with e; have := O1.out.2.2.1; omega)))
      clear own9 own' gr9
      go_wp2
      go_ret
      refine ⟨some ⟨g9, 0, none⟩, cap9, rfl, ?_, B9.out.2⟩
      rw [O1.out.2.2.1]
      exact B9.out.1

set_option maxHeartbeats 4000000 in
set_option maxRecDepth 100000 in
theorem kcopied_any (w : World) (N : Int) (A : Option Addr) (n c : Nat) (l : List Tr) (ht : T3 w A n l) (hn : n ≤ 1000000) : Calls Try.prog 38 #[.agg #[.int .i64 N, .slice A n c]] w (NewTold w N l) := by
  obtain ⟨w1, hw1⟩ : ∃ w1, w.alloc (.cells #[.int .i64 N, .slice A n c] 24) = w1 := ⟨_, rfl⟩
  obtain ⟨g, hg⟩ : ∃ g, w.heap.size = g := ⟨_, rfl⟩
  have b1 : Below w.heap.size w w1 := by rw [← hw1]; exact (Below.refl _ w).alloc (Nat.le_refl _) _
  have x1 : Bx w1 g N A n c := by rw [← hw1, ← hg]; exact Bx.made w N A n c
  obtain ⟨w2, hw2⟩ : ∃ w2, w1.alloc (.cells #[.int .i64 0, .slice none 0 0] 24) = w2 := ⟨_, rfl⟩
  obtain ⟨rb, hrb⟩ : ∃ rb, w1.heap.size = rb := ⟨_, rfl⟩
  have b2 : Below w1.heap.size w1 w2 := by rw [← hw2]; exact (Below.refl _ w1).alloc (Nat.le_refl _) _
  have r2 : Bx w2 rb 0 none 0 0 := by rw [← hw2, ← hrb]; exact Bx.made w1 0 none 0 0
  have bd : Below w2.heap.size w2 w2.drew := Reading.below ⟨1, rfl⟩
  have b12 := up2 b1 b2
  have KC := Lib.hid (clone3_any w2.drew A n c l (ht.below (up2 b12 bd)) hn)
  have HS := Lib.hid (fun W (b : Below w2.heap.size w2 W) => (show W.cell? ⟨g, 0, none⟩ = some (.int .i64 N) ∧ W.cell? ⟨g, 1, none⟩ = some (.slice A n c) from ⟨((x1.below b2).below b).c0, ((x1.below b2).below b).c1⟩))
  have hd := HS.out w2.drew bd
  have R2 := Lib.hid (And.intro r2 (And.intro b12 (And.intro (show w.heap.size ≤ rb by rw [← hrb]; exact b1.size) (And.intro (show g < rb by rw [← hrb]; exact heap_lt x1) ht.1))))
  clear b1 x1 b2 r2 b12 ht
  go_enter Try.func38, Try.ntmps38
  go_wp2_with fail
  have SET := Lib.hid (fun W (b : Below w2.heap.size w2 W) (u v : Value) => (show ((W.setCell ⟨rb, 0, none⟩ u).setCell ⟨rb, 1, none⟩ v).cell? ⟨g, 0, none⟩ = some (.int .i64 N) ∧ ((W.setCell ⟨rb, 0, none⟩ u).setCell ⟨rb, 1, none⟩ v).cell? ⟨g, 1, none⟩ = some (.slice A n c) from by have hne := Nat.ne_of_lt R2.out.2.2.2.1; have h := HS.out W b; exact ⟨((cell_far1 hne).trans (cell_far1 hne)).trans h.1, ((cell_far1 hne).trans (cell_far1 hne)).trans h.2⟩))
  refine wp_region_noPanic ?_
  refine wp_region_held_drew (S := fun w' => w'.cell? ⟨g, 0, none⟩ = some (.int .i64 N) ∧ w'.cell? ⟨g, 1, none⟩ = some (.slice A n c)) (by kernel_rfl) hd (fun _ => ?_)
  refine wpAnyH_take (i := 0) (v := ?v0z1) rfl (by kernel_rfl) (by kernel_rfl) (by kernel_rfl) (fun _ _ _ h => h) (Or.inl ⟨by rfl, ?y0z1⟩) hd ?_
  case y0z1 => (intro w hSw; (try dsimp only at hSw); go_simp; try with_reducible rfl)
  simp only [Act.put, List.setIfInBounds_toArray, List.set_cons_zero, List.set_cons_succ, List.getElem_toArray, List.getElem_cons_zero]
  refine wpAnyH_take (i := 1) (v := ?v1z2) rfl (by kernel_rfl) (by kernel_rfl) (by kernel_rfl) (fun _ _ _ h => h) (Or.inl ⟨by rfl, ?y1z2⟩) hd ?_
  case y1z2 => (intro w hSw; (try dsimp only at hSw); go_simp; try with_reducible rfl)
  simp only [Act.put, List.setIfInBounds_toArray, List.set_cons_zero, List.set_cons_succ, List.getElem_toArray, List.getElem_cons_zero, List.getElem_cons_succ]
  refine wpAnyH_take (i := 2) (v := ?v2z3) rfl (by kernel_rfl) (by kernel_rfl) (by kernel_rfl) (fun _ _ _ h => h) (Or.inl ⟨by rfl, ?y2z3⟩) hd ?_
  case y2z3 => (intro w hSw; (try dsimp only at hSw); go_simp; try with_reducible rfl)
  simp only [Act.put, List.setIfInBounds_toArray, List.set_cons_zero, List.set_cons_succ, List.getElem_toArray, List.getElem_cons_zero, List.getElem_cons_succ]
  refine wpAnyH_take (i := 3) (v := ?v3z4) rfl (by kernel_rfl) (by kernel_rfl) (by kernel_rfl) (fun _ _ _ h => h) (Or.inl ⟨by rfl, ?y3z4⟩) hd ?_
  case y3z4 => (intro w hSw; (try dsimp only at hSw); go_simp; try with_reducible rfl)
  simp only [Act.put, List.setIfInBounds_toArray, List.set_cons_zero, List.set_cons_succ, List.getElem_toArray, List.getElem_cons_zero, List.getElem_cons_succ]
  refine wpAnyH_ready (rs := [4]) (by kernel_rfl) (by simp) ?_
  refine AllReadyH.cons rfl (fun K hK => ?_) AllReadyH.nil
  rw [if_pos (by rfl)]
  go_wp2_with fail
  refine KC.out.mono ?_
  rintro e w5 ⟨A', c', rfl, own5, b5⟩
  have d5 := up2 bd b5
  have r5 := R2.out.1.below d5
  have ZZ := Lib.hid (And.intro r5 (And.intro (up2 R2.out.2.1 d5) (ownK_base own5 (show w.heap.size ≤ w2.drew.heap.size from (up2 R2.out.2.1 bd).size))))
  have f0 := frozen_in r5 0
  have f1 := frozen_in r5 1
  have z0 := r5.c0
  have z1 := r5.c1
  clear own5 b5 r5
  go_wp2_with fail
  refine hK.out _ _ (HS.out _ d5) (fun _ => ?_)
  clear hK K
  try simp only [Act.put, List.setIfInBounds_toArray, List.set_cons_zero, List.set_cons_succ, List.getElem_toArray, List.getElem_cons_zero, List.getElem_cons_succ]
  refine wpAnyH_take (i := 5) (v := ?v5z5) rfl (by kernel_rfl) (by kernel_rfl) (by kernel_rfl) (fun _ _ _ h => h) (Or.inl ⟨by rfl, ?y5z5⟩) (HS.out _ d5) ?_
  case y5z5 => (intro w hSw; (try dsimp only at hSw); go_simp; try with_reducible rfl)
  simp only [Act.put, List.setIfInBounds_toArray, List.set_cons_zero, List.set_cons_succ, List.getElem_toArray, List.getElem_cons_zero, List.getElem_cons_succ]
  have hS6 : ((w5.setCell ⟨rb, 0, none⟩ (.int .i64 N)).setCell ⟨rb, 1, none⟩ (.slice A' n c')).cell? ⟨g, 0, none⟩ = some (.int .i64 N) ∧ ((w5.setCell ⟨rb, 0, none⟩ (.int .i64 N)).setCell ⟨rb, 1, none⟩ (.slice A' n c')).cell? ⟨g, 1, none⟩ = some (.slice A n c) := SET.out _ d5 _ _
  refine wpAnyH_ready (rs := [6]) (by kernel_rfl) (by simp) ?_
  refine AllReadyH.cons rfl (fun K hK => ?_) AllReadyH.nil
  go_simp
  refine hK.out _ _ hS6 (fun _ => ?_)
  clear hK K
  try simp only [Act.put, List.setIfInBounds_toArray, List.set_cons_zero, List.set_cons_succ, List.getElem_toArray, List.getElem_cons_zero, List.getElem_cons_succ]
  refine wpAnyH_done (by kernel_rfl) ?_ _
  refine NoPanic.normal ?_
  go_wp2_with fail
  have Z := ZZ.out
  refine bodyPost_ret (results_cell_row rfl _ _ rb 24 #[.int .i64 N, .slice A' n c'] (0, 0) _ rfl (set2 Z.1) Try.underlying24 rfl (by kernel_rfl)) rfl ?_
  have hl := R2.out.2.2.2.2
  subst hl
  refine ⟨_, rfl, A', c', rfl, ?_, below_set2 Z.2.1 R2.out.2.2.1 _ _⟩
  have o1 := ownK9_set Z.2.2 Z.1 (by decide) 0 (.int .i64 N)
  exact ownK9_set o1 (heap_set Z.1 0 (.int .i64 N)) (by decide) 1 (.slice A' l.length c')
end Go.Proofs.Ytkcmieblnajmpaa
