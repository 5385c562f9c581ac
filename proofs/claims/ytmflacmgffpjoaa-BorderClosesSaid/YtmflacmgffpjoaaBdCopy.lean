/- Layer 12: the document's answer: the same triangles in new memory (of one at least). -/
import Derived.Test.YtmflacmgffpjoaaGK
import Derived.Test.YtmflacmgffpjoaaGM
import Derived.Deep.RegionHeld3
import Derived.Handy
namespace Go.Proofs.Ytmflacmgffpjoaa
open Go.RowKit

set_option maxHeartbeats 4000000 in
set_option maxRecDepth 100000 in
theorem r12copy_any (w : World) (N : Int) (A : Option Addr) (n c : Nat) (l : List Tr) (ht : T3 w A n l) (h0 : 0 < n) (hn : n ≤ 1000000) : Calls Try.prog 30 #[.agg #[.int .i64 N, .slice A n c]] w fun e w' => ∃ v, e = .returned v ∧ NewS w w' N l v := by
  obtain ⟨w1, hw1⟩ : ∃ w1, w.alloc (.cells #[.int .i64 N, .slice A n c] 24) = w1 := ⟨_, rfl⟩
  obtain ⟨g, hg⟩ : ∃ g, w.heap.size = g := ⟨_, rfl⟩
  have b1 : Below w.heap.size w w1 := by rw [← hw1]; exact (Below.refl _ w).alloc (Nat.le_refl _) _
  have x1 : Bx w1 g N A n c := by rw [← hw1, ← hg]; exact Bx.made w N A n c
  obtain ⟨w2, hw2⟩ : ∃ w2, w1.alloc (.cells #[.int .i64 0, .slice none 0 0] 24) = w2 := ⟨_, rfl⟩
  obtain ⟨rb, hrb⟩ : ∃ rb, w1.heap.size = rb := ⟨_, rfl⟩
  have b2 : Below w1.heap.size w1 w2 := by rw [← hw2]; exact (Below.refl _ w1).alloc (Nat.le_refl _) _
  have r2 : Bx w2 rb 0 none 0 0 := by rw [← hw2, ← hrb]; exact Bx.made w1 0 none 0 0
  have x2 := x1.below b2
  obtain ⟨bA, off, rfl, _⟩ := ht.2 h0
  have HI := Lib.hid (info_parts Try.infoTri)
  obtain ⟨i0, hi, hz0, hz1, hz2⟩ := HI.out
  have HT := Lib.hid (ht.below (up2 b1 b2))
  have HB := Lib.hid (And.intro (up2 b1 b2) (And.intro x2 (And.intro r2 (And.intro (show g < rb by rw [← hrb]; exact heap_lt x1) (show w.heap.size ≤ rb by rw [← hrb]; exact b1.size)))))
  have HS := Lib.hid (fun W (b : Below w2.heap.size w2 W) => (show W.cell? ⟨g, 0, none⟩ = some (.int .i64 N) ∧ W.cell? ⟨g, 1, none⟩ = some (.slice (some ⟨bA, off, none⟩) n c) from ⟨(x2.below b).c0, (x2.below b).c1⟩))
  have bd : Below w2.heap.size w2 w2.drew := Reading.below ⟨1, rfl⟩
  have hd := HS.out w2.drew bd
  have h2 := HS.out w2 (Below.refl _ _)
  clear b1 x1 b2 r2 x2 ht
  go_enter Try.func30, Try.ntmps30
  go_wp2_with fail
  clear hw1 hw2 hg hrb
  refine wp_region_noPanic ?_
  refine wp_region_held_drew (S := fun w' => w'.cell? ⟨g, 0, none⟩ = some (.int .i64 N) ∧ w'.cell? ⟨g, 1, none⟩ = some (.slice (some ⟨bA, off, none⟩) n c)) (by kernel_rfl) hd (fun _ => ?_)
  refine wpAnyH_take (i := 0) (v := ?v0z1) rfl (by kernel_rfl) (by kernel_rfl) (by kernel_rfl) (fun _ _ _ h => h) (Or.inl ⟨by rfl, ?y0z1⟩) hd ?_
  case y0z1 => (intro w hSw; (try dsimp only at hSw); go_simp; try with_reducible rfl)
  simp only [Act.put, List.setIfInBounds_toArray, List.set_cons_zero, List.set_cons_succ, List.getElem_toArray, List.getElem_cons_zero]
  refine wpAnyH_take (i := 1) (v := ?v1z2) rfl (by kernel_rfl) (by kernel_rfl) (by kernel_rfl) (fun _ _ _ h => h) (Or.inl ⟨by rfl, ?y1z2⟩) hd ?_
  case y1z2 => (intro w hSw; (try dsimp only at hSw); go_simp; try with_reducible rfl)
  simp only [Act.put, List.setIfInBounds_toArray, List.set_cons_zero, List.set_cons_succ, List.getElem_toArray, List.getElem_cons_zero, List.getElem_cons_succ]
  refine wpAnyH_take (i := 3) (v := ?v3z3) rfl (by kernel_rfl) (by kernel_rfl) (by kernel_rfl) (fun _ _ _ h => h) (Or.inl ⟨by rfl, ?y3z3⟩) hd ?_
  case y3z3 => (intro w hSw; (try dsimp only at hSw); go_simp; try with_reducible rfl)
  simp only [Act.put, List.setIfInBounds_toArray, List.set_cons_zero, List.set_cons_succ, List.getElem_toArray, List.getElem_cons_zero, List.getElem_cons_succ]
  refine wpAnyH_take (i := 4) (v := ?v4z4) rfl (by kernel_rfl) (by kernel_rfl) (by kernel_rfl) (fun _ _ _ h => h) (Or.inl ⟨by rfl, ?y4z4⟩) hd ?_
  case y4z4 => (intro w hSw; (try dsimp only at hSw); go_simp; try with_reducible rfl)
  simp only [Act.put, List.setIfInBounds_toArray, List.set_cons_zero, List.set_cons_succ, List.getElem_toArray, List.getElem_cons_zero, List.getElem_cons_succ]
  refine wpAnyH_ready (rs := [2]) (by kernel_rfl) (by simp) ?_
  refine AllReadyH.cons rfl (fun K hK => ?_) AllReadyH.nil
  go_simp
  refine hK.out _ _ (HS.out _ (up1 bd _)) (fun _ => ?_)
  clear hK K
  try simp only [Act.put, List.setIfInBounds_toArray, List.set_cons_zero, List.set_cons_succ, List.getElem_toArray, List.getElem_cons_zero, List.getElem_cons_succ]
  obtain ⟨u1, hn1⟩ : ∃ u, (w2.alloc (.cells #[] 53)).drew = u := ⟨_, rfl⟩
  obtain ⟨q, hg⟩ : ∃ u, w2.heap.size = u := ⟨_, rfl⟩
  have q3 : u1.heap[q]? = some (.cells #[] 53 (0, 0)) := by rw [← hn1, ← hg]; exact heap_alloc_new _ _
  have bn : Below w2.heap.size w2 u1 := by rw [← hn1]; exact up2 ((Below.refl _ w2).alloc (Nat.le_refl _) _) (Reading.below ⟨1, rfl⟩)
  have hqz : w2.heap.size ≤ q := by omega
  have hsz : q ≤ u1.heap.size := Nat.le_of_lt (heap_lt q3)
  have o3 : u1.ownsRow q 53 3 (.slice (some ⟨q, 0, none⟩) 0 0) 0 (ints (flat3 [])) := ⟨rfl, .inr ⟨q, 0, _, rfl, Nat.le_refl _, q3, Nat.le_refl _, by decide, rfl, rfl⟩⟩
  have t3 := HT.out.below bn
  simp only [hn1, hg]
  clear hn1 hg q3
  refine wpAnyH_ready (rs := [5]) (by kernel_rfl) (by simp) ?_
  refine AllReadyH.cons rfl (fun K hK => ?_) AllReadyH.nil
  refine step_append_lies _ rfl (.tmp 5) (.tmp 7) 22 rfl q 53 i0 (.agg #[.int .i64 0, .int .i64 0, .int .i64 0]) 3 24 Try.underlying22 hi hz0 hz1 hz2 rfl (by decide) (.slice (some ⟨q, 0, none⟩) 0 0) 0 (ints (flat3 [])) (by go_simp) o3 ⟨bA, off, none⟩ n c (ints (flat3 l)) (by go_simp) (by rw [length_ints, length_flat3]; have := t3.1; omega) t3.flat (ints_one9 _) (by omega) (by unfold maxLen; omega) (by omega) hsz _ rfl ?_
  intro g9 cap9 w9 own9 gr9 _ _
  have own' : w9.ownsRow q 53 3 (.slice (some ⟨g9, 0, none⟩) n cap9) n (ints (flat3 l)) := by
    have := own9
    simpa [flat3, ints] using this
  have far : ∀ b o, b < q → u1.heap[b]? = some o → w9.heap[b]? = some o := fun b o hb ho => (gr9.block b (heap_lt ho) (fun e => by have e : some q = some b := e.symm; injection e with e; omega)).trans ho
  have rb2 := heap_lt HB.out.2.2.1
  have g2 := heap_lt HB.out.2.1
  have r9 : Bx w9 rb 0 none 0 0 := far rb _ (by omega) (HB.out.2.2.1.below bn)
  have x9 : Bx w9 g N (some ⟨bA, off, none⟩) n c := far g _ (by omega) (HB.out.2.1.below bn)
  have bw9 : Below w.heap.size w w9 := own_grown_below (up2 HB.out.1 bn) gr9 (up2 HB.out.1 bn).size (fun k hk => by have e : some q = some k := hk; injection e with e; have := HB.out.1.size; omega)
  have HR9 := Lib.hid (And.intro r9 (And.intro own' (And.intro (show w.heap.size ≤ q by have := HB.out.1.size; omega) bw9)))
  have z0 := r9.c0
  have z1 := r9.c1
  have f0 := frozen_in r9 0
  have f1 := frozen_in r9 1
  have hs9 : w9.cell? ⟨g, 0, none⟩ = some (.int .i64 N) ∧ w9.cell? ⟨g, 1, none⟩ = some (.slice (some ⟨bA, off, none⟩) n c) := ⟨x9.c0, x9.c1⟩
  have hsf : ((w9.setCell ⟨rb, 0, none⟩ (.int .i64 N)).setCell ⟨rb, 1, none⟩ (.slice (some ⟨g9, 0, none⟩) n cap9)).cell? ⟨g, 0, none⟩ = some (.int .i64 N) ∧ ((w9.setCell ⟨rb, 0, none⟩ (.int .i64 N)).setCell ⟨rb, 1, none⟩ (.slice (some ⟨g9, 0, none⟩) n cap9)).cell? ⟨g, 1, none⟩ = some (.slice (some ⟨bA, off, none⟩) n c) := by
    have hne : rb ≠ g := by have := HB.out.2.2.2.1; omega
    exact ⟨((World.cell?_setCell_far _ ⟨rb, 1, none⟩ ⟨g, 0, none⟩ _ hne).trans (World.cell?_setCell_far _ ⟨rb, 0, none⟩ ⟨g, 0, none⟩ _ hne)).trans hs9.1, ((World.cell?_setCell_far _ ⟨rb, 1, none⟩ ⟨g, 1, none⟩ _ hne).trans (World.cell?_setCell_far _ ⟨rb, 0, none⟩ ⟨g, 1, none⟩ _ hne)).trans hs9.2⟩
  clear own9 own' gr9 far r9 x9 bw9 o3 t3 bn
  refine hK.out _ _ hs9 (fun _ => ?_)
  clear hK K
  try simp only [Act.put, List.setIfInBounds_toArray, List.set_cons_zero, List.set_cons_succ, List.getElem_toArray, List.getElem_cons_zero, List.getElem_cons_succ]
  refine wpAnyH_take (i := 6) (v := ?v6z5) rfl (by kernel_rfl) (by kernel_rfl) (by kernel_rfl) (fun _ _ _ h => h) (Or.inl ⟨by rfl, ?y6z5⟩) hs9 ?_
  case y6z5 => (intro w hSw; (try dsimp only at hSw); go_simp; try with_reducible rfl)
  simp only [Act.put, List.setIfInBounds_toArray, List.set_cons_zero, List.set_cons_succ, List.getElem_toArray, List.getElem_cons_zero, List.getElem_cons_succ]
  refine wpAnyH_ready (rs := [7]) (by kernel_rfl) (by simp) ?_
  refine AllReadyH.cons rfl (fun K hK => ?_) AllReadyH.nil
  go_simp
  refine hK.out _ _ hsf (fun _ => ?_)
  clear hK K
  try simp only [Act.put, List.setIfInBounds_toArray, List.set_cons_zero, List.set_cons_succ, List.getElem_toArray, List.getElem_cons_zero, List.getElem_cons_succ]
  refine wpAnyH_done (by kernel_rfl) ?_ _
  refine NoPanic.normal ?_
  go_wp2_with fail
  refine bodyPost_ret (results_cell_row rfl _ _ rb 24 #[.int .i64 N, .slice (some ⟨g9, 0, none⟩) n cap9] (0, 0) _ rfl (set2 HR9.out.1) Try.underlying24 rfl (by kernel_rfl)) rfl ?_
  have hl := HT.out.1
  subst hl
  have o1 := ownK9_set HR9.out.2.1 HR9.out.1 (by decide) 0 (.int .i64 N)
  have o2 := ownK9_set o1 (heap_set HR9.out.1 0 (.int .i64 N)) (by decide) 1 (.slice (some ⟨g9, 0, none⟩) l.length cap9)
  exact ⟨_, rfl, _, _, rfl, ownK_base o2 HR9.out.2.2.1, below_set2 HR9.out.2.2.2 HB.out.2.2.2.2 _ _⟩
end Go.Proofs.Ytmflacmgffpjoaa
