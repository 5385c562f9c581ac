/- BorderCloses: a hole of three is closed by its own loop: the surface with that triangle is a surface, with a border loop less, and three border edges. No condition. -/
import Derived.Test.YtmflacmgffpjoaaBdLaw
import Derived.Test.YtmflacmgffpjoaaGB
import Derived.Test.YtmflacmgffpjoaaBdOn
import Derived.Test.YtmflacmgffpjoaaBdCopy
import Derived.Test.YtmflacmgffpjoaaBdOne
import Derived.Test.YtmflacmgffpjoaaBdLps
import Derived.Test.YtmflacmgffpjoaaGM
namespace Go.Proofs.Ytmflacmgffpjoaa.borderCloses
open Go.RowKit Go.ChangeShapes Go.WideShapes Go.ChangeAt

theorem ll_map {LL : List (List Nat)} {k : Nat} : (LL.map natsI).getD k [] = natsI (LL.getD k []) := by
  rw [List.getD_eq_getElem?_getD, List.getD_eq_getElem?_getD, List.getElem?_map]
  cases LL[k]? <;> rfl
theorem atI {W : World} {ad : Addr} {n : Nat} {xs : List Int} (h : Reads W (some ad) n (ints xs)) {k : Nat} (hk : k < n) : W.cell? (ad.add k) = some (.int .i64 (xs.getD k 0)) := by
  obtain ⟨ad', e, h'⟩ := h.int k hk
  injection e with e
  subst e
  exact h'
def ClR (w5 : World) (n5 : Nat) (i : Value) (wr : World) : Prop := Below w5.heap.size w5 wr ∧ ∃ k : Nat, k ≤ n5 ∧ i = .int .i64 (k : Int)
set_option maxHeartbeats 16000000 in
set_option maxRecDepth 100000 in
theorem walk (N : Int) (A : Option Addr) (n c : Nat) (l : List Tr) (w : World) (_ : -9223372036854775808 ≤ N) (_ : N ≤ 9223372036854775807) (h : T3 w A n l) :
    Calls Try.prog 7 #[.agg #[.int .i64 N, .slice A n c]] w (BoolTold10 w true) := by
  obtain rfl := h.1
  have HL := Lib.hid h
  have KA := Lib.hid awake12_true
  obtain ⟨w1, hw1⟩ : ∃ w1, w.alloc (.cells #[.int .i64 N, .slice A l.length c] 24) = w1 := ⟨_, rfl⟩
  obtain ⟨g0, hg0⟩ : ∃ g0, w.heap.size = g0 := ⟨_, rfl⟩
  have b1 : Below w.heap.size w w1 := by rw [← hw1]; exact (Below.refl _ w).alloc (Nat.le_refl _) _
  have x1 : Bx w1 g0 N A l.length c := by rw [← hw1, ← hg0]; exact Bx.made w N A l.length c
  have B1 := Lib.hid (And.intro b1 x1)
  clear b1 x1 h
  go_enter Try.func7, Try.ntmps7
  go_wp2_with fail
  refine (KA.out _).mono ?_
  rintro e w2 ⟨rfl, b2⟩
  have x2 := B1.out.2.below b2
  have e0 := x2.c0
  have e1 := x2.c1
  have B2 := Lib.hid (And.intro (up2 B1.out.1 b2) x2)
  have KL := Lib.hid (table12_any w2 N A l.length c l (HL.out.below B2.out.1))
  clear b2 x2
  go_wp2_with fail
  refine KL.out.mono ?_
  rintro e w3 ⟨b3, ⟨rfl, hno⟩ | ⟨hn40, g, rfl, tab⟩⟩
  · have x3 := B2.out.2.below b3
    have e0 := x3.c0
    have e1 := x3.c1
    have B3 := Lib.hid (up2 B2.out.1 b3)
    clear b3 x3
    by_cases h40 : 40 ≤ l.length
    · have d40 : decide ((l.length : Int) ≥ 40) = true := decide_eq_true (by omega)
      clear h40 hno
      go_wp2_with fail
      go_ret
      exact ⟨rfl, B3.out⟩
    · have d40 : decide ((l.length : Int) ≥ 40) = false := decide_eq_false (by omega)
      have KS := Lib.hid (surf9_any w3 N A l.length c l (HL.out.below B3.out) (by omega) false ⟨fun h => (by cases h), fun h => hno.elim (fun k => absurd k (by omega)) fun k => absurd h k⟩)
      clear h40 hno
      go_wp2_with fail
      refine KS.out.mono ?_
      rintro e w4 ⟨rfl, b4⟩
      have B4 := Lib.hid (up2 B3.out b4)
      clear b4
      go_wp2_with fail
      go_ret
      exact ⟨rfl, B4.out⟩
  have x3 := B2.out.2.below b3
  have e0 := x3.c0
  have e1 := x3.c1
  have B3 := Lib.hid (And.intro (up2 B2.out.1 b3) x3)
  have TAB := Lib.hid tab
  have SF := Lib.hid tab.surf
  have hN := And.intro tab.surf.n0 tab.surf.n1
  clear b3 x3 tab
  by_cases h40 : 40 ≤ l.length
  · have d40 : decide ((l.length : Int) ≥ 40) = true := decide_eq_true (by omega)
    clear h40
    go_wp2_with fail
    go_ret
    exact ⟨rfl, B3.out.1⟩
  have d40 : decide ((l.length : Int) ≥ 40) = false := decide_eq_false (by omega)
  have hn39 : l.length < 40 := by omega
  obtain ⟨LL, hLL⟩ := loops_exists N l
  have KL := Lib.hid (bdloops_any w3 _ g N l TAB.out LL hLL)
  have hl4 := loopsK_le hLL
  have HLL := Lib.hid hLL
  clear h40 hLL
  go_wp2_with fail
  refine KL.out.mono ?_
  rintro e w5 ⟨A5, n5, c5, rfl, r5, b5⟩
  have hn5 : n5 = LL.length := by have := r5.1; rw [List.length_map] at this; exact this.symm
  have H5 := Lib.hid (And.intro b5 r5.rows)
  have HS := Lib.hid (fun W (b : Below w5.heap.size w5 W) => (show W.cell? ⟨g0, 0, none⟩ = some (.int .i64 N) ∧ W.cell? ⟨g0, 1, none⟩ = some (.slice A l.length c) from ⟨(B3.out.2.below (up2 b5 b)).c0, (B3.out.2.below (up2 b5 b)).c1⟩))
  have HN5 := Lib.hid hn5
  have hn4 : n5 ≤ 4096 := by omega
  clear b5 r5 hn5 e0 e1
  go_wp2_with fail
  go_loopw [5] (ClR w5 n5) (fun i _ => n5 - (intOf i).toNat)
  case atStart => exact ⟨Below.refl _ _, 0, Nat.zero_le _, rfl⟩
  case round =>
    obtain ⟨hb, k, hk, rfl⟩ := hrel
    have HB := Lib.hid hb
    obtain ⟨e0, e1⟩ := HS.out wr hb
    clear hb
    by_cases hlt : k < n5
    case neg =>
      obtain rfl : k = n5 := by omega
      have b1 : ¬ (k : Int) < k := by omega
      go_wp2_with fail
      go_ret
      exact ⟨rfl, up2 B3.out.1 (up2 H5.out.1 HB.out)⟩
    have b1 : (k : Int) < n5 := by omega
    have b2 : 0 ≤ (k : Int) := by omega
    have hkl : k < LL.length := by rw [← HN5.out]; exact hlt
    obtain ⟨ad, rfl, hat⟩ := (H5.out.2.below HB.out).2 (by omega)
    obtain ⟨Ai, ci, ck, rk⟩ := hat k hlt
    rw [ll_map, natsI_len] at ck rk
    obtain ⟨v0, _, _, hloop, hle⟩ := HLL.out.at hkl
    obtain ⟨L, hLk⟩ : ∃ L, LL.getD k [] = L := ⟨_, rfl⟩
    rw [hLk] at ck rk hloop hle
    obtain ⟨m, hm⟩ : ∃ m, L.length = m := ⟨_, rfl⟩
    rw [hm] at ck rk
    have HK := Lib.hid (And.intro hk hlt)
    by_cases hm3 : m = 3
    case neg =>
      have d3 : ((m : Int) != 3) = true := by simp; omega
      have sv : IntKind.i64.wrap ((k : Int) + 1) = (k : Int) + 1 := IntWalk.i64_in _ (by omega)
      clear hat rk hloop hle hLk hm hm3 hk
      go_wp2_with fail
      exact ⟨⟨HB.out, k + 1, HK.out.2, by go_num⟩, by have := HK.out.2; simp [intOf]; omega⟩
    subst hm3
    have d3 : (((3 : Nat) : Int) != 3) = false := rfl
    obtain ⟨a, b, c', rfl⟩ : ∃ a b c', L = [a, b, c'] := by
      match L, hm with
      | [a, b, c'], _ => exact ⟨a, b, c', rfl⟩
    obtain rfl : v0 = a := hloop.chain.hd.symm
    have hl1 : 0 < l.length := by have := loop_len SF.out hloop; rw [hm] at this; omega
    obtain ⟨ai, rfl, _⟩ := rk.int 0 (by omega)
    have ca := atI rk (show 0 < 3 by omega)
    rw [show ai.add 0 = ai by unfold Addr.add; simp] at ca
    have cb := atI rk (show 1 < 3 by omega)
    have cc := atI rk (show 2 < 3 by omega)
    rw [show ai.add 1 = ⟨ai.block, ai.off + 1, none⟩ by unfold Addr.add; simp] at cb
    rw [show ai.add 2 = ⟨ai.block, ai.off + 2, none⟩ by unfold Addr.add; simp] at cc
    have HC := Lib.hid (fun W (b9 : Below wr.heap.size wr W) => (show W.cell? (ad.add k) = some (.slice (some ai) 3 ci) ∧ W.cell? ai = some (.int .i64 (v0 : Int)) ∧ W.cell? ⟨ai.block, ai.off + 1, none⟩ = some (.int .i64 (b : Int)) ∧ W.cell? ⟨ai.block, ai.off + 2, none⟩ = some (.int .i64 (c' : Int)) from
      ⟨(b9.cell (World.block_lt_of_cell? _ _ ck)).trans ck, (b9.cell (World.block_lt_of_cell? _ _ ca)).trans ca, (b9.cell (World.block_lt_of_cell? _ _ cb)).trans cb, (b9.cell (World.block_lt_of_cell? _ _ cc)).trans cc⟩))
    have KC := Lib.hid (r12copy_any wr N A l.length c l (HL.out.below (up2 B3.out.1 (up2 H5.out.1 HB.out))) hl1 (by omega))
    have HLP := Lib.hid (And.intro hloop (And.intro hkl hLk))
    clear hat rk hloop hle hm ca cb cc hk hl1 hLk
    go_wp2_with fail
    refine KC.out.mono ?_
    rintro e w6 ⟨_, rfl, A6, c6, rfl, own6, b6⟩
    obtain ⟨gx, hgx⟩ : ∃ gx, w6.heap.size = gx := ⟨_, rfl⟩
    obtain ⟨w6a, hw6a⟩ : ∃ w6a, w6.alloc (.cells #[.int .i64 0, .slice none 0 0] 24) = w6a := ⟨_, rfl⟩
    have b6a : Below w6.heap.size w6 w6a := by rw [← hw6a]; exact (Below.refl _ w6).alloc (Nat.le_refl _) _
    have x6 : Bx w6a gx 0 none 0 0 := by rw [← hw6a, ← hgx]; exact Bx.made w6 0 none 0 0
    have z0 := x6.c0
    have z1 := x6.c1
    have f0 := frozen_in x6 0
    have f1 := frozen_in x6 1
    have hgw : wr.heap.size ≤ gx := by rw [← hgx]; exact b6.size
    obtain ⟨w7, hw7⟩ : ∃ w7, (w6a.setCell ⟨gx, 0, none⟩ (.int .i64 N)).setCell ⟨gx, 1, none⟩ (.slice A6 l.length c6) = w7 := ⟨_, rfl⟩
    have b7 : Below wr.heap.size wr w7 := by rw [← hw7]; exact below_set2 (up2 b6 b6a) hgw _ _
    have o7 : Own1 wr.heap.size w7 gx N (.slice A6 l.length c6) l := by
      rw [← hw7]
      refine ⟨set2 x6, ownK9_set (ownK9_set (ownK_up own6 b6a) x6 (by decide) 0 _) (heap_set x6 0 (.int .i64 N)) (by decide) 1 _, ?_, hgw⟩
      rw [World.size_setCell, World.size_setCell]
      exact (up2 b6 b6a).size
    have bd : Below w7.heap.size w7 w7.drew := Reading.below ⟨1, rfl⟩
    have HOD := Lib.hid (o7.up bd)
    have b7d := up2 b7 bd
    have hd := HC.out w7.drew b7d
    have hc1 := o7.c1
    have hcd := HOD.out.c1
    have hcu1 := (o7.up ((Below.refl _ w7).alloc (Nat.le_refl _) (triC ((v0 : Int), (b : Int), (c' : Int))))).c1
    have hcu2 := (HOD.out.up ((Below.refl _ w7.drew).alloc (Nat.le_refl _) (triC ((v0 : Int), (b : Int), (c' : Int))))).c1
    have hcu3 : (w7.alloc (triC ((v0 : Int), (b : Int), (c' : Int)))).drew.cell? ⟨gx, 1, none⟩ = some (.slice A6 l.length c6) := hcu2
    dsimp only [triC] at hcu1 hcu2 hcu3
    have B7 := Lib.hid (And.intro b7 b7d)
    clear own6 b6 b6a x6 b7 bd o7 e0 e1 ck
    go_wp2_with fail
    clear z0 z1 f0 f1 hw6a hw7
    refine wp_region_noPanic ?_
    refine wp_region_held_drew (S := fun w' => w'.cell? (ad.add k) = some (.slice (some ai) 3 ci) ∧ w'.cell? ai = some (.int .i64 (v0 : Int)) ∧ w'.cell? ⟨ai.block, ai.off + 1, none⟩ = some (.int .i64 (b : Int)) ∧ w'.cell? ⟨ai.block, ai.off + 2, none⟩ = some (.int .i64 (c' : Int))) (by kernel_rfl) hd (fun _ => ?_)
    refine wpAnyH_take (i := 0) (v := ?v0x1) rfl (by kernel_rfl) (by kernel_rfl) (by kernel_rfl) (fun _ _ _ h => h) (Or.inl ⟨by rfl, ?y0x1⟩) hd ?_
    case y0x1 => (intro w hSw; (try dsimp only at hSw); go_simp; try with_reducible rfl)
    simp only [Act.put, List.setIfInBounds_toArray, List.set_cons_zero, List.set_cons_succ, List.getElem_toArray, List.getElem_cons_zero]
    refine wpAnyH_take (i := 2) (v := ?v2x2) rfl (by kernel_rfl) (by kernel_rfl) (by kernel_rfl) (fun _ _ _ h => h) (Or.inl ⟨by rfl, ?y2x2⟩) hd ?_
    case y2x2 => (intro w hSw; (try dsimp only at hSw); go_simp; try with_reducible rfl)
    simp only [Act.put, List.setIfInBounds_toArray, List.set_cons_zero, List.set_cons_succ, List.getElem_toArray, List.getElem_cons_zero, List.getElem_cons_succ]
    refine wpAnyH_take (i := 3) (v := ?v3x3) rfl (by kernel_rfl) (by kernel_rfl) (by kernel_rfl) (fun _ _ _ h => h) (Or.inl ⟨by rfl, ?y3x3⟩) hd ?_
    case y3x3 => (intro w hSw; (try dsimp only at hSw); go_simp; try with_reducible rfl)
    simp only [Act.put, List.setIfInBounds_toArray, List.set_cons_zero, List.set_cons_succ, List.getElem_toArray, List.getElem_cons_zero, List.getElem_cons_succ]
    refine wpAnyH_take (i := 4) (v := ?v4x4) rfl (by kernel_rfl) (by kernel_rfl) (by kernel_rfl) (fun _ _ _ h => h) (Or.inl ⟨by rfl, ?y4x4⟩) hd ?_
    case y4x4 => (intro w hSw; (try dsimp only at hSw); go_simp; try with_reducible rfl)
    simp only [Act.put, List.setIfInBounds_toArray, List.set_cons_zero, List.set_cons_succ, List.getElem_toArray, List.getElem_cons_zero, List.getElem_cons_succ]
    refine wpAnyH_take (i := 5) (v := ?v5x5) rfl (by kernel_rfl) (by kernel_rfl) (by kernel_rfl) (fun _ _ _ h => h) (Or.inl ⟨by rfl, ?y5x5⟩) hd ?_
    case y5x5 => (intro w hSw; (try dsimp only at hSw); go_simp; try with_reducible rfl)
    simp only [Act.put, List.setIfInBounds_toArray, List.set_cons_zero, List.set_cons_succ, List.getElem_toArray, List.getElem_cons_zero, List.getElem_cons_succ]
    refine wpAnyH_take (i := 6) (v := ?v6x6) rfl (by kernel_rfl) (by kernel_rfl) (by kernel_rfl) (fun _ _ _ h => h) (Or.inl ⟨by rfl, ?y6x6⟩) hd ?_
    case y6x6 => (intro w hSw; (try dsimp only at hSw); go_simp; try with_reducible rfl)
    simp only [Act.put, List.setIfInBounds_toArray, List.set_cons_zero, List.set_cons_succ, List.getElem_toArray, List.getElem_cons_zero, List.getElem_cons_succ]
    refine wpAnyH_take (i := 7) (v := ?v7x7) rfl (by kernel_rfl) (by kernel_rfl) (by kernel_rfl) (fun _ _ _ h => h) (Or.inl ⟨by rfl, ?y7x7⟩) hd ?_
    case y7x7 => (intro w hSw; (try dsimp only at hSw); go_simp; try with_reducible rfl)
    simp only [Act.put, List.setIfInBounds_toArray, List.set_cons_zero, List.set_cons_succ, List.getElem_toArray, List.getElem_cons_zero, List.getElem_cons_succ]
    refine wpAnyH_take (i := 8) (v := ?v8x8) rfl (by kernel_rfl) (by kernel_rfl) (by kernel_rfl) (fun _ _ _ h => h) (Or.inl ⟨by rfl, ?y8x8⟩) hd ?_
    case y8x8 => (intro w hSw; (try dsimp only at hSw); go_simp; try with_reducible rfl)
    simp only [Act.put, List.setIfInBounds_toArray, List.set_cons_zero, List.set_cons_succ, List.getElem_toArray, List.getElem_cons_zero, List.getElem_cons_succ]
    refine wpAnyH_take (i := 9) (v := ?v9x9) rfl (by kernel_rfl) (by kernel_rfl) (by kernel_rfl) (fun _ _ _ h => h) (Or.inl ⟨by rfl, ?y9x9⟩) hd ?_
    case y9x9 => (intro w hSw; (try dsimp only at hSw); go_simp; try with_reducible rfl)
    simp only [Act.put, List.setIfInBounds_toArray, List.set_cons_zero, List.set_cons_succ, List.getElem_toArray, List.getElem_cons_zero, List.getElem_cons_succ]
    refine wpAnyH_take (i := 10) (v := ?v10x10) rfl (by kernel_rfl) (by kernel_rfl) (by kernel_rfl) (fun _ _ _ h => h) (Or.inl ⟨by rfl, ?y10x10⟩) hd ?_
    case y10x10 => (intro w hSw; (try dsimp only at hSw); go_simp; try with_reducible rfl)
    simp only [Act.put, List.setIfInBounds_toArray, List.set_cons_zero, List.set_cons_succ, List.getElem_toArray, List.getElem_cons_zero, List.getElem_cons_succ]
    refine wpAnyH_take (i := 11) (v := ?v11x11) rfl (by kernel_rfl) (by kernel_rfl) (by kernel_rfl) (fun _ _ _ h => h) (Or.inl ⟨by rfl, ?y11x11⟩) hd ?_
    case y11x11 => (intro w hSw; (try dsimp only at hSw); go_simp; try with_reducible rfl)
    simp only [Act.put, List.setIfInBounds_toArray, List.set_cons_zero, List.set_cons_succ, List.getElem_toArray, List.getElem_cons_zero, List.getElem_cons_succ]
    refine wpAnyH_take (i := 12) (v := ?v12x12) rfl (by kernel_rfl) (by kernel_rfl) (by kernel_rfl) (fun _ _ _ h => h) (Or.inl ⟨by rfl, ?y12x12⟩) hd ?_
    case y12x12 => (intro w hSw; (try dsimp only at hSw); go_simp; try with_reducible rfl)
    simp only [Act.put, List.setIfInBounds_toArray, List.set_cons_zero, List.set_cons_succ, List.getElem_toArray, List.getElem_cons_zero, List.getElem_cons_succ]
    refine wpAnyH_take (i := 13) (v := ?v13x13) rfl (by kernel_rfl) (by kernel_rfl) (by kernel_rfl) (fun _ _ _ h => h) (Or.inl ⟨by rfl, ?y13x13⟩) hd ?_
    case y13x13 => (intro w hSw; (try dsimp only at hSw); go_simp; try with_reducible rfl)
    simp only [Act.put, List.setIfInBounds_toArray, List.set_cons_zero, List.set_cons_succ, List.getElem_toArray, List.getElem_cons_zero, List.getElem_cons_succ]
    refine wpAnyH_take (i := 14) (v := ?v14x14) rfl (by kernel_rfl) (by kernel_rfl) (by kernel_rfl) (fun _ _ _ h => h) (Or.inl ⟨by rfl, ?y14x14⟩) hd ?_
    case y14x14 => (intro w hSw; (try dsimp only at hSw); go_simp; try with_reducible rfl)
    simp only [Act.put, List.setIfInBounds_toArray, List.set_cons_zero, List.set_cons_succ, List.getElem_toArray, List.getElem_cons_zero, List.getElem_cons_succ]
    refine wpAnyH_take (i := 15) (v := ?v15x15) rfl (by kernel_rfl) (by kernel_rfl) (by kernel_rfl) (fun _ _ _ h => h) (Or.inl ⟨by rfl, ?y15x15⟩) hd ?_
    case y15x15 => (intro w hSw; (try dsimp only at hSw); go_simp; try with_reducible rfl)
    simp only [Act.put, List.setIfInBounds_toArray, List.set_cons_zero, List.set_cons_succ, List.getElem_toArray, List.getElem_cons_zero, List.getElem_cons_succ]
    refine wpAnyH_take (i := 16) (v := ?v16x16) rfl (by kernel_rfl) (by kernel_rfl) (by kernel_rfl) (fun _ _ _ h => h) (Or.inl ⟨by rfl, ?y16x16⟩) hd ?_
    case y16x16 => (intro w hSw; (try dsimp only at hSw); go_simp; try with_reducible rfl)
    simp only [Act.put, List.setIfInBounds_toArray, List.set_cons_zero, List.set_cons_succ, List.getElem_toArray, List.getElem_cons_zero, List.getElem_cons_succ]
    refine wpAnyH_take (i := 17) (v := ?v17x17) rfl (by kernel_rfl) (by kernel_rfl) (by kernel_rfl) (fun _ _ _ h => h) (Or.inl ⟨by rfl, ?y17x17⟩) hd ?_
    case y17x17 => (intro w hSw; (try dsimp only at hSw); go_simp; try with_reducible rfl)
    simp only [Act.put, List.setIfInBounds_toArray, List.set_cons_zero, List.set_cons_succ, List.getElem_toArray, List.getElem_cons_zero, List.getElem_cons_succ]
    refine wpAnyH_take (i := 18) (v := ?v18x18) rfl (by kernel_rfl) (by kernel_rfl) (by kernel_rfl) (fun _ _ _ h => h) (Or.inl ⟨by rfl, ?y18x18⟩) hd ?_
    case y18x18 => (intro w hSw; (try dsimp only at hSw); go_simp; try with_reducible rfl)
    simp only [Act.put, List.setIfInBounds_toArray, List.set_cons_zero, List.set_cons_succ, List.getElem_toArray, List.getElem_cons_zero, List.getElem_cons_succ]
    refine wpAnyH_take (i := 19) (v := ?v19x19) rfl (by kernel_rfl) (by kernel_rfl) (by kernel_rfl) (fun _ _ _ h => h) (Or.inl ⟨by rfl, ?y19x19⟩) hd ?_
    case y19x19 => (intro w hSw; (try dsimp only at hSw); go_simp; try with_reducible rfl)
    simp only [Act.put, List.setIfInBounds_toArray, List.set_cons_zero, List.set_cons_succ, List.getElem_toArray, List.getElem_cons_zero, List.getElem_cons_succ]
    refine wpAnyH_take (i := 20) (v := ?v20x20) rfl (by kernel_rfl) (by kernel_rfl) (by kernel_rfl) (fun _ _ _ h => h) (Or.inl ⟨by rfl, ?y20x20⟩) hd ?_
    case y20x20 => (intro w hSw; (try dsimp only at hSw); go_simp; try with_reducible rfl)
    simp only [Act.put, List.setIfInBounds_toArray, List.set_cons_zero, List.set_cons_succ, List.getElem_toArray, List.getElem_cons_zero, List.getElem_cons_succ]
    refine wpAnyH_ready (rs := [1, 21]) (by kernel_rfl) (by simp) ?_
    refine AllReadyH.cons rfl (fun K hK => ?_) (AllReadyH.cons rfl (fun K hK => ?_) AllReadyH.nil)
    · go_simp
      refine hK.out _ _ hd (fun _ => ?_)
      clear hK K
      try simp only [Act.put, List.setIfInBounds_toArray, List.set_cons_zero, List.set_cons_succ, List.getElem_toArray, List.getElem_cons_zero, List.getElem_cons_succ]
      refine wpAnyH_ready (rs := [21]) (by kernel_rfl) (by simp) ?_
      refine AllReadyH.cons rfl (fun K hK => ?_) AllReadyH.nil
      go_simp
      refine hK.out _ _ (HC.out _ (up1 b7d _)) (fun _ => ?_)
      clear hK K
      try simp only [Act.put, List.setIfInBounds_toArray, List.set_cons_zero, List.set_cons_succ, List.getElem_toArray, List.getElem_cons_zero, List.getElem_cons_succ]
      refine wpAnyH_ready (rs := [22]) (by kernel_rfl) (by simp) ?_
      refine AllReadyH.cons rfl (fun K hK => ?_) AllReadyH.nil
      refine Own1.step HOD.out ((v0 : Int), (b : Int), (c' : Int)) (by omega) rfl (.tmp 46) (.tmp 66) rfl (by go_simp) (by go_simp) ?_
      intro A9 c9 w9 gr9 own9
      have P9 := Lib.hid (Own1.put (HOD.out.up ((Below.refl _ _).alloc (Nat.le_refl _) _)) gr9 own9)
      have BA := Lib.hid (B7.out.2.trans ((Below.refl _ w7.drew).alloc HOD.out.sz (triC ((v0 : Int), (b : Int), (c' : Int)))))
      have hc9 := P9.out.1
      have hf9 := P9.out.2.1
      have hs9 := HC.out w9 (BA.out.trans P9.out.2.2.2.2)
      have hsf := HC.out _ (BA.out.trans P9.out.2.2.2.1)
      clear gr9 own9
      refine hK.out _ _ hs9 (fun _ => ?_)
      clear hK K
      try simp only [Act.put, List.setIfInBounds_toArray, List.set_cons_zero, List.set_cons_succ, List.getElem_toArray, List.getElem_cons_zero, List.getElem_cons_succ]
      refine wpAnyH_take (i := 23) (v := ?v23x21) rfl (by kernel_rfl) (by kernel_rfl) (by kernel_rfl) (fun _ _ _ h => h) (Or.inl ⟨by rfl, ?y23x21⟩) hs9 ?_
      case y23x21 => (intro w hSw; (try dsimp only at hSw); go_simp; try with_reducible rfl)
      simp only [Act.put, List.setIfInBounds_toArray, List.set_cons_zero, List.set_cons_succ, List.getElem_toArray, List.getElem_cons_zero, List.getElem_cons_succ]
      refine wpAnyH_ready (rs := [24]) (by kernel_rfl) (by simp) ?_
      refine AllReadyH.cons rfl (fun K hK => ?_) AllReadyH.nil
      go_simp
      refine hK.out _ _ hsf (fun _ => ?_)
      clear hK K
      try simp only [Act.put, List.setIfInBounds_toArray, List.set_cons_zero, List.set_cons_succ, List.getElem_toArray, List.getElem_cons_zero, List.getElem_cons_succ]
      refine wpAnyH_done (by kernel_rfl) ?_ _
      refine NoPanic.normal ?_
      obtain ⟨w10, hw10⟩ : ∃ w', w9.setCell ⟨gx, 1, none⟩ (.slice A9 (l.length + 1) c9) = w' := ⟨_, rfl⟩
      have P10 : Own1 wr.heap.size w10 gx N (.slice A9 (l.length + 1) c9) (l ++ [((v0 : Int), (b : Int), (c' : Int))]) ∧ Below wr.heap.size wr w10 := by
        rw [← hw10]; exact ⟨P9.out.2.2.1, BA.out.trans P9.out.2.2.2.1⟩
      have H10 := Lib.hid P10
      simp only [hw10]
      clear P10 hw10 hc9 hf9 hs9 hsf hcd hc1 hd hcu1 hcu2 hcu3
      have HG := Lib.hid (fun W (b9 : Below w10.heap.size w10 W) => (show (W.cell? ⟨g0, 0, none⟩ = some (.int .i64 N) ∧ W.cell? ⟨g0, 1, none⟩ = some (.slice A l.length c)) ∧ (W.cell? (ad.add k) = some (.slice (some ai) 3 ci) ∧ W.cell? ai = some (.int .i64 (v0 : Int)) ∧ W.cell? ⟨ai.block, ai.off + 1, none⟩ = some (.int .i64 (b : Int)) ∧ W.cell? ⟨ai.block, ai.off + 2, none⟩ = some (.int .i64 (c' : Int))) from
        ⟨HS.out W (up2 HB.out (up2 H10.out.2 b9)), HC.out W (up2 H10.out.2 b9)⟩))
      have be : Below w10.heap.size w10 w10.drew := Reading.below ⟨1, rfl⟩
      have hg := HG.out w10.drew be
      by_cases hon : OnL l (v0 : Int) (b : Int) (c' : Int)
      · have KO := Lib.hid (fun W (b9 : Below w10.heap.size w10 W) => r12on_any W N A l.length c l (HL.out.below (up2 B3.out.1 (up2 H5.out.1 (up2 HB.out (up2 H10.out.2 b9))))) (by omega) (v0 : Int) (b : Int) (c' : Int) true ⟨fun _ => hon, fun _ => rfl⟩)
        clear hon
        go_wp2_with fail
        refine wp_region_noPanic ?_
        refine wp_region_held_drew (S := fun w' => (w'.cell? ⟨g0, 0, none⟩ = some (.int .i64 N) ∧ w'.cell? ⟨g0, 1, none⟩ = some (.slice A l.length c)) ∧ (w'.cell? (ad.add k) = some (.slice (some ai) 3 ci) ∧ w'.cell? ai = some (.int .i64 (v0 : Int)) ∧ w'.cell? ⟨ai.block, ai.off + 1, none⟩ = some (.int .i64 (b : Int)) ∧ w'.cell? ⟨ai.block, ai.off + 2, none⟩ = some (.int .i64 (c' : Int)))) (by kernel_rfl) hg (fun _ => ?_)
        refine wpAnyH_take (i := 0) (v := ?v0z1) rfl (by kernel_rfl) (by kernel_rfl) (by kernel_rfl) (fun _ _ _ h => h) (Or.inl ⟨by rfl, ?y0z1⟩) hg ?_
        case y0z1 => (intro w hSw; (try dsimp only at hSw); go_simp; try with_reducible rfl)
        simp only [Act.put, List.setIfInBounds_toArray, List.set_cons_zero, List.set_cons_succ, List.getElem_toArray, List.getElem_cons_zero]
        refine wpAnyH_take (i := 1) (v := ?v1z2) rfl (by kernel_rfl) (by kernel_rfl) (by kernel_rfl) (fun _ _ _ h => h) (Or.inl ⟨by rfl, ?y1z2⟩) hg ?_
        case y1z2 => (intro w hSw; (try dsimp only at hSw); go_simp; try with_reducible rfl)
        simp only [Act.put, List.setIfInBounds_toArray, List.set_cons_zero, List.set_cons_succ, List.getElem_toArray, List.getElem_cons_zero, List.getElem_cons_succ]
        refine wpAnyH_take (i := 2) (v := ?v2z3) rfl (by kernel_rfl) (by kernel_rfl) (by kernel_rfl) (fun _ _ _ h => h) (Or.inl ⟨by rfl, ?y2z3⟩) hg ?_
        case y2z3 => (intro w hSw; (try dsimp only at hSw); go_simp; try with_reducible rfl)
        simp only [Act.put, List.setIfInBounds_toArray, List.set_cons_zero, List.set_cons_succ, List.getElem_toArray, List.getElem_cons_zero, List.getElem_cons_succ]
        refine wpAnyH_take (i := 3) (v := ?v3z4) rfl (by kernel_rfl) (by kernel_rfl) (by kernel_rfl) (fun _ _ _ h => h) (Or.inl ⟨by rfl, ?y3z4⟩) hg ?_
        case y3z4 => (intro w hSw; (try dsimp only at hSw); go_simp; try with_reducible rfl)
        simp only [Act.put, List.setIfInBounds_toArray, List.set_cons_zero, List.set_cons_succ, List.getElem_toArray, List.getElem_cons_zero, List.getElem_cons_succ]
        refine wpAnyH_take (i := 4) (v := ?v4z5) rfl (by kernel_rfl) (by kernel_rfl) (by kernel_rfl) (fun _ _ _ h => h) (Or.inl ⟨by rfl, ?y4z5⟩) hg ?_
        case y4z5 => (intro w hSw; (try dsimp only at hSw); go_simp; try with_reducible rfl)
        simp only [Act.put, List.setIfInBounds_toArray, List.set_cons_zero, List.set_cons_succ, List.getElem_toArray, List.getElem_cons_zero, List.getElem_cons_succ]
        refine wpAnyH_take (i := 5) (v := ?v5z6) rfl (by kernel_rfl) (by kernel_rfl) (by kernel_rfl) (fun _ _ _ h => h) (Or.inl ⟨by rfl, ?y5z6⟩) hg ?_
        case y5z6 => (intro w hSw; (try dsimp only at hSw); go_simp; try with_reducible rfl)
        simp only [Act.put, List.setIfInBounds_toArray, List.set_cons_zero, List.set_cons_succ, List.getElem_toArray, List.getElem_cons_zero, List.getElem_cons_succ]
        refine wpAnyH_take (i := 6) (v := ?v6z7) rfl (by kernel_rfl) (by kernel_rfl) (by kernel_rfl) (fun _ _ _ h => h) (Or.inl ⟨by rfl, ?y6z7⟩) hg ?_
        case y6z7 => (intro w hSw; (try dsimp only at hSw); go_simp; try with_reducible rfl)
        simp only [Act.put, List.setIfInBounds_toArray, List.set_cons_zero, List.set_cons_succ, List.getElem_toArray, List.getElem_cons_zero, List.getElem_cons_succ]
        refine wpAnyH_take (i := 7) (v := ?v7z8) rfl (by kernel_rfl) (by kernel_rfl) (by kernel_rfl) (fun _ _ _ h => h) (Or.inl ⟨by rfl, ?y7z8⟩) hg ?_
        case y7z8 => (intro w hSw; (try dsimp only at hSw); go_simp; try with_reducible rfl)
        simp only [Act.put, List.setIfInBounds_toArray, List.set_cons_zero, List.set_cons_succ, List.getElem_toArray, List.getElem_cons_zero, List.getElem_cons_succ]
        refine wpAnyH_take (i := 8) (v := ?v8z9) rfl (by kernel_rfl) (by kernel_rfl) (by kernel_rfl) (fun _ _ _ h => h) (Or.inl ⟨by rfl, ?y8z9⟩) hg ?_
        case y8z9 => (intro w hSw; (try dsimp only at hSw); go_simp; try with_reducible rfl)
        simp only [Act.put, List.setIfInBounds_toArray, List.set_cons_zero, List.set_cons_succ, List.getElem_toArray, List.getElem_cons_zero, List.getElem_cons_succ]
        refine wpAnyH_take (i := 9) (v := ?v9z10) rfl (by kernel_rfl) (by kernel_rfl) (by kernel_rfl) (fun _ _ _ h => h) (Or.inl ⟨by rfl, ?y9z10⟩) hg ?_
        case y9z10 => (intro w hSw; (try dsimp only at hSw); go_simp; try with_reducible rfl)
        simp only [Act.put, List.setIfInBounds_toArray, List.set_cons_zero, List.set_cons_succ, List.getElem_toArray, List.getElem_cons_zero, List.getElem_cons_succ]
        refine wpAnyH_take (i := 10) (v := ?v10z11) rfl (by kernel_rfl) (by kernel_rfl) (by kernel_rfl) (fun _ _ _ h => h) (Or.inl ⟨by rfl, ?y10z11⟩) hg ?_
        case y10z11 => (intro w hSw; (try dsimp only at hSw); go_simp; try with_reducible rfl)
        simp only [Act.put, List.setIfInBounds_toArray, List.set_cons_zero, List.set_cons_succ, List.getElem_toArray, List.getElem_cons_zero, List.getElem_cons_succ]
        refine wpAnyH_take (i := 11) (v := ?v11z12) rfl (by kernel_rfl) (by kernel_rfl) (by kernel_rfl) (fun _ _ _ h => h) (Or.inl ⟨by rfl, ?y11z12⟩) hg ?_
        case y11z12 => (intro w hSw; (try dsimp only at hSw); go_simp; try with_reducible rfl)
        simp only [Act.put, List.setIfInBounds_toArray, List.set_cons_zero, List.set_cons_succ, List.getElem_toArray, List.getElem_cons_zero, List.getElem_cons_succ]
        refine wpAnyH_take (i := 12) (v := ?v12z13) rfl (by kernel_rfl) (by kernel_rfl) (by kernel_rfl) (fun _ _ _ h => h) (Or.inl ⟨by rfl, ?y12z13⟩) hg ?_
        case y12z13 => (intro w hSw; (try dsimp only at hSw); go_simp; try with_reducible rfl)
        simp only [Act.put, List.setIfInBounds_toArray, List.set_cons_zero, List.set_cons_succ, List.getElem_toArray, List.getElem_cons_zero, List.getElem_cons_succ]
        refine wpAnyH_take (i := 13) (v := ?v13z14) rfl (by kernel_rfl) (by kernel_rfl) (by kernel_rfl) (fun _ _ _ h => h) (Or.inl ⟨by rfl, ?y13z14⟩) hg ?_
        case y13z14 => (intro w hSw; (try dsimp only at hSw); go_simp; try with_reducible rfl)
        simp only [Act.put, List.setIfInBounds_toArray, List.set_cons_zero, List.set_cons_succ, List.getElem_toArray, List.getElem_cons_zero, List.getElem_cons_succ]
        refine wpAnyH_take (i := 14) (v := ?v14z15) rfl (by kernel_rfl) (by kernel_rfl) (by kernel_rfl) (fun _ _ _ h => h) (Or.inl ⟨by rfl, ?y14z15⟩) hg ?_
        case y14z15 => (intro w hSw; (try dsimp only at hSw); go_simp; try with_reducible rfl)
        simp only [Act.put, List.setIfInBounds_toArray, List.set_cons_zero, List.set_cons_succ, List.getElem_toArray, List.getElem_cons_zero, List.getElem_cons_succ]
        refine wpAnyH_take (i := 15) (v := ?v15z16) rfl (by kernel_rfl) (by kernel_rfl) (by kernel_rfl) (fun _ _ _ h => h) (Or.inl ⟨by rfl, ?y15z16⟩) hg ?_
        case y15z16 => (intro w hSw; (try dsimp only at hSw); go_simp; try with_reducible rfl)
        simp only [Act.put, List.setIfInBounds_toArray, List.set_cons_zero, List.set_cons_succ, List.getElem_toArray, List.getElem_cons_zero, List.getElem_cons_succ]
        refine wpAnyH_take (i := 16) (v := ?v16z17) rfl (by kernel_rfl) (by kernel_rfl) (by kernel_rfl) (fun _ _ _ h => h) (Or.inl ⟨by rfl, ?y16z17⟩) hg ?_
        case y16z17 => (intro w hSw; (try dsimp only at hSw); go_simp; try with_reducible rfl)
        simp only [Act.put, List.setIfInBounds_toArray, List.set_cons_zero, List.set_cons_succ, List.getElem_toArray, List.getElem_cons_zero, List.getElem_cons_succ]
        refine wpAnyH_take (i := 17) (v := ?v17z18) rfl (by kernel_rfl) (by kernel_rfl) (by kernel_rfl) (fun _ _ _ h => h) (Or.inl ⟨by rfl, ?y17z18⟩) hg ?_
        case y17z18 => (intro w hSw; (try dsimp only at hSw); go_simp; try with_reducible rfl)
        simp only [Act.put, List.setIfInBounds_toArray, List.set_cons_zero, List.set_cons_succ, List.getElem_toArray, List.getElem_cons_zero, List.getElem_cons_succ]
        refine wpAnyH_take (i := 18) (v := ?v18z19) rfl (by kernel_rfl) (by kernel_rfl) (by kernel_rfl) (fun _ _ _ h => h) (Or.inl ⟨by rfl, ?y18z19⟩) hg ?_
        case y18z19 => (intro w hSw; (try dsimp only at hSw); go_simp; try with_reducible rfl)
        simp only [Act.put, List.setIfInBounds_toArray, List.set_cons_zero, List.set_cons_succ, List.getElem_toArray, List.getElem_cons_zero, List.getElem_cons_succ]
        refine wpAnyH_ready (rs := [19]) (by kernel_rfl) (by simp) ?_
        refine AllReadyH.cons rfl (fun K hK => ?_) AllReadyH.nil
        rw [if_pos (by rfl)]
        go_wp2_with fail
        refine (KO.out _ be).mono ?_
        rintro e vv1 ⟨rfl, b9⟩
        have dd1 := up2 be b9
        clear b9
        go_wp2_with fail
        refine hK.out _ _ (HG.out _ dd1) (fun _ => ?_)
        clear hK K
        try simp only [Act.put, List.setIfInBounds_toArray, List.set_cons_zero, List.set_cons_succ, List.getElem_toArray, List.getElem_cons_zero, List.getElem_cons_succ]
        refine wpAnyH_done (by kernel_rfl) ?_ _
        refine NoPanic.normal ?_
        go_wp2_with fail
        exact ⟨⟨up2 HB.out (up2 H10.out.2 dd1), k + 1, HK.out.2, by go_num⟩, by have := HK.out.2; simp [intOf]; omega⟩
      · have KO := Lib.hid (fun W (b9 : Below w10.heap.size w10 W) => r12on_any W N A l.length c l (HL.out.below (up2 B3.out.1 (up2 H5.out.1 (up2 HB.out (up2 H10.out.2 b9))))) (by omega) (v0 : Int) (b : Int) (c' : Int) false ⟨fun h => (by cases h), fun h => absurd h hon⟩)
        obtain ⟨h1, h2, h3⟩ := loop3 SF.out HLP.out.1
        have hsx := surf_close SF.out h1 h2 h3 (fun t ht hh => hon ⟨t, ht, hh⟩) (by omega)
        obtain ⟨MM, hMM⟩ := loops_exists N (l ++ [((v0 : Int), (b : Int), (c' : Int))])
        have hml := loops_close SF.out HLL.out HLP.out.2.1 HLP.out.2.2 hsx hMM
        have hel := bEdges_close SF.out HLP.out.1 hsx
        rw [← HN5.out] at hml
        have HSX := Lib.hid (And.intro hsx hMM)
        obtain ⟨e0', he0⟩ : ∃ e, (bE l).length = e := ⟨_, rfl⟩
        obtain ⟨e1', he1⟩ : ∃ e, (bE (l ++ [((v0 : Int), (b : Int), (c' : Int))])).length = e := ⟨_, rfl⟩
        have hee : e1' + 3 = e0' := by rw [← he0, ← he1]; unfold bE; rw [List.length_map, List.length_map]; exact hel
        have heb : e0' ≤ 120 := by
          rw [← he0]
          have : (bE l).length = (bUp l (3 * l.length)).length := rfl
          have := bUp_le l (3 * l.length)
          omega
        obtain ⟨mm, hmm⟩ : ∃ m, MM.length = m := ⟨_, rfl⟩
        rw [hmm] at hml
        have s1 : IntKind.i64.wrap ((n5 : Int) - 1) = (mm : Int) := by rw [IntWalk.i64_in _ (by omega)]; omega
        have s2 : IntKind.i64.wrap ((e0' : Int) - 3) = (e1' : Int) := by rw [IntWalk.i64_in _ (by omega)]; omega
        have n1 : ((mm : Int) != (mm : Int)) = false := by simp
        have n2 : ((e1' : Int) != (e1' : Int)) = false := by simp
        have HE := Lib.hid (And.intro he0 (And.intro he1 hmm))
        clear hon h1 h2 h3 hsx hMM hml hel he0 he1 hee heb hmm
        go_wp2_with fail
        refine wp_region_noPanic ?_
        refine wp_region_held_drew (S := fun w' => (w'.cell? ⟨g0, 0, none⟩ = some (.int .i64 N) ∧ w'.cell? ⟨g0, 1, none⟩ = some (.slice A l.length c)) ∧ (w'.cell? (ad.add k) = some (.slice (some ai) 3 ci) ∧ w'.cell? ai = some (.int .i64 (v0 : Int)) ∧ w'.cell? ⟨ai.block, ai.off + 1, none⟩ = some (.int .i64 (b : Int)) ∧ w'.cell? ⟨ai.block, ai.off + 2, none⟩ = some (.int .i64 (c' : Int)))) (by kernel_rfl) hg (fun _ => ?_)
        refine wpAnyH_take (i := 0) (v := ?v0z20) rfl (by kernel_rfl) (by kernel_rfl) (by kernel_rfl) (fun _ _ _ h => h) (Or.inl ⟨by rfl, ?y0z20⟩) hg ?_
        case y0z20 => (intro w hSw; (try dsimp only at hSw); go_simp; try with_reducible rfl)
        simp only [Act.put, List.setIfInBounds_toArray, List.set_cons_zero, List.set_cons_succ, List.getElem_toArray, List.getElem_cons_zero]
        refine wpAnyH_take (i := 1) (v := ?v1z21) rfl (by kernel_rfl) (by kernel_rfl) (by kernel_rfl) (fun _ _ _ h => h) (Or.inl ⟨by rfl, ?y1z21⟩) hg ?_
        case y1z21 => (intro w hSw; (try dsimp only at hSw); go_simp; try with_reducible rfl)
        simp only [Act.put, List.setIfInBounds_toArray, List.set_cons_zero, List.set_cons_succ, List.getElem_toArray, List.getElem_cons_zero, List.getElem_cons_succ]
        refine wpAnyH_take (i := 2) (v := ?v2z22) rfl (by kernel_rfl) (by kernel_rfl) (by kernel_rfl) (fun _ _ _ h => h) (Or.inl ⟨by rfl, ?y2z22⟩) hg ?_
        case y2z22 => (intro w hSw; (try dsimp only at hSw); go_simp; try with_reducible rfl)
        simp only [Act.put, List.setIfInBounds_toArray, List.set_cons_zero, List.set_cons_succ, List.getElem_toArray, List.getElem_cons_zero, List.getElem_cons_succ]
        refine wpAnyH_take (i := 3) (v := ?v3z23) rfl (by kernel_rfl) (by kernel_rfl) (by kernel_rfl) (fun _ _ _ h => h) (Or.inl ⟨by rfl, ?y3z23⟩) hg ?_
        case y3z23 => (intro w hSw; (try dsimp only at hSw); go_simp; try with_reducible rfl)
        simp only [Act.put, List.setIfInBounds_toArray, List.set_cons_zero, List.set_cons_succ, List.getElem_toArray, List.getElem_cons_zero, List.getElem_cons_succ]
        refine wpAnyH_take (i := 4) (v := ?v4z24) rfl (by kernel_rfl) (by kernel_rfl) (by kernel_rfl) (fun _ _ _ h => h) (Or.inl ⟨by rfl, ?y4z24⟩) hg ?_
        case y4z24 => (intro w hSw; (try dsimp only at hSw); go_simp; try with_reducible rfl)
        simp only [Act.put, List.setIfInBounds_toArray, List.set_cons_zero, List.set_cons_succ, List.getElem_toArray, List.getElem_cons_zero, List.getElem_cons_succ]
        refine wpAnyH_take (i := 5) (v := ?v5z25) rfl (by kernel_rfl) (by kernel_rfl) (by kernel_rfl) (fun _ _ _ h => h) (Or.inl ⟨by rfl, ?y5z25⟩) hg ?_
        case y5z25 => (intro w hSw; (try dsimp only at hSw); go_simp; try with_reducible rfl)
        simp only [Act.put, List.setIfInBounds_toArray, List.set_cons_zero, List.set_cons_succ, List.getElem_toArray, List.getElem_cons_zero, List.getElem_cons_succ]
        refine wpAnyH_take (i := 6) (v := ?v6z26) rfl (by kernel_rfl) (by kernel_rfl) (by kernel_rfl) (fun _ _ _ h => h) (Or.inl ⟨by rfl, ?y6z26⟩) hg ?_
        case y6z26 => (intro w hSw; (try dsimp only at hSw); go_simp; try with_reducible rfl)
        simp only [Act.put, List.setIfInBounds_toArray, List.set_cons_zero, List.set_cons_succ, List.getElem_toArray, List.getElem_cons_zero, List.getElem_cons_succ]
        refine wpAnyH_take (i := 7) (v := ?v7z27) rfl (by kernel_rfl) (by kernel_rfl) (by kernel_rfl) (fun _ _ _ h => h) (Or.inl ⟨by rfl, ?y7z27⟩) hg ?_
        case y7z27 => (intro w hSw; (try dsimp only at hSw); go_simp; try with_reducible rfl)
        simp only [Act.put, List.setIfInBounds_toArray, List.set_cons_zero, List.set_cons_succ, List.getElem_toArray, List.getElem_cons_zero, List.getElem_cons_succ]
        refine wpAnyH_take (i := 8) (v := ?v8z28) rfl (by kernel_rfl) (by kernel_rfl) (by kernel_rfl) (fun _ _ _ h => h) (Or.inl ⟨by rfl, ?y8z28⟩) hg ?_
        case y8z28 => (intro w hSw; (try dsimp only at hSw); go_simp; try with_reducible rfl)
        simp only [Act.put, List.setIfInBounds_toArray, List.set_cons_zero, List.set_cons_succ, List.getElem_toArray, List.getElem_cons_zero, List.getElem_cons_succ]
        refine wpAnyH_take (i := 9) (v := ?v9z29) rfl (by kernel_rfl) (by kernel_rfl) (by kernel_rfl) (fun _ _ _ h => h) (Or.inl ⟨by rfl, ?y9z29⟩) hg ?_
        case y9z29 => (intro w hSw; (try dsimp only at hSw); go_simp; try with_reducible rfl)
        simp only [Act.put, List.setIfInBounds_toArray, List.set_cons_zero, List.set_cons_succ, List.getElem_toArray, List.getElem_cons_zero, List.getElem_cons_succ]
        refine wpAnyH_take (i := 10) (v := ?v10z30) rfl (by kernel_rfl) (by kernel_rfl) (by kernel_rfl) (fun _ _ _ h => h) (Or.inl ⟨by rfl, ?y10z30⟩) hg ?_
        case y10z30 => (intro w hSw; (try dsimp only at hSw); go_simp; try with_reducible rfl)
        simp only [Act.put, List.setIfInBounds_toArray, List.set_cons_zero, List.set_cons_succ, List.getElem_toArray, List.getElem_cons_zero, List.getElem_cons_succ]
        refine wpAnyH_take (i := 11) (v := ?v11z31) rfl (by kernel_rfl) (by kernel_rfl) (by kernel_rfl) (fun _ _ _ h => h) (Or.inl ⟨by rfl, ?y11z31⟩) hg ?_
        case y11z31 => (intro w hSw; (try dsimp only at hSw); go_simp; try with_reducible rfl)
        simp only [Act.put, List.setIfInBounds_toArray, List.set_cons_zero, List.set_cons_succ, List.getElem_toArray, List.getElem_cons_zero, List.getElem_cons_succ]
        refine wpAnyH_take (i := 12) (v := ?v12z32) rfl (by kernel_rfl) (by kernel_rfl) (by kernel_rfl) (fun _ _ _ h => h) (Or.inl ⟨by rfl, ?y12z32⟩) hg ?_
        case y12z32 => (intro w hSw; (try dsimp only at hSw); go_simp; try with_reducible rfl)
        simp only [Act.put, List.setIfInBounds_toArray, List.set_cons_zero, List.set_cons_succ, List.getElem_toArray, List.getElem_cons_zero, List.getElem_cons_succ]
        refine wpAnyH_take (i := 13) (v := ?v13z33) rfl (by kernel_rfl) (by kernel_rfl) (by kernel_rfl) (fun _ _ _ h => h) (Or.inl ⟨by rfl, ?y13z33⟩) hg ?_
        case y13z33 => (intro w hSw; (try dsimp only at hSw); go_simp; try with_reducible rfl)
        simp only [Act.put, List.setIfInBounds_toArray, List.set_cons_zero, List.set_cons_succ, List.getElem_toArray, List.getElem_cons_zero, List.getElem_cons_succ]
        refine wpAnyH_take (i := 14) (v := ?v14z34) rfl (by kernel_rfl) (by kernel_rfl) (by kernel_rfl) (fun _ _ _ h => h) (Or.inl ⟨by rfl, ?y14z34⟩) hg ?_
        case y14z34 => (intro w hSw; (try dsimp only at hSw); go_simp; try with_reducible rfl)
        simp only [Act.put, List.setIfInBounds_toArray, List.set_cons_zero, List.set_cons_succ, List.getElem_toArray, List.getElem_cons_zero, List.getElem_cons_succ]
        refine wpAnyH_take (i := 15) (v := ?v15z35) rfl (by kernel_rfl) (by kernel_rfl) (by kernel_rfl) (fun _ _ _ h => h) (Or.inl ⟨by rfl, ?y15z35⟩) hg ?_
        case y15z35 => (intro w hSw; (try dsimp only at hSw); go_simp; try with_reducible rfl)
        simp only [Act.put, List.setIfInBounds_toArray, List.set_cons_zero, List.set_cons_succ, List.getElem_toArray, List.getElem_cons_zero, List.getElem_cons_succ]
        refine wpAnyH_take (i := 16) (v := ?v16z36) rfl (by kernel_rfl) (by kernel_rfl) (by kernel_rfl) (fun _ _ _ h => h) (Or.inl ⟨by rfl, ?y16z36⟩) hg ?_
        case y16z36 => (intro w hSw; (try dsimp only at hSw); go_simp; try with_reducible rfl)
        simp only [Act.put, List.setIfInBounds_toArray, List.set_cons_zero, List.set_cons_succ, List.getElem_toArray, List.getElem_cons_zero, List.getElem_cons_succ]
        refine wpAnyH_take (i := 17) (v := ?v17z37) rfl (by kernel_rfl) (by kernel_rfl) (by kernel_rfl) (fun _ _ _ h => h) (Or.inl ⟨by rfl, ?y17z37⟩) hg ?_
        case y17z37 => (intro w hSw; (try dsimp only at hSw); go_simp; try with_reducible rfl)
        simp only [Act.put, List.setIfInBounds_toArray, List.set_cons_zero, List.set_cons_succ, List.getElem_toArray, List.getElem_cons_zero, List.getElem_cons_succ]
        refine wpAnyH_take (i := 18) (v := ?v18z38) rfl (by kernel_rfl) (by kernel_rfl) (by kernel_rfl) (fun _ _ _ h => h) (Or.inl ⟨by rfl, ?y18z38⟩) hg ?_
        case y18z38 => (intro w hSw; (try dsimp only at hSw); go_simp; try with_reducible rfl)
        simp only [Act.put, List.setIfInBounds_toArray, List.set_cons_zero, List.set_cons_succ, List.getElem_toArray, List.getElem_cons_zero, List.getElem_cons_succ]
        refine wpAnyH_ready (rs := [19]) (by kernel_rfl) (by simp) ?_
        refine AllReadyH.cons rfl (fun K hK => ?_) AllReadyH.nil
        rw [if_pos (by rfl)]
        go_wp2_with fail
        refine (KO.out _ be).mono ?_
        rintro e vv1 ⟨rfl, b9⟩
        have dd1 := up2 be b9
        clear b9
        go_wp2_with fail
        refine hK.out _ _ (HG.out _ dd1) (fun _ => ?_)
        clear hK K
        try simp only [Act.put, List.setIfInBounds_toArray, List.set_cons_zero, List.set_cons_succ, List.getElem_toArray, List.getElem_cons_zero, List.getElem_cons_succ]
        refine wpAnyH_done (by kernel_rfl) ?_ _
        refine NoPanic.normal ?_
        obtain ⟨w13, hw13⟩ : ∃ w', vv1 = w' := ⟨_, rfl⟩
        rw [hw13] at dd1
        have O13 := Lib.hid (H10.out.1.up dd1)
        have B13 := Lib.hid (up2 H10.out.2 dd1)
        have y0 := O13.out.c0
        have y1 := O13.out.c1
        have own13 := O13.out.own
        rw [List.length_append] at own13
        have KT := Lib.hid (table12_any w13 N A9 (l.length + 1) c9 (l ++ [((v0 : Int), (b : Int), (c' : Int))]) (T3.of_own own13))
        simp only [hw13]
        clear dd1 hw13 own13
        go_wp2_with fail
        refine KT.out.mono ?_
        rintro e w14 ⟨b14, ⟨rfl, hno⟩ | ⟨_, gu, rfl, tabu⟩⟩
        · rcases hno with h | h
          · omega
          · exact absurd HSX.out.1 h
        have KM := Lib.hid (bdloops_any w14 _ gu N _ tabu MM HSX.out.2)
        have TU := Lib.hid tabu
        have B14 := Lib.hid (up2 B13.out b14)
        clear b14 tabu
        go_wp2_with fail
        refine KM.out.mono ?_
        rintro e w15 ⟨A15, n15, c15, rfl, r15, b15⟩
        obtain rfl : n15 = mm := by have := r15.1; rw [List.length_map, HE.out.2.2] at this; exact this.symm
        have KE1 := Lib.hid (bdedges_any w15 _ gu N _ (TU.out.below b15))
        have B15 := Lib.hid (up2 B14.out b15)
        clear b15 r15
        go_wp2_with fail
        refine KE1.out.mono ?_
        rintro e w16 ⟨A16, n16, c16, rfl, r16, b16⟩
        obtain rfl : n16 = e1' := by have := r16.1; rw [HE.out.2.1] at this; exact this.symm
        have B16 := Lib.hid (up2 B15.out b16)
        have KE2 := Lib.hid (bdedges_any w16 _ g N l (TAB.out.below (up2 H5.out.1 (up2 HB.out B16.out))))
        clear b16 r16
        go_wp2_with fail
        refine KE2.out.mono ?_
        rintro e w17 ⟨A17, n17, c17, rfl, r17, b17⟩
        obtain rfl : n17 = e0' := by have := r17.1; rw [HE.out.1] at this; exact this.symm
        have B17 := Lib.hid (up2 HB.out (up2 B16.out b17))
        clear b17 r17
        go_wp2_with fail
        exact ⟨⟨B17.out, k + 1, HK.out.2, by go_num⟩, by have := HK.out.2; simp [intOf]; omega⟩
    · go_simp
      refine hK.out _ _ (HC.out _ (up1 b7d _)) (fun _ => ?_)
      clear hK K
      try simp only [Act.put, List.setIfInBounds_toArray, List.set_cons_zero, List.set_cons_succ, List.getElem_toArray, List.getElem_cons_zero, List.getElem_cons_succ]
      refine wpAnyH_ready (rs := [1]) (by kernel_rfl) (by simp) ?_
      refine AllReadyH.cons rfl (fun K hK => ?_) AllReadyH.nil
      go_simp
      refine hK.out _ _ (HC.out _ (up1 b7d _)) (fun _ => ?_)
      clear hK K
      try simp only [Act.put, List.setIfInBounds_toArray, List.set_cons_zero, List.set_cons_succ, List.getElem_toArray, List.getElem_cons_zero, List.getElem_cons_succ]
      refine wpAnyH_ready (rs := [22]) (by kernel_rfl) (by simp) ?_
      refine AllReadyH.cons rfl (fun K hK => ?_) AllReadyH.nil
      refine Own1.step HOD.out ((v0 : Int), (b : Int), (c' : Int)) (by omega) rfl (.tmp 46) (.tmp 66) rfl (by go_simp) (by go_simp) ?_
      intro A9 c9 w9 gr9 own9
      have P9 := Lib.hid (Own1.put (HOD.out.up ((Below.refl _ _).alloc (Nat.le_refl _) _)) gr9 own9)
      have BA := Lib.hid (B7.out.2.trans ((Below.refl _ w7.drew).alloc HOD.out.sz (triC ((v0 : Int), (b : Int), (c' : Int)))))
      have hc9 := P9.out.1
      have hf9 := P9.out.2.1
      have hs9 := HC.out w9 (BA.out.trans P9.out.2.2.2.2)
      have hsf := HC.out _ (BA.out.trans P9.out.2.2.2.1)
      clear gr9 own9
      refine hK.out _ _ hs9 (fun _ => ?_)
      clear hK K
      try simp only [Act.put, List.setIfInBounds_toArray, List.set_cons_zero, List.set_cons_succ, List.getElem_toArray, List.getElem_cons_zero, List.getElem_cons_succ]
      refine wpAnyH_take (i := 23) (v := ?v23x21) rfl (by kernel_rfl) (by kernel_rfl) (by kernel_rfl) (fun _ _ _ h => h) (Or.inl ⟨by rfl, ?y23x21⟩) hs9 ?_
      case y23x21 => (intro w hSw; (try dsimp only at hSw); go_simp; try with_reducible rfl)
      simp only [Act.put, List.setIfInBounds_toArray, List.set_cons_zero, List.set_cons_succ, List.getElem_toArray, List.getElem_cons_zero, List.getElem_cons_succ]
      refine wpAnyH_ready (rs := [24]) (by kernel_rfl) (by simp) ?_
      refine AllReadyH.cons rfl (fun K hK => ?_) AllReadyH.nil
      go_simp
      refine hK.out _ _ hsf (fun _ => ?_)
      clear hK K
      try simp only [Act.put, List.setIfInBounds_toArray, List.set_cons_zero, List.set_cons_succ, List.getElem_toArray, List.getElem_cons_zero, List.getElem_cons_succ]
      refine wpAnyH_done (by kernel_rfl) ?_ _
      refine NoPanic.normal ?_
      obtain ⟨w10, hw10⟩ : ∃ w', w9.setCell ⟨gx, 1, none⟩ (.slice A9 (l.length + 1) c9) = w' := ⟨_, rfl⟩
      have P10 : Own1 wr.heap.size w10 gx N (.slice A9 (l.length + 1) c9) (l ++ [((v0 : Int), (b : Int), (c' : Int))]) ∧ Below wr.heap.size wr w10 := by
        rw [← hw10]; exact ⟨P9.out.2.2.1, BA.out.trans P9.out.2.2.2.1⟩
      have H10 := Lib.hid P10
      simp only [hw10]
      clear P10 hw10 hc9 hf9 hs9 hsf hcd hc1 hd hcu1 hcu2 hcu3
      have HG := Lib.hid (fun W (b9 : Below w10.heap.size w10 W) => (show (W.cell? ⟨g0, 0, none⟩ = some (.int .i64 N) ∧ W.cell? ⟨g0, 1, none⟩ = some (.slice A l.length c)) ∧ (W.cell? (ad.add k) = some (.slice (some ai) 3 ci) ∧ W.cell? ai = some (.int .i64 (v0 : Int)) ∧ W.cell? ⟨ai.block, ai.off + 1, none⟩ = some (.int .i64 (b : Int)) ∧ W.cell? ⟨ai.block, ai.off + 2, none⟩ = some (.int .i64 (c' : Int))) from
        ⟨HS.out W (up2 HB.out (up2 H10.out.2 b9)), HC.out W (up2 H10.out.2 b9)⟩))
      have be : Below w10.heap.size w10 w10.drew := Reading.below ⟨1, rfl⟩
      have hg := HG.out w10.drew be
      by_cases hon : OnL l (v0 : Int) (b : Int) (c' : Int)
      · have KO := Lib.hid (fun W (b9 : Below w10.heap.size w10 W) => r12on_any W N A l.length c l (HL.out.below (up2 B3.out.1 (up2 H5.out.1 (up2 HB.out (up2 H10.out.2 b9))))) (by omega) (v0 : Int) (b : Int) (c' : Int) true ⟨fun _ => hon, fun _ => rfl⟩)
        clear hon
        go_wp2_with fail
        refine wp_region_noPanic ?_
        refine wp_region_held_drew (S := fun w' => (w'.cell? ⟨g0, 0, none⟩ = some (.int .i64 N) ∧ w'.cell? ⟨g0, 1, none⟩ = some (.slice A l.length c)) ∧ (w'.cell? (ad.add k) = some (.slice (some ai) 3 ci) ∧ w'.cell? ai = some (.int .i64 (v0 : Int)) ∧ w'.cell? ⟨ai.block, ai.off + 1, none⟩ = some (.int .i64 (b : Int)) ∧ w'.cell? ⟨ai.block, ai.off + 2, none⟩ = some (.int .i64 (c' : Int)))) (by kernel_rfl) hg (fun _ => ?_)
        refine wpAnyH_take (i := 0) (v := ?v0z1) rfl (by kernel_rfl) (by kernel_rfl) (by kernel_rfl) (fun _ _ _ h => h) (Or.inl ⟨by rfl, ?y0z1⟩) hg ?_
        case y0z1 => (intro w hSw; (try dsimp only at hSw); go_simp; try with_reducible rfl)
        simp only [Act.put, List.setIfInBounds_toArray, List.set_cons_zero, List.set_cons_succ, List.getElem_toArray, List.getElem_cons_zero]
        refine wpAnyH_take (i := 1) (v := ?v1z2) rfl (by kernel_rfl) (by kernel_rfl) (by kernel_rfl) (fun _ _ _ h => h) (Or.inl ⟨by rfl, ?y1z2⟩) hg ?_
        case y1z2 => (intro w hSw; (try dsimp only at hSw); go_simp; try with_reducible rfl)
        simp only [Act.put, List.setIfInBounds_toArray, List.set_cons_zero, List.set_cons_succ, List.getElem_toArray, List.getElem_cons_zero, List.getElem_cons_succ]
        refine wpAnyH_take (i := 2) (v := ?v2z3) rfl (by kernel_rfl) (by kernel_rfl) (by kernel_rfl) (fun _ _ _ h => h) (Or.inl ⟨by rfl, ?y2z3⟩) hg ?_
        case y2z3 => (intro w hSw; (try dsimp only at hSw); go_simp; try with_reducible rfl)
        simp only [Act.put, List.setIfInBounds_toArray, List.set_cons_zero, List.set_cons_succ, List.getElem_toArray, List.getElem_cons_zero, List.getElem_cons_succ]
        refine wpAnyH_take (i := 3) (v := ?v3z4) rfl (by kernel_rfl) (by kernel_rfl) (by kernel_rfl) (fun _ _ _ h => h) (Or.inl ⟨by rfl, ?y3z4⟩) hg ?_
        case y3z4 => (intro w hSw; (try dsimp only at hSw); go_simp; try with_reducible rfl)
        simp only [Act.put, List.setIfInBounds_toArray, List.set_cons_zero, List.set_cons_succ, List.getElem_toArray, List.getElem_cons_zero, List.getElem_cons_succ]
        refine wpAnyH_take (i := 4) (v := ?v4z5) rfl (by kernel_rfl) (by kernel_rfl) (by kernel_rfl) (fun _ _ _ h => h) (Or.inl ⟨by rfl, ?y4z5⟩) hg ?_
        case y4z5 => (intro w hSw; (try dsimp only at hSw); go_simp; try with_reducible rfl)
        simp only [Act.put, List.setIfInBounds_toArray, List.set_cons_zero, List.set_cons_succ, List.getElem_toArray, List.getElem_cons_zero, List.getElem_cons_succ]
        refine wpAnyH_take (i := 5) (v := ?v5z6) rfl (by kernel_rfl) (by kernel_rfl) (by kernel_rfl) (fun _ _ _ h => h) (Or.inl ⟨by rfl, ?y5z6⟩) hg ?_
        case y5z6 => (intro w hSw; (try dsimp only at hSw); go_simp; try with_reducible rfl)
        simp only [Act.put, List.setIfInBounds_toArray, List.set_cons_zero, List.set_cons_succ, List.getElem_toArray, List.getElem_cons_zero, List.getElem_cons_succ]
        refine wpAnyH_take (i := 6) (v := ?v6z7) rfl (by kernel_rfl) (by kernel_rfl) (by kernel_rfl) (fun _ _ _ h => h) (Or.inl ⟨by rfl, ?y6z7⟩) hg ?_
        case y6z7 => (intro w hSw; (try dsimp only at hSw); go_simp; try with_reducible rfl)
        simp only [Act.put, List.setIfInBounds_toArray, List.set_cons_zero, List.set_cons_succ, List.getElem_toArray, List.getElem_cons_zero, List.getElem_cons_succ]
        refine wpAnyH_take (i := 7) (v := ?v7z8) rfl (by kernel_rfl) (by kernel_rfl) (by kernel_rfl) (fun _ _ _ h => h) (Or.inl ⟨by rfl, ?y7z8⟩) hg ?_
        case y7z8 => (intro w hSw; (try dsimp only at hSw); go_simp; try with_reducible rfl)
        simp only [Act.put, List.setIfInBounds_toArray, List.set_cons_zero, List.set_cons_succ, List.getElem_toArray, List.getElem_cons_zero, List.getElem_cons_succ]
        refine wpAnyH_take (i := 8) (v := ?v8z9) rfl (by kernel_rfl) (by kernel_rfl) (by kernel_rfl) (fun _ _ _ h => h) (Or.inl ⟨by rfl, ?y8z9⟩) hg ?_
        case y8z9 => (intro w hSw; (try dsimp only at hSw); go_simp; try with_reducible rfl)
        simp only [Act.put, List.setIfInBounds_toArray, List.set_cons_zero, List.set_cons_succ, List.getElem_toArray, List.getElem_cons_zero, List.getElem_cons_succ]
        refine wpAnyH_take (i := 9) (v := ?v9z10) rfl (by kernel_rfl) (by kernel_rfl) (by kernel_rfl) (fun _ _ _ h => h) (Or.inl ⟨by rfl, ?y9z10⟩) hg ?_
        case y9z10 => (intro w hSw; (try dsimp only at hSw); go_simp; try with_reducible rfl)
        simp only [Act.put, List.setIfInBounds_toArray, List.set_cons_zero, List.set_cons_succ, List.getElem_toArray, List.getElem_cons_zero, List.getElem_cons_succ]
        refine wpAnyH_take (i := 10) (v := ?v10z11) rfl (by kernel_rfl) (by kernel_rfl) (by kernel_rfl) (fun _ _ _ h => h) (Or.inl ⟨by rfl, ?y10z11⟩) hg ?_
        case y10z11 => (intro w hSw; (try dsimp only at hSw); go_simp; try with_reducible rfl)
        simp only [Act.put, List.setIfInBounds_toArray, List.set_cons_zero, List.set_cons_succ, List.getElem_toArray, List.getElem_cons_zero, List.getElem_cons_succ]
        refine wpAnyH_take (i := 11) (v := ?v11z12) rfl (by kernel_rfl) (by kernel_rfl) (by kernel_rfl) (fun _ _ _ h => h) (Or.inl ⟨by rfl, ?y11z12⟩) hg ?_
        case y11z12 => (intro w hSw; (try dsimp only at hSw); go_simp; try with_reducible rfl)
        simp only [Act.put, List.setIfInBounds_toArray, List.set_cons_zero, List.set_cons_succ, List.getElem_toArray, List.getElem_cons_zero, List.getElem_cons_succ]
        refine wpAnyH_take (i := 12) (v := ?v12z13) rfl (by kernel_rfl) (by kernel_rfl) (by kernel_rfl) (fun _ _ _ h => h) (Or.inl ⟨by rfl, ?y12z13⟩) hg ?_
        case y12z13 => (intro w hSw; (try dsimp only at hSw); go_simp; try with_reducible rfl)
        simp only [Act.put, List.setIfInBounds_toArray, List.set_cons_zero, List.set_cons_succ, List.getElem_toArray, List.getElem_cons_zero, List.getElem_cons_succ]
        refine wpAnyH_take (i := 13) (v := ?v13z14) rfl (by kernel_rfl) (by kernel_rfl) (by kernel_rfl) (fun _ _ _ h => h) (Or.inl ⟨by rfl, ?y13z14⟩) hg ?_
        case y13z14 => (intro w hSw; (try dsimp only at hSw); go_simp; try with_reducible rfl)
        simp only [Act.put, List.setIfInBounds_toArray, List.set_cons_zero, List.set_cons_succ, List.getElem_toArray, List.getElem_cons_zero, List.getElem_cons_succ]
        refine wpAnyH_take (i := 14) (v := ?v14z15) rfl (by kernel_rfl) (by kernel_rfl) (by kernel_rfl) (fun _ _ _ h => h) (Or.inl ⟨by rfl, ?y14z15⟩) hg ?_
        case y14z15 => (intro w hSw; (try dsimp only at hSw); go_simp; try with_reducible rfl)
        simp only [Act.put, List.setIfInBounds_toArray, List.set_cons_zero, List.set_cons_succ, List.getElem_toArray, List.getElem_cons_zero, List.getElem_cons_succ]
        refine wpAnyH_take (i := 15) (v := ?v15z16) rfl (by kernel_rfl) (by kernel_rfl) (by kernel_rfl) (fun _ _ _ h => h) (Or.inl ⟨by rfl, ?y15z16⟩) hg ?_
        case y15z16 => (intro w hSw; (try dsimp only at hSw); go_simp; try with_reducible rfl)
        simp only [Act.put, List.setIfInBounds_toArray, List.set_cons_zero, List.set_cons_succ, List.getElem_toArray, List.getElem_cons_zero, List.getElem_cons_succ]
        refine wpAnyH_take (i := 16) (v := ?v16z17) rfl (by kernel_rfl) (by kernel_rfl) (by kernel_rfl) (fun _ _ _ h => h) (Or.inl ⟨by rfl, ?y16z17⟩) hg ?_
        case y16z17 => (intro w hSw; (try dsimp only at hSw); go_simp; try with_reducible rfl)
        simp only [Act.put, List.setIfInBounds_toArray, List.set_cons_zero, List.set_cons_succ, List.getElem_toArray, List.getElem_cons_zero, List.getElem_cons_succ]
        refine wpAnyH_take (i := 17) (v := ?v17z18) rfl (by kernel_rfl) (by kernel_rfl) (by kernel_rfl) (fun _ _ _ h => h) (Or.inl ⟨by rfl, ?y17z18⟩) hg ?_
        case y17z18 => (intro w hSw; (try dsimp only at hSw); go_simp; try with_reducible rfl)
        simp only [Act.put, List.setIfInBounds_toArray, List.set_cons_zero, List.set_cons_succ, List.getElem_toArray, List.getElem_cons_zero, List.getElem_cons_succ]
        refine wpAnyH_take (i := 18) (v := ?v18z19) rfl (by kernel_rfl) (by kernel_rfl) (by kernel_rfl) (fun _ _ _ h => h) (Or.inl ⟨by rfl, ?y18z19⟩) hg ?_
        case y18z19 => (intro w hSw; (try dsimp only at hSw); go_simp; try with_reducible rfl)
        simp only [Act.put, List.setIfInBounds_toArray, List.set_cons_zero, List.set_cons_succ, List.getElem_toArray, List.getElem_cons_zero, List.getElem_cons_succ]
        refine wpAnyH_ready (rs := [19]) (by kernel_rfl) (by simp) ?_
        refine AllReadyH.cons rfl (fun K hK => ?_) AllReadyH.nil
        rw [if_pos (by rfl)]
        go_wp2_with fail
        refine (KO.out _ be).mono ?_
        rintro e vv1 ⟨rfl, b9⟩
        have dd1 := up2 be b9
        clear b9
        go_wp2_with fail
        refine hK.out _ _ (HG.out _ dd1) (fun _ => ?_)
        clear hK K
        try simp only [Act.put, List.setIfInBounds_toArray, List.set_cons_zero, List.set_cons_succ, List.getElem_toArray, List.getElem_cons_zero, List.getElem_cons_succ]
        refine wpAnyH_done (by kernel_rfl) ?_ _
        refine NoPanic.normal ?_
        go_wp2_with fail
        exact ⟨⟨up2 HB.out (up2 H10.out.2 dd1), k + 1, HK.out.2, by go_num⟩, by have := HK.out.2; simp [intOf]; omega⟩
      · have KO := Lib.hid (fun W (b9 : Below w10.heap.size w10 W) => r12on_any W N A l.length c l (HL.out.below (up2 B3.out.1 (up2 H5.out.1 (up2 HB.out (up2 H10.out.2 b9))))) (by omega) (v0 : Int) (b : Int) (c' : Int) false ⟨fun h => (by cases h), fun h => absurd h hon⟩)
        obtain ⟨h1, h2, h3⟩ := loop3 SF.out HLP.out.1
        have hsx := surf_close SF.out h1 h2 h3 (fun t ht hh => hon ⟨t, ht, hh⟩) (by omega)
        obtain ⟨MM, hMM⟩ := loops_exists N (l ++ [((v0 : Int), (b : Int), (c' : Int))])
        have hml := loops_close SF.out HLL.out HLP.out.2.1 HLP.out.2.2 hsx hMM
        have hel := bEdges_close SF.out HLP.out.1 hsx
        rw [← HN5.out] at hml
        have HSX := Lib.hid (And.intro hsx hMM)
        obtain ⟨e0', he0⟩ : ∃ e, (bE l).length = e := ⟨_, rfl⟩
        obtain ⟨e1', he1⟩ : ∃ e, (bE (l ++ [((v0 : Int), (b : Int), (c' : Int))])).length = e := ⟨_, rfl⟩
        have hee : e1' + 3 = e0' := by rw [← he0, ← he1]; unfold bE; rw [List.length_map, List.length_map]; exact hel
        have heb : e0' ≤ 120 := by
          rw [← he0]
          have : (bE l).length = (bUp l (3 * l.length)).length := rfl
          have := bUp_le l (3 * l.length)
          omega
        obtain ⟨mm, hmm⟩ : ∃ m, MM.length = m := ⟨_, rfl⟩
        rw [hmm] at hml
        have s1 : IntKind.i64.wrap ((n5 : Int) - 1) = (mm : Int) := by rw [IntWalk.i64_in _ (by omega)]; omega
        have s2 : IntKind.i64.wrap ((e0' : Int) - 3) = (e1' : Int) := by rw [IntWalk.i64_in _ (by omega)]; omega
        have n1 : ((mm : Int) != (mm : Int)) = false := by simp
        have n2 : ((e1' : Int) != (e1' : Int)) = false := by simp
        have HE := Lib.hid (And.intro he0 (And.intro he1 hmm))
        clear hon h1 h2 h3 hsx hMM hml hel he0 he1 hee heb hmm
        go_wp2_with fail
        refine wp_region_noPanic ?_
        refine wp_region_held_drew (S := fun w' => (w'.cell? ⟨g0, 0, none⟩ = some (.int .i64 N) ∧ w'.cell? ⟨g0, 1, none⟩ = some (.slice A l.length c)) ∧ (w'.cell? (ad.add k) = some (.slice (some ai) 3 ci) ∧ w'.cell? ai = some (.int .i64 (v0 : Int)) ∧ w'.cell? ⟨ai.block, ai.off + 1, none⟩ = some (.int .i64 (b : Int)) ∧ w'.cell? ⟨ai.block, ai.off + 2, none⟩ = some (.int .i64 (c' : Int)))) (by kernel_rfl) hg (fun _ => ?_)
        refine wpAnyH_take (i := 0) (v := ?v0z20) rfl (by kernel_rfl) (by kernel_rfl) (by kernel_rfl) (fun _ _ _ h => h) (Or.inl ⟨by rfl, ?y0z20⟩) hg ?_
        case y0z20 => (intro w hSw; (try dsimp only at hSw); go_simp; try with_reducible rfl)
        simp only [Act.put, List.setIfInBounds_toArray, List.set_cons_zero, List.set_cons_succ, List.getElem_toArray, List.getElem_cons_zero]
        refine wpAnyH_take (i := 1) (v := ?v1z21) rfl (by kernel_rfl) (by kernel_rfl) (by kernel_rfl) (fun _ _ _ h => h) (Or.inl ⟨by rfl, ?y1z21⟩) hg ?_
        case y1z21 => (intro w hSw; (try dsimp only at hSw); go_simp; try with_reducible rfl)
        simp only [Act.put, List.setIfInBounds_toArray, List.set_cons_zero, List.set_cons_succ, List.getElem_toArray, List.getElem_cons_zero, List.getElem_cons_succ]
        refine wpAnyH_take (i := 2) (v := ?v2z22) rfl (by kernel_rfl) (by kernel_rfl) (by kernel_rfl) (fun _ _ _ h => h) (Or.inl ⟨by rfl, ?y2z22⟩) hg ?_
        case y2z22 => (intro w hSw; (try dsimp only at hSw); go_simp; try with_reducible rfl)
        simp only [Act.put, List.setIfInBounds_toArray, List.set_cons_zero, List.set_cons_succ, List.getElem_toArray, List.getElem_cons_zero, List.getElem_cons_succ]
        refine wpAnyH_take (i := 3) (v := ?v3z23) rfl (by kernel_rfl) (by kernel_rfl) (by kernel_rfl) (fun _ _ _ h => h) (Or.inl ⟨by rfl, ?y3z23⟩) hg ?_
        case y3z23 => (intro w hSw; (try dsimp only at hSw); go_simp; try with_reducible rfl)
        simp only [Act.put, List.setIfInBounds_toArray, List.set_cons_zero, List.set_cons_succ, List.getElem_toArray, List.getElem_cons_zero, List.getElem_cons_succ]
        refine wpAnyH_take (i := 4) (v := ?v4z24) rfl (by kernel_rfl) (by kernel_rfl) (by kernel_rfl) (fun _ _ _ h => h) (Or.inl ⟨by rfl, ?y4z24⟩) hg ?_
        case y4z24 => (intro w hSw; (try dsimp only at hSw); go_simp; try with_reducible rfl)
        simp only [Act.put, List.setIfInBounds_toArray, List.set_cons_zero, List.set_cons_succ, List.getElem_toArray, List.getElem_cons_zero, List.getElem_cons_succ]
        refine wpAnyH_take (i := 5) (v := ?v5z25) rfl (by kernel_rfl) (by kernel_rfl) (by kernel_rfl) (fun _ _ _ h => h) (Or.inl ⟨by rfl, ?y5z25⟩) hg ?_
        case y5z25 => (intro w hSw; (try dsimp only at hSw); go_simp; try with_reducible rfl)
        simp only [Act.put, List.setIfInBounds_toArray, List.set_cons_zero, List.set_cons_succ, List.getElem_toArray, List.getElem_cons_zero, List.getElem_cons_succ]
        refine wpAnyH_take (i := 6) (v := ?v6z26) rfl (by kernel_rfl) (by kernel_rfl) (by kernel_rfl) (fun _ _ _ h => h) (Or.inl ⟨by rfl, ?y6z26⟩) hg ?_
        case y6z26 => (intro w hSw; (try dsimp only at hSw); go_simp; try with_reducible rfl)
        simp only [Act.put, List.setIfInBounds_toArray, List.set_cons_zero, List.set_cons_succ, List.getElem_toArray, List.getElem_cons_zero, List.getElem_cons_succ]
        refine wpAnyH_take (i := 7) (v := ?v7z27) rfl (by kernel_rfl) (by kernel_rfl) (by kernel_rfl) (fun _ _ _ h => h) (Or.inl ⟨by rfl, ?y7z27⟩) hg ?_
        case y7z27 => (intro w hSw; (try dsimp only at hSw); go_simp; try with_reducible rfl)
        simp only [Act.put, List.setIfInBounds_toArray, List.set_cons_zero, List.set_cons_succ, List.getElem_toArray, List.getElem_cons_zero, List.getElem_cons_succ]
        refine wpAnyH_take (i := 8) (v := ?v8z28) rfl (by kernel_rfl) (by kernel_rfl) (by kernel_rfl) (fun _ _ _ h => h) (Or.inl ⟨by rfl, ?y8z28⟩) hg ?_
        case y8z28 => (intro w hSw; (try dsimp only at hSw); go_simp; try with_reducible rfl)
        simp only [Act.put, List.setIfInBounds_toArray, List.set_cons_zero, List.set_cons_succ, List.getElem_toArray, List.getElem_cons_zero, List.getElem_cons_succ]
        refine wpAnyH_take (i := 9) (v := ?v9z29) rfl (by kernel_rfl) (by kernel_rfl) (by kernel_rfl) (fun _ _ _ h => h) (Or.inl ⟨by rfl, ?y9z29⟩) hg ?_
        case y9z29 => (intro w hSw; (try dsimp only at hSw); go_simp; try with_reducible rfl)
        simp only [Act.put, List.setIfInBounds_toArray, List.set_cons_zero, List.set_cons_succ, List.getElem_toArray, List.getElem_cons_zero, List.getElem_cons_succ]
        refine wpAnyH_take (i := 10) (v := ?v10z30) rfl (by kernel_rfl) (by kernel_rfl) (by kernel_rfl) (fun _ _ _ h => h) (Or.inl ⟨by rfl, ?y10z30⟩) hg ?_
        case y10z30 => (intro w hSw; (try dsimp only at hSw); go_simp; try with_reducible rfl)
        simp only [Act.put, List.setIfInBounds_toArray, List.set_cons_zero, List.set_cons_succ, List.getElem_toArray, List.getElem_cons_zero, List.getElem_cons_succ]
        refine wpAnyH_take (i := 11) (v := ?v11z31) rfl (by kernel_rfl) (by kernel_rfl) (by kernel_rfl) (fun _ _ _ h => h) (Or.inl ⟨by rfl, ?y11z31⟩) hg ?_
        case y11z31 => (intro w hSw; (try dsimp only at hSw); go_simp; try with_reducible rfl)
        simp only [Act.put, List.setIfInBounds_toArray, List.set_cons_zero, List.set_cons_succ, List.getElem_toArray, List.getElem_cons_zero, List.getElem_cons_succ]
        refine wpAnyH_take (i := 12) (v := ?v12z32) rfl (by kernel_rfl) (by kernel_rfl) (by kernel_rfl) (fun _ _ _ h => h) (Or.inl ⟨by rfl, ?y12z32⟩) hg ?_
        case y12z32 => (intro w hSw; (try dsimp only at hSw); go_simp; try with_reducible rfl)
        simp only [Act.put, List.setIfInBounds_toArray, List.set_cons_zero, List.set_cons_succ, List.getElem_toArray, List.getElem_cons_zero, List.getElem_cons_succ]
        refine wpAnyH_take (i := 13) (v := ?v13z33) rfl (by kernel_rfl) (by kernel_rfl) (by kernel_rfl) (fun _ _ _ h => h) (Or.inl ⟨by rfl, ?y13z33⟩) hg ?_
        case y13z33 => (intro w hSw; (try dsimp only at hSw); go_simp; try with_reducible rfl)
        simp only [Act.put, List.setIfInBounds_toArray, List.set_cons_zero, List.set_cons_succ, List.getElem_toArray, List.getElem_cons_zero, List.getElem_cons_succ]
        refine wpAnyH_take (i := 14) (v := ?v14z34) rfl (by kernel_rfl) (by kernel_rfl) (by kernel_rfl) (fun _ _ _ h => h) (Or.inl ⟨by rfl, ?y14z34⟩) hg ?_
        case y14z34 => (intro w hSw; (try dsimp only at hSw); go_simp; try with_reducible rfl)
        simp only [Act.put, List.setIfInBounds_toArray, List.set_cons_zero, List.set_cons_succ, List.getElem_toArray, List.getElem_cons_zero, List.getElem_cons_succ]
        refine wpAnyH_take (i := 15) (v := ?v15z35) rfl (by kernel_rfl) (by kernel_rfl) (by kernel_rfl) (fun _ _ _ h => h) (Or.inl ⟨by rfl, ?y15z35⟩) hg ?_
        case y15z35 => (intro w hSw; (try dsimp only at hSw); go_simp; try with_reducible rfl)
        simp only [Act.put, List.setIfInBounds_toArray, List.set_cons_zero, List.set_cons_succ, List.getElem_toArray, List.getElem_cons_zero, List.getElem_cons_succ]
        refine wpAnyH_take (i := 16) (v := ?v16z36) rfl (by kernel_rfl) (by kernel_rfl) (by kernel_rfl) (fun _ _ _ h => h) (Or.inl ⟨by rfl, ?y16z36⟩) hg ?_
        case y16z36 => (intro w hSw; (try dsimp only at hSw); go_simp; try with_reducible rfl)
        simp only [Act.put, List.setIfInBounds_toArray, List.set_cons_zero, List.set_cons_succ, List.getElem_toArray, List.getElem_cons_zero, List.getElem_cons_succ]
        refine wpAnyH_take (i := 17) (v := ?v17z37) rfl (by kernel_rfl) (by kernel_rfl) (by kernel_rfl) (fun _ _ _ h => h) (Or.inl ⟨by rfl, ?y17z37⟩) hg ?_
        case y17z37 => (intro w hSw; (try dsimp only at hSw); go_simp; try with_reducible rfl)
        simp only [Act.put, List.setIfInBounds_toArray, List.set_cons_zero, List.set_cons_succ, List.getElem_toArray, List.getElem_cons_zero, List.getElem_cons_succ]
        refine wpAnyH_take (i := 18) (v := ?v18z38) rfl (by kernel_rfl) (by kernel_rfl) (by kernel_rfl) (fun _ _ _ h => h) (Or.inl ⟨by rfl, ?y18z38⟩) hg ?_
        case y18z38 => (intro w hSw; (try dsimp only at hSw); go_simp; try with_reducible rfl)
        simp only [Act.put, List.setIfInBounds_toArray, List.set_cons_zero, List.set_cons_succ, List.getElem_toArray, List.getElem_cons_zero, List.getElem_cons_succ]
        refine wpAnyH_ready (rs := [19]) (by kernel_rfl) (by simp) ?_
        refine AllReadyH.cons rfl (fun K hK => ?_) AllReadyH.nil
        rw [if_pos (by rfl)]
        go_wp2_with fail
        refine (KO.out _ be).mono ?_
        rintro e vv1 ⟨rfl, b9⟩
        have dd1 := up2 be b9
        clear b9
        go_wp2_with fail
        refine hK.out _ _ (HG.out _ dd1) (fun _ => ?_)
        clear hK K
        try simp only [Act.put, List.setIfInBounds_toArray, List.set_cons_zero, List.set_cons_succ, List.getElem_toArray, List.getElem_cons_zero, List.getElem_cons_succ]
        refine wpAnyH_done (by kernel_rfl) ?_ _
        refine NoPanic.normal ?_
        obtain ⟨w13, hw13⟩ : ∃ w', vv1 = w' := ⟨_, rfl⟩
        rw [hw13] at dd1
        have O13 := Lib.hid (H10.out.1.up dd1)
        have B13 := Lib.hid (up2 H10.out.2 dd1)
        have y0 := O13.out.c0
        have y1 := O13.out.c1
        have own13 := O13.out.own
        rw [List.length_append] at own13
        have KT := Lib.hid (table12_any w13 N A9 (l.length + 1) c9 (l ++ [((v0 : Int), (b : Int), (c' : Int))]) (T3.of_own own13))
        simp only [hw13]
        clear dd1 hw13 own13
        go_wp2_with fail
        refine KT.out.mono ?_
        rintro e w14 ⟨b14, ⟨rfl, hno⟩ | ⟨_, gu, rfl, tabu⟩⟩
        · rcases hno with h | h
          · omega
          · exact absurd HSX.out.1 h
        have KM := Lib.hid (bdloops_any w14 _ gu N _ tabu MM HSX.out.2)
        have TU := Lib.hid tabu
        have B14 := Lib.hid (up2 B13.out b14)
        clear b14 tabu
        go_wp2_with fail
        refine KM.out.mono ?_
        rintro e w15 ⟨A15, n15, c15, rfl, r15, b15⟩
        obtain rfl : n15 = mm := by have := r15.1; rw [List.length_map, HE.out.2.2] at this; exact this.symm
        have KE1 := Lib.hid (bdedges_any w15 _ gu N _ (TU.out.below b15))
        have B15 := Lib.hid (up2 B14.out b15)
        clear b15 r15
        go_wp2_with fail
        refine KE1.out.mono ?_
        rintro e w16 ⟨A16, n16, c16, rfl, r16, b16⟩
        obtain rfl : n16 = e1' := by have := r16.1; rw [HE.out.2.1] at this; exact this.symm
        have B16 := Lib.hid (up2 B15.out b16)
        have KE2 := Lib.hid (bdedges_any w16 _ g N l (TAB.out.below (up2 H5.out.1 (up2 HB.out B16.out))))
        clear b16 r16
        go_wp2_with fail
        refine KE2.out.mono ?_
        rintro e w17 ⟨A17, n17, c17, rfl, r17, b17⟩
        obtain rfl : n17 = e0' := by have := r17.1; rw [HE.out.1] at this; exact this.symm
        have B17 := Lib.hid (up2 HB.out (up2 B16.out b17))
        clear b17 r17
        go_wp2_with fail
        exact ⟨⟨B17.out, k + 1, HK.out.2, by go_num⟩, by have := HK.out.2; simp [intOf]; omega⟩
set_option maxRecDepth 100000 in
theorem lifted (os : Os) (started : os.Started) (H : Type) (enc : TypeId × Value → H) :
    ReturnsInHanded {} Try.checked os 7 .any (Rows.borderClosesSpec.pre6 enc Try.prog Try.f7 Rows.borderClosesRow.domain false) (Rows.borderClosesSpec.post enc Try.prog Try.f7 false true false false) := by
  refine returnsInHanded_of_change (C := Try.checked) own_knob started (by kernel_rfl) Try.func7
    (ChangeSpec.witness6 (enc := enc) (C := Try.checked) false ⟨#[], #[.agg #[.int .i64 0, .slice none 0 0]], []⟩ 8 (by kernel_rfl) (by kernel_rfl) (by kernel_rfl) (by kernel_rfl)) ?_
  intro W base args ds gs before hval0 hW hcnd _
  have hval : ∀ (j : Nat) t v, Try.f7.params[j]? = some t → args[j]? = some v → Value.okWide Try.prog W .any base t v := hval0
  have hW' := hW
  obtain ⟨p, q, hA0, hV, rfl, hfz, hnd⟩ := hW
  have hA : DataW.TrodAll enc Try.prog W 0 (fun _ => true) true Try.f7.params.toList args.toList ds p := hA0
  rw [Try.params7] at hA hval
  obtain ⟨v0, vs0, d0, ds0, p0, q0, hargs, rfl, rfl, h0, r0⟩ := trodAll_cons hA
  obtain ⟨rfl, rfl, rfl⟩ := trodAll_nil r0
  obtain rfl : args = #[v0] := by cases args; simp_all
  obtain ⟨rfl, rfl⟩ := trodVars_none hV
  have lt0 : ∀ x ∈ p0, x.block < W.heap.size := by obtain ⟨m, hm⟩ := h0; exact DataW.trod_lt m _ _ _ hm
  obtain ⟨N0, a0, len0, cap0, xs0, rfl, hN0, hr0⟩ := arg_soup (hval 0 24 v0 rfl rfl) h0
  clear hA0 hval0
  refine (walk N0 a0 len0 cap0 xs0 W hN0.1 hN0.2 hr0).mono fun e W' ⟨he, bel⟩ => ?_
  subst he
  exact ⟨_, rfl, _, _, _, [], _, [], hW', trodAll_mk1 (shut_bool Try.underlying4 _), (trodAll_cons_mk (Below.trod laid_out (by kernel_rfl) (of_decide_eq_true (by kernel_rfl)) h0 bel lt0) trodAll_mk0), rfl, bel.frame _, fun h => by cases h⟩

theorem over : Rows.borderClosesRow.holds Try.pinned (OpenSpec.ofChange Rows.borderClosesSpec) :=
  OpenClaim.holds_of_wide 7 Try.f7 rfl rfl rfl rfl rfl rfl rfl ⟨rfl, rfl, rfl, rfl, rfl⟩ rfl rfl rfl rfl rfl (by kernel_rfl) Try.func7 (by kernel_rfl)
    (of_decide_eq_true (by kernel_rfl)) (by unfold Func.isWrapper; first | (rw [if_pos (by decide +kernel)]; kernel_rfl) | (rw [if_neg (by decide +kernel)]; exact ⟨rfl, rfl⟩))
    (fun os started H enc _ => lifted os started H enc)

theorem proved : Rows.BorderClosesSaid := over
end Go.Proofs.Ytmflacmgffpjoaa.borderCloses
