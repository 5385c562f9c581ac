/- BorderTurned: a surface turned round the other way has the same border, gone along the other way; by other numbers, and with its triangles in another order, the same one by these. No condition. -/
import Derived.Test.YtmflacmgffpjoaaBdLaw
import Derived.Test.YtmflacmgffpjoaaGB
import Derived.Test.YtmflacmgffpjoaaSouRefB
import Derived.Test.YtmflacmgffpjoaaSouRefC
import Derived.Test.YtmflacmgffpjoaaSouTriR
import Derived.Test.YtmflacmgffpjoaaBdLps
import Derived.Deep.RegionHeld3
import Derived.Test.YtmflacmgffpjoaaGM
import Derived.Test.YtmflacmgffpjoaaSwp
namespace Go.Proofs.Ytmflacmgffpjoaa.borderTurned
open Go.RowKit Go.ChangeShapes Go.WideShapes Go.ChangeAt

def TuR (w6 : World) (n : Nat) (i : Value) (wr : World) : Prop := Below w6.heap.size w6 wr ∧ ∃ k : Nat, k ≤ n ∧ i = .int .i64 (k : Int)
/-- Loop 2: as many exchanges are done. -/
def SwR (wa : World) (g9 : Nat) (K : Int) (A : Option Addr) (c n hh : Nat) (L : List Tr) (i : Value) (wr : World) : Prop := ∃ j : Nat, j ≤ hh ∧ i = .int .i64 (j : Int) ∧ One wa wr g9 K (.slice A n c) n (swK L j)
set_option maxHeartbeats 16000000 in
set_option maxRecDepth 100000 in
theorem walk (N : Int) (A : Option Addr) (n c : Nat) (l : List Tr) (B : Option Addr) (mt dt : Nat) (ts : List Int) (w : World) (_ : -9223372036854775808 ≤ N) (_ : N ≤ 9223372036854775807) (h : T3 w A n l)
    (_ : (B = none → dt = 0) ∧ mt ≤ dt) (_ : ∀ x ∈ ts, -9223372036854775808 ≤ x ∧ x ≤ 9223372036854775807) (ht : Reads w B mt (ints ts)) :
    Calls Try.prog 6 #[.agg #[.int .i64 N, .slice A n c], .slice B mt dt] w (BoolTold10 w true) := by
  have HT := Lib.hid ht
  clear ht
  obtain rfl := h.1
  have HL := Lib.hid h
  have KA := Lib.hid awake12_true
  obtain ⟨w1, hw1⟩ : ∃ w1, w.alloc (.cells #[.int .i64 N, .slice A l.length c] 24) = w1 := ⟨_, rfl⟩
  obtain ⟨g0, hg0⟩ : ∃ g0, w.heap.size = g0 := ⟨_, rfl⟩
  have b1 : Below w.heap.size w w1 := by rw [← hw1]; exact (Below.refl _ w).alloc (Nat.le_refl _) _
  have x1 : Bx w1 g0 N A l.length c := by rw [← hw1, ← hg0]; exact Bx.made w N A l.length c
  have B1 := Lib.hid (And.intro b1 x1)
  clear b1 x1 h
  go_enter Try.func6, Try.ntmps6
  go_wp2_with fail
  refine (KA.out _).mono ?_
  rintro e w2 ⟨rfl, b2⟩
  have x2 := B1.out.2.below b2
  have e0 := x2.c0
  have e1 := x2.c1
  have B2 := Lib.hid (And.intro (up2 B1.out.1 b2) x2)
  have KL := Lib.hid (table12_any w2 N A l.length c l (HL.out.below B2.out.1))
  clear b2 x2
  go_wp2_with fail
  refine KL.out.mono ?_
  rintro e w3 ⟨b3, ⟨rfl, hno⟩ | ⟨hn40, g, rfl, tab⟩⟩
  · have x3 := B2.out.2.below b3
    have e0 := x3.c0
    have e1 := x3.c1
    have B3 := Lib.hid (up2 B2.out.1 b3)
    clear b3 x3
    by_cases h40 : 40 < l.length
    · have d40 : decide ((l.length : Int) > 40) = true := decide_eq_true (by omega)
      clear h40 hno
      go_wp2_with fail
      go_ret
      exact ⟨rfl, B3.out⟩
    · have d40 : decide ((l.length : Int) > 40) = false := decide_eq_false (by omega)
      have KS := Lib.hid (surf9_any w3 N A l.length c l (HL.out.below B3.out) (by omega) false ⟨fun h => (by cases h), fun h => hno.elim (fun k => absurd k h40) fun k => absurd h k⟩)
      clear h40 hno
      go_wp2_with fail
      refine KS.out.mono ?_
      rintro e w4 ⟨rfl, b4⟩
      have B4 := Lib.hid (up2 B3.out b4)
      clear b4
      go_wp2_with fail
      go_ret
      exact ⟨rfl, B4.out⟩
  have x3 := B2.out.2.below b3
  have e0 := x3.c0
  have e1 := x3.c1
  have B3 := Lib.hid (And.intro (up2 B2.out.1 b3) x3)
  have TAB := Lib.hid tab
  have SF := Lib.hid tab.surf
  have hN := And.intro tab.surf.n0 tab.surf.n1
  clear b3 x3 tab
  obtain ⟨Nn, rfl⟩ : ∃ Nn : Nat, N = (Nn : Int) := ⟨N.toNat, by omega⟩
  have hNn : Nn ≤ 4096 := by omega
  have SM := Lib.hid (surf_mir SF.out)
  have KM := Lib.hid (rmirror_any w3 Nn A l.length c l (HL.out.below B3.out.1) (by omega))
  go_wp2_with fail
  refine KM.out.mono ?_
  rintro e w4 ⟨_, rfl, A4, c4, rfl, own4, b4⟩
  rw [List.length_map] at own4 ⊢
  have t4 := T3.of_own own4
  have KT := Lib.hid (table12_any w4 Nn A4 l.length c4 (l.map mirT) t4)
  have B4 := Lib.hid b4
  clear own4 b4 t4
  go_wp2_with fail
  refine KT.out.mono ?_
  rintro e w5 ⟨b5, ⟨rfl, hno⟩ | ⟨_, gm, rfl, tabm⟩⟩
  · rcases hno with h | h
    · omega
    · exact absurd SM.out h
  have B5 := Lib.hid (And.intro (up2 B4.out b5) tabm)
  have HE := Lib.hid (fun W (b : Below w5.heap.size w5 W) => (show W.cell? ⟨g0, 0, none⟩ = some (.int .i64 Nn) ∧ W.cell? ⟨g0, 1, none⟩ = some (.slice A l.length c) from ⟨(B3.out.2.below (up2 (up2 B4.out b5) b)).c0, (B3.out.2.below (up2 (up2 B4.out b5) b)).c1⟩))
  clear b5 tabm e0 e1
  go_wp2_with fail
  go_loopw [7] (TuR w5 Nn) (fun i _ => Nn - (intOf i).toNat)
  case atStart => exact ⟨Below.refl _ _, 0, Nat.zero_le _, rfl⟩
  case round =>
    obtain ⟨hb, k, hk, rfl⟩ := hrel
    have HB := Lib.hid hb
    obtain ⟨e0, e1⟩ := HE.out wr hb
    clear hb
    by_cases hlt : k < Nn
    · have b1 : (k : Int) < Nn := by omega
      have KA := Lib.hid (bdafter_any wr _ g Nn l (TAB.out.below (up2 B5.out.1 HB.out)) (k : Int) (by omega))
      obtain ⟨hm1, hm2⟩ := after_mir SF.out (v := (k : Int)) (by omega)
      have hbd : 0 ≤ afterV l (k : Int) → afterV l (k : Int) < 4096 := fun h0 => by
        have := (bdry_in SF.out ((after_iff SF.out h0).1 rfl)).1.2
        omega
      have sv : IntKind.i64.wrap ((k : Int) + 1) = (k : Int) + 1 := IntWalk.i64_in _ (by omega)
      have HK := Lib.hid (And.intro hk hlt)
      obtain ⟨z, hz⟩ : ∃ z, afterV l (k : Int) = z := ⟨_, rfl⟩
      rw [hz] at KA hm1 hm2 hbd
      clear hk hz
      by_cases hz0 : z < 0
      · have d1 : decide (z ≥ 0) = false := decide_eq_false (by omega)
        have d2 : decide (z < 0) = true := decide_eq_true hz0
        have ky := fun W (b : Below w5.heap.size w5 W) => bdafter_any W _ gm Nn (l.map mirT) (B5.out.2.below b) (k : Int) (by omega)
        have hy0 := hm2 hz0
        obtain ⟨y, hy⟩ : ∃ y, afterV (l.map mirT) (k : Int) = y := ⟨_, rfl⟩
        simp only [hy] at ky
        rw [hy] at hy0
        have KY := Lib.hid ky
        have d3 : decide (y ≥ 0) = false := decide_eq_false (by omega)
        clear hm1 hm2 hbd hz0 ky hy0 hy
        go_wp2_with fail
        refine KA.out.mono ?_
        rintro e w7 ⟨rfl, b7⟩
        have B7 := Lib.hid (up2 HB.out b7)
        clear b7
        go_wp2_with fail
        refine (KY.out w7 B7.out).mono ?_
        rintro e w8 ⟨rfl, b8⟩
        have B8 := Lib.hid (up2 B7.out b8)
        clear b8
        go_wp2_with fail
        exact ⟨⟨B8.out, k + 1, HK.out.2, by go_num⟩, by have := HK.out.2; simp [intOf]; omega⟩
      · have d1 : decide (z ≥ 0) = true := decide_eq_true (by omega)
        have d2 : decide (z < 0) = false := decide_eq_false hz0
        have hz9 := hbd (by omega)
        have ky := fun W (b : Below w5.heap.size w5 W) => bdafter_any W _ gm Nn (l.map mirT) (B5.out.2.below b) z (by omega)
        rw [hm1 (by omega)] at ky
        have KY := Lib.hid ky
        have d3 : ((k : Int) != (k : Int)) = false := by simp
        clear hm1 hm2 hbd hz0 ky hz9
        go_wp2_with fail
        refine KA.out.mono ?_
        rintro e w7 ⟨rfl, b7⟩
        have B7 := Lib.hid (up2 HB.out b7)
        clear b7
        go_wp2_with fail
        refine (KY.out w7 B7.out).mono ?_
        rintro e w8 ⟨rfl, b8⟩
        have B8 := Lib.hid (up2 B7.out b8)
        clear b8
        go_wp2_with fail
        exact ⟨⟨B8.out, k + 1, HK.out.2, by go_num⟩, by have := HK.out.2; simp [intOf]; omega⟩
    obtain rfl : k = Nn := by omega
    have b1 : ¬ (k : Int) < k := by omega
    obtain ⟨wa, rfl⟩ : ∃ wa, wa = wr := ⟨_, rfl⟩
    have BA := Lib.hid (up2 B3.out.1 (up2 B5.out.1 HB.out))
    have HTA := Lib.hid (HT.out.below BA.out)
    have KP0 := rperm_at wa B mt dt ts (k : Int) HTA.out (fun e => by omega)
    unfold PermTold at KP0
    have TA := Lib.hid (TAB.out.below (up2 B5.out.1 HB.out))
    have HLA := Lib.hid (HL.out.below BA.out)
    have HEA := Lib.hid (fun W (b : Below wa.heap.size wa W) => HE.out W (up2 HB.out b))
    clear hk
    by_cases hpm : IsPerm (k : Int) ts
    case neg =>
      rw [decide_eq_false hpm] at KP0
      have KP := Lib.hid KP0
      clear hpm KP0
      go_wp2_with fail
      refine KP.out.mono ?_
      rintro e w7 ⟨rfl, e9⟩
      obtain rfl := e9.symm
      go_wp2_with fail
      go_ret
      exact ⟨rfl, BA.out⟩
    rw [decide_eq_true hpm] at KP0
    have KP := Lib.hid KP0
    have hmk : (mt : Int) = k := by have := hpm.1; rw [HT.out.len] at this; exact this
    have HPM := Lib.hid hpm
    have SFR := Lib.hid (surf_ren SF.out hpm)
    have KR := Lib.hid (rreytmflacmgffpjoaaany wa (k : Int) A B l.length c mt dt l ts HTA.out (surf_fit SF.out) hmk HLA.out (by omega))
    clear hpm KP0
    go_wp2_with fail
    refine KP.out.mono ?_
    rintro e w7 ⟨rfl, e9⟩
    obtain rfl := e9.symm
    go_wp2_with fail
    refine KR.out.mono ?_
    rintro e w7 ⟨_, rfl, A7, c7, rfl, own7, b7⟩
    rw [List.length_map] at own7 ⊢
    obtain ⟨L, hL⟩ : ∃ L, l.map (renT ts) = L := ⟨_, rfl⟩
    rw [hL] at own7
    have HLL := Lib.hid (And.intro hL (show L.length = l.length by rw [← hL, List.length_map]))
    obtain ⟨w8, hw8⟩ : ∃ w8, w7.alloc (.cells #[.int .i64 (k : Int), .slice A7 l.length c7] 24) = w8 := ⟨_, rfl⟩
    obtain ⟨g9, hg9⟩ : ∃ g9, w7.heap.size = g9 := ⟨_, rfl⟩
    have b8 : Below w7.heap.size w7 w8 := by rw [← hw8]; exact (Below.refl _ w7).alloc (Nat.le_refl _) _
    have ON := Lib.hid (show One wa w8 g9 (k : Int) (.slice A7 l.length c7) l.length (swK L 0) from by
      rw [swK_zero]
      exact ⟨up2 b7 b8, by rw [← hw8, ← hg9]; exact heap_alloc_new w7 _, ownK_up own7 b8, by rw [← hg9]; exact b7.size⟩)
    obtain ⟨hh, hhh⟩ : ∃ hh, l.length / 2 = hh := ⟨_, rfl⟩
    have tq : Int.tdiv (l.length : Int) 2 = (hh : Int) := by rw [Int.tdiv_eq_ediv_of_nonneg (by omega)]; omega
    have tw : IntKind.i64.wrap (hh : Int) = (hh : Int) := IntWalk.i64_in _ (by omega)
    have HHH := Lib.hid hhh
    clear own7 b7 b8 hL hhh e0 e1
    go_wp2_with fail
    clear hw8 hg9
    go_loopw [10] (SwR wa g9 (k : Int) A7 c7 l.length hh L) (fun i _ => hh - (intOf i).toNat)
    case atStart => exact ⟨0, Nat.zero_le _, rfl, ON.out⟩
    case round =>
      obtain ⟨j, hj, rfl, hone⟩ := hrel
      have OJ := Lib.hid hone
      have y1 := hone.tcell
      by_cases hlt2 : j < hh
      case pos =>
        have b2 : (j : Int) < (hh : Int) := by omega
        have hlen := HLL.out.2
        have hn2 : j + j + 2 ≤ l.length := by have := HHH.out; omega
        obtain ⟨m, hm⟩ : ∃ m, l.length - 1 - j = m := ⟨_, rfl⟩
        obtain ⟨n1, hn1⟩ : ∃ n1, l.length - 1 = n1 := ⟨_, rfl⟩
        have e1 : IntKind.i64.wrap ((l.length : Int) - 1) = (n1 : Int) := by rw [IntWalk.i64_in _ (by omega)]; omega
        have e2 : IntKind.i64.wrap ((n1 : Int) - (j : Int)) = (m : Int) := by rw [IntWalk.i64_in _ (by omega)]; omega
        obtain ⟨q5, rfl, _, cs5, hcs5⟩ := own_at9 hone.ot (by omega)
        have HQ5 := Lib.hid (heap_lt hcs5)
        have hjn : j < l.length := by omega
        have hmn : m < l.length := by omega
        have hxj : (swK L j).getD j z3 = L.getD j z3 := by rw [swK_at (by omega)]; unfold swA; rw [if_neg (by omega), if_neg (by omega)]
        have hym : (swK L j).getD m z3 = L.getD m z3 := by rw [swK_at (by omega)]; unfold swA; rw [if_neg (by omega), if_neg (by omega)]
        have hsk := swK_succ (L := L) (k := j) (by omega)
        rw [hlen, hm, ← hym, ← hxj] at hsk
        obtain ⟨lt, hlt3⟩ : ∃ lt, swK L j = lt := ⟨_, rfl⟩
        rw [hlt3] at hsk hone OJ
        obtain ⟨x, hx⟩ : ∃ x, lt.getD j z3 = x := ⟨_, rfl⟩
        obtain ⟨y, hy⟩ : ∃ y, lt.getD m z3 = y := ⟨_, rfl⟩
        rw [hx, hy] at hsk
        obtain ⟨x0, x1, x2⟩ := x
        obtain ⟨y0, y1', y2⟩ := y
        have HSK := Lib.hid (show (lt.set j (y1', y2, y0)).set m (x2, x0, x1) = swK L (j + 1) from hsk)
        have KT1 := Lib.hid (fun W => (show Calls Try.prog 29 #[.agg #[.int .i64 y0, .int .i64 y1', .int .i64 y2], .int .i64 1] W (fun e w' => e = .returned (.agg #[.int .i64 y1', .int .i64 y2, .int .i64 y0]) ∧ Below W.heap.size W w') from rturned_any W (y0, y1', y2) 1 (by omega)))
        have KT2 := Lib.hid (fun W => (show Calls Try.prog 29 #[.agg #[.int .i64 x0, .int .i64 x1, .int .i64 x2], .int .i64 2] W (fun e w' => e = .returned (.agg #[.int .i64 x2, .int .i64 x0, .int .i64 x1]) ∧ Below W.heap.size W w') from rturned_any W (x0, x1, x2) 2 (by omega)))
        have HS := Lib.hid (fun W (b : Below wr.heap.size wr W) => (show W.cell? ⟨g9, 1, none⟩ = some (.slice (some ⟨q5, 0, none⟩) l.length c7) ∧ W.cell? ⟨q5, j * 3, none⟩ = some (.int .i64 x0) ∧ W.cell? ⟨q5, j * 3 + 1, none⟩ = some (.int .i64 x1) ∧ W.cell? ⟨q5, j * 3 + 2, none⟩ = some (.int .i64 x2) ∧ W.cell? ⟨q5, m * 3, none⟩ = some (.int .i64 y0) ∧ W.cell? ⟨q5, m * 3 + 1, none⟩ = some (.int .i64 y1') ∧ W.cell? ⟨q5, m * 3 + 2, none⟩ = some (.int .i64 y2) from by
          have u := OJ.out.up b
          obtain ⟨_, _, he, hat⟩ := (T3.of_own u.ot).2 (by omega)
          injection he with he
          injection he with he1 he2
          subst he1 he2
          obtain ⟨c0, c1, c2⟩ := hat j hjn
          obtain ⟨d0, d1, d2⟩ := hat m hmn
          rw [hx, Nat.zero_add] at c0 c1 c2
          rw [hy, Nat.zero_add] at d0 d1 d2
          exact ⟨u.tcell, c0, c1, c2, d0, d1, d2⟩))
        have hd := HS.out wr.drew (Reading.below ⟨1, rfl⟩)
        have hp1 : (j : Int) < (l.length : Int) := by omega
        have hq1 : (m : Int) < (l.length : Int) := by omega
        clear hx hy hsk hxj hym hlt3 hone hcs5 hm hn1 hlen hn2
        go_wp2_with fail
        refine wp_region_noPanic ?_
        refine wp_region_held_drew (S := fun w' => w'.cell? ⟨g9, 1, none⟩ = some (.slice (some ⟨q5, 0, none⟩) l.length c7) ∧ w'.cell? ⟨q5, j * 3, none⟩ = some (.int .i64 x0) ∧ w'.cell? ⟨q5, j * 3 + 1, none⟩ = some (.int .i64 x1) ∧ w'.cell? ⟨q5, j * 3 + 2, none⟩ = some (.int .i64 x2) ∧ w'.cell? ⟨q5, m * 3, none⟩ = some (.int .i64 y0) ∧ w'.cell? ⟨q5, m * 3 + 1, none⟩ = some (.int .i64 y1') ∧ w'.cell? ⟨q5, m * 3 + 2, none⟩ = some (.int .i64 y2)) (by kernel_rfl) hd (fun _ => ?_)
        refine wpAnyH_take (i := 0) (v := ?v0x1) rfl (by kernel_rfl) (by kernel_rfl) (by kernel_rfl) (fun _ _ _ h => h) (Or.inl ⟨by rfl, ?y0x1⟩) hd ?_
        case y0x1 => (intro w hSw; (try dsimp only at hSw); go_simp; try with_reducible rfl)
        simp only [Act.put, List.setIfInBounds_toArray, List.set_cons_zero, List.set_cons_succ, List.getElem_toArray, List.getElem_cons_zero]
        refine wpAnyH_take (i := 1) (v := ?v1x2) rfl (by kernel_rfl) (by kernel_rfl) (by kernel_rfl) (fun _ _ _ h => h) (Or.inl ⟨by rfl, ?y1x2⟩) hd ?_
        case y1x2 => (intro w hSw; (try dsimp only at hSw); go_simp; try with_reducible rfl)
        simp only [Act.put, List.setIfInBounds_toArray, List.set_cons_zero, List.set_cons_succ, List.getElem_toArray, List.getElem_cons_zero, List.getElem_cons_succ]
        refine wpAnyH_take (i := 2) (v := ?v2x3) rfl (by kernel_rfl) (by kernel_rfl) (by kernel_rfl) (fun _ _ _ h => h) (Or.inl ⟨by rfl, ?y2x3⟩) hd ?_
        case y2x3 => (intro w hSw; (try dsimp only at hSw); go_simp; try with_reducible rfl)
        simp only [Act.put, List.setIfInBounds_toArray, List.set_cons_zero, List.set_cons_succ, List.getElem_toArray, List.getElem_cons_zero, List.getElem_cons_succ]
        refine wpAnyH_take (i := 3) (v := ?v3x4) rfl (by kernel_rfl) (by kernel_rfl) (by kernel_rfl) (fun _ _ _ h => h) (Or.inl ⟨by rfl, ?y3x4⟩) hd ?_
        case y3x4 => (intro w hSw; (try dsimp only at hSw); go_simp; try with_reducible rfl)
        simp only [Act.put, List.setIfInBounds_toArray, List.set_cons_zero, List.set_cons_succ, List.getElem_toArray, List.getElem_cons_zero, List.getElem_cons_succ]
        refine wpAnyH_take (i := 4) (v := ?v4x5) rfl (by kernel_rfl) (by kernel_rfl) (by kernel_rfl) (fun _ _ _ h => h) (Or.inl ⟨by rfl, ?y4x5⟩) hd ?_
        case y4x5 => (intro w hSw; (try dsimp only at hSw); go_simp; try with_reducible rfl)
        simp only [Act.put, List.setIfInBounds_toArray, List.set_cons_zero, List.set_cons_succ, List.getElem_toArray, List.getElem_cons_zero, List.getElem_cons_succ]
        refine wpAnyH_take (i := 5) (v := ?v5x6) rfl (by kernel_rfl) (by kernel_rfl) (by kernel_rfl) (fun _ _ _ h => h) (Or.inl ⟨by rfl, ?y5x6⟩) hd ?_
        case y5x6 => (intro w hSw; (try dsimp only at hSw); go_simp; try with_reducible rfl)
        simp only [Act.put, List.setIfInBounds_toArray, List.set_cons_zero, List.set_cons_succ, List.getElem_toArray, List.getElem_cons_zero, List.getElem_cons_succ]
        refine wpAnyH_take (i := 6) (v := ?v6x7) rfl (by kernel_rfl) (by kernel_rfl) (by kernel_rfl) (fun _ _ _ h => h) (Or.inl ⟨by rfl, ?y6x7⟩) hd ?_
        case y6x7 => (intro w hSw; (try dsimp only at hSw); go_simp; try with_reducible rfl)
        simp only [Act.put, List.setIfInBounds_toArray, List.set_cons_zero, List.set_cons_succ, List.getElem_toArray, List.getElem_cons_zero, List.getElem_cons_succ]
        refine wpAnyH_take (i := 7) (v := ?v7x8) rfl (by kernel_rfl) (by kernel_rfl) (by kernel_rfl) (fun _ _ _ h => h) (Or.inl ⟨by rfl, ?y7x8⟩) hd ?_
        case y7x8 => (intro w hSw; (try dsimp only at hSw); go_simp; try with_reducible rfl)
        simp only [Act.put, List.setIfInBounds_toArray, List.set_cons_zero, List.set_cons_succ, List.getElem_toArray, List.getElem_cons_zero, List.getElem_cons_succ]
        refine wpAnyH_take (i := 8) (v := ?v8x9) rfl (by kernel_rfl) (by kernel_rfl) (by kernel_rfl) (fun _ _ _ h => h) (Or.inl ⟨by rfl, ?y8x9⟩) hd ?_
        case y8x9 => (intro w hSw; (try dsimp only at hSw); go_simp; try with_reducible rfl)
        simp only [Act.put, List.setIfInBounds_toArray, List.set_cons_zero, List.set_cons_succ, List.getElem_toArray, List.getElem_cons_zero, List.getElem_cons_succ]
        refine wpAnyH_take (i := 9) (v := ?v9x10) rfl (by kernel_rfl) (by kernel_rfl) (by kernel_rfl) (fun _ _ _ h => h) (Or.inl ⟨by rfl, ?y9x10⟩) hd ?_
        case y9x10 => (intro w hSw; (try dsimp only at hSw); go_simp; try with_reducible rfl)
        simp only [Act.put, List.setIfInBounds_toArray, List.set_cons_zero, List.set_cons_succ, List.getElem_toArray, List.getElem_cons_zero, List.getElem_cons_succ]
        refine wpAnyH_take (i := 10) (v := ?v10x11) rfl (by kernel_rfl) (by kernel_rfl) (by kernel_rfl) (fun _ _ _ h => h) (Or.inl ⟨by rfl, ?y10x11⟩) hd ?_
        case y10x11 => (intro w hSw; (try dsimp only at hSw); go_simp; try with_reducible rfl)
        simp only [Act.put, List.setIfInBounds_toArray, List.set_cons_zero, List.set_cons_succ, List.getElem_toArray, List.getElem_cons_zero, List.getElem_cons_succ]
        refine wpAnyH_take (i := 11) (v := ?v11x12) rfl (by kernel_rfl) (by kernel_rfl) (by kernel_rfl) (fun _ _ _ h => h) (Or.inl ⟨by rfl, ?y11x12⟩) hd ?_
        case y11x12 => (intro w hSw; (try dsimp only at hSw); go_simp; try with_reducible rfl)
        simp only [Act.put, List.setIfInBounds_toArray, List.set_cons_zero, List.set_cons_succ, List.getElem_toArray, List.getElem_cons_zero, List.getElem_cons_succ]
        refine wpAnyH_take (i := 12) (v := ?v12x13) rfl (by kernel_rfl) (by kernel_rfl) (by kernel_rfl) (fun _ _ _ h => h) (Or.inl ⟨by rfl, ?y12x13⟩) hd ?_
        case y12x13 => (intro w hSw; (try dsimp only at hSw); go_simp; try with_reducible rfl)
        simp only [Act.put, List.setIfInBounds_toArray, List.set_cons_zero, List.set_cons_succ, List.getElem_toArray, List.getElem_cons_zero, List.getElem_cons_succ]
        refine wpAnyH_take (i := 13) (v := ?v13x14) rfl (by kernel_rfl) (by kernel_rfl) (by kernel_rfl) (fun _ _ _ h => h) (Or.inl ⟨by rfl, ?y13x14⟩) hd ?_
        case y13x14 => (intro w hSw; (try dsimp only at hSw); go_simp; try with_reducible rfl)
        simp only [Act.put, List.setIfInBounds_toArray, List.set_cons_zero, List.set_cons_succ, List.getElem_toArray, List.getElem_cons_zero, List.getElem_cons_succ]
        refine wpAnyH_take (i := 14) (v := ?v14x15) rfl (by kernel_rfl) (by kernel_rfl) (by kernel_rfl) (fun _ _ _ h => h) (Or.inl ⟨by rfl, ?y14x15⟩) hd ?_
        case y14x15 => (intro w hSw; (try dsimp only at hSw); go_simp; try with_reducible rfl)
        simp only [Act.put, List.setIfInBounds_toArray, List.set_cons_zero, List.set_cons_succ, List.getElem_toArray, List.getElem_cons_zero, List.getElem_cons_succ]
        obtain ⟨u0, hu0⟩ : ∃ x, wr.drew = x := ⟨_, rfl⟩
        have bw : Below wr.heap.size wr u0 := by rw [← hu0]; exact Reading.below ⟨1, rfl⟩
        simp only [hu0]
        clear hu0
        refine wpAnyH_ready (rs := [15, 16]) (by kernel_rfl) (by simp) ?_
        refine AllReadyH.cons rfl (fun K hK => ?_) (AllReadyH.cons rfl (fun K hK => ?_) AllReadyH.nil)
        · go_simp
          refine hK.out _ _ (HS.out _ (up1 bw _)) (fun _ => ?_)
          clear hK K
          try simp only [Act.put, List.setIfInBounds_toArray, List.set_cons_zero, List.set_cons_succ, List.getElem_toArray, List.getElem_cons_zero, List.getElem_cons_succ]
          obtain ⟨u1, hn⟩ : ∃ x, u0.alloc zwit = x := ⟨_, rfl⟩
          obtain ⟨g1, hg⟩ : ∃ x, u0.heap.size = x := ⟨_, rfl⟩
          have z1 : Zw u1 g1 := by rw [← hn, ← hg]; exact heap_alloc_new u0 _
          have bg1 : wr.heap.size ≤ g1 := by rw [← hg]; exact bw.size
          have bn : Below u0.heap.size u0 u1 := by rw [← hn]; exact (Below.refl _ u0).alloc (Nat.le_refl _) _
          have bw := up2 bw bn
          simp only [hn, hg]
          clear hn hg bn
          refine wpAnyH_ready (rs := [16]) (by kernel_rfl) (by simp) ?_
          refine AllReadyH.cons rfl (fun K hK => ?_) AllReadyH.nil
          go_simp
          refine hK.out _ _ (HS.out _ (up1 bw _)) (fun _ => ?_)
          clear hK K
          try simp only [Act.put, List.setIfInBounds_toArray, List.set_cons_zero, List.set_cons_succ, List.getElem_toArray, List.getElem_cons_zero, List.getElem_cons_succ]
          obtain ⟨u2, hn⟩ : ∃ x, u1.alloc zwit = x := ⟨_, rfl⟩
          obtain ⟨g2, hg⟩ : ∃ x, u1.heap.size = x := ⟨_, rfl⟩
          have z2 : Zw u2 g2 := by rw [← hn, ← hg]; exact heap_alloc_new u1 _
          have bg2 : wr.heap.size ≤ g2 := by rw [← hg]; exact bw.size
          have bn : Below u1.heap.size u1 u2 := by rw [← hn]; exact (Below.refl _ u1).alloc (Nat.le_refl _) _
          have ne : g1 ≠ g2 := by have := heap_lt z1; omega
          have z1 := z1.up bn
          have bw := up2 bw bn
          simp only [hn, hg]
          clear hn hg bn
          have PR := Lib.hid (⟨bw, z1, z2, bg1, bg2, ne⟩ : PreW wr u2 g1 g2)
          obtain ⟨f1, f2, f3⟩ := z1.facts
          obtain ⟨f4, f5, f6⟩ := z1.cells
          clear z1 z2 ne
          refine wpAnyH_ready (rs := [17]) (by kernel_rfl) (by simp) ?_
          refine AllReadyH.cons rfl (fun K hK => ?_) AllReadyH.nil
          go_simp
          refine hK.out _ _ (HS.out _ (below_set3 bw bg1 _ _ _)) (fun _ => ?_)
          clear hK K
          try simp only [Act.put, List.setIfInBounds_toArray, List.set_cons_zero, List.set_cons_succ, List.getElem_toArray, List.getElem_cons_zero, List.getElem_cons_succ]
          obtain ⟨wm, hwm⟩ : ∃ x, (((u2.setCell ⟨g1, 0, none⟩ (.int .i64 x0)).setCell ⟨g1, 1, none⟩ (.int .i64 x1)).setCell ⟨g1, 2, none⟩ (.int .i64 x2)) = x := ⟨_, rfl⟩
          have PM := Lib.hid (PR.out.mid x0 x1 x2)
          rw [hwm] at PM
          simp only [hwm]
          clear hwm f1 f2 f3 f4 f5 f6
          obtain ⟨f1, f2, f3⟩ := PM.out.z2.facts
          obtain ⟨f4, f5, f6⟩ := PM.out.z2.cells
          refine wpAnyH_ready (rs := [18]) (by kernel_rfl) (by simp) ?_
          refine AllReadyH.cons rfl (fun K hK => ?_) AllReadyH.nil
          go_simp
          refine hK.out _ _ (HS.out _ (below_set3 PM.out.below bg2 _ _ _)) (fun _ => ?_)
          clear hK K
          try simp only [Act.put, List.setIfInBounds_toArray, List.set_cons_zero, List.set_cons_succ, List.getElem_toArray, List.getElem_cons_zero, List.getElem_cons_succ]
          obtain ⟨we, hwe⟩ : ∃ x, (((wm.setCell ⟨g2, 0, none⟩ (.int .i64 y0)).setCell ⟨g2, 1, none⟩ (.int .i64 y1')).setCell ⟨g2, 2, none⟩ (.int .i64 y2)) = x := ⟨_, rfl⟩
          have DU := Lib.hid (PM.out.fin y0 y1' y2)
          rw [hwe] at DU
          simp only [hwe]
          have n1 : g1 ≠ q5 := by have := HQ5.out; omega
          have n2 : g2 ≠ q5 := by have := HQ5.out; omega
          clear hwe PM PR f1 f2 f3 f4 f5 f6 bw bg1 bg2
          refine wpAnyH_done (by kernel_rfl) ?_ _
          refine NoPanic.normal ?_
          have SW0 := Lib.hid (⟨OJ.out.up DU.out.below, DU.out.h1, DU.out.h2, n1, n2⟩ : SwS wa we g9 (k : Int) q5 c7 l.length lt g1 g2 (x0, x1, x2) (y0, y1', y2))
          have SC0 := Lib.hid (SW0.out.up (Reading.below ⟨1, rfl⟩ : Below we.heap.size we we.drew))
          clear DU n1 n2 SW0
          go_wp2_with fail
          refine wp_region_noPanic ?_
          refine wp_region_held_drew (S := fun w' => w'.cell? ⟨g9, 1, none⟩ = some (.slice (some ⟨q5, 0, none⟩) l.length c7) ∧ w'.cell? ⟨g1, 0, none⟩ = some (.int .i64 x0) ∧ w'.cell? ⟨g1, 1, none⟩ = some (.int .i64 x1) ∧ w'.cell? ⟨g1, 2, none⟩ = some (.int .i64 x2) ∧ w'.cell? ⟨g2, 0, none⟩ = some (.int .i64 y0) ∧ w'.cell? ⟨g2, 1, none⟩ = some (.int .i64 y1') ∧ w'.cell? ⟨g2, 2, none⟩ = some (.int .i64 y2)) (by kernel_rfl) SC0.out.facts (fun _ => ?_)
          refine wpAnyH_take (i := 0) (v := ?v0z1) rfl (by kernel_rfl) (by kernel_rfl) (by kernel_rfl) (fun _ _ _ h => h) (Or.inl ⟨by rfl, ?y0z1⟩) SC0.out.facts ?_
          case y0z1 => (intro w hSw; (try dsimp only at hSw); go_simp; try with_reducible rfl)
          simp only [Act.put, List.setIfInBounds_toArray, List.set_cons_zero, List.set_cons_succ, List.getElem_toArray, List.getElem_cons_zero]
          refine wpAnyH_take (i := 1) (v := ?v1z2) rfl (by kernel_rfl) (by kernel_rfl) (by kernel_rfl) (fun _ _ _ h => h) (Or.inl ⟨by rfl, ?y1z2⟩) SC0.out.facts ?_
          case y1z2 => (intro w hSw; (try dsimp only at hSw); go_simp; try with_reducible rfl)
          simp only [Act.put, List.setIfInBounds_toArray, List.set_cons_zero, List.set_cons_succ, List.getElem_toArray, List.getElem_cons_zero, List.getElem_cons_succ]
          refine wpAnyH_take (i := 2) (v := ?v2z3) rfl (by kernel_rfl) (by kernel_rfl) (by kernel_rfl) (fun _ _ _ h => h) (Or.inl ⟨by rfl, ?y2z3⟩) SC0.out.facts ?_
          case y2z3 => (intro w hSw; (try dsimp only at hSw); go_simp; try with_reducible rfl)
          simp only [Act.put, List.setIfInBounds_toArray, List.set_cons_zero, List.set_cons_succ, List.getElem_toArray, List.getElem_cons_zero, List.getElem_cons_succ]
          refine wpAnyH_take (i := 3) (v := ?v3z4) rfl (by kernel_rfl) (by kernel_rfl) (by kernel_rfl) (fun _ _ _ h => h) (Or.inl ⟨by rfl, ?y3z4⟩) SC0.out.facts ?_
          case y3z4 => (intro w hSw; (try dsimp only at hSw); go_simp; try with_reducible rfl)
          simp only [Act.put, List.setIfInBounds_toArray, List.set_cons_zero, List.set_cons_succ, List.getElem_toArray, List.getElem_cons_zero, List.getElem_cons_succ]
          refine wpAnyH_take (i := 4) (v := ?v4z5) rfl (by kernel_rfl) (by kernel_rfl) (by kernel_rfl) (fun _ _ _ h => h) (Or.inl ⟨by rfl, ?y4z5⟩) SC0.out.facts ?_
          case y4z5 => (intro w hSw; (try dsimp only at hSw); go_simp; try with_reducible rfl)
          simp only [Act.put, List.setIfInBounds_toArray, List.set_cons_zero, List.set_cons_succ, List.getElem_toArray, List.getElem_cons_zero, List.getElem_cons_succ]
          refine wpAnyH_take (i := 5) (v := ?v5z6) rfl (by kernel_rfl) (by kernel_rfl) (by kernel_rfl) (fun _ _ _ h => h) (Or.inl ⟨by rfl, ?y5z6⟩) SC0.out.facts ?_
          case y5z6 => (intro w hSw; (try dsimp only at hSw); go_simp; try with_reducible rfl)
          simp only [Act.put, List.setIfInBounds_toArray, List.set_cons_zero, List.set_cons_succ, List.getElem_toArray, List.getElem_cons_zero, List.getElem_cons_succ]
          refine wpAnyH_take (i := 6) (v := ?v6z7) rfl (by kernel_rfl) (by kernel_rfl) (by kernel_rfl) (fun _ _ _ h => h) (Or.inl ⟨by rfl, ?y6z7⟩) SC0.out.facts ?_
          case y6z7 => (intro w hSw; (try dsimp only at hSw); go_simp; try with_reducible rfl)
          simp only [Act.put, List.setIfInBounds_toArray, List.set_cons_zero, List.set_cons_succ, List.getElem_toArray, List.getElem_cons_zero, List.getElem_cons_succ]
          refine wpAnyH_take (i := 7) (v := ?v7z8) rfl (by kernel_rfl) (by kernel_rfl) (by kernel_rfl) (fun _ _ _ h => h) (Or.inl ⟨by rfl, ?y7z8⟩) SC0.out.facts ?_
          case y7z8 => (intro w hSw; (try dsimp only at hSw); go_simp; try with_reducible rfl)
          simp only [Act.put, List.setIfInBounds_toArray, List.set_cons_zero, List.set_cons_succ, List.getElem_toArray, List.getElem_cons_zero, List.getElem_cons_succ]
          refine wpAnyH_take (i := 8) (v := ?v8z9) rfl (by kernel_rfl) (by kernel_rfl) (by kernel_rfl) (fun _ _ _ h => h) (Or.inl ⟨by rfl, ?y8z9⟩) SC0.out.facts ?_
          case y8z9 => (intro w hSw; (try dsimp only at hSw); go_simp; try with_reducible rfl)
          simp only [Act.put, List.setIfInBounds_toArray, List.set_cons_zero, List.set_cons_succ, List.getElem_toArray, List.getElem_cons_zero, List.getElem_cons_succ]
          refine wpAnyH_take (i := 9) (v := ?v9z10) rfl (by kernel_rfl) (by kernel_rfl) (by kernel_rfl) (fun _ _ _ h => h) (Or.inl ⟨by rfl, ?y9z10⟩) SC0.out.facts ?_
          case y9z10 => (intro w hSw; (try dsimp only at hSw); go_simp; try with_reducible rfl)
          simp only [Act.put, List.setIfInBounds_toArray, List.set_cons_zero, List.set_cons_succ, List.getElem_toArray, List.getElem_cons_zero, List.getElem_cons_succ]
          refine wpAnyH_take (i := 10) (v := ?v10z11) rfl (by kernel_rfl) (by kernel_rfl) (by kernel_rfl) (fun _ _ _ h => h) (Or.inl ⟨by rfl, ?y10z11⟩) SC0.out.facts ?_
          case y10z11 => (intro w hSw; (try dsimp only at hSw); go_simp; try with_reducible rfl)
          simp only [Act.put, List.setIfInBounds_toArray, List.set_cons_zero, List.set_cons_succ, List.getElem_toArray, List.getElem_cons_zero, List.getElem_cons_succ]
          refine wpAnyH_take (i := 11) (v := ?v11z12) rfl (by kernel_rfl) (by kernel_rfl) (by kernel_rfl) (fun _ _ _ h => h) (Or.inl ⟨by rfl, ?y11z12⟩) SC0.out.facts ?_
          case y11z12 => (intro w hSw; (try dsimp only at hSw); go_simp; try with_reducible rfl)
          simp only [Act.put, List.setIfInBounds_toArray, List.set_cons_zero, List.set_cons_succ, List.getElem_toArray, List.getElem_cons_zero, List.getElem_cons_succ]
          refine wpAnyH_take (i := 13) (v := ?v13z13) rfl (by kernel_rfl) (by kernel_rfl) (by kernel_rfl) (fun _ _ _ h => h) (Or.inl ⟨by rfl, ?y13z13⟩) SC0.out.facts ?_
          case y13z13 => (intro w hSw; (try dsimp only at hSw); go_simp; try with_reducible rfl)
          simp only [Act.put, List.setIfInBounds_toArray, List.set_cons_zero, List.set_cons_succ, List.getElem_toArray, List.getElem_cons_zero, List.getElem_cons_succ]
          refine wpAnyH_ready (rs := [12]) (by kernel_rfl) (by simp) ?_
          refine AllReadyH.cons rfl (fun K hK => ?_) AllReadyH.nil
          rw [if_pos (by rfl)]
          go_wp2_with fail
          refine (KT1.out _).mono ?_
          rintro e v1 ⟨rfl, b91⟩
          have SC1 := Lib.hid (SC0.out.up b91)
          clear b91
          go_wp2_with fail
          refine hK.out _ _ SC1.out.facts (fun _ => ?_)
          clear hK K
          try simp only [Act.put, List.setIfInBounds_toArray, List.set_cons_zero, List.set_cons_succ, List.getElem_toArray, List.getElem_cons_zero, List.getElem_cons_succ]
          refine wpAnyH_ready (rs := [14]) (by kernel_rfl) (by simp) ?_
          refine AllReadyH.cons rfl (fun K hK => ?_) AllReadyH.nil
          rw [if_pos (by rfl)]
          go_wp2_with fail
          refine (KT2.out _).mono ?_
          rintro e v2 ⟨rfl, b92⟩
          have SC2 := Lib.hid (SC1.out.up b92)
          clear b92
          go_wp2_with fail
          refine hK.out _ _ SC2.out.facts (fun _ => ?_)
          clear hK K
          try simp only [Act.put, List.setIfInBounds_toArray, List.set_cons_zero, List.set_cons_succ, List.getElem_toArray, List.getElem_cons_zero, List.getElem_cons_succ]
          refine wpAnyH_take (i := 15) (v := ?v15z14) rfl (by kernel_rfl) (by kernel_rfl) (by kernel_rfl) (fun _ _ _ h => h) (Or.inl ⟨by rfl, ?y15z14⟩) SC2.out.facts ?_
          case y15z14 => (intro w hSw; (try dsimp only at hSw); go_simp; try with_reducible rfl)
          simp only [Act.put, List.setIfInBounds_toArray, List.set_cons_zero, List.set_cons_succ, List.getElem_toArray, List.getElem_cons_zero, List.getElem_cons_succ]
          refine wpAnyH_ready (rs := [16]) (by kernel_rfl) (by simp) ?_
          refine AllReadyH.cons rfl (fun K hK => ?_) AllReadyH.nil
          obtain ⟨m0, m1, m2, ⟨ya, za⟩, ⟨yb, zb⟩, ⟨yc, zc⟩⟩ := own_cells9 SC2.out.one.ot hjn
          have SD1 := Lib.hid (SC2.out.set3 hjn (y1', y2, y0))
          go_simp
          refine hK.out _ _ SD1.out.facts (fun _ => ?_)
          clear hK K
          try simp only [Act.put, List.setIfInBounds_toArray, List.set_cons_zero, List.set_cons_succ, List.getElem_toArray, List.getElem_cons_zero, List.getElem_cons_succ]
          obtain ⟨v3, hv3⟩ : ∃ x, (((v2.setCell ⟨q5, j * 3, none⟩ (.int .i64 y1')).setCell ⟨q5, j * 3 + 1, none⟩ (.int .i64 y2)).setCell ⟨q5, j * 3 + 2, none⟩ (.int .i64 y0)) = x := ⟨_, rfl⟩
          simp only [hv3]
          have SD2 := Lib.hid (show SwS wa v3 g9 (k : Int) q5 c7 l.length (lt.set j (y1', y2, y0)) g1 g2 (x0, x1, x2) (y0, y1', y2) by rw [← hv3]; exact SD1.out)
          clear hv3 ya za yb zb yc zc SD1
          refine wpAnyH_take (i := 17) (v := ?v17z15) rfl (by kernel_rfl) (by kernel_rfl) (by kernel_rfl) (fun _ _ _ h => h) (Or.inl ⟨by rfl, ?y17z15⟩) SD2.out.facts ?_
          case y17z15 => (intro w hSw; (try dsimp only at hSw); go_simp; try with_reducible rfl)
          simp only [Act.put, List.setIfInBounds_toArray, List.set_cons_zero, List.set_cons_succ, List.getElem_toArray, List.getElem_cons_zero, List.getElem_cons_succ]
          refine wpAnyH_ready (rs := [18]) (by kernel_rfl) (by simp) ?_
          refine AllReadyH.cons rfl (fun K hK => ?_) AllReadyH.nil
          obtain ⟨m0, m1, m2, ⟨ya, za⟩, ⟨yb, zb⟩, ⟨yc, zc⟩⟩ := own_cells9 SD2.out.one.ot hmn
          have SD3 := Lib.hid (SD2.out.set3 hmn (x2, x0, x1))
          go_simp
          refine hK.out _ _ SD3.out.facts (fun _ => ?_)
          clear hK K
          try simp only [Act.put, List.setIfInBounds_toArray, List.set_cons_zero, List.set_cons_succ, List.getElem_toArray, List.getElem_cons_zero, List.getElem_cons_succ]
          have NF := Lib.hid SD3.out.one
          clear ya za yb zb yc zc SD3 SD2
          refine wpAnyH_done (by kernel_rfl) ?_ _
          refine NoPanic.normal ?_
          go_wp2_with fail
          exact ⟨⟨j + 1, by omega, by go_num, by rw [← HSK.out]; exact NF.out⟩, by simp [intOf]; omega⟩
        · go_simp
          refine hK.out _ _ (HS.out _ (up1 bw _)) (fun _ => ?_)
          clear hK K
          try simp only [Act.put, List.setIfInBounds_toArray, List.set_cons_zero, List.set_cons_succ, List.getElem_toArray, List.getElem_cons_zero, List.getElem_cons_succ]
          obtain ⟨u1, hn⟩ : ∃ x, u0.alloc zwit = x := ⟨_, rfl⟩
          obtain ⟨g2, hg⟩ : ∃ x, u0.heap.size = x := ⟨_, rfl⟩
          have z2 : Zw u1 g2 := by rw [← hn, ← hg]; exact heap_alloc_new u0 _
          have bg2 : wr.heap.size ≤ g2 := by rw [← hg]; exact bw.size
          have bn : Below u0.heap.size u0 u1 := by rw [← hn]; exact (Below.refl _ u0).alloc (Nat.le_refl _) _
          have bw := up2 bw bn
          simp only [hn, hg]
          clear hn hg bn
          refine wpAnyH_ready (rs := [15]) (by kernel_rfl) (by simp) ?_
          refine AllReadyH.cons rfl (fun K hK => ?_) AllReadyH.nil
          go_simp
          refine hK.out _ _ (HS.out _ (up1 bw _)) (fun _ => ?_)
          clear hK K
          try simp only [Act.put, List.setIfInBounds_toArray, List.set_cons_zero, List.set_cons_succ, List.getElem_toArray, List.getElem_cons_zero, List.getElem_cons_succ]
          obtain ⟨u2, hn⟩ : ∃ x, u1.alloc zwit = x := ⟨_, rfl⟩
          obtain ⟨g1, hg⟩ : ∃ x, u1.heap.size = x := ⟨_, rfl⟩
          have z1 : Zw u2 g1 := by rw [← hn, ← hg]; exact heap_alloc_new u1 _
          have bg1 : wr.heap.size ≤ g1 := by rw [← hg]; exact bw.size
          have bn : Below u1.heap.size u1 u2 := by rw [← hn]; exact (Below.refl _ u1).alloc (Nat.le_refl _) _
          have ne : g1 ≠ g2 := by have := heap_lt z2; omega
          have z2 := z2.up bn
          have bw := up2 bw bn
          simp only [hn, hg]
          clear hn hg bn
          have PR := Lib.hid (⟨bw, z1, z2, bg1, bg2, ne⟩ : PreW wr u2 g1 g2)
          obtain ⟨f1, f2, f3⟩ := z1.facts
          obtain ⟨f4, f5, f6⟩ := z1.cells
          clear z1 z2 ne
          refine wpAnyH_ready (rs := [17]) (by kernel_rfl) (by simp) ?_
          refine AllReadyH.cons rfl (fun K hK => ?_) AllReadyH.nil
          go_simp
          refine hK.out _ _ (HS.out _ (below_set3 bw bg1 _ _ _)) (fun _ => ?_)
          clear hK K
          try simp only [Act.put, List.setIfInBounds_toArray, List.set_cons_zero, List.set_cons_succ, List.getElem_toArray, List.getElem_cons_zero, List.getElem_cons_succ]
          obtain ⟨wm, hwm⟩ : ∃ x, (((u2.setCell ⟨g1, 0, none⟩ (.int .i64 x0)).setCell ⟨g1, 1, none⟩ (.int .i64 x1)).setCell ⟨g1, 2, none⟩ (.int .i64 x2)) = x := ⟨_, rfl⟩
          have PM := Lib.hid (PR.out.mid x0 x1 x2)
          rw [hwm] at PM
          simp only [hwm]
          clear hwm f1 f2 f3 f4 f5 f6
          obtain ⟨f1, f2, f3⟩ := PM.out.z2.facts
          obtain ⟨f4, f5, f6⟩ := PM.out.z2.cells
          refine wpAnyH_ready (rs := [18]) (by kernel_rfl) (by simp) ?_
          refine AllReadyH.cons rfl (fun K hK => ?_) AllReadyH.nil
          go_simp
          refine hK.out _ _ (HS.out _ (below_set3 PM.out.below bg2 _ _ _)) (fun _ => ?_)
          clear hK K
          try simp only [Act.put, List.setIfInBounds_toArray, List.set_cons_zero, List.set_cons_succ, List.getElem_toArray, List.getElem_cons_zero, List.getElem_cons_succ]
          obtain ⟨we, hwe⟩ : ∃ x, (((wm.setCell ⟨g2, 0, none⟩ (.int .i64 y0)).setCell ⟨g2, 1, none⟩ (.int .i64 y1')).setCell ⟨g2, 2, none⟩ (.int .i64 y2)) = x := ⟨_, rfl⟩
          have DU := Lib.hid (PM.out.fin y0 y1' y2)
          rw [hwe] at DU
          simp only [hwe]
          have n1 : g1 ≠ q5 := by have := HQ5.out; omega
          have n2 : g2 ≠ q5 := by have := HQ5.out; omega
          clear hwe PM PR f1 f2 f3 f4 f5 f6 bw bg1 bg2
          refine wpAnyH_done (by kernel_rfl) ?_ _
          refine NoPanic.normal ?_
          have SW0 := Lib.hid (⟨OJ.out.up DU.out.below, DU.out.h1, DU.out.h2, n1, n2⟩ : SwS wa we g9 (k : Int) q5 c7 l.length lt g1 g2 (x0, x1, x2) (y0, y1', y2))
          have SC0 := Lib.hid (SW0.out.up (Reading.below ⟨1, rfl⟩ : Below we.heap.size we we.drew))
          clear DU n1 n2 SW0
          go_wp2_with fail
          refine wp_region_noPanic ?_
          refine wp_region_held_drew (S := fun w' => w'.cell? ⟨g9, 1, none⟩ = some (.slice (some ⟨q5, 0, none⟩) l.length c7) ∧ w'.cell? ⟨g1, 0, none⟩ = some (.int .i64 x0) ∧ w'.cell? ⟨g1, 1, none⟩ = some (.int .i64 x1) ∧ w'.cell? ⟨g1, 2, none⟩ = some (.int .i64 x2) ∧ w'.cell? ⟨g2, 0, none⟩ = some (.int .i64 y0) ∧ w'.cell? ⟨g2, 1, none⟩ = some (.int .i64 y1') ∧ w'.cell? ⟨g2, 2, none⟩ = some (.int .i64 y2)) (by kernel_rfl) SC0.out.facts (fun _ => ?_)
          refine wpAnyH_take (i := 0) (v := ?v0z1) rfl (by kernel_rfl) (by kernel_rfl) (by kernel_rfl) (fun _ _ _ h => h) (Or.inl ⟨by rfl, ?y0z1⟩) SC0.out.facts ?_
          case y0z1 => (intro w hSw; (try dsimp only at hSw); go_simp; try with_reducible rfl)
          simp only [Act.put, List.setIfInBounds_toArray, List.set_cons_zero, List.set_cons_succ, List.getElem_toArray, List.getElem_cons_zero]
          refine wpAnyH_take (i := 1) (v := ?v1z2) rfl (by kernel_rfl) (by kernel_rfl) (by kernel_rfl) (fun _ _ _ h => h) (Or.inl ⟨by rfl, ?y1z2⟩) SC0.out.facts ?_
          case y1z2 => (intro w hSw; (try dsimp only at hSw); go_simp; try with_reducible rfl)
          simp only [Act.put, List.setIfInBounds_toArray, List.set_cons_zero, List.set_cons_succ, List.getElem_toArray, List.getElem_cons_zero, List.getElem_cons_succ]
          refine wpAnyH_take (i := 2) (v := ?v2z3) rfl (by kernel_rfl) (by kernel_rfl) (by kernel_rfl) (fun _ _ _ h => h) (Or.inl ⟨by rfl, ?y2z3⟩) SC0.out.facts ?_
          case y2z3 => (intro w hSw; (try dsimp only at hSw); go_simp; try with_reducible rfl)
          simp only [Act.put, List.setIfInBounds_toArray, List.set_cons_zero, List.set_cons_succ, List.getElem_toArray, List.getElem_cons_zero, List.getElem_cons_succ]
          refine wpAnyH_take (i := 3) (v := ?v3z4) rfl (by kernel_rfl) (by kernel_rfl) (by kernel_rfl) (fun _ _ _ h => h) (Or.inl ⟨by rfl, ?y3z4⟩) SC0.out.facts ?_
          case y3z4 => (intro w hSw; (try dsimp only at hSw); go_simp; try with_reducible rfl)
          simp only [Act.put, List.setIfInBounds_toArray, List.set_cons_zero, List.set_cons_succ, List.getElem_toArray, List.getElem_cons_zero, List.getElem_cons_succ]
          refine wpAnyH_take (i := 4) (v := ?v4z5) rfl (by kernel_rfl) (by kernel_rfl) (by kernel_rfl) (fun _ _ _ h => h) (Or.inl ⟨by rfl, ?y4z5⟩) SC0.out.facts ?_
          case y4z5 => (intro w hSw; (try dsimp only at hSw); go_simp; try with_reducible rfl)
          simp only [Act.put, List.setIfInBounds_toArray, List.set_cons_zero, List.set_cons_succ, List.getElem_toArray, List.getElem_cons_zero, List.getElem_cons_succ]
          refine wpAnyH_take (i := 5) (v := ?v5z6) rfl (by kernel_rfl) (by kernel_rfl) (by kernel_rfl) (fun _ _ _ h => h) (Or.inl ⟨by rfl, ?y5z6⟩) SC0.out.facts ?_
          case y5z6 => (intro w hSw; (try dsimp only at hSw); go_simp; try with_reducible rfl)
          simp only [Act.put, List.setIfInBounds_toArray, List.set_cons_zero, List.set_cons_succ, List.getElem_toArray, List.getElem_cons_zero, List.getElem_cons_succ]
          refine wpAnyH_take (i := 6) (v := ?v6z7) rfl (by kernel_rfl) (by kernel_rfl) (by kernel_rfl) (fun _ _ _ h => h) (Or.inl ⟨by rfl, ?y6z7⟩) SC0.out.facts ?_
          case y6z7 => (intro w hSw; (try dsimp only at hSw); go_simp; try with_reducible rfl)
          simp only [Act.put, List.setIfInBounds_toArray, List.set_cons_zero, List.set_cons_succ, List.getElem_toArray, List.getElem_cons_zero, List.getElem_cons_succ]
          refine wpAnyH_take (i := 7) (v := ?v7z8) rfl (by kernel_rfl) (by kernel_rfl) (by kernel_rfl) (fun _ _ _ h => h) (Or.inl ⟨by rfl, ?y7z8⟩) SC0.out.facts ?_
          case y7z8 => (intro w hSw; (try dsimp only at hSw); go_simp; try with_reducible rfl)
          simp only [Act.put, List.setIfInBounds_toArray, List.set_cons_zero, List.set_cons_succ, List.getElem_toArray, List.getElem_cons_zero, List.getElem_cons_succ]
          refine wpAnyH_take (i := 8) (v := ?v8z9) rfl (by kernel_rfl) (by kernel_rfl) (by kernel_rfl) (fun _ _ _ h => h) (Or.inl ⟨by rfl, ?y8z9⟩) SC0.out.facts ?_
          case y8z9 => (intro w hSw; (try dsimp only at hSw); go_simp; try with_reducible rfl)
          simp only [Act.put, List.setIfInBounds_toArray, List.set_cons_zero, List.set_cons_succ, List.getElem_toArray, List.getElem_cons_zero, List.getElem_cons_succ]
          refine wpAnyH_take (i := 9) (v := ?v9z10) rfl (by kernel_rfl) (by kernel_rfl) (by kernel_rfl) (fun _ _ _ h => h) (Or.inl ⟨by rfl, ?y9z10⟩) SC0.out.facts ?_
          case y9z10 => (intro w hSw; (try dsimp only at hSw); go_simp; try with_reducible rfl)
          simp only [Act.put, List.setIfInBounds_toArray, List.set_cons_zero, List.set_cons_succ, List.getElem_toArray, List.getElem_cons_zero, List.getElem_cons_succ]
          refine wpAnyH_take (i := 10) (v := ?v10z11) rfl (by kernel_rfl) (by kernel_rfl) (by kernel_rfl) (fun _ _ _ h => h) (Or.inl ⟨by rfl, ?y10z11⟩) SC0.out.facts ?_
          case y10z11 => (intro w hSw; (try dsimp only at hSw); go_simp; try with_reducible rfl)
          simp only [Act.put, List.setIfInBounds_toArray, List.set_cons_zero, List.set_cons_succ, List.getElem_toArray, List.getElem_cons_zero, List.getElem_cons_succ]
          refine wpAnyH_take (i := 11) (v := ?v11z12) rfl (by kernel_rfl) (by kernel_rfl) (by kernel_rfl) (fun _ _ _ h => h) (Or.inl ⟨by rfl, ?y11z12⟩) SC0.out.facts ?_
          case y11z12 => (intro w hSw; (try dsimp only at hSw); go_simp; try with_reducible rfl)
          simp only [Act.put, List.setIfInBounds_toArray, List.set_cons_zero, List.set_cons_succ, List.getElem_toArray, List.getElem_cons_zero, List.getElem_cons_succ]
          refine wpAnyH_take (i := 13) (v := ?v13z13) rfl (by kernel_rfl) (by kernel_rfl) (by kernel_rfl) (fun _ _ _ h => h) (Or.inl ⟨by rfl, ?y13z13⟩) SC0.out.facts ?_
          case y13z13 => (intro w hSw; (try dsimp only at hSw); go_simp; try with_reducible rfl)
          simp only [Act.put, List.setIfInBounds_toArray, List.set_cons_zero, List.set_cons_succ, List.getElem_toArray, List.getElem_cons_zero, List.getElem_cons_succ]
          refine wpAnyH_ready (rs := [12]) (by kernel_rfl) (by simp) ?_
          refine AllReadyH.cons rfl (fun K hK => ?_) AllReadyH.nil
          rw [if_pos (by rfl)]
          go_wp2_with fail
          refine (KT1.out _).mono ?_
          rintro e v1 ⟨rfl, b91⟩
          have SC1 := Lib.hid (SC0.out.up b91)
          clear b91
          go_wp2_with fail
          refine hK.out _ _ SC1.out.facts (fun _ => ?_)
          clear hK K
          try simp only [Act.put, List.setIfInBounds_toArray, List.set_cons_zero, List.set_cons_succ, List.getElem_toArray, List.getElem_cons_zero, List.getElem_cons_succ]
          refine wpAnyH_ready (rs := [14]) (by kernel_rfl) (by simp) ?_
          refine AllReadyH.cons rfl (fun K hK => ?_) AllReadyH.nil
          rw [if_pos (by rfl)]
          go_wp2_with fail
          refine (KT2.out _).mono ?_
          rintro e v2 ⟨rfl, b92⟩
          have SC2 := Lib.hid (SC1.out.up b92)
          clear b92
          go_wp2_with fail
          refine hK.out _ _ SC2.out.facts (fun _ => ?_)
          clear hK K
          try simp only [Act.put, List.setIfInBounds_toArray, List.set_cons_zero, List.set_cons_succ, List.getElem_toArray, List.getElem_cons_zero, List.getElem_cons_succ]
          refine wpAnyH_take (i := 15) (v := ?v15z14) rfl (by kernel_rfl) (by kernel_rfl) (by kernel_rfl) (fun _ _ _ h => h) (Or.inl ⟨by rfl, ?y15z14⟩) SC2.out.facts ?_
          case y15z14 => (intro w hSw; (try dsimp only at hSw); go_simp; try with_reducible rfl)
          simp only [Act.put, List.setIfInBounds_toArray, List.set_cons_zero, List.set_cons_succ, List.getElem_toArray, List.getElem_cons_zero, List.getElem_cons_succ]
          refine wpAnyH_ready (rs := [16]) (by kernel_rfl) (by simp) ?_
          refine AllReadyH.cons rfl (fun K hK => ?_) AllReadyH.nil
          obtain ⟨m0, m1, m2, ⟨ya, za⟩, ⟨yb, zb⟩, ⟨yc, zc⟩⟩ := own_cells9 SC2.out.one.ot hjn
          have SD1 := Lib.hid (SC2.out.set3 hjn (y1', y2, y0))
          go_simp
          refine hK.out _ _ SD1.out.facts (fun _ => ?_)
          clear hK K
          try simp only [Act.put, List.setIfInBounds_toArray, List.set_cons_zero, List.set_cons_succ, List.getElem_toArray, List.getElem_cons_zero, List.getElem_cons_succ]
          obtain ⟨v3, hv3⟩ : ∃ x, (((v2.setCell ⟨q5, j * 3, none⟩ (.int .i64 y1')).setCell ⟨q5, j * 3 + 1, none⟩ (.int .i64 y2)).setCell ⟨q5, j * 3 + 2, none⟩ (.int .i64 y0)) = x := ⟨_, rfl⟩
          simp only [hv3]
          have SD2 := Lib.hid (show SwS wa v3 g9 (k : Int) q5 c7 l.length (lt.set j (y1', y2, y0)) g1 g2 (x0, x1, x2) (y0, y1', y2) by rw [← hv3]; exact SD1.out)
          clear hv3 ya za yb zb yc zc SD1
          refine wpAnyH_take (i := 17) (v := ?v17z15) rfl (by kernel_rfl) (by kernel_rfl) (by kernel_rfl) (fun _ _ _ h => h) (Or.inl ⟨by rfl, ?y17z15⟩) SD2.out.facts ?_
          case y17z15 => (intro w hSw; (try dsimp only at hSw); go_simp; try with_reducible rfl)
          simp only [Act.put, List.setIfInBounds_toArray, List.set_cons_zero, List.set_cons_succ, List.getElem_toArray, List.getElem_cons_zero, List.getElem_cons_succ]
          refine wpAnyH_ready (rs := [18]) (by kernel_rfl) (by simp) ?_
          refine AllReadyH.cons rfl (fun K hK => ?_) AllReadyH.nil
          obtain ⟨m0, m1, m2, ⟨ya, za⟩, ⟨yb, zb⟩, ⟨yc, zc⟩⟩ := own_cells9 SD2.out.one.ot hmn
          have SD3 := Lib.hid (SD2.out.set3 hmn (x2, x0, x1))
          go_simp
          refine hK.out _ _ SD3.out.facts (fun _ => ?_)
          clear hK K
          try simp only [Act.put, List.setIfInBounds_toArray, List.set_cons_zero, List.set_cons_succ, List.getElem_toArray, List.getElem_cons_zero, List.getElem_cons_succ]
          have NF := Lib.hid SD3.out.one
          clear ya za yb zb yc zc SD3 SD2
          refine wpAnyH_done (by kernel_rfl) ?_ _
          refine NoPanic.normal ?_
          go_wp2_with fail
          exact ⟨⟨j + 1, by omega, by go_num, by rw [← HSK.out]; exact NF.out⟩, by simp [intOf]; omega⟩
      obtain rfl : j = hh := by omega
      have b2 : ¬ (j : Int) < (j : Int) := by omega
      have y0 : wr.cell? ⟨g9, 0, none⟩ = some (.int .i64 (k : Int)) := by rw [cell_in hone.bx]; rfl
      obtain ⟨r, hr⟩ : ∃ r, swK L j = r := ⟨_, rfl⟩
      have SW := Lib.hid (show Surf (k : Int) r ∧ ∀ p q : Int, (∃ t ∈ r, hasE t p q) ↔ ∃ t ∈ l.map (renT ts), hasE t p q from by
        have hj2 : j = L.length / 2 := by rw [HLL.out.2]; exact HHH.out.symm
        rw [← hr, hj2]
        refine ⟨surf_sw (by rw [← HLL.out.1]; exact SFR.out), fun p q => ?_⟩
        rw [HLL.out.1]; exact has_sw)
      rw [hr] at hone
      have KQ := Lib.hid (table12_any wr (k : Int) A7 l.length c7 r (T3.of_own hone.ot))
      clear hone hr
      go_wp2_with fail
      refine KQ.out.mono ?_
      rintro e w10 ⟨b10, ⟨rfl, hno⟩ | ⟨_, gr, rfl, tabr⟩⟩
      · rcases hno with h | h
        · omega
        · exact absurd SW.out.1 h
      have BX := Lib.hid (up2 OJ.out.below b10)
      have TR := Lib.hid tabr
      have HEX := Lib.hid (fun W (b : Below w10.heap.size w10 W) => HEA.out W (up2 BX.out b))
      have HTX := Lib.hid (HTA.out.below BX.out)
      have TX := Lib.hid (TA.out.below BX.out)
      clear b10 tabr y0 y1
      go_wp2_with fail
      go_loopw [14] (TuR w10 k) (fun i _ => k - (intOf i).toNat)
      case atStart => exact ⟨Below.refl _ _, 0, Nat.zero_le _, rfl⟩
      case round =>
        obtain ⟨hb, v, hv, rfl⟩ := hrel
        have HB2 := Lib.hid hb
        obtain ⟨e0, e1⟩ := HEX.out wr hb
        clear hb
        by_cases hlt3 : v < k
        case pos =>
          have b3 : (v : Int) < (k : Int) := by omega
          have hvm : v < mt := by omega
          obtain ⟨ad, rfl, cto⟩ := (HTX.out.below HB2.out).int v hvm
          obtain ⟨f1, f2⟩ := after_ren SF.out HPM.out SW.out.1 SW.out.2 (v := (v : Int)) ⟨by omega, by omega⟩
          rw [Int.toNat_natCast] at f1 f2
          have hxin : inN (k : Int) (ts.getD v 0) := HPM.out.2.1 _ (by
            rw [List.getD_eq_getElem?_getD, List.getElem?_eq_getElem (by have := HPM.out.1; omega)]
            exact List.getElem_mem _)
          obtain ⟨x, hx⟩ : ∃ x, ts.getD v 0 = x := ⟨_, rfl⟩
          rw [hx] at cto f1 f2 hxin
          have hx0 := hxin.1
          have hx1 := hxin.2
          have SB := Lib.hid (fun W (b : Below wr.heap.size wr W) => (show W.cell? (ad.add v) = some (.int .i64 x) from (b.cell (World.block_lt_of_cell? _ _ cto)).trans cto))
          have KA := Lib.hid (fun W (b : Below wr.heap.size wr W) => bdafter_any W _ g (k : Int) l (TX.out.below (up2 HB2.out b)) (v : Int) (by omega))
          have KY := Lib.hid (fun W (b : Below wr.heap.size wr W) => bdafter_any W _ gr (k : Int) r (TR.out.below (up2 HB2.out b)) x (by omega))
          obtain ⟨z, hz⟩ : ∃ z, afterV l (v : Int) = z := ⟨_, rfl⟩
          obtain ⟨y, hy⟩ : ∃ y, afterV r x = y := ⟨_, rfl⟩
          rw [hz] at f1 f2 KA
          rw [hy] at f1 f2 KY
          have HF := Lib.hid (And.intro f1 f2)
          have bd : Below wr.heap.size wr wr.drew := Reading.below ⟨1, rfl⟩
          have hd := SB.out wr.drew bd
          have bw : Below wr.drew.heap.size wr.drew wr.drew := Below.refl _ _
          have HD := Lib.hid (fun W (b : Below wr.drew.heap.size wr.drew W) => SB.out W (up2 bd b))
          have hv0 : 0 ≤ (v : Int) := by omega
          have hvi : (v : Int) < (mt : Int) := by omega
          clear f1 f2 hz hy hx hxin cto hx0 hx1
          go_wp2_with fail
          refine wp_region_noPanic ?_
          refine wp_region_held_drew (S := fun w' => w'.cell? (ad.add v) = some (.int .i64 x)) (by kernel_rfl) hd (fun _ => ?_)
          refine wpAnyH_take (i := 0) (v := ?v0z16) rfl (by kernel_rfl) (by kernel_rfl) (by kernel_rfl) (fun _ _ _ h => h) (Or.inl ⟨by rfl, ?y0z16⟩) hd ?_
          case y0z16 => (intro w hSw; (try dsimp only at hSw); go_simp; try with_reducible rfl)
          simp only [Act.put, List.setIfInBounds_toArray, List.set_cons_zero, List.set_cons_succ, List.getElem_toArray, List.getElem_cons_zero]
          refine wpAnyH_take (i := 1) (v := ?v1z17) rfl (by kernel_rfl) (by kernel_rfl) (by kernel_rfl) (fun _ _ _ h => h) (Or.inl ⟨by rfl, ?y1z17⟩) hd ?_
          case y1z17 => (intro w hSw; (try dsimp only at hSw); go_simp; try with_reducible rfl)
          simp only [Act.put, List.setIfInBounds_toArray, List.set_cons_zero, List.set_cons_succ, List.getElem_toArray, List.getElem_cons_zero, List.getElem_cons_succ]
          refine wpAnyH_take (i := 3) (v := ?v3z18) rfl (by kernel_rfl) (by kernel_rfl) (by kernel_rfl) (fun _ _ _ h => h) (Or.inl ⟨by rfl, ?y3z18⟩) hd ?_
          case y3z18 => (intro w hSw; (try dsimp only at hSw); go_simp; try with_reducible rfl)
          simp only [Act.put, List.setIfInBounds_toArray, List.set_cons_zero, List.set_cons_succ, List.getElem_toArray, List.getElem_cons_zero, List.getElem_cons_succ]
          refine wpAnyH_take (i := 4) (v := ?v4z19) rfl (by kernel_rfl) (by kernel_rfl) (by kernel_rfl) (fun _ _ _ h => h) (Or.inl ⟨by rfl, ?y4z19⟩) hd ?_
          case y4z19 => (intro w hSw; (try dsimp only at hSw); go_simp; try with_reducible rfl)
          simp only [Act.put, List.setIfInBounds_toArray, List.set_cons_zero, List.set_cons_succ, List.getElem_toArray, List.getElem_cons_zero, List.getElem_cons_succ]
          refine wpAnyH_take (i := 5) (v := ?v5z20) rfl (by kernel_rfl) (by kernel_rfl) (by kernel_rfl) (fun _ _ _ h => h) (Or.inl ⟨by rfl, ?y5z20⟩) hd ?_
          case y5z20 => (intro w hSw; (try dsimp only at hSw); go_simp; try with_reducible rfl)
          simp only [Act.put, List.setIfInBounds_toArray, List.set_cons_zero, List.set_cons_succ, List.getElem_toArray, List.getElem_cons_zero, List.getElem_cons_succ]
          refine wpAnyH_take (i := 6) (v := ?v6z21) rfl (by kernel_rfl) (by kernel_rfl) (by kernel_rfl) (fun _ _ _ h => h) (Or.inl ⟨by rfl, ?y6z21⟩) hd ?_
          case y6z21 => (intro w hSw; (try dsimp only at hSw); go_simp; try with_reducible rfl)
          simp only [Act.put, List.setIfInBounds_toArray, List.set_cons_zero, List.set_cons_succ, List.getElem_toArray, List.getElem_cons_zero, List.getElem_cons_succ]
          refine wpAnyH_take (i := 7) (v := ?v7z22) rfl (by kernel_rfl) (by kernel_rfl) (by kernel_rfl) (fun _ _ _ h => h) (Or.inl ⟨by rfl, ?y7z22⟩) hd ?_
          case y7z22 => (intro w hSw; (try dsimp only at hSw); go_simp; try with_reducible rfl)
          simp only [Act.put, List.setIfInBounds_toArray, List.set_cons_zero, List.set_cons_succ, List.getElem_toArray, List.getElem_cons_zero, List.getElem_cons_succ]
          refine wpAnyH_ready (rs := [2]) (by kernel_rfl) (by simp) ?_
          refine AllReadyH.cons rfl (fun K hK => ?_) AllReadyH.nil
          rw [if_pos (by rfl)]
          go_wp2_with fail
          refine (KA.out _ (up2 bd bw)).mono ?_
          rintro e vv1 ⟨rfl, b9⟩
          have dd1 := up2 bw b9
          clear b9
          go_wp2_with fail
          refine hK.out _ _ (HD.out _ dd1) (fun _ => ?_)
          clear hK K
          try simp only [Act.put, List.setIfInBounds_toArray, List.set_cons_zero, List.set_cons_succ, List.getElem_toArray, List.getElem_cons_zero, List.getElem_cons_succ]
          refine wpAnyH_ready (rs := [8]) (by kernel_rfl) (by simp) ?_
          refine AllReadyH.cons rfl (fun K hK => ?_) AllReadyH.nil
          rw [if_pos (by rfl)]
          go_wp2_with fail
          refine (KY.out _ (up2 bd dd1)).mono ?_
          rintro e vv2 ⟨rfl, b9⟩
          have dd2 := up2 dd1 b9
          clear b9
          go_wp2_with fail
          refine hK.out _ _ (HD.out _ dd2) (fun _ => ?_)
          clear hK K
          try simp only [Act.put, List.setIfInBounds_toArray, List.set_cons_zero, List.set_cons_succ, List.getElem_toArray, List.getElem_cons_zero, List.getElem_cons_succ]
          refine wpAnyH_take (i := 9) (v := ?v9z23) rfl (by kernel_rfl) (by kernel_rfl) (by kernel_rfl) (fun _ _ _ h => h) (Or.inl ⟨by rfl, ?y9z23⟩) (HD.out _ dd2) ?_
          case y9z23 => (intro w hSw; (try dsimp only at hSw); go_simp; try with_reducible rfl)
          simp only [Act.put, List.setIfInBounds_toArray, List.set_cons_zero, List.set_cons_succ, List.getElem_toArray, List.getElem_cons_zero, List.getElem_cons_succ]
          refine wpAnyH_take (i := 10) (v := ?v10z24) rfl (by kernel_rfl) (by kernel_rfl) (by kernel_rfl) (fun _ _ _ h => h) (Or.inl ⟨by rfl, ?y10z24⟩) (HD.out _ dd2) ?_
          case y10z24 => (intro w hSw; (try dsimp only at hSw); go_simp; try with_reducible rfl)
          simp only [Act.put, List.setIfInBounds_toArray, List.set_cons_zero, List.set_cons_succ, List.getElem_toArray, List.getElem_cons_zero, List.getElem_cons_succ]
          refine wpAnyH_done (by kernel_rfl) ?_ _
          refine NoPanic.normal ?_
          have BV := Lib.hid (up2 HB2.out (up2 bd dd2))
          by_cases hz0 : z < 0
          · have d1 : decide (z < 0) = true := decide_eq_true hz0
            have d2 : decide (y ≥ 0) = false := decide_eq_false (by have := HF.out.1 hz0; omega)
            have d3 : decide (z ≥ 0) = false := decide_eq_false (by omega)
            clear hz0
            go_wp2_with fail
            exact ⟨⟨BV.out, v + 1, by omega, by go_num⟩, by simp [intOf]; omega⟩
          · obtain ⟨h1, h2⟩ := HF.out.2 (by omega)
            obtain ⟨u, rfl⟩ : ∃ u : Nat, z = (u : Int) := ⟨z.toNat, by omega⟩
            have hum : u < mt := by have := h1.2; omega
            rw [Int.toNat_natCast] at h2
            obtain ⟨ad', e', cu⟩ := (HTX.out.below BV.out).int u hum
            injection e' with e'
            subst e'
            rw [← h2] at cu
            have d1 : decide ((u : Int) < 0) = false := by simp
            have d3 : decide ((u : Int) ≥ 0) = true := by simp
            have d4 : (y != y) = false := by simp
            have hu0 : 0 ≤ (u : Int) := by omega
            have hui : (u : Int) < (mt : Int) := by omega
            clear hz0 h1 h2
            go_wp2_with fail
            exact ⟨⟨BV.out, v + 1, by omega, by go_num⟩, by simp [intOf]; omega⟩
        obtain rfl : v = k := by omega
        have b3 : ¬ (v : Int) < (v : Int) := by omega
        obtain ⟨LL, hLL⟩ := loops_exists (v : Int) l
        obtain ⟨MM, hMM⟩ := loops_exists (v : Int) r
        have AL := alike_ren SF.out HPM.out SW.out.1 SW.out.2
        have h1 := AL.loops hLL hMM
        have h2 : (bE r).length = (bE l).length := by unfold bE; rw [List.length_map, List.length_map]; exact AL.edges
        have K1 := Lib.hid (bdloops_any wr _ gr (v : Int) r (TR.out.below HB2.out) MM hMM)
        have K2 := Lib.hid (fun W (b : Below wr.heap.size wr W) => bdloops_any W _ g (v : Int) l (TX.out.below (up2 HB2.out b)) LL hLL)
        have K3 := Lib.hid (fun W (b : Below wr.heap.size wr W) => bdedges_any W _ gr (v : Int) r (TR.out.below (up2 HB2.out b)))
        have K4 := Lib.hid (fun W (b : Below wr.heap.size wr W) => bdedges_any W _ g (v : Int) l (TX.out.below (up2 HB2.out b)))
        have HQ := Lib.hid (And.intro h1 h2)
        clear AL hLL hMM h1 h2
        go_wp2_with fail
        refine K1.out.mono ?_
        rintro e w11 ⟨A11, n11, c11, rfl, r11, b11⟩
        have H11 := Lib.hid (show n11 = LL.length by have := r11.1; rw [List.length_map, HQ.out.1] at this; exact this.symm)
        have B11 := Lib.hid b11
        clear r11 b11
        go_wp2_with fail
        refine (K2.out _ B11.out).mono ?_
        rintro e w12 ⟨A12, n12, c12, rfl, r12, b12⟩
        have h12 : n11 = n12 := by have := r12.1; rw [List.length_map] at this; have := H11.out; omega
        have B12 := Lib.hid (up2 B11.out b12)
        clear r12 b12
        subst h12
        have q1 : ((n11 : Int) == (n11 : Int)) = true := beq_self_eq_true _
        go_wp2_with fail
        refine (K3.out _ B12.out).mono ?_
        rintro e w13 ⟨A13, n13, c13, rfl, r13, b13⟩
        have H13 := Lib.hid (show n13 = (bE l).length by rw [← HQ.out.2]; exact r13.1.symm)
        have B13 := Lib.hid (up2 B12.out b13)
        clear r13 b13
        go_wp2_with fail
        refine (K4.out _ B13.out).mono ?_
        rintro e w14 ⟨A14, n14, c14, rfl, r14, b14⟩
        have h14 : n13 = n14 := by have := r14.1; have := H13.out; omega
        have B14 := Lib.hid (up2 B13.out b14)
        clear r14 b14
        subst h14
        have q2 : ((n13 : Int) == (n13 : Int)) = true := beq_self_eq_true _
        go_wp2_with fail
        go_ret
        exact ⟨rfl, up2 BA.out (up2 BX.out (up2 HB2.out B14.out))⟩
set_option maxRecDepth 100000 in
theorem lifted (os : Os) (started : os.Started) (H : Type) (enc : TypeId × Value → H) :
    ReturnsInHanded {} Try.checked os 6 .any (Rows.borderTurnedSpec.pre6 enc Try.prog Try.f6 Rows.borderTurnedRow.domain false) (Rows.borderTurnedSpec.post enc Try.prog Try.f6 false true false false) := by
  refine returnsInHanded_of_change (C := Try.checked) own_knob started (by kernel_rfl) Try.func6
    (ChangeSpec.witness6 (enc := enc) (C := Try.checked) false ⟨#[], #[.agg #[.int .i64 0, .slice none 0 0], .slice none 0 0], []⟩ 8 (by kernel_rfl) (by kernel_rfl) (by kernel_rfl) (by kernel_rfl)) ?_
  intro W base args ds gs before hval0 hW hcnd _
  have hval : ∀ (j : Nat) t v, Try.f6.params[j]? = some t → args[j]? = some v → Value.okWide Try.prog W .any base t v := hval0
  have hW' := hW
  obtain ⟨p, q, hA0, hV, rfl, hfz, hnd⟩ := hW
  have hA : DataW.TrodAll enc Try.prog W 0 (fun _ => true) true Try.f6.params.toList args.toList ds p := hA0
  rw [Try.params6] at hA hval
  obtain ⟨v0, vs0, d0, ds0, p0, q0, hargs, rfl, rfl, h0, r0⟩ := trodAll_cons hA
  obtain ⟨v1, vs1, d1, ds1, p1, q1, rfl, rfl, rfl, h1, r1⟩ := trodAll_cons r0
  obtain ⟨rfl, rfl, rfl⟩ := trodAll_nil r1
  obtain rfl : args = #[v0, v1] := by cases args; simp_all
  obtain ⟨rfl, rfl⟩ := trodVars_none hV
  have lt0 : ∀ x ∈ p0, x.block < W.heap.size := by obtain ⟨m, hm⟩ := h0; exact DataW.trod_lt m _ _ _ hm
  obtain ⟨N0, a0, len0, cap0, xs0, rfl, hN0, hr0⟩ := arg_soup (hval 0 24 v0 rfl rfl) h0
  obtain ⟨a1, len1, cap1, rfl⟩ := okWide_slice Try.underlying40 (hval 1 40 v1 rfl rfl)
  have lt1 : ∀ x ∈ p1, x.block < W.heap.size := by obtain ⟨m, hm⟩ := h1; exact DataW.trod_lt m _ _ _ hm
  obtain ⟨hc1, xs1, hx1, hr1⟩ := arg_ints h1
  clear hA0 hval0
  refine (walk N0 a0 len0 cap0 xs0 a1 len1 cap1 xs1 W hN0.1 hN0.2 hr0 hc1 hx1 hr1).mono fun e W' ⟨he, bel⟩ => ?_
  subst he
  exact ⟨_, rfl, _, _, _, [], _, [], hW', trodAll_mk1 (shut_bool Try.underlying4 _), (trodAll_cons_mk (Below.trod laid_out (by kernel_rfl) (of_decide_eq_true (by kernel_rfl)) h0 bel lt0) (trodAll_cons_mk (Below.trod laid_out (by kernel_rfl) (of_decide_eq_true (by kernel_rfl)) h1 bel lt1) trodAll_mk0)), rfl, bel.frame _, fun h => by cases h⟩

theorem over : Rows.borderTurnedRow.holds Try.pinned (OpenSpec.ofChange Rows.borderTurnedSpec) :=
  OpenClaim.holds_of_wide 6 Try.f6 rfl rfl rfl rfl rfl rfl rfl ⟨rfl, rfl, rfl, rfl, rfl⟩ rfl rfl rfl rfl rfl (by kernel_rfl) Try.func6 (by kernel_rfl)
    (of_decide_eq_true (by kernel_rfl)) (by unfold Func.isWrapper; first | (rw [if_pos (by decide +kernel)]; kernel_rfl) | (rw [if_neg (by decide +kernel)]; exact ⟨rfl, rfl⟩))
    (fun os started H enc _ => lifted os started H enc)

theorem proved : Rows.BorderTurnedSaid := over
end Go.Proofs.Ytmflacmgffpjoaa.borderTurned
