/- SoupApart: what is told is new: it may be written over, and nothing that was handed in changes. No condition. -/
import Derived.Test.YtfdoemebongdbaaSouApartP
import Derived.Deep.DeepCutAuto
import Derived.Deep.RegionHeld3
namespace Go.Proofs.Ytfdoemebongdbaa.soupApart
open Go.RowKit Go.ChangeShapes Go.WideShapes Go.ChangeAt

def O1At (W6 : World) (sb : Nat) (L : List sv) (Ao : Option Addr) (mo : Nat) (Ae : Option Addr) (me : Nat) (i : Value) (wr : World) : Prop := ∃ k : Nat, k ≤ 5 ∧ i = .int .i64 (k : Int) ∧ Wipe W6 wr sb L Ao mo Ae me
def O2At (W6 : World) (sb : Nat) (L : List sv) (Ao : Option Addr) (mo : Nat) (Ae : Option Addr) (me : Nat) (xb : Nat) (Nk : Int) (Ak : Option Addr) (mk ck : Nat) (i : Value) (wr : World) : Prop := ∃ t : Nat, t ≤ mk ∧ i = .int .i64 (t : Int) ∧ Wipe W6 wr sb L Ao mo Ae me ∧ Bx wr xb Nk Ak mk ck
def O3At (W6 : World) (sb : Nat) (L : List sv) (Ao : Option Addr) (mo : Nat) (Ae : Option Addr) (me : Nat) (n : Nat) (i : Value) (wr : World) : Prop := ∃ t : Nat, t ≤ n ∧ i = .int .i64 (t : Int) ∧ Wipe W6 wr sb L Ao mo Ae me

set_option maxHeartbeats 16000000 in
set_option maxRecDepth 100000 in
theorem walk (N : Int) (A : Option Addr) (n c : Nat) (l : List Tr) (B : Option Addr) (m d : Nat) (cs : List Int) (w : World) (_ : -9223372036854775808 ≤ N) (_ : N ≤ 9223372036854775807) (h : T3 w A n l) (hA0 : A = none → c = 0)
    (hB0 : (B = none → d = 0) ∧ m ≤ d) (_ : ∀ x ∈ cs, -9223372036854775808 ≤ x ∧ x ≤ 9223372036854775807) (ht : Reads w B m (ints cs)) :
    Calls Try.prog 10 #[.agg #[.int .i64 N, .slice A n c], .slice B m d] w (Yes8 w) := by
  have HL := Lib.hid h
  have HT := Lib.hid ht
  have HA0 := Lib.hid hA0
  have HB0 := Lib.hid hB0
  have KA := Lib.hid awake8_true
  have KG := Lib.hid (fun W => great8_any W N A n c)
  obtain ⟨i0, hi0, hz0, hz1, hz2⟩ := info_parts Try.infoInt
  have HII := Lib.hid hi0
  have HZZ := Lib.hid (And.intro hz0 (And.intro hz1 hz2))
  have B0 := Lib.hid ((Below.refl _ w).alloc (Nat.le_refl _) (.cells #[.int .i64 N, .slice A n c] 24))
  have X0 := Lib.hid (Bx.made w N A n c)
  clear h ht hA0 hB0 hi0 hz0 hz1 hz2
  go_enter Try.func10, Try.ntmps10
  go_wp2_with fail
  refine (KA.out _).mono ?_
  rintro e w1 ⟨rfl, b1⟩
  have B1 := Lib.hid (up2 B0.out b1)
  have X1 := Lib.hid (X0.out.below b1)
  clear b1
  have e0 := X1.out.c0
  have e1 := X1.out.c1
  obtain ⟨g, hg⟩ : ∃ g, w.heap.size = g := ⟨_, rfl⟩
  have HG := Lib.hid hg
  simp only [hg]
  rw [hg] at X1 e0 e1
  clear hg
  go_wp2_with fail
  refine (KG.out _).mono ?_
  rintro e w2 ⟨rfl, b2⟩
  have B2 := Lib.hid (up2 B1.out b2)
  have X2 := Lib.hid (X1.out.below b2)
  clear b2 e0 e1
  have e0 := X2.out.c0
  have e1 := X2.out.c1
  by_cases h40 : (40 : Int) < n
  · simp only [decide_eq_true h40]
    clear h40
    go_wp2_with fail
    go_ret
    exact ⟨rfl, B2.out⟩
  simp only [decide_eq_false h40]
  by_cases m40 : (40 : Int) < m
  · go_wp2_with fail
    go_ret
    exact ⟨rfl, B2.out⟩
  by_cases N40 : 40 < N
  · go_wp2_with fail
    go_ret
    exact ⟨rfl, B2.out⟩
  have hn : n ≤ 40 := by omega
  have hm : m ≤ 40 := by omega
  have hd := box_held X2.out w2.drew (Reading.below ⟨1, rfl⟩)
  have HH := Lib.hid (box_held X2.out)
  have bd : Below w2.heap.size w2 w2.drew := Reading.below ⟨1, rfl⟩
  go_upto_region 5 with fail
  go_cut [5] (WasCut w2 N n l)
  case first =>
    go_wp2_with fail
    refine wp_region_noPanic ?_
    refine wp_region_held_drew (S := fun w' => w'.cell? ⟨g, 0, none⟩ = some (.int .i64 N) ∧ w'.cell? ⟨g, 1, none⟩ = some (.slice A n c)) (by kernel_rfl) hd (fun _ => ?_)
    refine wpAnyH_take (i := 0) (v := ?v0x1) rfl (by kernel_rfl) (by kernel_rfl) (by kernel_rfl) (fun _ _ _ h => h) (Or.inl ⟨by rfl, ?y0x1⟩) hd ?_
    case y0x1 => (intro w hSw; (try dsimp only at hSw); go_simp; try with_reducible rfl)
    simp only [Act.put, List.setIfInBounds_toArray, List.set_cons_zero, List.set_cons_succ, List.getElem_toArray, List.getElem_cons_zero]
    refine wpAnyH_take (i := 1) (v := ?v1x2) rfl (by kernel_rfl) (by kernel_rfl) (by kernel_rfl) (fun _ _ _ h => h) (Or.inl ⟨by rfl, ?y1x2⟩) hd ?_
    case y1x2 => (intro w hSw; (try dsimp only at hSw); go_simp; try with_reducible rfl)
    simp only [Act.put, List.setIfInBounds_toArray, List.set_cons_zero, List.set_cons_succ, List.getElem_toArray, List.getElem_cons_zero, List.getElem_cons_succ]
    refine wpAnyH_take (i := 3) (v := ?v3x3) rfl (by kernel_rfl) (by kernel_rfl) (by kernel_rfl) (fun _ _ _ h => h) (Or.inl ⟨by rfl, ?y3x3⟩) hd ?_
    case y3x3 => (intro w hSw; (try dsimp only at hSw); go_simp; try with_reducible rfl)
    simp only [Act.put, List.setIfInBounds_toArray, List.set_cons_zero, List.set_cons_succ, List.getElem_toArray, List.getElem_cons_zero, List.getElem_cons_succ]
    refine wpAnyH_take (i := 4) (v := ?v4x4) rfl (by kernel_rfl) (by kernel_rfl) (by kernel_rfl) (fun _ _ _ h => h) (Or.inl ⟨by rfl, ?y4x4⟩) hd ?_
    case y4x4 => (intro w hSw; (try dsimp only at hSw); go_simp; try with_reducible rfl)
    simp only [Act.put, List.setIfInBounds_toArray, List.set_cons_zero, List.set_cons_succ, List.getElem_toArray, List.getElem_cons_zero, List.getElem_cons_succ]
    refine wpAnyH_ready (rs := [2, 7]) (by kernel_rfl) (by simp) ?_
    refine AllReadyH.cons rfl (fun K hK => ?_) (AllReadyH.cons rfl (fun K hK => ?_) AllReadyH.nil)
    · skip
      go_simp
      refine hK.out _ _ (HH.out _ (up2 bd (mk_below w2.drew (.cells #[] 51)))) (fun _ => ?_)
      clear hK K
      try simp only [Act.put, List.setIfInBounds_toArray, List.set_cons_zero, List.set_cons_succ, List.getElem_toArray, List.getElem_cons_zero, List.getElem_cons_succ]
      refine wpAnyH_ready (rs := [5, 7]) (by kernel_rfl) (by simp) ?_
      refine AllReadyH.cons rfl (fun K hK => ?_) (AllReadyH.cons rfl (fun K hK => ?_) AllReadyH.nil)
      · skip
        refine stepT0 (own_emptyT w2.drew) (HL.out.below (up2 B2.out (up2 bd (mk_below w2.drew (.cells #[] 51))))) HA0.out (by rfl) (.tmp 39) (.tmp 41) (by rfl) (by go_simp) (by go_simp) (by omega) ?_ ?_
        · have := (up2 bd (mk_below w2.drew (.cells #[] 51))).size; simp only [World.size_alloc] at *; omega
        intro A9 c9 w9 own9 gr9
        have b9 : Below w2.heap.size w2 w9 := own_grown_below (up2 bd (mk_below w2.drew (.cells #[] 51))) gr9 (up2 bd (mk_below w2.drew (.cells #[] 51))).size (fun q hq => by have := ownK_lt (own_emptyT w2.drew) q hq; exact this)
        refine hK.out _ _ (HH.out _ b9) (fun _ => ?_)
        clear hK K
        try simp only [Act.put, List.setIfInBounds_toArray, List.set_cons_zero, List.set_cons_succ, List.getElem_toArray, List.getElem_cons_zero, List.getElem_cons_succ]
        refine wpAnyH_take (i := 6) (v := ?v6x5) rfl (by kernel_rfl) (by kernel_rfl) (by kernel_rfl) (fun _ _ _ h => h) (Or.inl ⟨by rfl, ?y6x5⟩) (HH.out _ b9) ?_
        case y6x5 => (intro w hSw; (try dsimp only at hSw); go_simp; try with_reducible rfl)
        simp only [Act.put, List.setIfInBounds_toArray, List.set_cons_zero, List.set_cons_succ, List.getElem_toArray, List.getElem_cons_zero, List.getElem_cons_succ]
        have hb10 := heap_alloc_new w9 (.cells #[.int .i64 0, .slice none 0 0] 24)
        have B9 := Lib.hid (up1 b9 (.cells #[.int .i64 0, .slice none 0 0] 24))
        have HO := Lib.hid (ownK_up own9 (mk_below w9 (.cells #[.int .i64 0, .slice none 0 0] 24)))
        have hz : w2.heap.size ≤ w9.heap.size := b9.size
        refine wpAnyH_ready (rs := [7]) (by kernel_rfl) (by simp) ?_
        refine AllReadyH.cons rfl (fun K hK => ?_) AllReadyH.nil
        go_simp
        refine hK.out _ _ (HH.out _ (up1 b9 (.cells #[.int .i64 0, .slice none 0 0] 24))) (fun _ => ?_)
        clear hK K
        try simp only [Act.put, List.setIfInBounds_toArray, List.set_cons_zero, List.set_cons_succ, List.getElem_toArray, List.getElem_cons_zero, List.getElem_cons_succ]
        obtain ⟨ob, hob⟩ : ∃ ob, w9.heap.size = ob := ⟨_, rfl⟩
        rw [hob] at hb10 hz
        simp only [hob]
        have HG2 := Lib.hid hz
        obtain ⟨w10, hw10⟩ : ∃ w10, w9.alloc (.cells #[.int .i64 0, .slice none 0 0] 24) = w10 := ⟨_, rfl⟩
        rw [hw10] at hb10 B9 HO
        simp only [hw10]
        clear hw10 hob own9 gr9 b9 hz
        have p0 : w10.cell? ⟨ob, 0, none⟩ = some (.int .i64 0) := by rw [cell_in hb10]; rfl
        have p1 : w10.cell? ⟨ob, 1, none⟩ = some (.slice none 0 0) := by rw [cell_in hb10]; rfl
        have f0 := frozen_in hb10 0
        have f1 := frozen_in hb10 1
        have HB := Lib.hid hb10
        have HF := Lib.hid (HH.out _ (below_set2 B9.out HG2.out (.int .i64 N) (.slice A9 n c9)))
        clear hb10
        refine wpAnyH_ready (rs := [8]) (by kernel_rfl) (by simp) ?_
        refine AllReadyH.cons rfl (fun K hK => ?_) AllReadyH.nil
        go_simp
        refine hK.out _ _ HF.out (fun _ => ?_)
        clear hK K
        try simp only [Act.put, List.setIfInBounds_toArray, List.set_cons_zero, List.set_cons_succ, List.getElem_toArray, List.getElem_cons_zero, List.getElem_cons_succ]
        refine wpAnyH_done (by kernel_rfl) ?_ _
        refine NoPanic.normal ?_
        go_wp2_with fail
        go_meet
        exact was_end HB.out HO.out B9.out (by have := HG2.out; omega)
      · skip
        go_simp
        refine hK.out _ _ (HH.out _ (up2 bd (up1 (mk_below w2.drew (.cells #[] 51)) (.cells #[.int .i64 0, .slice none 0 0] 24)))) (fun _ => ?_)
        clear hK K
        try simp only [Act.put, List.setIfInBounds_toArray, List.set_cons_zero, List.set_cons_succ, List.getElem_toArray, List.getElem_cons_zero, List.getElem_cons_succ]
        refine wpAnyH_ready (rs := [5]) (by kernel_rfl) (by simp) ?_
        refine AllReadyH.cons rfl (fun K hK => ?_) AllReadyH.nil
        have hb8 := heap_alloc_new (w2.drew.alloc (.cells #[] 51)) (.cells #[.int .i64 0, .slice none 0 0] 24)
        have bb := up2 bd (up1 (mk_below w2.drew (.cells #[] 51)) (.cells #[.int .i64 0, .slice none 0 0] 24))
        refine stepT0 (ownK_up (own_emptyT w2.drew) (mk_below (w2.drew.alloc (.cells #[] 51)) (.cells #[.int .i64 0, .slice none 0 0] 24))) (HL.out.below (up2 B2.out bb)) HA0.out (by rfl) (.tmp 39) (.tmp 41) (by rfl) (by go_simp) (by go_simp) (by omega) ?_ ?_
        · have := bb.size; simp only [World.size_alloc] at *; omega
        intro A9 c9 w9 own9 gr9
        have b9 : Below w2.heap.size w2 w9 := own_grown_below bb gr9 bb.size (fun q hq => by have := ownK_lt (ownK_up (own_emptyT w2.drew) (mk_below (w2.drew.alloc (.cells #[] 51)) (.cells #[.int .i64 0, .slice none 0 0] 24))) q hq; (try simp only [World.size_alloc] at this); exact Nat.le_trans (by first | exact Nat.le_refl _ | exact Nat.le_succ _) this)
        have hb10 := own_far8 (ownK_up (own_emptyT w2.drew) (mk_below (w2.drew.alloc (.cells #[] 51)) (.cells #[.int .i64 0, .slice none 0 0] 24))) hb8 (by decide) gr9
        refine hK.out _ _ (HH.out _ b9) (fun _ => ?_)
        clear hK K
        try simp only [Act.put, List.setIfInBounds_toArray, List.set_cons_zero, List.set_cons_succ, List.getElem_toArray, List.getElem_cons_zero, List.getElem_cons_succ]
        refine wpAnyH_take (i := 6) (v := ?v6x6) rfl (by kernel_rfl) (by kernel_rfl) (by kernel_rfl) (fun _ _ _ h => h) (Or.inl ⟨by rfl, ?y6x6⟩) (HH.out _ b9) ?_
        case y6x6 => (intro w hSw; (try dsimp only at hSw); go_simp; try with_reducible rfl)
        simp only [Act.put, List.setIfInBounds_toArray, List.set_cons_zero, List.set_cons_succ, List.getElem_toArray, List.getElem_cons_zero, List.getElem_cons_succ]
        have B9 := Lib.hid b9
        have HO := Lib.hid own9
        clear own9 gr9 b9 bb hb8
        obtain ⟨ob, hob⟩ : ∃ ob, w2.heap.size + 1 = ob := ⟨_, rfl⟩
        have hz : w2.heap.size ≤ ob := by rw [← hob]; exact Nat.le_succ _
        (try rw [World.size_alloc] at hb10)
        have hob' := hob
        (try rw [show w2.drew.heap = w2.heap from rfl] at hb10)
        rw [hob] at hb10
        simp only [hob]
        have HG2 := Lib.hid hz
        have hw10 : w9 = w9 := rfl
        obtain ⟨w10, rfl⟩ : ∃ w10, w10 = w9 := ⟨w9, rfl⟩
        clear hob hob' hz hw10
        have p0 : w10.cell? ⟨ob, 0, none⟩ = some (.int .i64 0) := by rw [cell_in hb10]; rfl
        have p1 : w10.cell? ⟨ob, 1, none⟩ = some (.slice none 0 0) := by rw [cell_in hb10]; rfl
        have f0 := frozen_in hb10 0
        have f1 := frozen_in hb10 1
        have HB := Lib.hid hb10
        have HF := Lib.hid (HH.out _ (below_set2 B9.out HG2.out (.int .i64 N) (.slice A9 n c9)))
        clear hb10
        refine wpAnyH_ready (rs := [8]) (by kernel_rfl) (by simp) ?_
        refine AllReadyH.cons rfl (fun K hK => ?_) AllReadyH.nil
        go_simp
        refine hK.out _ _ HF.out (fun _ => ?_)
        clear hK K
        try simp only [Act.put, List.setIfInBounds_toArray, List.set_cons_zero, List.set_cons_succ, List.getElem_toArray, List.getElem_cons_zero, List.getElem_cons_succ]
        refine wpAnyH_done (by kernel_rfl) ?_ _
        refine NoPanic.normal ?_
        go_wp2_with fail
        go_meet
        exact was_end HB.out HO.out B9.out (by have := HG2.out; omega)
    · skip
      go_simp
      refine hK.out _ _ (HH.out _ (up2 bd (mk_below w2.drew (.cells #[.int .i64 0, .slice none 0 0] 24)))) (fun _ => ?_)
      clear hK K
      try simp only [Act.put, List.setIfInBounds_toArray, List.set_cons_zero, List.set_cons_succ, List.getElem_toArray, List.getElem_cons_zero, List.getElem_cons_succ]
      refine wpAnyH_ready (rs := [2]) (by kernel_rfl) (by simp) ?_
      refine AllReadyH.cons rfl (fun K hK => ?_) AllReadyH.nil
      go_simp
      refine hK.out _ _ (HH.out _ (up2 bd (up1 (mk_below w2.drew (.cells #[.int .i64 0, .slice none 0 0] 24)) (.cells #[] 51)))) (fun _ => ?_)
      clear hK K
      try simp only [Act.put, List.setIfInBounds_toArray, List.set_cons_zero, List.set_cons_succ, List.getElem_toArray, List.getElem_cons_zero, List.getElem_cons_succ]
      refine wpAnyH_ready (rs := [5]) (by kernel_rfl) (by simp) ?_
      refine AllReadyH.cons rfl (fun K hK => ?_) AllReadyH.nil
      have hb8 := (mk_below (w2.drew.alloc (.cells #[.int .i64 0, .slice none 0 0] 24)) (.cells #[] 51)).block _ (heap_lt (heap_alloc_new w2.drew (.cells #[.int .i64 0, .slice none 0 0] 24))) |>.trans (heap_alloc_new w2.drew (.cells #[.int .i64 0, .slice none 0 0] 24))
      have bb := up2 bd (up1 (mk_below w2.drew (.cells #[.int .i64 0, .slice none 0 0] 24)) (.cells #[] 51))
      refine stepT0 (own_emptyT (w2.drew.alloc (.cells #[.int .i64 0, .slice none 0 0] 24))) (HL.out.below (up2 B2.out bb)) HA0.out (by rfl) (.tmp 39) (.tmp 41) (by rfl) (by go_simp) (by go_simp) (by omega) ?_ ?_
      · have := bb.size; simp only [World.size_alloc] at *; omega
      intro A9 c9 w9 own9 gr9
      have b9 : Below w2.heap.size w2 w9 := own_grown_below bb gr9 bb.size (fun q hq => by have := ownK_lt (own_emptyT (w2.drew.alloc (.cells #[.int .i64 0, .slice none 0 0] 24))) q hq; (try simp only [World.size_alloc] at this); exact Nat.le_trans (by first | exact Nat.le_refl _ | exact Nat.le_succ _) this)
      have hb10 := own_far8 (own_emptyT (w2.drew.alloc (.cells #[.int .i64 0, .slice none 0 0] 24))) hb8 (by decide) gr9
      refine hK.out _ _ (HH.out _ b9) (fun _ => ?_)
      clear hK K
      try simp only [Act.put, List.setIfInBounds_toArray, List.set_cons_zero, List.set_cons_succ, List.getElem_toArray, List.getElem_cons_zero, List.getElem_cons_succ]
      refine wpAnyH_take (i := 6) (v := ?v6x7) rfl (by kernel_rfl) (by kernel_rfl) (by kernel_rfl) (fun _ _ _ h => h) (Or.inl ⟨by rfl, ?y6x7⟩) (HH.out _ b9) ?_
      case y6x7 => (intro w hSw; (try dsimp only at hSw); go_simp; try with_reducible rfl)
      simp only [Act.put, List.setIfInBounds_toArray, List.set_cons_zero, List.set_cons_succ, List.getElem_toArray, List.getElem_cons_zero, List.getElem_cons_succ]
      have B9 := Lib.hid b9
      have HO := Lib.hid own9
      clear own9 gr9 b9 bb hb8
      obtain ⟨ob, hob⟩ : ∃ ob, w2.heap.size = ob := ⟨_, rfl⟩
      have hz : w2.heap.size ≤ ob := by rw [← hob]; exact Nat.le_refl _
      (try rw [World.size_alloc] at hb10)
      have hob' := hob
      (try rw [show w2.drew.heap = w2.heap from rfl] at hb10)
      rw [hob] at hb10
      simp only [hob]
      have HG2 := Lib.hid hz
      have hw10 : w9 = w9 := rfl
      obtain ⟨w10, rfl⟩ : ∃ w10, w10 = w9 := ⟨w9, rfl⟩
      clear hob hob' hz hw10
      have p0 : w10.cell? ⟨ob, 0, none⟩ = some (.int .i64 0) := by rw [cell_in hb10]; rfl
      have p1 : w10.cell? ⟨ob, 1, none⟩ = some (.slice none 0 0) := by rw [cell_in hb10]; rfl
      have f0 := frozen_in hb10 0
      have f1 := frozen_in hb10 1
      have HB := Lib.hid hb10
      have HF := Lib.hid (HH.out _ (below_set2 B9.out HG2.out (.int .i64 N) (.slice A9 n c9)))
      clear hb10
      refine wpAnyH_ready (rs := [8]) (by kernel_rfl) (by simp) ?_
      refine AllReadyH.cons rfl (fun K hK => ?_) AllReadyH.nil
      go_simp
      refine hK.out _ _ HF.out (fun _ => ?_)
      clear hK K
      try simp only [Act.put, List.setIfInBounds_toArray, List.set_cons_zero, List.set_cons_succ, List.getElem_toArray, List.getElem_cons_zero, List.getElem_cons_succ]
      refine wpAnyH_done (by kernel_rfl) ?_ _
      refine NoPanic.normal ?_
      go_wp2_with fail
      go_meet
      exact was_end HB.out HO.out B9.out (by have := HG2.out; omega)
  case rest =>
    obtain ⟨wb, wA, wcap, rfl, b3, x3, t3⟩ := hcut
    have B3 := Lib.hid (up2 B2.out b3)
    have X3 := Lib.hid (And.intro (X2.out.below b3) (And.intro x3 t3))
    clear b3 x3 t3 hd HH bd e0 e1
    have O9 := Lib.hid (own_emptyI wc)
    have B9 := Lib.hid (up1 B3.out (.cells #[] 3))
    have b9 := (Below.refl _ wc).alloc (Nat.le_refl _) (.cells #[] 3)
    have R9 := Lib.hid (HT.out.below B9.out)
    have D9 := Lib.hid b9
    clear b9
    go_wp2_with (at_builtin; refine wpList_append_reads rfl (.tmp 44) (.tmp 45) 29 rfl wc.heap.size 3 i0 (.int .i64 0) 8 Try.underlying29 HII.out HZZ.out rfl (.slice (some ⟨wc.heap.size, 0, none⟩) 0 0) 0 (ints []) rfl O9.out B m d (ints cs) rfl R9.out HB0.out.1 (ints_one _) ?a1 ?a2 ?a3 ?_)
    case a1 => unfold maxLen; omega
    case a2 => omega
    intro v' W6 own9 gr9
    have own9 : W6.ownsRow wc.heap.size 3 1 v' m (ints cs) := by
      have h := own9
      first
        | exact h
        | (rw [Nat.zero_add] at h; exact h)
    obtain ⟨An, cn, rfl⟩ := ownK_form own9
    have b6 : Below wc.heap.size wc W6 := own_grown_below D9.out gr9 D9.out.size (fun q hq => ownK_lt O9.out q hq)
    have B6 := Lib.hid (up2 B3.out b6)
    have X6 := Lib.hid (And.intro (X3.out.1.below b6) (And.intro (X3.out.2.1.below b6) (X3.out.2.2.below b6)))
    have R6 := Lib.hid (own_lenI own9)
    clear own9 gr9 b6 O9 B9 R9 D9 X3
    have K1 := Lib.hid (fun W (h : T3 W A n l) (h' : Reads W B m (ints cs)) => sreytfdoemebongdbaanew W N A B n c m d l cs h h' (by omega) (by omega))
    have K2 := Lib.hid (fun W (h : T3 W A n l) (h' : Reads W B m (ints cs)) => spick_new W N A B n c m d l cs h h' (by omega) (by omega))
    have K3 := Lib.hid (fun W (h : T3 W A n l) (h' : Reads W B m (ints cs)) => spart_new W N A B n c m d l cs h h' (by omega) (by omega))
    have K4 := Lib.hid (fun W q hq (h : T3 W A n l) => sjoin_new W q N A n c l hq h (by omega))
    have K5 := Lib.hid (fun W (h : T3 W A n l) => smirror_any W N A n c l h (by omega))
    have K6 := Lib.hid (fun W (h : T3 W A n l) => sedges_new W N A n c l h (by omega))
    have e0 := X6.out.1.c0
    have e1 := X6.out.1.c1
    go_wp2_with fail
    have C0 := Lib.hid (Below.refl W6.heap.size W6)
    have X0 := Lib.hid X6.out.1
    refine (K1.out _ (HL.out.below (up2 B6.out C0.out)) (HT.out.below (up2 B6.out C0.out))).mono ?_
    rintro e v1 ⟨N1, A1, m1, c1, k1, rfl, r1, hm1, b1⟩
    have bx := mk_below v1 (.cells #[.int .i64 N1, .slice A1 m1 c1] 24)
    have C1 := Lib.hid (up2 (up2 C0.out b1) bx)
    have X1 := Lib.hid ((X0.out.below b1).below bx)
    have R1 := Lib.hid ((r1.below bx).wide C0.out.size bx.size)
    have Y1 := Lib.hid (Bx.made v1 N1 A1 m1 c1)
    clear X0 r1 b1 bx e0 e1
    have e0 := X1.out.c0
    have e1 := X1.out.c1
    go_wp2_with fail
    obtain ⟨u1, hu1⟩ : ∃ u, v1.alloc (.cells #[.int .i64 N1, .slice A1 m1 c1] 24) = u := ⟨_, rfl⟩
    obtain ⟨y1, hy1⟩ : ∃ y, v1.heap.size = y := ⟨_, rfl⟩
    rw [hu1] at C1 X1 e0 e1 Y1 R1
    rw [hy1] at Y1
    simp only [hu1, hy1]
    clear hu1 hy1
    refine (K2.out _ (HL.out.below (up2 B6.out C1.out)) (HT.out.below (up2 B6.out C1.out))).mono ?_
    rintro e v2 ⟨N2, A2, m2, c2, k2, rfl, r2, hm2, b2⟩
    have bx := mk_below v2 (.cells #[.int .i64 N2, .slice A2 m2 c2] 24)
    have C2 := Lib.hid (up2 (up2 C1.out b2) bx)
    have X2 := Lib.hid ((X1.out.below b2).below bx)
    have Y1' := ((Y1.out.below b2).below bx)
    have R1' := (((R1.out.below b2).below bx).wide (Nat.le_refl _) (show _ ≤ (v2.alloc (.cells #[.int .i64 N2, .slice A2 m2 c2] 24)).heap.size from Nat.le_trans b2.size bx.size))
    have R2 := Lib.hid ((r2.below bx).wide C1.out.size bx.size)
    have Y2 := Lib.hid (Bx.made v2 N2 A2 m2 c2)
    clear Y1 R1 X1 r2 b2 bx e0 e1
    have Y1 := Lib.hid Y1'
    have R1 := Lib.hid R1'
    clear Y1' R1'
    have e0 := X2.out.c0
    have e1 := X2.out.c1
    go_wp2_with fail
    obtain ⟨u2, hu2⟩ : ∃ u, v2.alloc (.cells #[.int .i64 N2, .slice A2 m2 c2] 24) = u := ⟨_, rfl⟩
    obtain ⟨y2, hy2⟩ : ∃ y, v2.heap.size = y := ⟨_, rfl⟩
    rw [hu2] at C2 X2 e0 e1 Y1 Y2 R1 R2
    rw [hy2] at Y2
    simp only [hu2, hy2]
    clear hu2 hy2
    refine (K3.out _ (HL.out.below (up2 B6.out C2.out)) (HT.out.below (up2 B6.out C2.out))).mono ?_
    rintro e v3 ⟨N3, A3, m3, c3, Ao, mo, co, k3, rfl, r3, ro, hm3, hmo, b3⟩
    have bx := mk_below v3 (.cells #[.int .i64 N3, .slice A3 m3 c3] 24)
    have C3 := Lib.hid (up2 (up2 C2.out b3) bx)
    have X3 := Lib.hid ((X2.out.below b3).below bx)
    have Y1' := ((Y1.out.below b3).below bx)
    have Y2' := ((Y2.out.below b3).below bx)
    have R1' := (((R1.out.below b3).below bx).wide (Nat.le_refl _) (show _ ≤ (v3.alloc (.cells #[.int .i64 N3, .slice A3 m3 c3] 24)).heap.size from Nat.le_trans b3.size bx.size))
    have R2' := (((R2.out.below b3).below bx).wide (Nat.le_refl _) (show _ ≤ (v3.alloc (.cells #[.int .i64 N3, .slice A3 m3 c3] 24)).heap.size from Nat.le_trans b3.size bx.size))
    have R3 := Lib.hid ((r3.below bx).wide C2.out.size bx.size)
    have R9 := Lib.hid ((ro.below bx).wide C2.out.size bx.size)
    have Y3 := Lib.hid (Bx.made v3 N3 A3 m3 c3)
    clear Y1 Y2 R1 R2 X2 r3 b3 bx ro e0 e1
    have Y1 := Lib.hid Y1'
    have Y2 := Lib.hid Y2'
    have R1 := Lib.hid R1'
    have R2 := Lib.hid R2'
    clear Y1' Y2' R1' R2'
    have e0 := X3.out.c0
    have e1 := X3.out.c1
    go_wp2_with fail
    obtain ⟨u3, hu3⟩ : ∃ u, v3.alloc (.cells #[.int .i64 N3, .slice A3 m3 c3] 24) = u := ⟨_, rfl⟩
    obtain ⟨y3, hy3⟩ : ∃ y, v3.heap.size = y := ⟨_, rfl⟩
    have hs3 : u3.heap.size = y3 + 1 := by rw [← hu3, World.size_alloc, hy3]
    rw [hu3] at C3 X3 e0 e1 Y1 Y2 Y3 R1 R2 R3 R9
    rw [hy3] at Y3
    simp only [hu3, hy3]
    clear hu3 hy3
    refine (K4.out _ (y3 + 1) (by rw [← hs3]; exact heap_alloc_new u3 (.cells #[.int .i64 N, .slice A n c] 24)) (HL.out.below (up2 B6.out (up1 C3.out (.cells #[.int .i64 N, .slice A n c] 24))))).mono ?_
    rintro e v4 ⟨N4, A4, m4, c4, k4, rfl, r4, hm4, b4⟩
    have bs4 := mk_below u3 (.cells #[.int .i64 N, .slice A n c] 24)
    have bx := mk_below v4 (.cells #[.int .i64 N4, .slice A4 m4 c4] 24)
    have C4 := Lib.hid (up2 (up2 (up2 C3.out bs4) b4) bx)
    have X4 := Lib.hid (((X3.out.below bs4).below b4).below bx)
    have Y1' := (((Y1.out.below bs4).below b4).below bx)
    have Y2' := (((Y2.out.below bs4).below b4).below bx)
    have Y3' := (((Y3.out.below bs4).below b4).below bx)
    have R1' := ((((R1.out.below bs4).below b4).below bx).wide (Nat.le_refl _) (show _ ≤ (v4.alloc (.cells #[.int .i64 N4, .slice A4 m4 c4] 24)).heap.size from Nat.le_trans bs4.size (Nat.le_trans b4.size bx.size)))
    have R2' := ((((R2.out.below bs4).below b4).below bx).wide (Nat.le_refl _) (show _ ≤ (v4.alloc (.cells #[.int .i64 N4, .slice A4 m4 c4] 24)).heap.size from Nat.le_trans bs4.size (Nat.le_trans b4.size bx.size)))
    have R3' := ((((R3.out.below bs4).below b4).below bx).wide (Nat.le_refl _) (show _ ≤ (v4.alloc (.cells #[.int .i64 N4, .slice A4 m4 c4] 24)).heap.size from Nat.le_trans bs4.size (Nat.le_trans b4.size bx.size)))
    have R9' := ((((R9.out.below bs4).below b4).below bx).wide (Nat.le_refl _) (show _ ≤ (v4.alloc (.cells #[.int .i64 N4, .slice A4 m4 c4] 24)).heap.size from Nat.le_trans bs4.size (Nat.le_trans b4.size bx.size)))
    have R4 := Lib.hid ((r4.below bx).wide (Nat.le_trans C3.out.size bs4.size) bx.size)
    have Y4 := Lib.hid (Bx.made v4 N4 A4 m4 c4)
    clear Y1 Y2 Y3 R1 R2 R3 R9 X3 r4 b4 bx bs4 e0 e1
    have Y1 := Lib.hid Y1'
    have Y2 := Lib.hid Y2'
    have Y3 := Lib.hid Y3'
    have R1 := Lib.hid R1'
    have R2 := Lib.hid R2'
    have R3 := Lib.hid R3'
    have R9 := Lib.hid R9'
    clear Y1' Y2' Y3' R1' R2' R3' R9'
    have e0 := X4.out.c0
    have e1 := X4.out.c1
    go_wp2_with fail
    obtain ⟨u4, hu4⟩ : ∃ u, v4.alloc (.cells #[.int .i64 N4, .slice A4 m4 c4] 24) = u := ⟨_, rfl⟩
    obtain ⟨y4, hy4⟩ : ∃ y, v4.heap.size = y := ⟨_, rfl⟩
    rw [hu4] at C4 X4 e0 e1 Y1 Y2 Y3 Y4 R1 R2 R3 R9 R4
    rw [hy4] at Y4
    simp only [hu4, hy4]
    clear hu4 hy4
    refine (K5.out _ (HL.out.below (up2 B6.out C4.out))).mono ?_
    rintro e v5 ⟨_, rfl, A5, c5, rfl, o5, b5⟩
    have r5 := Room.of_own o5
    have hm5 : (l.map mirT).length ≤ 8192 := by rw [List.length_map, HL.out.1]; omega
    have bx := mk_below v5 (.cells #[.int .i64 N, .slice A5 (l.map mirT).length c5] 24)
    have C5 := Lib.hid (up2 (up2 C4.out b5) bx)
    have X5 := Lib.hid ((X4.out.below b5).below bx)
    have Y1' := ((Y1.out.below b5).below bx)
    have Y2' := ((Y2.out.below b5).below bx)
    have Y3' := ((Y3.out.below b5).below bx)
    have Y4' := ((Y4.out.below b5).below bx)
    have R1' := (((R1.out.below b5).below bx).wide (Nat.le_refl _) (show _ ≤ (v5.alloc (.cells #[.int .i64 N, .slice A5 (l.map mirT).length c5] 24)).heap.size from Nat.le_trans b5.size bx.size))
    have R2' := (((R2.out.below b5).below bx).wide (Nat.le_refl _) (show _ ≤ (v5.alloc (.cells #[.int .i64 N, .slice A5 (l.map mirT).length c5] 24)).heap.size from Nat.le_trans b5.size bx.size))
    have R3' := (((R3.out.below b5).below bx).wide (Nat.le_refl _) (show _ ≤ (v5.alloc (.cells #[.int .i64 N, .slice A5 (l.map mirT).length c5] 24)).heap.size from Nat.le_trans b5.size bx.size))
    have R9' := (((R9.out.below b5).below bx).wide (Nat.le_refl _) (show _ ≤ (v5.alloc (.cells #[.int .i64 N, .slice A5 (l.map mirT).length c5] 24)).heap.size from Nat.le_trans b5.size bx.size))
    have R4' := (((R4.out.below b5).below bx).wide (Nat.le_refl _) (show _ ≤ (v5.alloc (.cells #[.int .i64 N, .slice A5 (l.map mirT).length c5] 24)).heap.size from Nat.le_trans b5.size bx.size))
    have R5 := Lib.hid ((r5.below bx).wide C4.out.size bx.size)
    have Y5 := Lib.hid (Bx.made v5 N A5 (l.map mirT).length c5)
    clear Y1 Y2 Y3 Y4 R1 R2 R3 R9 R4 X4 r5 b5 bx o5 e0 e1
    have Y1 := Lib.hid Y1'
    have Y2 := Lib.hid Y2'
    have Y3 := Lib.hid Y3'
    have Y4 := Lib.hid Y4'
    have R1 := Lib.hid R1'
    have R2 := Lib.hid R2'
    have R3 := Lib.hid R3'
    have R9 := Lib.hid R9'
    have R4 := Lib.hid R4'
    clear Y1' Y2' Y3' Y4' R1' R2' R3' R9' R4'
    obtain ⟨m5, hm5'⟩ : ∃ m5, (l.map mirT).length = m5 := ⟨_, rfl⟩
    rw [hm5'] at C5 X5 hm5 Y1 Y2 Y3 Y4 Y5 R1 R2 R3 R9 R4 R5
    simp only [hm5']
    clear hm5'
    have e0 := X5.out.c0
    have e1 := X5.out.c1
    go_wp2_with fail
    obtain ⟨u5, hu5⟩ : ∃ u, v5.alloc (.cells #[.int .i64 N, .slice A5 m5 c5] 24) = u := ⟨_, rfl⟩
    obtain ⟨y5, hy5⟩ : ∃ y, v5.heap.size = y := ⟨_, rfl⟩
    rw [hu5] at C5 X5 e0 e1 Y1 Y2 Y3 Y4 Y5 R1 R2 R3 R9 R4 R5
    rw [hy5] at Y5
    simp only [hu5, hy5]
    clear hu5 hy5
    refine (K6.out _ (HL.out.below (up2 B6.out C5.out))).mono ?_
    rintro e v6 ⟨es, Ae, me, ce, rfl, _, _, oe, hme, b6⟩
    have hme' : me ≤ 1000 := by rw [HL.out.1] at hme; omega
    have re := Room.of_own oe
    obtain ⟨L, hL⟩ : ∃ L : List sv, L = [(N1, A1, m1, c1), (N2, A2, m2, c2), (N3, A3, m3, c3), (N4, A4, m4, c4), (N, A5, m5, c5)] := ⟨_, rfl⟩
    have y10 := (Y1.out.below b6).c0
    have y11 := (Y1.out.below b6).c1
    have y20 := (Y2.out.below b6).c0
    have y21 := (Y2.out.below b6).c1
    have y30 := (Y3.out.below b6).c0
    have y31 := (Y3.out.below b6).c1
    have y40 := (Y4.out.below b6).c0
    have y41 := (Y4.out.below b6).c1
    have y50 := (Y5.out.below b6).c0
    have y51 := (Y5.out.below b6).c1
    have bz := mk_below v6 (.cells #[.int .i64 N1, .slice A1 m1 c1, .int .i64 N2, .slice A2 m2 c2, .int .i64 N3, .slice A3 m3 c3, .int .i64 N4, .slice A4 m4 c4, .int .i64 N, .slice A5 m5 c5] 24)
    have W0 := Lib.hid (show Wipe W6 (v6.alloc (.cells #[.int .i64 N1, .slice A1 m1 c1, .int .i64 N2, .slice A2 m2 c2, .int .i64 N3, .slice A3 m3 c3, .int .i64 N4, .slice A4 m4 c4, .int .i64 N, .slice A5 m5 c5] 24)) v6.heap.size L Ao mo Ae me from by
      have big := fun {s n : Nat} {A : Option Addr} (r : Room u5 W6.heap.size u5.heap.size s A n) => (((r.below b6).wide (Nat.le_refl _) b6.size).below bz)
      refine ⟨up2 (up2 C5.out b6) bz, ?_, fun x hx => ?_, big R9.out, (re.wide C5.out.size (Nat.le_refl _)).below bz⟩
      · rw [hL]; exact heap_alloc_new v6 _
      · rw [hL] at hx
        simp only [List.mem_cons, List.not_mem_nil, or_false] at hx
        rcases hx with rfl | rfl | rfl | rfl | rfl
        · exact ⟨big R1.out, hm1⟩
        · exact ⟨big R2.out, hm2⟩
        · exact ⟨big R3.out, hm3⟩
        · exact ⟨big R4.out, hm4⟩
        · exact ⟨big R5.out, hm5⟩)
    have HL5 := Lib.hid (show L.length = 5 by rw [hL]; rfl)
    clear hL bz re oe b6 e0 e1 hme R1 R2 R3 R4 R5 R9 Y1 Y2 Y3 Y4 Y5 C1 C2 C3 C4 C5 X5
    go_wp2_with fail
    obtain ⟨wz, hwz⟩ : ∃ wz, v6.alloc (.cells #[.int .i64 N1, .slice A1 m1 c1, .int .i64 N2, .slice A2 m2 c2, .int .i64 N3, .slice A3 m3 c3, .int .i64 N4, .slice A4 m4 c4, .int .i64 N, .slice A5 m5 c5] 24) = wz := ⟨_, rfl⟩
    obtain ⟨sb, hsb⟩ : ∃ sb, v6.heap.size = sb := ⟨_, rfl⟩
    rw [hwz, hsb] at W0
    simp only [hwz, hsb]
    clear hwz hsb y10 y11 y20 y21 y30 y31 y40 y41 y50 y51
    go_loopw [83] (O1At W6 sb L Ao mo Ae me) (fun i _ => 5 - (intOf i).toNat)
    case atStart => exact ⟨0, Nat.zero_le _, rfl, W0.out⟩
    case round =>
      obtain ⟨k, hk, rfl, hw⟩ := hrel
      have HW := Lib.hid hw
      by_cases hlt : k < 5
      · have b1 : (k : Int) < 5 := by omega
        have hkl : k < L.length := by rw [HL5.out]; exact hlt
        obtain ⟨f0, f1⟩ := flatS_at L k hkl
        have hmem : L.getD k (0, none, 0, 0) ∈ L := by
          rw [List.getD_eq_getElem?_getD, List.getElem?_eq_getElem hkl]; exact List.getElem_mem hkl
        obtain ⟨x, hx⟩ : ∃ x, L.getD k (0, none, 0, 0) = x := ⟨_, rfl⟩
        rw [hx] at f0 f1 hmem
        obtain ⟨Nk, Ak, mk, ck⟩ := x
        have c0 : wr.cell? ⟨sb, k * 2, none⟩ = some (.int .i64 Nk) := by rw [cell_in hw.five, List.getElem?_toArray]; exact f0
        have c1 : wr.cell? ⟨sb, k * 2 + 1, none⟩ = some (.slice Ak mk ck) := by rw [cell_in hw.five, List.getElem?_toArray]; exact f1
        have HMEM := Lib.hid hmem
        have hmk := (hw.rooms _ hmem).2
        have X9 := Lib.hid (Bx.made wr Nk Ak mk ck)
        have W9 := Lib.hid (hw.up (mk_below wr (.cells #[.int .i64 Nk, .slice Ak mk ck] 24)))
        have HSB := Lib.hid (heap_lt hw.five)
        clear hw f0 f1 hmem hx hkl
        go_wp2_with fail
        obtain ⟨wx, hwx⟩ : ∃ wx, wr.alloc (.cells #[.int .i64 Nk, .slice Ak mk ck] 24) = wx := ⟨_, rfl⟩
        obtain ⟨xb, hxb⟩ : ∃ xb, wr.heap.size = xb := ⟨_, rfl⟩
        rw [hwx] at X9 W9
        rw [hxb] at X9 HSB
        simp only [hwx, hxb]
        clear hwx hxb c0 c1
        go_loopw [20] (O2At W6 sb L Ao mo Ae me xb Nk Ak mk ck) (fun i _ => mk - (intOf i).toNat)
        case atStart => exact ⟨0, Nat.zero_le _, rfl, W9.out, X9.out⟩
        case round =>
          obtain ⟨t, ht, rfl, hw2, hx2⟩ := hrel
          have HW2 := Lib.hid hw2
          have HX2 := Lib.hid hx2
          have z1 := hx2.c1
          by_cases hlt2 : t < mk
          · have b2 : (t : Int) < mk := by omega
            obtain ⟨q, rfl, hq1, hq2, hc⟩ := (hw2.rooms _ HMEM.out).1.cell hlt2
            obtain ⟨⟨v0, g0⟩, f0⟩ := hc 0 (by omega)
            obtain ⟨⟨v1, g1⟩, f1⟩ := hc 1 (by omega)
            obtain ⟨⟨v2, g2⟩, f2⟩ := hc 2 (by omega)
            rw [Nat.add_zero] at g0 f0
            have HQ := Lib.hid (And.intro hq1 (And.intro hq2 (show xb ≠ q by have := HSB.out; omega)))
            clear hw2 hx2 hc hq1 hq2
            go_wp2_with fail
            refine ⟨⟨t + 1, by omega, by go_num, ?_, ?_⟩, by simp [intOf]; omega⟩
            · exact ((HW2.out.set HQ.out.1 HQ.out.2.1 _ _).set HQ.out.1 HQ.out.2.1 _ _).set HQ.out.1 HQ.out.2.1 _ _
            · exact ((HX2.out.set HQ.out.2.2 _).set HQ.out.2.2 _).set HQ.out.2.2 _
          · have b2 : ¬ (t : Int) < mk := by omega
            clear hw2 hx2
            go_wp2_with fail
            exact ⟨⟨k + 1, by omega, by go_num, HW2.out⟩, by simp [intOf]; omega⟩
      · have b1 : ¬ (k : Int) < 5 := by omega
        clear hw
        go_wp2_with fail
        go_loopw [21] (O3At W6 sb L Ao mo Ae me mo) (fun i _ => mo - (intOf i).toNat)
        case atStart => exact ⟨0, Nat.zero_le _, rfl, HW.out⟩
        case round =>
          obtain ⟨t, ht, rfl, hw2⟩ := hrel
          have HW2 := Lib.hid hw2
          by_cases hlt2 : t < mo
          · have b2 : (t : Int) < mo := by omega
            obtain ⟨q, rfl, hq1, hq2, hc⟩ := hw2.old.cell hlt2
            obtain ⟨⟨v0, g0⟩, f0⟩ := hc 0 (by omega)
            rw [Nat.add_zero, Nat.mul_one] at g0 f0
            have HQ := Lib.hid (And.intro hq1 hq2)
            clear hw2 hc hq1 hq2
            go_wp2_with fail
            exact ⟨⟨t + 1, by omega, by go_num, HW2.out.set HQ.out.1 HQ.out.2 _ _⟩, by simp [intOf]; omega⟩
          · have b2 : ¬ (t : Int) < mo := by omega
            clear hw2
            go_wp2_with fail
            go_loopw [22] (O3At W6 sb L Ao mo Ae me me) (fun i _ => me - (intOf i).toNat)
            case atStart => exact ⟨0, Nat.zero_le _, rfl, HW2.out⟩
            case round =>
              obtain ⟨s, hs, rfl, hw3⟩ := hrel
              have HW3 := Lib.hid hw3
              by_cases hlt3 : s < me
              · have b3 : (s : Int) < me := by omega
                obtain ⟨q, rfl, hq1, hq2, hc⟩ := hw3.edg.cell hlt3
                obtain ⟨⟨v0, g0⟩, f0⟩ := hc 0 (by omega)
                obtain ⟨⟨v1, g1⟩, f1⟩ := hc 1 (by omega)
                rw [Nat.add_zero] at g0 f0
                have HQ := Lib.hid (And.intro hq1 hq2)
                clear hw3 hc hq1 hq2
                go_wp2_with fail
                exact ⟨⟨s + 1, by omega, by go_num, (HW3.out.set HQ.out.1 HQ.out.2 _ _).set HQ.out.1 HQ.out.2 _ _⟩, by simp [intOf]; omega⟩
              · have b3 : ¬ (s : Int) < me := by omega
                have CB := Lib.hid hw3.below
                clear hw3 HW3 HW2 HW
                have GX := Lib.hid (X6.out.1.below CB.out)
                have GW := Lib.hid (X6.out.2.1.below CB.out)
                have GT := Lib.hid (X6.out.2.2.below CB.out)
                have GR := Lib.hid (R6.out.below CB.out)
                have BF := Lib.hid (up2 B6.out CB.out)
                have hd := boxes_held GX.out GW.out wr.drew (Reading.below ⟨1, rfl⟩)
                have HH := Lib.hid (boxes_held GX.out GW.out)
                have bd : Below wr.heap.size wr wr.drew := Reading.below ⟨1, rfl⟩
                have F1 := Lib.hid (fun W (b : Below wr.heap.size wr W) => (show Calls Try.prog 16 #[.agg #[.int .i64 N, .slice A n c], .agg #[.int .i64 N, .slice wA n wcap]] W fun e w' => e = .returned (.bool true) ∧ Below W.heap.size W w' by
                  have := rsame_any W N N A wA n c n wcap l l (HL.out.below (up2 BF.out b)) (GT.out.below b) (by omega)
                  unfold SameTold at this
                  rwa [decide_eq_true (⟨rfl, rfl⟩ : N = N ∧ l = l)] at this))
                have F2 := Lib.hid (fun W (b : Below wr.heap.size wr W) => (show Calls Try.prog 26 #[.slice B m d, .slice An m cn] W fun e w' => e = .returned (.bool true) ∧ Below W.heap.size W w' from
                  (rints_any W B An m d m cn cs cs (HT.out.below (up2 BF.out b)) (GR.out.below b) (by omega)).mono fun e w' h => ⟨h.1.trans (by rw [decide_eq_true rfl]), Reading.below h.2⟩))
                have F3 := Lib.hid (fun W (b : Below wr.heap.size wr W) => sedges_new W N A n c l (HL.out.below (up2 BF.out b)) (by omega))
                have F4 := Lib.hid (fun W (b : Below wr.heap.size wr W) => redges_new W N A n c l (HL.out.below (up2 BF.out b)) (by omega))
                go_wp2_with fail
                go_region_held3 (fun w' => w'.cell? ⟨g, 0, none⟩ = some (.int .i64 N) ∧ w'.cell? ⟨g, 1, none⟩ = some (.slice A n c) ∧ w'.cell? ⟨wb, 0, none⟩ = some (.int .i64 N) ∧ w'.cell? ⟨wb, 1, none⟩ = some (.slice wA n wcap))
                  (first | exact hd | exact HH.out _ (by assumption) | fail)
                  (first
                    | (go_at_call 16; (with_reducible refine (F1.out _ (by assumption)).mono ?_); rintro e w21 ⟨rfl, b21⟩; have d21 := up2 bd b21; clear b21)
                    | (go_at_call 26; (with_reducible refine (F2.out _ (by assumption)).mono ?_); rintro e w22 ⟨rfl, b22⟩; have d22 := up2 d21 b22; clear b22)
                    | (go_at_call 30; (with_reducible refine (F3.out _ (by assumption)).mono ?_); rintro e w23 ⟨es3, A23, m23, c23, rfl, i23, j23, o23, l23, b23⟩; have d23 := up2 d22 b23; have t23 := E2.of_own o23; clear b23 o23)
                    | (go_at_call 31; (with_reducible refine (F4.out _ (by assumption)).mono ?_); rintro e w24 ⟨es4, A24, m24, c24, rfl, i24, j24, o24, l24, b24⟩; have d24 := up2 d23 b24; have ee := edges_same i23 j23 i24 j24; subst ee; have KL := Lib.hid (ralike_any w24 A23 A24 m23 c23 m24 c24 es4 es4 (t23.below b24) (E2.of_own o24) (by rw [HL.out.1] at l23; omega)); clear b24 o24 t23 i23 j23 i24 j24)
                    | (go_at_call 29; (with_reducible refine KL.out.mono ?_); rintro e w25 ⟨rfl, b25⟩; have d25 := d24.trans (b25.below (B := wr.heap.size)); clear b25)
                    | fail)
                all_goals
                  have CF := Lib.hid (up2 BF.out d25)
                  go_wp2_with fail
                  go_ret
                  exact ⟨rfl, CF.out⟩

set_option maxRecDepth 100000 in
theorem lifted (os : Os) (started : os.Started) (H : Type) (enc : TypeId × Value → H) :
    ReturnsInHanded {} Try.checked os 10 .any (Rows.soupApartSpec.pre6 enc Try.prog Try.f10 Rows.soupApartRow.domain false) (Rows.soupApartSpec.post enc Try.prog Try.f10 false true false false) := by
  refine returnsInHanded_of_change (C := Try.checked) own_knob started (by kernel_rfl) Try.func10
    (ChangeSpec.witness6 (enc := enc) (C := Try.checked) false ⟨#[], #[.agg #[.int .i64 0, .slice none 0 0], .slice none 0 0], []⟩ 8 (by kernel_rfl) (by kernel_rfl) (by kernel_rfl) (by kernel_rfl)) ?_
  intro W base args ds gs before hval0 hW hcnd _
  have hval : ∀ (j : Nat) t v, Try.f10.params[j]? = some t → args[j]? = some v → Value.okWide Try.prog W .any base t v := hval0
  have hW' := hW
  obtain ⟨p, q, hA0, hV, rfl, hfz, hnd⟩ := hW
  have hA : DataW.TrodAll enc Try.prog W 0 (fun _ => true) true Try.f10.params.toList args.toList ds p := hA0
  rw [Try.params10] at hA hval
  obtain ⟨v0, vs0, d0, ds0, p0, q0, hargs, rfl, rfl, h0, r0⟩ := trodAll_cons hA
  obtain ⟨v1, vs1, d1, ds1, p1, q1, rfl, rfl, rfl, h1, r1⟩ := trodAll_cons r0
  obtain ⟨rfl, rfl, rfl⟩ := trodAll_nil r1
  obtain rfl : args = #[v0, v1] := by cases args; simp_all
  obtain ⟨rfl, rfl⟩ := trodVars_none hV
  have lt0 : ∀ x ∈ p0, x.block < W.heap.size := by obtain ⟨m, hm⟩ := h0; exact DataW.trod_lt m _ _ _ hm
  obtain ⟨N0, a0, len0, cap0, xs0, rfl, hN0, hz0, hr0⟩ := arg_soup0 (hval 0 24 v0 rfl rfl) h0
  obtain ⟨a1, len1, cap1, rfl⟩ := okWide_slice Try.underlying29 (hval 1 29 v1 rfl rfl)
  have lt1 : ∀ x ∈ p1, x.block < W.heap.size := by obtain ⟨m, hm⟩ := h1; exact DataW.trod_lt m _ _ _ hm
  obtain ⟨hc1, xs1, hx1, hr1⟩ := arg_ints h1
  clear hA0 hval0
  refine (walk N0 a0 len0 cap0 xs0 a1 len1 cap1 xs1 W hN0.1 hN0.2 hr0 hz0 hc1 hx1 hr1).mono fun e W' ⟨he, bel⟩ => ?_
  subst he
  exact ⟨_, rfl, _, _, _, [], _, [], hW', trodAll_mk1 (shut_bool Try.underlying4 _), (trodAll_cons_mk (Below.trod laid_out (by kernel_rfl) (of_decide_eq_true (by kernel_rfl)) h0 bel lt0) (trodAll_cons_mk (Below.trod laid_out (by kernel_rfl) (of_decide_eq_true (by kernel_rfl)) h1 bel lt1) trodAll_mk0)), rfl, bel.frame _, fun h => by cases h⟩

theorem over : Rows.soupApartRow.holds Try.pinned (OpenSpec.ofChange Rows.soupApartSpec) :=
  OpenClaim.holds_of_wide 10 Try.f10 rfl rfl rfl rfl rfl rfl rfl ⟨rfl, rfl, rfl, rfl, rfl⟩ rfl rfl rfl rfl rfl (by kernel_rfl) Try.func10 (by kernel_rfl)
    (of_decide_eq_true (by kernel_rfl)) (by unfold Func.isWrapper; first | (rw [if_pos (by decide +kernel)]; kernel_rfl) | (rw [if_neg (by decide +kernel)]; exact ⟨rfl, rfl⟩))
    (fun os started H enc _ => lifted os started H enc)

theorem proved : Rows.SoupApartSaid := over
end Go.Proofs.Ytfdoemebongdbaa.soupApart
