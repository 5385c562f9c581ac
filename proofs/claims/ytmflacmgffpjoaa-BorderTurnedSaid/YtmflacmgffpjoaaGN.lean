/- Texts laid one behind the other: KoFill, KoMade. -/
import Derived.Test.YtmflacmgffpjoaaGK
import Derived.Test.YtmflacmgffpjoaaGF

/- Layer 10: a table's map, its opposite corners, its least corners: filled in. -/
namespace Go.Proofs.Ytmflacmgffpjoaa
open Go.RowKit

/-- The directed edges that the first m corners face, each with its corner. -/
def fcL (l : List Tr) (m : Nat) : List (Ed × Int) := (List.range m).map fun c => (edgeC l c, (c : Int))
theorem fcL_succ (l : List Tr) (k : Nat) : fcL l (k + 1) = fcL l k ++ [(edgeC l k, (k : Int))] := by unfold fcL; rw [List.range_succ, List.map_append, List.map_singleton]
theorem fcL_len (l : List Tr) (m : Nat) : (fcL l m).length = m := by simp [fcL]
structure FcSt (w wr : World) (g b : Nat) (N : Int) (A : Option Addr) (n c : Nat) (vo vl : Value) (L : List (Ed × Int)) : Prop where
  kb : KB wr g N A n c vo (.map (some b)) vl
  mp : MapL wr b L
  bw : w.heap.size ≤ b
  gb : g < w.heap.size
  chg : Chg (fun x => x = g) w wr
theorem FcSt.below {w wr w' : World} {g b : Nat} {N : Int} {A : Option Addr} {n c : Nat} {vo vl : Value} {L : List (Ed × Int)} (h : FcSt w wr g b N A n c vo vl L) (hb : Below wr.heap.size wr w') : FcSt w w' g b N A n c vo vl L :=
  ⟨h.kb.below hb, h.mp.kept (hb.block b h.mp.lt), h.bw, h.gb, h.chg.trans (.of_below hb)⟩
theorem FcSt.put {w wr w' : World} {g b : Nat} {N : Int} {A : Option Addr} {n c : Nat} {vo vl : Value} {L L' : List (Ed × Int)} (h : FcSt w wr g b N A n c vo vl L) (hg : wr.grownBy w' (some b)) (hm : MapL w' b L') : FcSt w w' g b N A n c vo vl L' :=
  ⟨(hg.block g (heap_lt h.kb) (fun e => by have := Option.some.inj e; have := h.bw; have := h.gb; omega)).trans h.kb, hm, h.bw, h.gb,
   h.chg.trans' (.of_grown (S := fun x => x = b) hg fun x hx => (Option.some.inj hx).symm) fun x hx e => by have := h.bw; omega⟩
def FcOut (w : World) (g b : Nat) (N : Int) (A : Option Addr) (n c : Nat) (vo vl : Value) (l : List Tr) (m : Nat) (i : Value) (wr : World) : Prop := ∃ k : Nat, k ≤ m ∧ i = .int .i64 (k : Int) ∧ FcSt w wr g b N A n c vo vl (fcL l k)
def FaceTold (w : World) (g : Nat) (N : Int) (A : Option Addr) (n c : Nat) (vo vl : Value) (l : List Tr) (e : Ending) (w' : World) : Prop := ∃ b, e = .returned (.tuple #[]) ∧ FcSt w w' g b N A n c vo vl (fcL l (3 * n))
theorem vtx_in {N : Int} {l : List Tr} (hin : ∀ t ∈ l, inN N t.1 ∧ inN N t.2.1 ∧ inN N t.2.2) {k : Nat} (hk : k < 3 * l.length) : inN N (vtx l k) := by
  obtain ⟨h0, h1, h2⟩ := hin _ (getD3_mem (show k / 3 < l.length by omega))
  unfold vtx cor3
  split
  · exact h0
  · split
    · exact h1
    · exact h2
theorem edgeC_in {N : Int} {l : List Tr} (hin : ∀ t ∈ l, inN N t.1 ∧ inN N t.2.1 ∧ inN N t.2.2) {k : Nat} (hk : k < 3 * l.length) : inN N (edgeC l k).1 ∧ inN N (edgeC l k).2 := ⟨vtx_in hin (nxt_lt hk), vtx_in hin (prv_lt hk)⟩
set_option maxHeartbeats 4000000 in
set_option maxRecDepth 100000 in
theorem kface_any (w : World) (g : Nat) (N : Int) (A : Option Addr) (n c : Nat) (vo vl : Value) (vm : Option Nat) (l : List Tr) (h : KB w g N A n c vo (.map vm) vl) (ht : T3 w A n l) (hn : n ≤ 8192) (hN : N ≤ 4096)
    (hin : ∀ t ∈ l, inN N t.1 ∧ inN N t.2.1 ∧ inN N t.2.2) (hA : 0 < n → ∀ bk off, A = some ⟨bk, off, none⟩ → bk ≠ g) : Calls Try.prog 55 #[.pointer (some ⟨g, 0, none⟩)] w (FaceTold w g N A n c vo vl l) := by
  obtain ⟨m, hm⟩ : ∃ m, 3 * n = m := ⟨_, rfl⟩
  have c1 := h.c1
  have hmk := fun W => make_sized W (m : Int)
  have e3 : IntKind.i64.wrap (3 * (n : Int)) = (m : Int) := by rw [IntWalk.i64_in _ (by omega)]; omega
  obtain ⟨b, hb⟩ : ∃ b, w.heap.size = b := ⟨_, rfl⟩
  obtain ⟨w1, hw1⟩ : ∃ w1, w.alloc (.map #[] 0) = w1 := ⟨_, rfl⟩
  have b0 : Below w.heap.size w w1 := by rw [← hw1]; exact (Below.refl _ w).alloc (Nat.le_refl _) (.map #[] 0)
  have m0 : MapL w1 b [] := by rw [← hw1, ← hb]; exact MapL.made w
  have hgb : g < w.heap.size := heap_lt h
  have h1 := h.below b0
  have f1 := frozen_in h1 3
  have c3 := h1.c3
  obtain ⟨w2, hw2⟩ : ∃ w2, w1.setCell ⟨g, 3, none⟩ (.map (some b)) = w2 := ⟨_, rfl⟩
  have k2 : KB w2 g N A n c vo (.map (some b)) vl := by rw [← hw2]; have := heap_set h1 3 (.map (some b)); exact this
  have st0 : FcSt w w2 g b N A n c vo vl (fcL l 0) :=
    ⟨k2, m0.kept (by rw [← hw2]; exact Below.heap_setCell _ _ _ _ (show b ≠ g by omega)), by omega, hgb, by rw [← hw2]; exact (Chg.of_below b0).set _ _ rfl⟩
  have d1 := k2.c1
  have ST := Lib.hid st0
  have HT := Lib.hid ht
  have HI := Lib.hid hin
  have HA := Lib.hid (show 0 < n → ∀ bk off, A = some ⟨bk, off, none⟩ → ¬ bk = g from hA)
  have HM := Lib.hid hm
  have hm24 : m ≤ 24576 := by omega
  have HB := Lib.hid hb
  clear h ht hin hA m0 h1 k2 st0 b0 hgb hm
  go_enter Try.func55, Try.ntmps55
  go_wp2_with fail
  clear hw2 hw1 hb c1 c3 f1 hmk e3 d1
  go_loopw [21] (FcOut w g b N A n c vo vl l m) (fun i _ => m - (intOf i).toNat)
  case atStart => exact ⟨0, Nat.zero_le _, rfl, ST.out⟩
  case round =>
    obtain ⟨k, hk, rfl, hst⟩ := hrel
    by_cases hlt : k < m
    case neg =>
      obtain rfl : k = m := by omega
      have b1 : ¬ (k : Int) < k := by omega
      have HS := Lib.hid hst
      clear hst
      go_wp2
      refine bodyPost_ret (results_none rfl _ _ _) rfl ?_
      exact ⟨b, rfl, by rw [HM.out]; exact HS.out⟩
    have b1 : (k : Int) < m := by omega
    have bd : Below wr.heap.size wr wr.drew := Reading.below ⟨1, rfl⟩
    have KE := Lib.hid (show ∀ W, Below wr.heap.size wr W → Calls Try.prog 37 #[.pointer (some ⟨g, 0, none⟩), .int .i64 (k : Int)] W (EdTold W (edgeC l k)) from fun W b => by
      have := kedge_any W g N A n c _ _ _ (hst.kb.below b) (by omega) l ((HT.out.chg hst.chg HA.out).below b) (k : Int)
      rwa [show edgI l n (k : Int) = edgeC l k by unfold edgI; rw [if_pos ⟨by omega, by have := HM.out; omega⟩, Int.toNat_natCast]] at this)
    have hei := edgeC_in HI.out (k := k) (by rw [HT.out.1, HM.out]; exact hlt)
    have HW := Lib.hid (show wfE (edgeC l k) from ⟨wf_in hei.1 hN, wf_in hei.2 hN⟩)
    obtain ⟨d, hd⟩ : ∃ d, edgeC l k = d := ⟨_, rfl⟩
    rw [hd] at KE HW
    have HD := Lib.hid hd
    have HS := Lib.hid hst
    have HF := Lib.hid (fun W (b' : Below wr.heap.size wr W) => show W.cell? ⟨g, 3, none⟩ = some (.map (some b)) from (hst.kb.below b').c3)
    have hd3 := HF.out wr.drew bd
    have HG := Lib.hid (show g ≠ b by have := hst.gb; have := hst.bw; omega)
    clear hst hei hd
    go_wp2_with fail
    refine wp_region_noPanic ?_
    refine wp_region_held_drew (S := fun w' => w'.cell? ⟨g, 3, none⟩ = some (.map (some b))) (by kernel_rfl) hd3 (fun _ => ?_)
    refine wpAnyH_take (i := 0) (v := ?v0z6) rfl (by kernel_rfl) (by kernel_rfl) (by kernel_rfl) (fun _ _ _ h => h) (Or.inl ⟨by rfl, ?y0z6⟩) hd3 ?_
    case y0z6 => (intro w hSw; (try dsimp only at hSw); go_simp; try with_reducible rfl)
    simp only [Act.put, List.setIfInBounds_toArray, List.set_cons_zero, List.set_cons_succ, List.getElem_toArray, List.getElem_cons_zero]
    refine wpAnyH_take (i := 1) (v := ?v1z7) rfl (by kernel_rfl) (by kernel_rfl) (by kernel_rfl) (fun _ _ _ h => h) (Or.inl ⟨by rfl, ?y1z7⟩) hd3 ?_
    case y1z7 => (intro w hSw; (try dsimp only at hSw); go_simp; try with_reducible rfl)
    simp only [Act.put, List.setIfInBounds_toArray, List.set_cons_zero, List.set_cons_succ, List.getElem_toArray, List.getElem_cons_zero, List.getElem_cons_succ]
    refine wpAnyH_take (i := 2) (v := ?v2z8) rfl (by kernel_rfl) (by kernel_rfl) (by kernel_rfl) (fun _ _ _ h => h) (Or.inl ⟨by rfl, ?y2z8⟩) hd3 ?_
    case y2z8 => (intro w hSw; (try dsimp only at hSw); go_simp; try with_reducible rfl)
    simp only [Act.put, List.setIfInBounds_toArray, List.set_cons_zero, List.set_cons_succ, List.getElem_toArray, List.getElem_cons_zero, List.getElem_cons_succ]
    refine wpAnyH_take (i := 3) (v := ?v3z9) rfl (by kernel_rfl) (by kernel_rfl) (by kernel_rfl) (fun _ _ _ h => h) (Or.inl ⟨by rfl, ?y3z9⟩) hd3 ?_
    case y3z9 => (intro w hSw; (try dsimp only at hSw); go_simp; try with_reducible rfl)
    simp only [Act.put, List.setIfInBounds_toArray, List.set_cons_zero, List.set_cons_succ, List.getElem_toArray, List.getElem_cons_zero, List.getElem_cons_succ]
    refine wpAnyH_take (i := 4) (v := ?v4z10) rfl (by kernel_rfl) (by kernel_rfl) (by kernel_rfl) (fun _ _ _ h => h) (Or.inl ⟨by rfl, ?y4z10⟩) hd3 ?_
    case y4z10 => (intro w hSw; (try dsimp only at hSw); go_simp; try with_reducible rfl)
    simp only [Act.put, List.setIfInBounds_toArray, List.set_cons_zero, List.set_cons_succ, List.getElem_toArray, List.getElem_cons_zero, List.getElem_cons_succ]
    refine wpAnyH_take (i := 5) (v := ?v5z11) rfl (by kernel_rfl) (by kernel_rfl) (by kernel_rfl) (fun _ _ _ h => h) (Or.inl ⟨by rfl, ?y5z11⟩) hd3 ?_
    case y5z11 => (intro w hSw; (try dsimp only at hSw); go_simp; try with_reducible rfl)
    simp only [Act.put, List.setIfInBounds_toArray, List.set_cons_zero, List.set_cons_succ, List.getElem_toArray, List.getElem_cons_zero, List.getElem_cons_succ]
    refine wpAnyH_take (i := 7) (v := ?v7z12) rfl (by kernel_rfl) (by kernel_rfl) (by kernel_rfl) (fun _ _ _ h => h) (Or.inl ⟨by rfl, ?y7z12⟩) hd3 ?_
    case y7z12 => (intro w hSw; (try dsimp only at hSw); go_simp; try with_reducible rfl)
    simp only [Act.put, List.setIfInBounds_toArray, List.set_cons_zero, List.set_cons_succ, List.getElem_toArray, List.getElem_cons_zero, List.getElem_cons_succ]
    refine wpAnyH_ready (rs := [6]) (by kernel_rfl) (by simp) ?_
    refine AllReadyH.cons rfl (fun K hK => ?_) AllReadyH.nil
    rw [if_pos (by rfl)]
    go_wp2_with fail
    refine (KE.out _ bd).mono ?_
    rintro e w5 ⟨rfl, b5⟩
    have d5 := up2 bd b5
    have s5 := HS.out.below d5
    obtain ⟨w6, hrun, hM6, hg6⟩ := s5.mp.put d HW.out (k : Int) (WalkArith.wf_i64 (by omega)) (by rw [fcL_len]; unfold maxLen; omega)
    have z5 := s5.kb.c3
    have ZZ := Lib.hid (And.intro (s5.put hg6 hM6) (grown_cell hg6 HG.out z5))
    clear b5 s5 hM6 hg6 z5
    go_wp2_with fail
    refine hK.out _ _ (HF.out _ d5) (fun _ => ?_)
    clear hK K
    try simp only [Act.put, List.setIfInBounds_toArray, List.set_cons_zero, List.set_cons_succ, List.getElem_toArray, List.getElem_cons_zero, List.getElem_cons_succ]
    refine wpAnyH_ready (rs := [8]) (by kernel_rfl) (by simp) ?_
    refine AllReadyH.cons rfl (fun K hK => ?_) AllReadyH.nil
    go_simp
    refine hK.out _ _ ZZ.out.2 (fun _ => ?_)
    clear hK K
    try simp only [Act.put, List.setIfInBounds_toArray, List.set_cons_zero, List.set_cons_succ, List.getElem_toArray, List.getElem_cons_zero, List.getElem_cons_succ]
    refine wpAnyH_done (by kernel_rfl) ?_ _
    refine NoPanic.normal ?_
    have S6 := Lib.hid (ZZ.out.1)
    go_wp2_with fail
    refine ⟨⟨k + 1, by omega, by go_num, ?_⟩, by simp [intOf]; omega⟩
    rw [fcL_succ, HD.out]
    exact S6.out

structure OpSt (w wr : World) (g b qo : Nat) (N : Int) (A : Option Addr) (n c m : Nat) (vl : Value) (L : List (Ed × Int)) (xs : List Int) : Prop where
  kb : KB wr g N A n c (.slice (some ⟨qo, 0, none⟩) m m) (.map (some b)) vl
  mp : MapL wr b L
  row : RowI wr qo xs
  qw : w.heap.size ≤ qo
  gb : g < w.heap.size
  bb : b < w.heap.size
  chg : Chg (fun x => x = g) w wr
theorem OpSt.below {w wr w' : World} {g b qo : Nat} {N : Int} {A : Option Addr} {n c m : Nat} {vl : Value} {L : List (Ed × Int)} {xs : List Int} (h : OpSt w wr g b qo N A n c m vl L xs) (hb : Below wr.heap.size wr w') : OpSt w w' g b qo N A n c m vl L xs :=
  ⟨h.kb.below hb, h.mp.kept (hb.block b h.mp.lt), h.row.below hb, h.qw, h.gb, h.bb, h.chg.trans (.of_below hb)⟩
theorem OpSt.set {w wr : World} {g b qo : Nat} {N : Int} {A : Option Addr} {n c m : Nat} {vl : Value} {L : List (Ed × Int)} {xs : List Int} (h : OpSt w wr g b qo N A n c m vl L xs) (k : Nat) (x : Int) : OpSt w (wr.setCell ⟨qo, k, none⟩ (.int .i64 x)) g b qo N A n c m vl L (xs.set k x) :=
  ⟨heap_far h.kb (show g ≠ qo by have := h.gb; have := h.qw; omega) _, h.mp.kept (Below.heap_setCell _ _ _ _ (show b ≠ qo by have := h.bb; have := h.qw; omega)), h.row.set k x, h.qw, h.gb, h.bb,
   h.chg.trans' (.of_set (S := fun x => x = qo) wr ⟨qo, k, none⟩ _ rfl) fun x hx e => by have := h.qw; omega⟩
def OpOut (w : World) (g b qo : Nat) (N : Int) (A : Option Addr) (n c m : Nat) (vl : Value) (L : List (Ed × Int)) (f : Nat → Int) (i : Value) (wr : World) : Prop := ∃ k : Nat, k ≤ m ∧ i = .int .i64 (k : Int) ∧ ∃ xs : List Int, xs.length = m ∧ (∀ j, j < k → xs.getD j 0 = f j) ∧ OpSt w wr g b qo N A n c m vl L xs
def OppTold (w : World) (g b : Nat) (N : Int) (A : Option Addr) (n c : Nat) (vl : Value) (L : List (Ed × Int)) (f : Nat → Int) (e : Ending) (w' : World) : Prop := ∃ qo, ∃ xs : List Int, e = .returned (.tuple #[]) ∧ xs.length = 3 * n ∧ (∀ j, j < 3 * n → xs.getD j 0 = f j) ∧ OpSt w w' g b qo N A n c (3 * n) vl L xs
theorem set_getDI {xs : List Int} {k j : Nat} {x : Int} (hk : k < xs.length) : (xs.set k x).getD j 0 = if j = k then x else xs.getD j 0 := by
  rw [List.getD_eq_getElem?_getD, List.getD_eq_getElem?_getD, List.getElem?_set]
  by_cases h : k = j
  · subst h; simp [hk]
  · rw [if_neg h, if_neg (Ne.symm h)]
set_option maxHeartbeats 4000000 in
set_option maxRecDepth 100000 in
theorem koppose_any (w : World) (g b : Nat) (N : Int) (A : Option Addr) (n c : Nat) (vo vl : Value) (l : List Tr) (L : List (Ed × Int)) (h : KB w g N A n c vo (.map (some b)) vl) (hm : MapL w b L) (ht : T3 w A n l) (hn : n ≤ 8192) (hN : N ≤ 4096)
    (hin : ∀ t ∈ l, inN N t.1 ∧ inN N t.2.1 ∧ inN N t.2.2) (hA : 0 < n → ∀ bk off, A = some ⟨bk, off, none⟩ → bk ≠ g) : Calls Try.prog 56 #[.pointer (some ⟨g, 0, none⟩)] w (OppTold w g b N A n c vl L (fun k => lookL L ((edgeC l k).2, (edgeC l k).1))) := by
  obtain ⟨m, hmm⟩ : ∃ m, 3 * n = m := ⟨_, rfl⟩
  have c1 := h.c1
  have hmk := fun W => makeI9 m (by omega) W
  have e3 : IntKind.i64.wrap (3 * (n : Int)) = (m : Int) := by rw [IntWalk.i64_in _ (by omega)]; omega
  obtain ⟨qo, hqo⟩ : ∃ qo, w.heap.size = qo := ⟨_, rfl⟩
  obtain ⟨w1, hw1⟩ : ∃ w1, w.alloc (.cells (ints (List.replicate m 0)).toArray 3) = w1 := ⟨_, rfl⟩
  have b0 : Below w.heap.size w w1 := by rw [← hw1]; exact (Below.refl _ w).alloc (Nat.le_refl _) _
  have r0 : RowI w1 qo (List.replicate m 0) := by rw [← hw1, ← hqo]; exact heap_alloc_new w _
  have hgb : g < w.heap.size := heap_lt h
  have h1 := h.below b0
  have f1 := frozen_in h1 2
  have c2 := h1.c2
  obtain ⟨w2, hw2⟩ : ∃ w2, w1.setCell ⟨g, 2, none⟩ (.slice (some ⟨qo, 0, none⟩) m m) = w2 := ⟨_, rfl⟩
  have k2 : KB w2 g N A n c (.slice (some ⟨qo, 0, none⟩) m m) (.map (some b)) vl := by rw [← hw2]; have := heap_set h1 2 (.slice (some ⟨qo, 0, none⟩) m m); exact this
  have m1 := hm.kept (b0.block b hm.lt)
  have gnb : b ≠ g := fun e => by
    obtain ⟨D, ⟨es, clock, hb, _⟩, _⟩ := hm
    rw [e] at hb
    have hk : w.heap[g]? = _ := h
    rw [hk] at hb
    cases hb
  have st0 : OpSt w w2 g b qo N A n c m vl L (List.replicate m 0) :=
    ⟨k2, m1.kept (by rw [← hw2]; exact Below.heap_setCell _ _ _ _ gnb), by rw [← hw2]; exact heap_far r0 (show qo ≠ g by omega) _, by omega, hgb, hm.lt, by rw [← hw2]; exact (Chg.of_below b0).set _ _ rfl⟩
  have d2 := k2.c2
  have ST := Lib.hid st0
  have HT := Lib.hid ht
  have HI := Lib.hid hin
  have HA := Lib.hid (show 0 < n → ∀ bk off, A = some ⟨bk, off, none⟩ → ¬ bk = g from hA)
  have HM := Lib.hid hmm
  have hm24 : m ≤ 24576 := by omega
  clear h ht hin hA r0 h1 k2 st0 b0 hgb hmm hm m1 gnb
  go_enter Try.func56, Try.ntmps56
  go_wp2_with fail
  clear hw2 hw1 hqo c1 c2 f1 hmk e3 d2
  go_loopw [20] (OpOut w g b qo N A n c m vl L (fun k => lookL L ((edgeC l k).2, (edgeC l k).1))) (fun i _ => m - (intOf i).toNat)
  case atStart => exact ⟨0, Nat.zero_le _, rfl, _, by simp, fun j hj => absurd hj (by omega), ST.out⟩
  case round =>
    obtain ⟨k, hk, rfl, xs, hx, hv, hst⟩ := hrel
    by_cases hlt : k < m
    case neg =>
      obtain rfl : k = m := by omega
      have b1 : ¬ (k : Int) < k := by omega
      have HS := Lib.hid (And.intro hx (And.intro hv hst))
      clear hst hx hv
      go_wp2
      refine bodyPost_ret (results_none rfl _ _ _) rfl ?_
      exact ⟨qo, xs, rfl, by rw [HM.out]; exact HS.out.1, by rw [HM.out]; exact HS.out.2.1, by rw [HM.out]; exact HS.out.2.2⟩
    have b1 : (k : Int) < m := by omega
    have b2 : 0 ≤ (k : Int) := by omega
    have KE := Lib.hid (show Calls Try.prog 37 #[.pointer (some ⟨g, 0, none⟩), .int .i64 (k : Int)] wr (EdTold wr (edgeC l k)) from by
      have := kedge_any wr g N A n c _ _ _ hst.kb (by omega) l (HT.out.chg hst.chg HA.out) (k : Int)
      rwa [show edgI l n (k : Int) = edgeC l k by unfold edgI; rw [if_pos ⟨by omega, by have := HM.out; omega⟩, Int.toNat_natCast]] at this)
    have hei := edgeC_in HI.out (k := k) (by rw [HT.out.1, HM.out]; exact hlt)
    have HW := Lib.hid (show wfE ((edgeC l k).2, (edgeC l k).1) from ⟨wf_in hei.2 hN, wf_in hei.1 hN⟩)
    obtain ⟨d, hd⟩ : ∃ d, edgeC l k = d := ⟨_, rfl⟩
    rw [hd] at KE HW
    have HD := Lib.hid hd
    have HS := Lib.hid (And.intro hx (And.intro hv hst))
    obtain ⟨d0, d1⟩ := d
    clear hst hei hd hx hv
    go_wp2_with fail
    refine KE.out.mono ?_
    rintro e w3 ⟨rfl, b3⟩
    obtain ⟨w4, hw4⟩ : ∃ w4, w3.alloc (.cells #[.int .i64 d0, .int .i64 d1] 59) = w4 := ⟨_, rfl⟩
    obtain ⟨r, hr⟩ : ∃ r, w3.heap.size = r := ⟨_, rfl⟩
    have b4 : Below w3.heap.size w3 w4 := by rw [← hw4]; exact (Below.refl _ w3).alloc (Nat.le_refl _) _
    have r4 : w4.heap[r]? = some (.cells #[.int .i64 d0, .int .i64 d1] 59 (0, 0)) := by rw [← hw4, ← hr]; exact heap_alloc_new w3 _
    have s4 := HS.out.2.2.below (up2 b3 b4)
    have hqr : qo < r := by rw [← hr]; exact heap_lt (HS.out.2.2.below b3).row
    have HF := Lib.hid (fun W (b' : Below w4.heap.size w4 W) => show W.cell? ⟨g, 2, none⟩ = some (.slice (some ⟨qo, 0, none⟩) m m) ∧ W.cell? ⟨r, 0, none⟩ = some (.int .i64 d0) ∧ W.cell? ⟨r, 1, none⟩ = some (.int .i64 d1) from
      ⟨(s4.kb.below b').c2, by rw [cell_in ((b'.block r (heap_lt r4)).trans r4)]; rfl, by rw [cell_in ((b'.block r (heap_lt r4)).trans r4)]; rfl⟩)
    have bd : Below w4.heap.size w4 w4.drew := Reading.below ⟨1, rfl⟩
    have hd4 := HF.out w4.drew bd
    have S4 := Lib.hid s4
    have HQ := Lib.hid (And.intro (show g ≠ qo by have := s4.gb; have := s4.qw; omega) (Nat.ne_of_gt hqr))
    have KF := Lib.hid (fun W (b' : Below w4.heap.size w4 W) => kfacing_look W g N A n c b _ _ L (s4.kb.below b') (s4.below b').mp d1 d0 HW.out)
    clear b3 b4 r4 s4 hqr
    go_wp2_with fail
    clear hw4 hr
    refine wp_region_noPanic ?_
    refine wp_region_held_drew (S := fun w' => w'.cell? ⟨g, 2, none⟩ = some (.slice (some ⟨qo, 0, none⟩) m m) ∧ w'.cell? ⟨r, 0, none⟩ = some (.int .i64 d0) ∧ w'.cell? ⟨r, 1, none⟩ = some (.int .i64 d1)) (by kernel_rfl) hd4 (fun _ => ?_)
    refine wpAnyH_take (i := 0) (v := ?v0z13) rfl (by kernel_rfl) (by kernel_rfl) (by kernel_rfl) (fun _ _ _ h => h) (Or.inl ⟨by rfl, ?y0z13⟩) hd4 ?_
    case y0z13 => (intro w hSw; (try dsimp only at hSw); go_simp; try with_reducible rfl)
    simp only [Act.put, List.setIfInBounds_toArray, List.set_cons_zero, List.set_cons_succ, List.getElem_toArray, List.getElem_cons_zero]
    refine wpAnyH_take (i := 1) (v := ?v1z14) rfl (by kernel_rfl) (by kernel_rfl) (by kernel_rfl) (fun _ _ _ h => h) (Or.inl ⟨by rfl, ?y1z14⟩) hd4 ?_
    case y1z14 => (intro w hSw; (try dsimp only at hSw); go_simp; try with_reducible rfl)
    simp only [Act.put, List.setIfInBounds_toArray, List.set_cons_zero, List.set_cons_succ, List.getElem_toArray, List.getElem_cons_zero, List.getElem_cons_succ]
    refine wpAnyH_take (i := 2) (v := ?v2z15) rfl (by kernel_rfl) (by kernel_rfl) (by kernel_rfl) (fun _ _ _ h => h) (Or.inl ⟨by rfl, ?y2z15⟩) hd4 ?_
    case y2z15 => (intro w hSw; (try dsimp only at hSw); go_simp; try with_reducible rfl)
    simp only [Act.put, List.setIfInBounds_toArray, List.set_cons_zero, List.set_cons_succ, List.getElem_toArray, List.getElem_cons_zero, List.getElem_cons_succ]
    refine wpAnyH_take (i := 3) (v := ?v3z16) rfl (by kernel_rfl) (by kernel_rfl) (by kernel_rfl) (fun _ _ _ h => h) (Or.inl ⟨by rfl, ?y3z16⟩) hd4 ?_
    case y3z16 => (intro w hSw; (try dsimp only at hSw); go_simp; try with_reducible rfl)
    simp only [Act.put, List.setIfInBounds_toArray, List.set_cons_zero, List.set_cons_succ, List.getElem_toArray, List.getElem_cons_zero, List.getElem_cons_succ]
    refine wpAnyH_take (i := 4) (v := ?v4z17) rfl (by kernel_rfl) (by kernel_rfl) (by kernel_rfl) (fun _ _ _ h => h) (Or.inl ⟨by rfl, ?y4z17⟩) hd4 ?_
    case y4z17 => (intro w hSw; (try dsimp only at hSw); go_simp; try with_reducible rfl)
    simp only [Act.put, List.setIfInBounds_toArray, List.set_cons_zero, List.set_cons_succ, List.getElem_toArray, List.getElem_cons_zero, List.getElem_cons_succ]
    refine wpAnyH_take (i := 5) (v := ?v5z18) rfl (by kernel_rfl) (by kernel_rfl) (by kernel_rfl) (fun _ _ _ h => h) (Or.inl ⟨by rfl, ?y5z18⟩) hd4 ?_
    case y5z18 => (intro w hSw; (try dsimp only at hSw); go_simp; try with_reducible rfl)
    simp only [Act.put, List.setIfInBounds_toArray, List.set_cons_zero, List.set_cons_succ, List.getElem_toArray, List.getElem_cons_zero, List.getElem_cons_succ]
    refine wpAnyH_take (i := 6) (v := ?v6z19) rfl (by kernel_rfl) (by kernel_rfl) (by kernel_rfl) (fun _ _ _ h => h) (Or.inl ⟨by rfl, ?y6z19⟩) hd4 ?_
    case y6z19 => (intro w hSw; (try dsimp only at hSw); go_simp; try with_reducible rfl)
    simp only [Act.put, List.setIfInBounds_toArray, List.set_cons_zero, List.set_cons_succ, List.getElem_toArray, List.getElem_cons_zero, List.getElem_cons_succ]
    refine wpAnyH_take (i := 7) (v := ?v7z20) rfl (by kernel_rfl) (by kernel_rfl) (by kernel_rfl) (fun _ _ _ h => h) (Or.inl ⟨by rfl, ?y7z20⟩) hd4 ?_
    case y7z20 => (intro w hSw; (try dsimp only at hSw); go_simp; try with_reducible rfl)
    simp only [Act.put, List.setIfInBounds_toArray, List.set_cons_zero, List.set_cons_succ, List.getElem_toArray, List.getElem_cons_zero, List.getElem_cons_succ]
    refine wpAnyH_take (i := 8) (v := ?v8z21) rfl (by kernel_rfl) (by kernel_rfl) (by kernel_rfl) (fun _ _ _ h => h) (Or.inl ⟨by rfl, ?y8z21⟩) hd4 ?_
    case y8z21 => (intro w hSw; (try dsimp only at hSw); go_simp; try with_reducible rfl)
    simp only [Act.put, List.setIfInBounds_toArray, List.set_cons_zero, List.set_cons_succ, List.getElem_toArray, List.getElem_cons_zero, List.getElem_cons_succ]
    refine wpAnyH_take (i := 9) (v := ?v9z22) rfl (by kernel_rfl) (by kernel_rfl) (by kernel_rfl) (fun _ _ _ h => h) (Or.inl ⟨by rfl, ?y9z22⟩) hd4 ?_
    case y9z22 => (intro w hSw; (try dsimp only at hSw); go_simp; try with_reducible rfl)
    simp only [Act.put, List.setIfInBounds_toArray, List.set_cons_zero, List.set_cons_succ, List.getElem_toArray, List.getElem_cons_zero, List.getElem_cons_succ]
    refine wpAnyH_take (i := 10) (v := ?v10z23) rfl (by kernel_rfl) (by kernel_rfl) (by kernel_rfl) (fun _ _ _ h => h) (Or.inl ⟨by rfl, ?y10z23⟩) hd4 ?_
    case y10z23 => (intro w hSw; (try dsimp only at hSw); go_simp; try with_reducible rfl)
    simp only [Act.put, List.setIfInBounds_toArray, List.set_cons_zero, List.set_cons_succ, List.getElem_toArray, List.getElem_cons_zero, List.getElem_cons_succ]
    refine wpAnyH_ready (rs := [11]) (by kernel_rfl) (by simp) ?_
    refine AllReadyH.cons rfl (fun K hK => ?_) AllReadyH.nil
    rw [if_pos (by rfl)]
    go_wp2_with fail
    refine (KF.out _ bd).mono ?_
    rintro e w5 ⟨rfl, b5⟩
    have d5 := up2 bd b5
    have s5 := S4.out.below d5
    have y0 := s5.row.cell k (by rw [HS.out.1]; exact hlt)
    have y1 := s5.row.frozen k
    have z5 := HF.out _ d5
    have ZZ := Lib.hid (s5.set k (lookL L (d1, d0)))
    clear b5 s5
    go_wp2_with fail
    refine hK.out _ _ z5 (fun _ => ?_)
    clear hK K
    try simp only [Act.put, List.setIfInBounds_toArray, List.set_cons_zero, List.set_cons_succ, List.getElem_toArray, List.getElem_cons_zero, List.getElem_cons_succ]
    refine wpAnyH_take (i := 12) (v := ?v12z24) rfl (by kernel_rfl) (by kernel_rfl) (by kernel_rfl) (fun _ _ _ h => h) (Or.inl ⟨by rfl, ?y12z24⟩) z5 ?_
    case y12z24 => (intro w hSw; (try dsimp only at hSw); go_simp; try with_reducible rfl)
    simp only [Act.put, List.setIfInBounds_toArray, List.set_cons_zero, List.set_cons_succ, List.getElem_toArray, List.getElem_cons_zero, List.getElem_cons_succ]
    refine wpAnyH_ready (rs := [13]) (by kernel_rfl) (by simp) ?_
    refine AllReadyH.cons rfl (fun K hK => ?_) AllReadyH.nil
    go_simp
    refine hK.out _ _ ⟨(cell_far1 HQ.out.1).trans z5.1, (cell_far1 HQ.out.2).trans z5.2.1, (cell_far1 HQ.out.2).trans z5.2.2⟩ (fun _ => ?_)
    clear hK K
    try simp only [Act.put, List.setIfInBounds_toArray, List.set_cons_zero, List.set_cons_succ, List.getElem_toArray, List.getElem_cons_zero, List.getElem_cons_succ]
    refine wpAnyH_done (by kernel_rfl) ?_ _
    refine NoPanic.normal ?_
    have S6 := Lib.hid (ZZ.out)
    go_wp2_with fail
    refine ⟨⟨k + 1, by omega, by go_num, _, ?_, ?_, S6.out⟩, by simp [intOf]; omega⟩
    · rw [List.length_set]; exact HS.out.1
    · intro j hj
      rw [set_getDI (by rw [HS.out.1]; exact hlt)]
      by_cases hjk : j = k
      · rw [if_pos hjk, hjk]; show lookL L (d1, d0) = lookL L ((edgeC l k).2, (edgeC l k).1); rw [HD.out]
      · rw [if_neg hjk]; exact HS.out.2.1 j (by omega)

/-- What stands in the row of least corners, once the corners from k on are entered. -/
def LeastAt (l : List Tr) (n k : Nat) (v : Int) (x : Int) : Prop := (∃ c : Nat, k ≤ c ∧ c < 3 * n ∧ vtx l c = v ∧ x = (c : Int) ∧ ∀ a, k ≤ a → a < c → vtx l a ≠ v) ∨ ∀ a, k ≤ a → a < 3 * n → vtx l a ≠ v
structure SeSt (w wr : World) (g ql : Nat) (N : Int) (A : Option Addr) (n c M : Nat) (vo vm : Value) (xs : List Int) : Prop where
  kb : KB wr g N A n c vo vm (.slice (some ⟨ql, 0, none⟩) M M)
  row : RowI wr ql xs
  qw : w.heap.size ≤ ql
  gb : g < w.heap.size
  chg : Chg (fun x => x = g) w wr
theorem SeSt.below {w wr w' : World} {g ql : Nat} {N : Int} {A : Option Addr} {n c M : Nat} {vo vm : Value} {xs : List Int} (h : SeSt w wr g ql N A n c M vo vm xs) (hb : Below wr.heap.size wr w') : SeSt w w' g ql N A n c M vo vm xs :=
  ⟨h.kb.below hb, h.row.below hb, h.qw, h.gb, h.chg.trans (.of_below hb)⟩
theorem SeSt.set {w wr : World} {g ql : Nat} {N : Int} {A : Option Addr} {n c M : Nat} {vo vm : Value} {xs : List Int} (h : SeSt w wr g ql N A n c M vo vm xs) (k : Nat) (x : Int) : SeSt w (wr.setCell ⟨ql, k, none⟩ (.int .i64 x)) g ql N A n c M vo vm (xs.set k x) :=
  ⟨heap_far h.kb (show g ≠ ql by have := h.gb; have := h.qw; omega) _, h.row.set k x, h.qw, h.gb,
   h.chg.trans' (.of_set (S := fun x => x = ql) wr ⟨ql, k, none⟩ _ rfl) fun x hx e => by have := h.qw; omega⟩
def SeOut (w : World) (g ql : Nat) (N : Int) (A : Option Addr) (n c M : Nat) (vo vm : Value) (l : List Tr) (i : Value) (wr : World) : Prop := ∃ k : Nat, k ≤ 3 * n ∧ i = .int .i64 ((k : Int) - 1) ∧ ∃ xs : List Int, xs.length = M ∧ (∀ v, v < M → LeastAt l n k (v : Int) (xs.getD v 0)) ∧ SeSt w wr g ql N A n c M vo vm xs
def SetTold (w : World) (g : Nat) (N : Int) (A : Option Addr) (n c : Nat) (vo vm : Value) (l : List Tr) (e : Ending) (w' : World) : Prop := ∃ ql, ∃ xs : List Int, e = .returned (.tuple #[]) ∧ xs.length = N.toNat ∧ (∀ v, v < N.toNat → LeastAt l n 0 (v : Int) (xs.getD v 0)) ∧ SeSt w w' g ql N A n c N.toNat vo vm xs
set_option maxHeartbeats 4000000 in
set_option maxRecDepth 100000 in
theorem ksettle_any (w : World) (g : Nat) (N : Int) (A : Option Addr) (n c : Nat) (vo vm vl : Value) (l : List Tr) (h : KB w g N A n c vo vm vl) (ht : T3 w A n l) (hn : n ≤ 8192) (h0N : 0 ≤ N) (hN : N ≤ 4096)
    (hin : ∀ t ∈ l, inN N t.1 ∧ inN N t.2.1 ∧ inN N t.2.2) (hA : 0 < n → ∀ bk off, A = some ⟨bk, off, none⟩ → bk ≠ g) : Calls Try.prog 57 #[.pointer (some ⟨g, 0, none⟩)] w (SetTold w g N A n c vo vm l) := by
  obtain ⟨M, hM⟩ : ∃ M : Nat, N = (M : Int) := ⟨N.toNat, by omega⟩
  subst hM
  have c0 := h.c0
  have hmk := fun W => makeI9 M (by omega) W
  have e3 : IntKind.i64.wrap (3 * (n : Int)) = 3 * (n : Int) := IntWalk.i64_in _ (by omega)
  have e4 : IntKind.i64.wrap (3 * (n : Int) - 1) = 3 * (n : Int) - 1 := IntWalk.i64_in _ (by omega)
  obtain ⟨ql, hql⟩ : ∃ ql, w.heap.size = ql := ⟨_, rfl⟩
  obtain ⟨w1, hw1⟩ : ∃ w1, w.alloc (.cells (ints (List.replicate M 0)).toArray 3) = w1 := ⟨_, rfl⟩
  have b0 : Below w.heap.size w w1 := by rw [← hw1]; exact (Below.refl _ w).alloc (Nat.le_refl _) _
  have r0 : RowI w1 ql (List.replicate M 0) := by rw [← hw1, ← hql]; exact heap_alloc_new w _
  have hgb : g < w.heap.size := heap_lt h
  have h1 := h.below b0
  have f1 := frozen_in h1 4
  have c4 := h1.c4
  obtain ⟨w2, hw2⟩ : ∃ w2, w1.setCell ⟨g, 4, none⟩ (.slice (some ⟨ql, 0, none⟩) M M) = w2 := ⟨_, rfl⟩
  have k2 : KB w2 g (M : Int) A n c vo vm (.slice (some ⟨ql, 0, none⟩) M M) := by rw [← hw2]; have := heap_set h1 4 (.slice (some ⟨ql, 0, none⟩) M M); exact this
  have st0 : SeSt w w2 g ql (M : Int) A n c M vo vm (List.replicate M 0) :=
    ⟨k2, by rw [← hw2]; exact heap_far r0 (show ql ≠ g by omega) _, by omega, hgb, by rw [← hw2]; exact (Chg.of_below b0).set _ _ rfl⟩
  have d1 := k2.c1
  have ST := Lib.hid st0
  have HT := Lib.hid ht
  have HI := Lib.hid hin
  have HA := Lib.hid (show 0 < n → ∀ bk off, A = some ⟨bk, off, none⟩ → ¬ bk = g from hA)
  clear h ht hin hA r0 h1 k2 st0 b0 hgb
  go_enter Try.func57, Try.ntmps57
  go_wp2_with fail
  clear hw2 hw1 hql c0 c4 f1 hmk e3 e4 d1
  go_loopw [2] (SeOut w g ql (M : Int) A n c M vo vm l) (fun i _ => (intOf i + 1).toNat)
  case atStart => exact ⟨3 * n, Nat.le_refl _, by congr 1, _, by simp, fun v _ => .inr fun a h1 h2 => absurd h1 (by omega), ST.out⟩
  case round =>
    obtain ⟨k, hk, rfl, xs, hx, hv, hst⟩ := hrel
    cases k with
    | zero =>
      have d0 : decide (((0 : Nat) : Int) - 1 ≥ 0) = false := by simp
      have HS := Lib.hid (And.intro hx (And.intro hv hst))
      clear hst hx hv
      go_wp2
      refine bodyPost_ret (results_none rfl _ _ _) rfl ?_
      exact ⟨ql, xs, rfl, by rw [Int.toNat_natCast]; exact HS.out.1, by rw [Int.toNat_natCast]; exact HS.out.2.1, by rw [Int.toNat_natCast]; exact HS.out.2.2⟩
    | succ k =>
    rw [show (((k + 1 : Nat) : Int) - 1) = (k : Int) by omega]
    have d0 : decide ((k : Int) ≥ 0) = true := by simp
    have e5 : IntKind.i64.wrap ((k : Int) - 1) = (k : Int) - 1 := IntWalk.i64_in _ (by omega)
    have hvi := vtx_in HI.out (k := k) (by rw [HT.out.1]; exact hk)
    obtain ⟨v, hvv⟩ : ∃ v : Nat, vtx l k = (v : Int) := ⟨(vtx l k).toNat, by have := hvi.1; omega⟩
    have HVV := Lib.hid hvv
    rw [hvv] at hvi
    have b1 : (v : Int) < M := hvi.2
    have b2 : 0 ≤ (v : Int) := by omega
    have bd : Below wr.heap.size wr wr.drew := Reading.below ⟨1, rfl⟩
    have KV := Lib.hid (show Calls Try.prog 50 #[.pointer (some ⟨g, 0, none⟩), .int .i64 (k : Int)] wr.drew (IntSame wr.drew (v : Int)) from by
      have := kvertex_any wr.drew g _ A n c _ _ _ (hst.kb.below bd) (by omega) l ((HT.out.chg hst.chg HA.out).below bd) (k : Int)
      rwa [show vtxI l n (k : Int) = (v : Int) by unfold vtxI; rw [if_pos ⟨by omega, by omega⟩, Int.toNat_natCast, HVV.out]] at this)
    have sd := hst.below bd
    have hd4 := sd.kb.c4
    have SD := Lib.hid sd
    have y0 := sd.row.cell v (by rw [hx]; omega)
    have y1 := sd.row.frozen v
    have HS := Lib.hid (And.intro hx (And.intro hv hst))
    have HQ := Lib.hid (show g ≠ ql by have := sd.gb; have := sd.qw; omega)
    clear hst hx hv hvv hvi sd
    go_wp2_with fail
    refine wp_region_noPanic ?_
    refine wp_region_held_drew (S := fun w' => w'.cell? ⟨g, 4, none⟩ = some (.slice (some ⟨ql, 0, none⟩) M M)) (by kernel_rfl) hd4 (fun _ => ?_)
    refine wpAnyH_take (i := 0) (v := ?v0z25) rfl (by kernel_rfl) (by kernel_rfl) (by kernel_rfl) (fun _ _ _ h => h) (Or.inl ⟨by rfl, ?y0z25⟩) hd4 ?_
    case y0z25 => (intro w hSw; (try dsimp only at hSw); go_simp; try with_reducible rfl)
    simp only [Act.put, List.setIfInBounds_toArray, List.set_cons_zero, List.set_cons_succ, List.getElem_toArray, List.getElem_cons_zero]
    refine wpAnyH_take (i := 1) (v := ?v1z26) rfl (by kernel_rfl) (by kernel_rfl) (by kernel_rfl) (fun _ _ _ h => h) (Or.inl ⟨by rfl, ?y1z26⟩) hd4 ?_
    case y1z26 => (intro w hSw; (try dsimp only at hSw); go_simp; try with_reducible rfl)
    simp only [Act.put, List.setIfInBounds_toArray, List.set_cons_zero, List.set_cons_succ, List.getElem_toArray, List.getElem_cons_zero, List.getElem_cons_succ]
    refine wpAnyH_take (i := 2) (v := ?v2z27) rfl (by kernel_rfl) (by kernel_rfl) (by kernel_rfl) (fun _ _ _ h => h) (Or.inl ⟨by rfl, ?y2z27⟩) hd4 ?_
    case y2z27 => (intro w hSw; (try dsimp only at hSw); go_simp; try with_reducible rfl)
    simp only [Act.put, List.setIfInBounds_toArray, List.set_cons_zero, List.set_cons_succ, List.getElem_toArray, List.getElem_cons_zero, List.getElem_cons_succ]
    refine wpAnyH_take (i := 3) (v := ?v3z28) rfl (by kernel_rfl) (by kernel_rfl) (by kernel_rfl) (fun _ _ _ h => h) (Or.inl ⟨by rfl, ?y3z28⟩) hd4 ?_
    case y3z28 => (intro w hSw; (try dsimp only at hSw); go_simp; try with_reducible rfl)
    simp only [Act.put, List.setIfInBounds_toArray, List.set_cons_zero, List.set_cons_succ, List.getElem_toArray, List.getElem_cons_zero, List.getElem_cons_succ]
    refine wpAnyH_take (i := 4) (v := ?v4z29) rfl (by kernel_rfl) (by kernel_rfl) (by kernel_rfl) (fun _ _ _ h => h) (Or.inl ⟨by rfl, ?y4z29⟩) hd4 ?_
    case y4z29 => (intro w hSw; (try dsimp only at hSw); go_simp; try with_reducible rfl)
    simp only [Act.put, List.setIfInBounds_toArray, List.set_cons_zero, List.set_cons_succ, List.getElem_toArray, List.getElem_cons_zero, List.getElem_cons_succ]
    refine wpAnyH_take (i := 5) (v := ?v5z30) rfl (by kernel_rfl) (by kernel_rfl) (by kernel_rfl) (fun _ _ _ h => h) (Or.inl ⟨by rfl, ?y5z30⟩) hd4 ?_
    case y5z30 => (intro w hSw; (try dsimp only at hSw); go_simp; try with_reducible rfl)
    simp only [Act.put, List.setIfInBounds_toArray, List.set_cons_zero, List.set_cons_succ, List.getElem_toArray, List.getElem_cons_zero, List.getElem_cons_succ]
    refine wpAnyH_take (i := 7) (v := ?v7z31) rfl (by kernel_rfl) (by kernel_rfl) (by kernel_rfl) (fun _ _ _ h => h) (Or.inl ⟨by rfl, ?y7z31⟩) hd4 ?_
    case y7z31 => (intro w hSw; (try dsimp only at hSw); go_simp; try with_reducible rfl)
    simp only [Act.put, List.setIfInBounds_toArray, List.set_cons_zero, List.set_cons_succ, List.getElem_toArray, List.getElem_cons_zero, List.getElem_cons_succ]
    refine wpAnyH_ready (rs := [6]) (by kernel_rfl) (by simp) ?_
    refine AllReadyH.cons rfl (fun K hK => ?_) AllReadyH.nil
    rw [if_pos (by rfl)]
    go_wp2_with fail
    refine KV.out.mono ?_
    rintro e w5 ⟨rfl, rfl⟩
    have ZZ := Lib.hid (SD.out.set v (k : Int))
    go_wp2_with fail
    refine hK.out _ _ hd4 (fun _ => ?_)
    clear hK K
    try simp only [Act.put, List.setIfInBounds_toArray, List.set_cons_zero, List.set_cons_succ, List.getElem_toArray, List.getElem_cons_zero, List.getElem_cons_succ]
    refine wpAnyH_take (i := 8) (v := ?v8z32) rfl (by kernel_rfl) (by kernel_rfl) (by kernel_rfl) (fun _ _ _ h => h) (Or.inl ⟨by rfl, ?y8z32⟩) hd4 ?_
    case y8z32 => (intro w hSw; (try dsimp only at hSw); go_simp; try with_reducible rfl)
    simp only [Act.put, List.setIfInBounds_toArray, List.set_cons_zero, List.set_cons_succ, List.getElem_toArray, List.getElem_cons_zero, List.getElem_cons_succ]
    refine wpAnyH_ready (rs := [9]) (by kernel_rfl) (by simp) ?_
    refine AllReadyH.cons rfl (fun K hK => ?_) AllReadyH.nil
    go_simp
    refine hK.out _ _ ((cell_far1 HQ.out).trans hd4) (fun _ => ?_)
    clear hK K
    try simp only [Act.put, List.setIfInBounds_toArray, List.set_cons_zero, List.set_cons_succ, List.getElem_toArray, List.getElem_cons_zero, List.getElem_cons_succ]
    refine wpAnyH_done (by kernel_rfl) ?_ _
    refine NoPanic.normal ?_
    have S6 := Lib.hid (ZZ.out)
    go_wp2_with fail
    refine ⟨⟨k, by omega, rfl, _, ?_, ?_, S6.out⟩, by simp [intOf]⟩
    · rw [List.length_set]; exact HS.out.1
    · intro u hu
      rw [set_getDI (by rw [HS.out.1]; omega)]
      by_cases huv : u = v
      · rw [if_pos huv]
        refine .inl ⟨k, Nat.le_refl _, by omega, by rw [HVV.out, huv], rfl, fun a h1 h2 => absurd h2 (by omega)⟩
      · rw [if_neg huv]
        have hne : vtx l k ≠ (u : Int) := by rw [HVV.out]; omega
        rcases HS.out.2.1 u hu with ⟨c, h1, h2, h3, h4, h5⟩ | h
        · refine .inl ⟨c, by omega, h2, h3, h4, fun a ha1 ha2 => ?_⟩
          rcases Nat.eq_or_lt_of_le ha1 with e | e
          · rw [← e]; exact hne
          · exact h5 a (by omega) ha2
        · refine .inr fun a ha1 ha2 => ?_
          rcases Nat.eq_or_lt_of_le ha1 with e | e
          · rw [← e]; exact hne
          · exact h a (by omega) ha2
end Go.Proofs.Ytmflacmgffpjoaa

/- Layer 10: a table, whole; New; what a table's methods tell of a surface. -/
namespace Go.Proofs.Ytmflacmgffpjoaa
open Go.RowKit

theorem ownK_chg {S : Nat → Prop} {w w' : World} {B n s : Nat} {t : TypeId} {v : Value} {xs : List Value} (h : w.ownsRow B t s v n xs) (hc : Chg S w w') (hs : ∀ q, v.ownBlock = some q → ¬ S q) : w'.ownsRow B t s v n xs := by
  refine ⟨h.1, ?_⟩
  rcases h.2 with h1 | ⟨p, cap, cur, h1, hp, hh, h3⟩
  · exact .inl h1
  · exact .inr ⟨p, cap, cur, h1, hp, (hc.far p (heap_lt hh) (hs p (by rw [h1]; rfl))).trans hh, h3⟩
/-- What the map of a surface tells is the corner that faces the edge. -/
theorem look_facing {N : Int} {l : List Tr} (h : Surf N l) (e : Ed) : lookL (fcL l (3 * l.length)) e = facing l e := by
  unfold lookL
  cases hv : lastV (fcL l (3 * l.length)) e with
  | none =>
    have hn := lastV_none hv
    rcases facing_cases l e with h1 | ⟨c, h1, hc, he⟩
    · exact h1.symm
    · exact absurd he (hn (edgeC l c, (c : Int)) (List.mem_map.2 ⟨c, List.mem_range.2 hc, rfl⟩))
  | some v =>
    obtain ⟨c, hc, he⟩ := List.mem_map.1 (lastV_some hv)
    injection he with h1 h2
    subst h2
    rw [← h1, facing_edge h (List.mem_range.1 hc)]
    rfl
theorem least_corner {N : Int} {l : List Tr} (h : Surf N l) {v : Nat} (hv : v < N.toNat) {x : Int} (hx : LeastAt l l.length 0 (v : Int) x) : x = cornerAt l (v : Int) := by
  rcases hx with ⟨c, _, hc, hcv, rfl, hl⟩ | hno
  · exact (findC_spec.2 ⟨hc, decide_eq_true hcv, fun a ha => decide_eq_false (hl a (Nat.zero_le _) ha)⟩).symm
  · exfalso
    obtain ⟨t, ht, htv⟩ := h.used (v : Int) ⟨by omega, by omega⟩
    obtain ⟨i, hi, rfl⟩ := mem3_getD ht
    rcases htv with e | e | e
    · exact hno (3 * i) (by omega) (by omega) (by unfold vtx; rw [show (3 * i) / 3 = i by omega, show (3 * i) % 3 = 0 by omega]; exact e)
    · exact hno (3 * i + 1) (by omega) (by omega) (by unfold vtx; rw [show (3 * i + 1) / 3 = i by omega, show (3 * i + 1) % 3 = 1 by omega]; exact e)
    · exact hno (3 * i + 2) (by omega) (by omega) (by unfold vtx; rw [show (3 * i + 2) / 3 = i by omega, show (3 * i + 2) % 3 = 2 by omega]; exact e)
theorem corner_out {N : Int} {l : List Tr} (h : Surf N l) {v : Int} (hv : ¬ (0 ≤ v ∧ v < N)) : cornerAt l v = -1 := findC_none.2 fun _ hc => decide_eq_false fun e => hv (e ▸ vtx_in h.inb hc)

structure KT (w : World) (B g : Nat) (N : Int) (l : List Tr) (A : Option Addr) (c qo b ql : Nat) : Prop where
  kb : KB w g N A l.length c (.slice (some ⟨qo, 0, none⟩) (3 * l.length) (3 * l.length)) (.map (some b)) (.slice (some ⟨ql, 0, none⟩) N.toNat N.toNat)
  own : w.ownsRow B 53 3 (.slice A l.length c) l.length (ints (flat3 l))
  opp : ∃ xs : List Int, xs.length = 3 * l.length ∧ (∀ j, j < 3 * l.length → xs.getD j 0 = oppC l j) ∧ RowI w qo xs
  mp : MapL w b (fcL l (3 * l.length))
  lst : ∃ xs : List Int, xs.length = N.toNat ∧ (∀ v, v < N.toNat → xs.getD v 0 = cornerAt l (v : Int)) ∧ RowI w ql xs
  lo : B ≤ g ∧ B ≤ qo ∧ B ≤ b ∧ B ≤ ql
  sf : Surf N l
/-- A table of a surface, in memory from B on. -/
def KTab (w : World) (B g : Nat) (N : Int) (l : List Tr) : Prop := ∃ A c qo b ql, KT w B g N l A c qo b ql
theorem KTab.chg {S : Nat → Prop} {w w' : World} {B g : Nat} {N : Int} {l : List Tr} (h : KTab w B g N l) (hc : Chg S w w') (hS : ∀ b, S b → b < B) : KTab w' B g N l := by
  obtain ⟨A, c, qo, b, ql, h⟩ := h
  have far : ∀ {k : Nat} {o : Obj}, w.heap[k]? = some o → B ≤ k → w'.heap[k]? = some o := fun {k o} hk hB => (hc.far k (heap_lt hk) fun hs => by have := hS k hs; omega).trans hk
  obtain ⟨xo, ho1, ho2, ho3⟩ := h.opp
  obtain ⟨xl, hl1, hl2, hl3⟩ := h.lst
  exact ⟨A, c, qo, b, ql, far h.kb h.lo.1, ownK_chg h.own hc fun q hq hs => by have := ownK_lt h.own q hq; have := hS q hs; omega, ⟨xo, ho1, ho2, far ho3 h.lo.2.1⟩, h.mp.kept (hc.far b h.mp.lt fun hs => by have := hS b hs; have := h.lo.2.2.1; omega), ⟨xl, hl1, hl2, far hl3 h.lo.2.2.2⟩, h.lo, h.sf⟩
theorem KTab.below {w w' : World} {B g : Nat} {N : Int} {l : List Tr} (h : KTab w B g N l) (hb : Below w.heap.size w w') : KTab w' B g N l := h.chg (S := fun _ => False) (.of_below hb) fun _ hf => hf.elim
theorem KTab.base {w : World} {B C g : Nat} {N : Int} {l : List Tr} (h : KTab w B g N l) (hC : C ≤ B) : KTab w C g N l := by
  obtain ⟨A, c, qo, b, ql, h⟩ := h
  exact ⟨A, c, qo, b, ql, h.kb, ownK_base h.own hC, h.opp, h.mp, h.lst, ⟨by have := h.lo.1; omega, by have := h.lo.2.1; omega, by have := h.lo.2.2.1; omega, by have := h.lo.2.2.2; omega⟩, h.sf⟩
theorem KTab.surf {w : World} {B g : Nat} {N : Int} {l : List Tr} (h : KTab w B g N l) : Surf N l := by obtain ⟨_, _, _, _, _, h⟩ := h; exact h.sf
theorem KTab.lt {w : World} {B g : Nat} {N : Int} {l : List Tr} (h : KTab w B g N l) : g < w.heap.size := by obtain ⟨_, _, _, _, _, h⟩ := h; exact heap_lt h.kb

section methods
variable {w : World} {B g : Nat} {N : Int} {l : List Tr}
theorem KTab.tris (h : KTab w B g N l) : Calls Try.prog 35 #[.pointer (some ⟨g, 0, none⟩)] w (IntSame w (l.length : Int)) := by
  obtain ⟨_, _, _, _, _, h⟩ := h
  exact ktris_any w g N _ _ _ _ _ _ h.kb
theorem KTab.verts (h : KTab w B g N l) : Calls Try.prog 44 #[.pointer (some ⟨g, 0, none⟩)] w (IntSame w N) := by
  obtain ⟨_, _, _, _, _, h⟩ := h
  exact kverts_any w g N _ _ _ _ _ _ h.kb
theorem KTab.vertex (h : KTab w B g N l) (x : Int) : Calls Try.prog 50 #[.pointer (some ⟨g, 0, none⟩), .int .i64 x] w (IntSame w (vtxI l l.length x)) := by
  obtain ⟨_, _, _, _, _, h⟩ := h
  exact kvertex_any w g N _ _ _ _ _ _ h.kb (by have := h.sf.t1; omega) l (T3.of_own h.own) x
theorem KTab.next (h : KTab w B g N l) (x : Int) : Calls Try.prog 43 #[.pointer (some ⟨g, 0, none⟩), .int .i64 x] w (IntSame w (nxtI l.length x)) :=
  knext_of w _ _ (by have := h.surf.t1; omega) h.tris x
theorem KTab.prev (h : KTab w B g N l) (x : Int) : Calls Try.prog 52 #[.pointer (some ⟨g, 0, none⟩), .int .i64 x] w (IntSame w (prvI l.length x)) :=
  kprev_of w _ _ (by have := h.surf.t1; omega) h.tris x
theorem KTab.edge (h : KTab w B g N l) (x : Int) : Calls Try.prog 37 #[.pointer (some ⟨g, 0, none⟩), .int .i64 x] w (EdTold w (edgI l l.length x)) := by
  obtain ⟨_, _, _, _, _, h⟩ := h
  exact kedge_any w g N _ _ _ _ _ _ h.kb (by have := h.sf.t1; omega) l (T3.of_own h.own) x
theorem KTab.opp (h : KTab w B g N l) (x : Int) : Calls Try.prog 36 #[.pointer (some ⟨g, 0, none⟩), .int .i64 x] w (IntSame w (oppI l l.length x)) := by
  obtain ⟨_, _, _, _, _, h⟩ := h
  obtain ⟨xs, h1, h2, h3⟩ := h.opp
  exact kopp_row w g N _ _ _ _ _ _ l h.kb (by have := h.sf.t1; omega) (fun k hk => by rw [← h2 k hk]; exact h3.cell k (by rw [h1]; exact hk)) x
theorem KTab.facing (h : KTab w B g N l) (e0 e1 : Int) (hw : wfE (e0, e1)) : Calls Try.prog 69 #[.pointer (some ⟨g, 0, none⟩), .agg #[.int .i64 e0, .int .i64 e1]] w (IntTold w (facing l (e0, e1))) := by
  obtain ⟨_, _, _, _, _, h⟩ := h
  rw [← look_facing h.sf]
  exact kfacing_look w g N _ _ _ _ _ _ _ h.kb h.mp e0 e1 hw
theorem KTab.corner (h : KTab w B g N l) (x : Int) : Calls Try.prog 42 #[.pointer (some ⟨g, 0, none⟩), .int .i64 x] w (IntSame w (cornerAt l x)) := by
  obtain ⟨_, _, _, _, _, h⟩ := h
  obtain ⟨xs, h1, h2, h3⟩ := h.lst
  have := kcorner_row w g N _ _ _ _ _ _ l h.kb (fun k hk => by rw [← h2 k hk]; exact h3.cell k (by rw [h1]; exact hk)) x
  rwa [show corI l N x = cornerAt l x by
    unfold corI
    split
    · rfl
    · next hx => exact (corner_out h.sf hx).symm] at this
end methods
theorem results_tmp_row {P : Program} {fn : Func} {p u : Tmp} {ty : TypeId} (h : fn.results = #[.tmp u, .cell p ty]) (tmps : Array Value) (w : World) (g : Nat) (t : TypeId) (cs : Array Value) (fr : Nat × Nat) (d : TypeDesc)
    (hp : tmps.getD p undef = .pointer (some ⟨g, 0, none⟩)) (hg : w.heap[g]? = some (.cells cs t fr))
    (hu : P.underlying ty = some d) (hd : (match d with | .struct _ | .array _ _ => true | _ => false) = true) (hi : (P.info? ty).map (·.size) = some cs.size) :
    (results fn tmps).run P w = .ok (.tuple #[tmps.getD u undef, .agg cs]) w := by
  have hp' : tmps[p]?.getD undef = .pointer (some ⟨g, 0, none⟩) := by simpa using hp
  simp [results, h, hp', asAddr, run_loadVar_row w g t ty cs fr d hg hu hd hi]
/-- What New tells: no table and the witness, or a table and none. -/
def NewK (w : World) (N : Int) (l : List Tr) (ws : List Wt) (e : Ending) (w' : World) : Prop :=
  Below w.heap.size w w' ∧ ((ws ≠ [] ∧ e = .returned (.tuple #[.pointer none, wv (ws.headD (0, 0, 0))])) ∨ (ws = [] ∧ ∃ g, e = .returned (.tuple #[.pointer (some ⟨g, 0, none⟩), wv (0, 0, 0)]) ∧ KTab w' w.heap.size g N l))
set_option maxHeartbeats 8000000 in
set_option maxRecDepth 100000 in
theorem knew_any (w : World) (N : Int) (A : Option Addr) (n c : Nat) (l : List Tr) (p : Int → Bool) (ht : T3 w A n l) (hp : IsPin l p) (hn : n ≤ 1000000) : Calls Try.prog 33 #[.agg #[.int .i64 N, .slice A n c]] w (NewK w N l (wits p N l)) := by
  obtain ⟨w1, hw1⟩ : ∃ w1, w.alloc (.cells #[.int .i64 N, .slice A n c] 24) = w1 := ⟨_, rfl⟩
  obtain ⟨g0, hg0⟩ : ∃ g0, w.heap.size = g0 := ⟨_, rfl⟩
  have b1 : Below w.heap.size w w1 := by rw [← hw1]; exact (Below.refl _ w).alloc (Nat.le_refl _) _
  have x1 : Bx w1 g0 N A n c := by rw [← hw1, ← hg0]; exact Bx.made w N A n c
  obtain ⟨w2, hw2⟩ : ∃ w2, w1.alloc (.cells #[.int .i64 0, .int .i64 0, .int .i64 0] 61) = w2 := ⟨_, rfl⟩
  obtain ⟨rb, hrb⟩ : ∃ rb, w1.heap.size = rb := ⟨_, rfl⟩
  have b2 : Below w1.heap.size w1 w2 := by rw [← hw2]; exact (Below.refl _ w1).alloc (Nat.le_refl _) _
  have r2 : w2.heap[rb]? = some (.cells #[.int .i64 0, .int .i64 0, .int .i64 0] 61 (0, 0)) := by rw [← hw2, ← hrb]; exact heap_alloc_new w1 _
  have b12 := up2 b1 b2
  have x2 := x1.below b2
  have s0 := x2.c0
  have s1 := x2.c1
  have KC := Lib.hid (ccheck_any w2 N A n c l p (ht.below b12) hp hn)
  have HT := Lib.hid ht
  have HP := Lib.hid hp
  have R2 := Lib.hid (And.intro r2 (And.intro b12 (And.intro (show w.heap.size ≤ rb by rw [← hrb]; exact b1.size) x2)))
  clear b1 x1 b2 r2 b12 x2 ht hp
  go_enter Try.func33, Try.ntmps33
  go_wp2_with fail
  refine KC.out.mono ?_
  rintro e w3 ⟨rfl, b3⟩
  obtain ⟨y, hy⟩ : ∃ y, (wits p N l).headD (0, 0, 0) = y := ⟨_, rfl⟩
  obtain ⟨w4, hw4⟩ : ∃ w4, w3.alloc (.cells #[.int .i64 y.1, .int .i64 y.2.1, .int .i64 y.2.2] 61) = w4 := ⟨_, rfl⟩
  obtain ⟨q, hq⟩ : ∃ q, w3.heap.size = q := ⟨_, rfl⟩
  have b4 : Below w3.heap.size w3 w4 := by rw [← hw4]; exact (Below.refl _ w3).alloc (Nat.le_refl _) _
  have q4 : w4.heap[q]? = some (.cells #[.int .i64 y.1, .int .i64 y.2.1, .int .i64 y.2.2] 61 (0, 0)) := by rw [← hw4, ← hq]; exact heap_alloc_new w3 _
  have b24 := up2 b3 b4
  have r4 := (b24.block rb (heap_lt R2.out.1)).trans R2.out.1
  have B4 := Lib.hid (And.intro (up2 R2.out.2.1 b24) (And.intro r4 q4))
  have hrq : rb ≠ q := Nat.ne_of_lt (by rw [← hq]; exact heap_lt ((b3.block rb (heap_lt R2.out.1)).trans R2.out.1))
  have HRQ := Lib.hid hrq
  have e0 : w4.cell? ⟨q, 0, none⟩ = some (.int .i64 y.1) := by rw [cell_in q4]; rfl
  have x4 := R2.out.2.2.2.below b24
  have s0 := x4.c0
  have s1 := x4.c1
  have t4 := Lib.hid (HT.out.below (up2 R2.out.2.1 b24))
  clear b3 b4 b24 r4 q4 hrq x4
  by_cases hws : wits p N l = []
  case neg =>
    have hk : (y.1 != 0) = true := by
      obtain ⟨k, hk1, hk2⟩ := wits_kind p N l
      cases hx : wits p N l with
      | nil => exact absurd hx hws
      | cons z r =>
        rw [hx] at hy hk2
        have : y = z := hy.symm
        rw [this]
        have := hk2 z (List.mem_cons_self)
        simp only [bne_iff_ne, ne_eq]
        omega
    have HY := Lib.hid (And.intro hws hy)
    simp only [hy, wv]
    clear hws hy
    obtain ⟨y0, y1, y2⟩ := y
    have d0 := B4.out.2.2
    have z0 : w4.drew.cell? ⟨q, 0, none⟩ = some (.int .i64 y0) := by rw [World.cell?_drew, cell_in d0]; rfl
    have z1 : w4.drew.cell? ⟨q, 1, none⟩ = some (.int .i64 y1) := by rw [World.cell?_drew, cell_in d0]; rfl
    have z2 : w4.drew.cell? ⟨q, 2, none⟩ = some (.int .i64 y2) := by rw [World.cell?_drew, cell_in d0]; rfl
    have rd := B4.out.2.1
    have v0 : w4.cell? ⟨rb, 0, none⟩ = some (.int .i64 0) := by rw [cell_in rd]; rfl
    have v1 : w4.cell? ⟨rb, 1, none⟩ = some (.int .i64 0) := by rw [cell_in rd]; rfl
    have v2 : w4.cell? ⟨rb, 2, none⟩ = some (.int .i64 0) := by rw [cell_in rd]; rfl
    have f0 := frozen_in rd 0
    have f1 := frozen_in rd 1
    have f2 := frozen_in rd 2
    have hd := And.intro z0 (And.intro z1 z2)
    obtain ⟨W, hW⟩ : ∃ W, (((w4.setCell ⟨rb, 0, none⟩ (.int .i64 y0)).setCell ⟨rb, 1, none⟩ (.int .i64 y1)).setCell ⟨rb, 2, none⟩ (.int .i64 y2)).drew = W := ⟨_, rfl⟩
    have far : ∀ j v, w4.cell? ⟨q, j, none⟩ = some v → W.cell? ⟨q, j, none⟩ = some v := fun j v hv => by
      rw [← hW, World.cell?_drew]
      exact (cell_far1 (Ne.symm HRQ.out)).trans ((cell_far1 (Ne.symm HRQ.out)).trans ((cell_far1 (Ne.symm HRQ.out)).trans hv))
    have QQ := Lib.hid (And.intro (far 0 _ (by rw [← World.cell?_drew]; exact z0)) (And.intro (far 1 _ (by rw [← World.cell?_drew]; exact z1)) (far 2 _ (by rw [← World.cell?_drew]; exact z2))))
    have WB := Lib.hid (show W.heap[rb]? = some (.cells #[.int .i64 y0, .int .i64 y1, .int .i64 y2] 61 (0, 0)) ∧ Below w.heap.size w W from by
      rw [← hW]
      exact ⟨set3 rd, (below_set3 B4.out.1 R2.out.2.2.1 _ _ _).trans (Reading.below ⟨1, rfl⟩)⟩)
    clear rd d0 z0 z1 z2 far
    go_wp2_with fail
    clear hw4
    refine wp_region_noPanic ?_
    refine wp_region_held_drew (S := fun w' => w'.cell? ⟨q, 0, none⟩ = some (.int .i64 y0) ∧ w'.cell? ⟨q, 1, none⟩ = some (.int .i64 y1) ∧ w'.cell? ⟨q, 2, none⟩ = some (.int .i64 y2)) (by kernel_rfl) hd (fun _ => ?_)
    refine wpAnyH_take (i := 0) (v := ?v0z33) rfl (by kernel_rfl) (by kernel_rfl) (by kernel_rfl) (fun _ _ _ h => h) (Or.inl ⟨by rfl, ?y0z33⟩) hd ?_
    case y0z33 => (intro w hSw; (try dsimp only at hSw); go_simp; try with_reducible rfl)
    simp only [Act.put, List.setIfInBounds_toArray, List.set_cons_zero, List.set_cons_succ, List.getElem_toArray, List.getElem_cons_zero]
    refine wpAnyH_take (i := 1) (v := ?v1z34) rfl (by kernel_rfl) (by kernel_rfl) (by kernel_rfl) (fun _ _ _ h => h) (Or.inl ⟨by rfl, ?y1z34⟩) hd ?_
    case y1z34 => (intro w hSw; (try dsimp only at hSw); go_simp; try with_reducible rfl)
    simp only [Act.put, List.setIfInBounds_toArray, List.set_cons_zero, List.set_cons_succ, List.getElem_toArray, List.getElem_cons_zero, List.getElem_cons_succ]
    refine wpAnyH_ready (rs := [2]) (by kernel_rfl) (by simp) ?_
    refine AllReadyH.cons rfl (fun K hK => ?_) AllReadyH.nil
    go_simp
    refine hK.out _ _ QQ.out (fun _ => ?_)
    clear hK K
    try simp only [Act.put, List.setIfInBounds_toArray, List.set_cons_zero, List.set_cons_succ, List.getElem_toArray, List.getElem_cons_zero, List.getElem_cons_succ]
    refine wpAnyH_done (by kernel_rfl) ?_ _
    refine NoPanic.normal ?_
    go_wp2_with fail
    refine bodyPost_ret (results_tmp_row rfl _ _ rb 61 #[.int .i64 y0, .int .i64 y1, .int .i64 y2] (0, 0) _ rfl WB.out.1 under_wit rfl (by kernel_rfl)) rfl ?_
    refine ⟨WB.out.2, .inl ⟨HY.out.1, ?_⟩⟩
    rw [HY.out.2]
    rfl
  case pos =>
    have sf := (surf_iff HP.out).1 hws
    have hy0 : y = (0, 0, 0) := by rw [← hy, hws]; rfl
    have WS := Lib.hid hws
    simp only [hy, wv]
    clear hws hy
    obtain ⟨y0, y1, y2⟩ := y
    have hk : (y0 != 0) = false := by injection hy0 with h1 _; rw [h1]; rfl
    clear hy0
    have SF := Lib.hid sf
    have hln : n ≤ 8192 := by have := sf.t1; have := t4.out.1; omega
    have hN : N ≤ 4096 := sf.n1
    clear sf
    have KCo := Lib.hid (kcopied_any w4 N A n c l t4.out hn)
    go_wp2_with fail
    refine KCo.out.mono ?_
    rintro e w5 ⟨v, rfl, A', c', rfl, own5, b5⟩
    obtain ⟨w6, hw6⟩ : ∃ w6, w5.alloc (.cells #[.int .i64 N, .slice A' l.length c', .slice none 0 0, .map none, .slice none 0 0] 74) = w6 := ⟨_, rfl⟩
    obtain ⟨g, hg⟩ : ∃ g, w5.heap.size = g := ⟨_, rfl⟩
    have b6 : Below w5.heap.size w5 w6 := by rw [← hw6]; exact (Below.refl _ w5).alloc (Nat.le_refl _) _
    have k6 : KB w6 g N A' l.length c' (.slice none 0 0) (.map none) (.slice none 0 0) := by rw [← hw6, ← hg]; exact heap_alloc_new w5 _
    have own6 := ownK_up own5 b6
    have hA' : ∀ bk, (Value.slice A' l.length c').ownBlock = some bk → bk < g := fun bk hbk => by rw [← hg]; exact (own5.lt bk hbk).2
    have t6 := T3.of_own own6
    have hAg : 0 < l.length → ∀ bk off, A' = some ⟨bk, off, none⟩ → bk ≠ g := fun _ bk off e => by
      have := hA' bk (by rw [e]; rfl)
      omega
    have KF := Lib.hid (kface_any w6 g N A' l.length c' _ _ none l k6 t6 SF.out.t1 hN SF.out.inb hAg)
    have r6 := ((up2 b5 b6).block rb (heap_lt B4.out.2.1)).trans B4.out.2.1
    have H6 := Lib.hid (And.intro (up2 B4.out.1 (up2 b5 b6)) (And.intro own6 (And.intro hA' (And.intro hAg (And.intro r6 (show rb < g by rw [← hg]; exact Nat.lt_of_lt_of_le (heap_lt B4.out.2.1) b5.size))))))
    have HS6 := Lib.hid (And.intro (show w4.heap.size ≤ g by rw [← hg]; exact b5.size) (show g < w6.heap.size from heap_lt k6))
    clear own5 b5 b6 k6 own6 hA' t6 hAg r6
    go_wp2_with fail
    clear hw6 hg
    refine KF.out.mono ?_
    rintro e w7 ⟨b, rfl, st7⟩
    have own7 := ownK_chg H6.out.2.1 st7.chg fun x hx e => by have := H6.out.2.2.1 x hx; have e : x = g := e; omega
    have KO := Lib.hid (koppose_any w7 g b N A' l.length c' _ _ l _ st7.kb st7.mp (T3.of_own own7) SF.out.t1 hN SF.out.inb H6.out.2.2.2.1)
    have H7 := Lib.hid (And.intro st7 own7)
    clear st7 own7
    go_wp2_with fail
    refine KO.out.mono ?_
    rintro e w8 ⟨qo, xo, rfl, hxo, hvo, st8⟩
    have own8 := ownK_chg H7.out.2 st8.chg fun x hx e => by have := H6.out.2.2.1 x hx; have e : x = g := e; omega
    have KS := Lib.hid (ksettle_any w8 g N A' l.length c' _ _ _ l st8.kb (T3.of_own own8) SF.out.t1 SF.out.n0 hN SF.out.inb H6.out.2.2.2.1)
    have H8 := Lib.hid (And.intro st8 (And.intro own8 (And.intro hxo hvo)))
    clear st8 own8 hxo hvo
    go_wp2_with fail
    refine KS.out.mono ?_
    rintro e w9 ⟨ql, xl, rfl, hxl, hvl, st9⟩
    have far : ∀ {W W' : World} {k : Nat} {o : Obj}, Chg (fun x => x = g) W W' → k ≠ g → W.heap[k]? = some o → W'.heap[k]? = some o := fun {W W' k o} hc hk ho => (hc.far k (heap_lt ho) hk).trans ho
    have hrg : rb ≠ g := by have := H6.out.2.2.2.2.2; omega
    have r9 := far st9.chg hrg (far H8.out.1.chg hrg (far H7.out.1.chg hrg H6.out.2.2.2.2.1))
    have own9 := ownK_chg H8.out.2.1 st9.chg fun x hx e => by have := H6.out.2.2.1 x hx; have e : x = g := e; omega
    have hbg : b ≠ g := by have := H7.out.1.bw; have := H7.out.1.gb; omega
    have hqg : qo ≠ g := by have := H8.out.1.qw; have := H8.out.1.gb; omega
    have mp9 : MapL w9 b (fcL l (3 * l.length)) := H8.out.1.mp.kept (st9.chg.far b H8.out.1.mp.lt hbg)
    have row9 : RowI w9 qo xo := far st9.chg hqg H8.out.1.row
    have c69 := (H7.out.1.chg.trans H8.out.1.chg).trans st9.chg
    have hwg : w.heap.size ≤ g := by have := B4.out.1.size; have := HS6.out.1; omega
    have b9 : Below w.heap.size w w9 := H6.out.1.trans (c69.below (B := w.heap.size) (by have := HS6.out.2; omega) fun x hx => by have hx : x = g := hx; omega)
    have KTT : KT w9 w4.heap.size g N l A' c' qo b ql :=
      ⟨st9.kb, own9, ⟨xo, H8.out.2.2.1, fun j hj => by rw [H8.out.2.2.2 j hj]; exact look_facing SF.out _, row9⟩, mp9, ⟨xl, hxl, fun v hv => least_corner SF.out hv (hvl v hv), st9.row⟩,
        ⟨HS6.out.1, by have := H8.out.1.qw; have := H7.out.1.chg.size; have := HS6.out; omega, by have := H7.out.1.bw; have := HS6.out; omega, by have := st9.qw; have := H8.out.1.chg.size; have := H7.out.1.chg.size; have := HS6.out; omega⟩, SF.out⟩
    have f0 := frozen_in r9 0
    have f1 := frozen_in r9 1
    have f2 := frozen_in r9 2
    have v0 : w9.cell? ⟨rb, 0, none⟩ = some (.int .i64 0) := by rw [cell_in r9]; rfl
    have v1 : w9.cell? ⟨rb, 1, none⟩ = some (.int .i64 0) := by rw [cell_in r9]; rfl
    have v2 : w9.cell? ⟨rb, 2, none⟩ = some (.int .i64 0) := by rw [cell_in r9]; rfl
    have FIN := Lib.hid (And.intro r9 (And.intro b9 KTT))
    clear st9 far hrg r9 own9 hbg hqg mp9 row9 c69 b9 KTT hvl hxl
    go_wp2_with fail
    refine bodyPost_ret (results_tmp_row rfl _ _ rb 61 #[.int .i64 0, .int .i64 0, .int .i64 0] (0, 0) _ rfl (set3 FIN.out.1) under_wit rfl (by kernel_rfl)) rfl ?_
    refine ⟨below_set3 FIN.out.2.1 R2.out.2.2.1 _ _ _, .inr ⟨WS.out, g, rfl, ?_⟩⟩
    refine (KTab.chg (S := fun x => x = rb) ⟨_, _, _, _, _, FIN.out.2.2⟩ ?_ ?_).base B4.out.1.size
    · exact ((Chg.of_set (S := fun x => x = rb) w9 ⟨rb, 0, none⟩ _ rfl).set _ _ rfl).set _ _ rfl
    · intro x hx
      rw [show x = rb from hx]
      exact heap_lt B4.out.2.1
end Go.Proofs.Ytmflacmgffpjoaa
