/- Layer 12: the document's answers: all border edges; what a walk along the border tells. -/
import Derived.Test.YtmflacmgffpjoaaGP
import Derived.Test.YtmflacmgffpjoaaBdFac
import Derived.Test.YtmflacmgffpjoaaBdApp
namespace Go.Proofs.Ytmflacmgffpjoaa
open Go.RowKit

def EgR (w1 : World) (n : Nat) (l : List Tr) (o i : Value) (wr : World) : Prop := Below w1.heap.size w1 wr ∧ ∃ k : Nat, k ≤ 3 * n ∧ i = .int .i64 (k : Int) ∧ ∃ A c, o = .slice A (bUp l k).length c ∧ wr.ownsRow w1.heap.size 59 2 (.slice A (bUp l k).length c) (bUp l k).length (ints (flat2 (bUp l k)))
set_option maxHeartbeats 8000000 in
set_option maxRecDepth 100000 in
theorem r12edges_any (w : World) (N : Int) (A : Option Addr) (n c : Nat) (l : List Tr) (ht : T3 w A n l) (hn : n ≤ 300000) : Calls Try.prog 15 #[.agg #[.int .i64 N, .slice A n c]] w (EdgesTold w (bE l)) := by
  obtain ⟨w1, hw1⟩ : ∃ w1, w.alloc (.cells #[.int .i64 N, .slice A n c] 24) = w1 := ⟨_, rfl⟩
  obtain ⟨g, hg⟩ : ∃ g, w.heap.size = g := ⟨_, rfl⟩
  have b1 : Below w.heap.size w w1 := by rw [← hw1]; exact (Below.refl _ w).alloc (Nat.le_refl _) _
  have x1 : Bx w1 g N A n c := by rw [← hw1, ← hg]; exact Bx.made w N A n c
  have HL := Lib.hid ht
  have B1 := Lib.hid b1
  have HS := Lib.hid (fun W (b : Below w1.heap.size w1 W) => (show W.cell? ⟨g, 0, none⟩ = some (.int .i64 N) ∧ W.cell? ⟨g, 1, none⟩ = some (.slice A n c) from ⟨(x1.below b).c0, (x1.below b).c1⟩))
  have hmul : IntKind.i64.wrap (3 * (n : Int)) = 3 * (n : Int) := IntWalk.i64_in _ (by omega)
  clear b1 x1 ht
  go_enter Try.func15, Try.ntmps15
  go_wp2_with fail
  clear hw1 hg
  go_loopw [3, 4] (EgR w1 n l) (fun _ i _ => 3 * n - (intOf i).toNat)
  case atStart => exact ⟨Below.refl _ _, 0, Nat.zero_le _, rfl, none, 0, rfl, World.ownsRow_nil _ _ _ _⟩
  case round =>
    obtain ⟨hb, k, hk, rfl, Ao, co, rfl, ho⟩ := hrel
    have h0 := HS.out wr hb
    by_cases hlt : k < 3 * n
    case neg =>
      obtain rfl : k = 3 * n := by omega
      have b1 : ¬ (((3 * n : Nat) : Int) < 3 * (n : Int)) := by omega
      have b2 : decide (((3 * n : Nat) : Int) < 3 * (n : Int)) = false := decide_eq_false b1
      have HE := Lib.hid (show bUp l (3 * n) = bE l by rw [← HL.out.1]; rfl)
      have HO := Lib.hid (And.intro hb ho)
      clear hb ho
      go_wp2_with fail
      go_ret
      refine ⟨_, _, _, rfl, ?_, up2 B1.out HO.out.1⟩
      have := E2.of_own HO.out.2
      rwa [HE.out] at this ⊢
    have b1 : (k : Int) < 3 * (n : Int) := by omega
    have KO := Lib.hid (r12opp_any wr N A n c l (HL.out.below (up2 B1.out hb)) (by omega) k hlt)
    obtain ⟨m, hm⟩ : ∃ m, (bUp l k).length = m := ⟨_, rfl⟩
    have hmk : m ≤ 900000 := by have := bUp_le l k; omega
    have hs := bUp_succ l k
    obtain ⟨es, hes⟩ : ∃ es, bUp l k = es := ⟨_, rfl⟩
    rw [hm, hes] at ho
    rw [hes] at hs
    obtain ⟨z, hz⟩ : ∃ z, oppC l k = z := ⟨_, rfl⟩
    have hzn := opp_neg (l := l) (c := k)
    rw [hz] at KO hs hzn
    have HB := Lib.hid (And.intro hb ho)
    have HX := Lib.hid (And.intro hs hzn)
    have HM := Lib.hid (show es.length = m by rw [← hes]; exact hm)
    simp only [hm]
    clear hb ho hs hz hzn hm hes
    by_cases hz0 : z < 0
    case neg =>
      have d2 : decide (z < 0) = false := by simpa using hz0
      have HN := Lib.hid (show bUp l (k + 1) = es by rw [HX.out.1, if_neg fun e => hz0 (HX.out.2.2 e), List.append_nil])
      clear hz0
      go_wp2_with fail
      refine KO.out.mono ?_
      rintro e w2 ⟨rfl, b2⟩
      have B2 := Lib.hid b2
      clear b2
      go_wp2_with fail
      refine ⟨⟨up2 HB.out.1 B2.out, k + 1, by omega, by go_num, Ao, co, by rw [HN.out, HM.out], ?_⟩, by simp [intOf]; omega⟩
      rw [HN.out, HM.out]
      exact ownK_up HB.out.2 B2.out
    have d2 : decide (z < 0) = true := by simpa using hz0
    obtain ⟨x, hx⟩ : ∃ x, vtx l (nxt k) = x := ⟨_, rfl⟩
    obtain ⟨y, hy⟩ : ∃ y, vtx l (prv k) = y := ⟨_, rfl⟩
    have HN := Lib.hid (show bUp l (k + 1) = es ++ [(x, y)] by rw [HX.out.1, if_pos (HX.out.2.1 hz0), ← hx, ← hy]; rfl)
    have KN := Lib.hid (fun W => r12next_any W k (by omega))
    have KP := Lib.hid (fun W => r12prev_any W k (by omega))
    have kv1 := fun W (b : Below w1.heap.size w1 W) => r12v_any W N A n c l (HL.out.below (up2 B1.out b)) (by omega) (nxt k) (nxt_lt hlt)
    have kv2 := fun W (b : Below w1.heap.size w1 W) => r12v_any W N A n c l (HL.out.below (up2 B1.out b)) (by omega) (prv k) (prv_lt hlt)
    rw [hx] at kv1
    rw [hy] at kv2
    have KV1 := Lib.hid kv1
    have KV2 := Lib.hid kv2
    clear hz0 hx hy kv1 kv2
    go_wp2_with fail
    refine KO.out.mono ?_
    rintro e w2 ⟨rfl, b2⟩
    have B2 := Lib.hid (And.intro (up2 HB.out.1 b2) (ownK_up HB.out.2 b2))
    clear b2
    have h0 := HS.out w2 B2.out.1
    have bd : Below w1.heap.size w1 w2.drew := up2 B2.out.1 (Reading.below ⟨1, rfl⟩)
    have hd := HS.out w2.drew bd
    have OD := Lib.hid (show w2.drew.ownsRow w1.heap.size 59 2 (.slice Ao m co) m (ints (flat2 es)) from ownK_up B2.out.2 (Reading.below ⟨1, rfl⟩))
    have bw : Below w2.drew.heap.size w2.drew w2.drew := Below.refl _ _
    have HD := Lib.hid (fun W (b : Below w2.drew.heap.size w2.drew W) => HS.out W (up2 bd b))
    go_wp2_with fail
    refine wp_region_noPanic ?_
    refine wp_region_held_drew (S := fun w' => w'.cell? ⟨g, 0, none⟩ = some (.int .i64 N) ∧ w'.cell? ⟨g, 1, none⟩ = some (.slice A n c)) (by kernel_rfl) hd (fun _ => ?_)
    refine wpAnyH_take (i := 0) (v := ?v0z1) rfl (by kernel_rfl) (by kernel_rfl) (by kernel_rfl) (fun _ _ _ h => h) (Or.inl ⟨by rfl, ?y0z1⟩) hd ?_
    case y0z1 => (intro w hSw; (try dsimp only at hSw); go_simp; try with_reducible rfl)
    simp only [Act.put, List.setIfInBounds_toArray, List.set_cons_zero, List.set_cons_succ, List.getElem_toArray, List.getElem_cons_zero]
    refine wpAnyH_take (i := 1) (v := ?v1z2) rfl (by kernel_rfl) (by kernel_rfl) (by kernel_rfl) (fun _ _ _ h => h) (Or.inl ⟨by rfl, ?y1z2⟩) hd ?_
    case y1z2 => (intro w hSw; (try dsimp only at hSw); go_simp; try with_reducible rfl)
    simp only [Act.put, List.setIfInBounds_toArray, List.set_cons_zero, List.set_cons_succ, List.getElem_toArray, List.getElem_cons_zero, List.getElem_cons_succ]
    refine wpAnyH_take (i := 2) (v := ?v2z3) rfl (by kernel_rfl) (by kernel_rfl) (by kernel_rfl) (fun _ _ _ h => h) (Or.inl ⟨by rfl, ?y2z3⟩) hd ?_
    case y2z3 => (intro w hSw; (try dsimp only at hSw); go_simp; try with_reducible rfl)
    simp only [Act.put, List.setIfInBounds_toArray, List.set_cons_zero, List.set_cons_succ, List.getElem_toArray, List.getElem_cons_zero, List.getElem_cons_succ]
    refine wpAnyH_take (i := 5) (v := ?v5z4) rfl (by kernel_rfl) (by kernel_rfl) (by kernel_rfl) (fun _ _ _ h => h) (Or.inl ⟨by rfl, ?y5z4⟩) hd ?_
    case y5z4 => (intro w hSw; (try dsimp only at hSw); go_simp; try with_reducible rfl)
    simp only [Act.put, List.setIfInBounds_toArray, List.set_cons_zero, List.set_cons_succ, List.getElem_toArray, List.getElem_cons_zero, List.getElem_cons_succ]
    refine wpAnyH_take (i := 6) (v := ?v6z5) rfl (by kernel_rfl) (by kernel_rfl) (by kernel_rfl) (fun _ _ _ h => h) (Or.inl ⟨by rfl, ?y6z5⟩) hd ?_
    case y6z5 => (intro w hSw; (try dsimp only at hSw); go_simp; try with_reducible rfl)
    simp only [Act.put, List.setIfInBounds_toArray, List.set_cons_zero, List.set_cons_succ, List.getElem_toArray, List.getElem_cons_zero, List.getElem_cons_succ]
    refine wpAnyH_ready (rs := [3]) (by kernel_rfl) (by simp) ?_
    refine AllReadyH.cons rfl (fun K hK => ?_) AllReadyH.nil
    rw [if_pos (by rfl)]
    go_wp2_with fail
    refine (KN.out _).mono ?_
    rintro e v9 ⟨rfl, rfl⟩
    go_wp2_with fail
    refine hK.out _ _ (HD.out _ bw) (fun _ => ?_)
    clear hK K
    try simp only [Act.put, List.setIfInBounds_toArray, List.set_cons_zero, List.set_cons_succ, List.getElem_toArray, List.getElem_cons_zero, List.getElem_cons_succ]
    refine wpAnyH_ready (rs := [4]) (by kernel_rfl) (by simp) ?_
    refine AllReadyH.cons rfl (fun K hK => ?_) AllReadyH.nil
    rw [if_pos (by rfl)]
    go_wp2_with fail
    refine (KV1.out _ (up2 bd bw)).mono ?_
    rintro e vv2 ⟨rfl, b9⟩
    have dd2 := up2 bw b9
    clear b9
    go_wp2_with fail
    refine hK.out _ _ (HD.out _ dd2) (fun _ => ?_)
    clear hK K
    try simp only [Act.put, List.setIfInBounds_toArray, List.set_cons_zero, List.set_cons_succ, List.getElem_toArray, List.getElem_cons_zero, List.getElem_cons_succ]
    refine wpAnyH_ready (rs := [7]) (by kernel_rfl) (by simp) ?_
    refine AllReadyH.cons rfl (fun K hK => ?_) AllReadyH.nil
    rw [if_pos (by rfl)]
    go_wp2_with fail
    refine (KP.out _).mono ?_
    rintro e v9 ⟨rfl, rfl⟩
    go_wp2_with fail
    refine hK.out _ _ (HD.out _ dd2) (fun _ => ?_)
    clear hK K
    try simp only [Act.put, List.setIfInBounds_toArray, List.set_cons_zero, List.set_cons_succ, List.getElem_toArray, List.getElem_cons_zero, List.getElem_cons_succ]
    refine wpAnyH_ready (rs := [8]) (by kernel_rfl) (by simp) ?_
    refine AllReadyH.cons rfl (fun K hK => ?_) AllReadyH.nil
    rw [if_pos (by rfl)]
    go_wp2_with fail
    refine (KV2.out _ (up2 bd dd2)).mono ?_
    rintro e vv4 ⟨rfl, b9⟩
    have dd4 := up2 dd2 b9
    clear b9
    go_wp2_with fail
    refine hK.out _ _ (HD.out _ dd4) (fun _ => ?_)
    clear hK K
    try simp only [Act.put, List.setIfInBounds_toArray, List.set_cons_zero, List.set_cons_succ, List.getElem_toArray, List.getElem_cons_zero, List.getElem_cons_succ]
    refine wpAnyH_take (i := 9) (v := ?v9z6) rfl (by kernel_rfl) (by kernel_rfl) (by kernel_rfl) (fun _ _ _ h => h) (Or.inl ⟨by rfl, ?y9z6⟩) (HD.out _ dd4) ?_
    case y9z6 => (intro w hSw; (try dsimp only at hSw); go_simp; try with_reducible rfl)
    simp only [Act.put, List.setIfInBounds_toArray, List.set_cons_zero, List.set_cons_succ, List.getElem_toArray, List.getElem_cons_zero, List.getElem_cons_succ]
    refine wpAnyH_ready (rs := [10]) (by kernel_rfl) (by simp) ?_
    refine AllReadyH.cons rfl (fun K hK => ?_) AllReadyH.nil
    go_simp
    refine hK.out _ _ (HS.out _ (up1 (up2 bd dd4) _)) (fun _ => ?_)
    clear hK K
    try simp only [Act.put, List.setIfInBounds_toArray, List.set_cons_zero, List.set_cons_succ, List.getElem_toArray, List.getElem_cons_zero, List.getElem_cons_succ]
    obtain ⟨u1, hn⟩ : ∃ u, vv4.alloc (.cells #[.int .i64 x, .int .i64 y] 59) = u := ⟨_, rfl⟩
    obtain ⟨q, hg⟩ : ∃ u, vv4.heap.size = u := ⟨_, rfl⟩
    have qe : u1.heap[q]? = some (.cells #[.int .i64 x, .int .i64 y] 59 (0, 0)) := by rw [← hn, ← hg]; exact heap_alloc_new vv4 _
    have bn : Below vv4.heap.size vv4 u1 := by rw [← hn]; exact (Below.refl _ vv4).alloc (Nat.le_refl _) _
    have own1 := ownK_up (ownK_up OD.out dd4) bn
    have bw1 : Below w1.heap.size w1 u1 := up2 (up2 bd dd4) bn
    simp only [hn, hg]
    clear hn hg bn
    refine wpAnyH_ready (rs := [11]) (by kernel_rfl) (by simp) ?_
    refine AllReadyH.cons rfl (fun K hK => ?_) AllReadyH.nil
    refine step_snocE (x, y) own1 bw1.size (by omega) qe rfl (.tmp 17) (.tmp 27) rfl (by go_simp) (by go_simp) ?_
    intro A9 c9 w9 b9 own9
    have bw9 : Below w1.heap.size w1 w9 := bw1.trans b9
    refine hK.out _ _ (HS.out _ bw9) (fun _ => ?_)
    clear hK K
    try simp only [Act.put, List.setIfInBounds_toArray, List.set_cons_zero, List.set_cons_succ, List.getElem_toArray, List.getElem_cons_zero, List.getElem_cons_succ]
    clear b9 qe own1 bw1
    refine wpAnyH_take (i := 12) (v := ?v12z7) rfl (by kernel_rfl) (by kernel_rfl) (by kernel_rfl) (fun _ _ _ h => h) (Or.inl ⟨by rfl, ?y12z7⟩) (HS.out _ bw9) ?_
    case y12z7 => (intro w hSw; (try dsimp only at hSw); go_simp; try with_reducible rfl)
    simp only [Act.put, List.setIfInBounds_toArray, List.set_cons_zero, List.set_cons_succ, List.getElem_toArray, List.getElem_cons_zero, List.getElem_cons_succ]
    refine wpAnyH_done (by kernel_rfl) ?_ _
    refine NoPanic.normal ?_
    go_wp2_with fail
    refine ⟨⟨bw9, k + 1, by omega, by go_num, A9, c9, by rw [HN.out, List.length_append, HM.out]; rfl, ?_⟩, by simp [intOf]; omega⟩
    rw [HN.out, List.length_append, HM.out]
    exact own9
def WkR (w1 : World) (L : List Nat) (o x i : Value) (wr : World) : Prop := Below w1.heap.size w1 wr ∧ ∃ k : Nat, k < L.length ∧ i = .int .i64 (k : Int) ∧ x = .int .i64 ((L.getD k 0 : Nat) : Int) ∧ ∃ A c, o = .slice A k c ∧ wr.ownsRow w1.heap.size 3 1 (.slice A k c) k (ints (natsI (L.take k)))
set_option maxHeartbeats 8000000 in
set_option maxRecDepth 100000 in
theorem r12walk_any (w : World) (N : Int) (A : Option Addr) (n c : Nat) (l : List Tr) (ht : T3 w A n l) (h : Surf N l) (v : Int) (xs : List Int) (hx : IsWalk N l v xs) : Calls Try.prog 21 #[.agg #[.int .i64 N, .slice A n c], .int .i64 v] w (RowTold w xs) := by
  obtain rfl := ht.1
  obtain ⟨w1, hw1⟩ : ∃ w1, w.alloc (.cells #[.int .i64 N, .slice A l.length c] 24) = w1 := ⟨_, rfl⟩
  obtain ⟨g, hg⟩ : ∃ g, w.heap.size = g := ⟨_, rfl⟩
  have b1 : Below w.heap.size w w1 := by rw [← hw1]; exact (Below.refl _ w).alloc (Nat.le_refl _) _
  have x1 : Bx w1 g N A l.length c := by rw [← hw1, ← hg]; exact Bx.made w N A l.length c
  have hn : l.length ≤ 8192 := h.t1
  have HL := Lib.hid ht
  have B1 := Lib.hid b1
  have HS := Lib.hid (fun W (b : Below w1.heap.size w1 W) => (show W.cell? ⟨g, 0, none⟩ = some (.int .i64 N) ∧ W.cell? ⟨g, 1, none⟩ = some (.slice A l.length c) from ⟨(x1.below b).c0, (x1.below b).c1⟩))
  have hmul : IntKind.i64.wrap ((l.length : Int) * 3) = (l.length : Int) * 3 := IntWalk.i64_in _ (by omega)
  have KA := Lib.hid (fun W (b : Below w1.heap.size w1 W) x => r12after_any W N A l.length c l (HL.out.below (up2 B1.out b)) (by omega) x)
  have KA0 := Lib.hid (KA.out w1 (Below.refl _ _) v)
  have h0 := HS.out w1 (Below.refl _ _)
  have HF := Lib.hid h
  obtain ⟨z, hz⟩ : ∃ z, afterV l v = z := ⟨_, rfl⟩
  rw [hz] at KA0
  have hin : 0 ≤ z → 0 ≤ v := fun h0 => (after_in h (by rw [hz]; exact h0)).1.1
  unfold IsWalk at hx
  rw [hz] at hx
  clear b1 x1 ht h hz
  rcases hx with ⟨hz0, rfl⟩ | ⟨hz0, L, hL, rfl⟩
  · have d0 : decide (z < 0) = true := by simpa using hz0
    clear hz0 hin
    go_enter Try.func21, Try.ntmps21
    go_wp2_with fail
    clear hw1 hg
    refine KA0.out.mono ?_
    rintro e w2 ⟨rfl, b2⟩
    have B2 := Lib.hid b2
    clear b2
    go_wp2_with fail
    go_ret
    exact ⟨none, 0, 0, rfl, World.ownsRow_nil _ _ _ _, up2 B1.out B2.out⟩
  have d0 : decide (z < 0) = false := by simpa using hz0
  have hv0 : ((v.toNat : Nat) : Int) = v := by have := hin hz0; omega
  have hll := loop_len HF.out hL
  have hne := hL.chain.ne
  have HLP := Lib.hid (fun k hk => loop_after HF.out hL (k := k) hk)
  have HHD := Lib.hid (And.intro hL.chain.hd hL.chain.nd)
  clear hL hz0 hin
  go_enter Try.func21, Try.ntmps21
  go_wp2_with fail
  clear hw1 hg
  refine KA0.out.mono ?_
  rintro e w2 ⟨rfl, b2⟩
  have h2 := HS.out w2 b2
  have S2 := Lib.hid (show WkR w1 L (.slice none 0 0) (.int .i64 v) (.int .i64 ((0 : Nat) : Int)) w2 from ⟨b2, 0, hne, rfl, by rw [HHD.out.1, hv0], none, 0, rfl, World.ownsRow_nil _ _ _ _⟩)
  clear b2 h0
  go_wp2_with fail
  clear h2
  go_loopw [5, 6, 7] (WkR w1 L) (fun _ _ i _ => L.length - (intOf i).toNat)
  case atStart => exact S2.out
  case round =>
    obtain ⟨hb, k, hk, rfl, rfl, Ao, co, rfl, ho⟩ := hrel
    have h0 := HS.out wr hb
    have b1 : (k : Int) ≤ (l.length : Int) * 3 := by omega
    have HB := Lib.hid (And.intro hb ho)
    have hlp := HLP.out k hk
    obtain ⟨x, hx⟩ : ∃ x, L.getD k 0 = x := ⟨_, rfl⟩
    rw [hx] at hlp
    simp only [hx]
    have HK := Lib.hid (show natsI (L.take (k + 1)) = natsI (L.take k) ++ [(x : Int)] by rw [take_snocN hk, natsI_snoc, hx])
    have HX := Lib.hid hx
    have hsz := hb.size
    clear hb ho hx
    go_wp2_with (at_builtin; refine wpl_snocI (x : Int) HB.out.2 hsz (by omega) rfl (.tmp 21) (.tmp 23) rfl (by go_simp) rfl ?_)
    intro A9 c9 w9 b9 own9
    rw [← HK.out] at own9
    have b10 : Below w1.heap.size w1 w9 := HB.out.1.trans b9
    have h9 := HS.out w9 b10
    have K9 := Lib.hid (KA.out w9 b10 (x : Int))
    have H9 := Lib.hid (And.intro b10 own9)
    clear b9 b10 own9 h0
    rcases hlp with ⟨h1, h2⟩ | ⟨h1, h2⟩
    · obtain ⟨y, hy⟩ : ∃ y, L.getD (k + 1) 0 = y := ⟨_, rfl⟩
      have hyv : (y : Int) ≠ v := fun e => by
        have := nodup_at HHD.out.2 h1 hne (by rw [hy, HHD.out.1]; omega)
        omega
      have d1 : ((y : Int) == v) = false := by rw [beq_eq_false_iff_ne]; exact hyv
      rw [hy] at h2
      rw [h2] at K9
      have HY := Lib.hid (And.intro hy h1)
      clear h1 h2 hy hyv
      go_wp2_with fail
      refine K9.out.mono ?_
      rintro e w10 ⟨rfl, b11⟩
      have H10 := Lib.hid (And.intro (up2 H9.out.1 b11) (ownK_up H9.out.2 b11))
      clear b11
      go_wp2_with fail
      exact ⟨⟨H10.out.1, k + 1, HY.out.2, by go_num, by rw [HY.out.1], A9, c9, rfl, H10.out.2⟩, by simp [intOf]; omega⟩
    · rw [h2, hv0] at K9
      have d1 : (v == v) = true := beq_self_eq_true v
      have H1 := Lib.hid h1
      clear h1 h2
      go_wp2_with fail
      refine K9.out.mono ?_
      rintro e w10 ⟨rfl, b11⟩
      have H10 := Lib.hid (And.intro (up2 H9.out.1 b11) (ownK_up H9.out.2 b11))
      clear b11
      go_wp2_with fail
      go_ret
      refine ⟨_, _, _, rfl, ?_, up2 B1.out H10.out.1⟩
      have := ownK_base H10.out.2 B1.out.size
      rwa [show L.take (k + 1) = L by rw [H1.out, List.take_length]] at this
end Go.Proofs.Ytmflacmgffpjoaa
