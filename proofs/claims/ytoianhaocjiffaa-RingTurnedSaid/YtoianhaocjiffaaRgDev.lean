/- Layer 11: the developers' ring, all of it: of any table, and of none; any vertex, any two. -/
import Derived.Test.YtoianhaocjiffaaRgArd
import Derived.Test.YtoianhaocjiffaaRdRound
namespace Go.Proofs.Ytoianhaocjiffaa
open Go.RowKit Go.Shelf

attribute [local go_sem] Oper.semAt_some

/-- What Link gathers of the corners that came. -/
def lkI (l : List Tr) (xs : List Int) : List Int := xs.flatMap fun x => vtxI l l.length (nxtI l.length x) :: if aftI l x < 0 then [vtxI l l.length (prvI l.length x)] else []
theorem lkI_snoc (l : List Tr) (xs : List Int) (x : Int) : lkI l (xs ++ [x]) = lkI l xs ++ (vtxI l l.length (nxtI l.length x) :: if aftI l x < 0 then [vtxI l l.length (prvI l.length x)] else []) := by
  unfold lkI; rw [List.flatMap_append]; simp
theorem lkI_len (l : List Tr) (xs : List Int) : (lkI l xs).length ≤ 2 * xs.length := by
  unfold lkI
  induction xs with
  | nil => simp
  | cons x r ih =>
    rw [List.flatMap_cons, List.length_append, List.length_cons, List.length_cons]
    split <;> simp only [List.length_nil, List.length_cons] <;> omega
theorem vtxI_nat {l : List Tr} {k : Nat} (h : k < 3 * l.length) : vtxI l l.length (k : Int) = vtx l k := by unfold vtxI; rw [if_pos (isC_nat h), Int.toNat_natCast]
theorem lkI_take {N : Int} {l : List Tr} (h : Surf N l) {v : Int} {c0 : Nat} {L : List Nat} (hL : IsAround l v c0 L) : ∀ k, (k < L.length ∨ (k = L.length ∧ oppC l (prv c0) ≠ -1)) → lkI l (natsI (L.take k)) = (L.take k).map fun c => vtx l (nxt c)
  | 0, _ => by simp [lkI, natsI]
  | k + 1, hk => by
    have hlt : k < L.length := by omega
    have cm : L.getD k 0 < 3 * l.length := (cAt_mem.1 (hL.chain.sub _ (getDn_mem hlt))).1
    rw [take_snocN hlt, natsI_snoc, lkI_snoc, lkI_take h hL k (.inl hlt), List.map_append, nxtI_nat cm, vtxI_nat (nxt_lt cm)]
    have ha : ¬ aftI l ((L.getD k 0 : Nat) : Int) < 0 := by
      rcases aft_step h hL hlt with ⟨_, e⟩ | ⟨h1, h2, _⟩ | ⟨_, _, e⟩
      · rw [e]; omega
      · rcases hk with hk | ⟨_, hk⟩
        · omega
        · exact absurd h2 hk
      · rw [e]; omega
    rw [if_neg ha]
    rfl
theorem lkI_ring {l : List Tr} (hs : l = [] ∨ ∃ N, Surf N l) {v : Int} {L : List Nat} (hL : IsRing l v L) : lkI l (natsI L) = linkL l L := by
  rcases hL with ⟨_, rfl⟩ | ⟨c0, hf, hL⟩
  · rfl
  obtain ⟨N, h⟩ : ∃ N, Surf N l := by
    rcases hs with rfl | hs
    · exact absurd (cAt_mem.1 hf.1).1 (by simp)
    · exact hs
  have h0 := hL.chain.ne
  have hin : InnerL l L ↔ oppC l (prv c0) ≠ -1 := by
    unfold InnerL
    rw [hL.chain.hd]
    exact ⟨fun h => h.2, fun h => ⟨h0, h⟩⟩
  unfold linkL
  by_cases hb : oppC l (prv c0) = -1
  · rw [if_pos ⟨h0, fun h => hin.1 h hb⟩]
    obtain ⟨k, hk⟩ : ∃ k, L.length = k + 1 := ⟨L.length - 1, by omega⟩
    have hlt : k < L.length := by omega
    have cm : L.getD k 0 < 3 * l.length := (cAt_mem.1 (hL.chain.sub _ (getDn_mem hlt))).1
    have e : L = L.take k ++ [L.getD k 0] := by rw [← take_snocN hlt, List.take_of_length_le (by omega)]
    have ha : aftI l ((L.getD k 0 : Nat) : Int) = -1 := by
      rcases aft_step h hL hlt with ⟨h1, _⟩ | ⟨_, _, e⟩ | ⟨_, h2, _⟩
      · omega
      · exact e
      · exact absurd hb h2
    rw [show L.length - 1 = k by omega]
    conv => lhs; rw [e, natsI_snoc, lkI_snoc, lkI_take h hL k (.inl hlt), ha, if_pos (by omega), nxtI_nat cm, vtxI_nat (nxt_lt cm), prvI_nat cm, vtxI_nat (prv_lt cm)]
    conv => rhs; lhs; rw [e, List.map_append]
    simp
  · rw [if_neg fun h => h.2 (hin.2 hb), List.append_nil]
    have := lkI_take h hL L.length (.inr ⟨rfl, hb⟩)
    rwa [List.take_length] at this
theorem ring_le {l : List Tr} (hs : l = [] ∨ ∃ N, Surf N l) {v : Int} {L : List Nat} (hL : IsRing l v L) : L.length ≤ 8192 := by
  rcases hs with rfl | ⟨N, h⟩
  · rw [hL.len]; simp [cAt]
  · rw [hL.len]
    have := cAt_le h v
    have := h.t1
    omega
theorem keepX_set {X : Nat → Prop} {m B : Nat} {W : World} (hX : X B) (v' : Value) : KeepX X m W (W.setCell ⟨B, 0, none⟩ v') := by
  have hg := grownBy_setCell' W B v'
  exact ⟨hg.os, hg.tape, hg.output, hg.size, fun b _ hs hx => hg.block b hs fun e => by injection e with e; subst e; exact hx hX⟩
set_option maxHeartbeats 4000000 in
set_option maxRecDepth 100000 in
theorem rgdegree_of (w : World) (p : Option Addr) (l : List Tr) (h : RT w p l) (v : Int) (L : List Nat) (hL : IsRing l v L) : Calls Try.prog 17 #[.pointer p, .int .i64 v] w (IntTold w (L.length : Int)) := by
  refine (callsIn_wide (n := 7)).1 ?_
  have hlen := ring_le h.surf hL
  obtain ⟨w1, hw1⟩ : ∃ w1, w.alloc (.cells #[.int .i64 0] 3) = w1 := ⟨_, rfl⟩
  obtain ⟨bo, hbo⟩ : ∃ bo, w.heap.size = bo := ⟨_, rfl⟩
  have b1 : Below w.heap.size w w1 := by rw [← hw1]; exact (Below.refl _ w).alloc (Nat.le_refl _) _
  have o1 : Boxed w1 bo 3 (.int .i64 0) := by rw [← hw1, ← hbo]; exact Boxed.new w _ _
  have K := Lib.hid (fun W (b : Below w.heap.size w W) => rgaround_of w p l h v L hL W b)
  have hc := o1.cell
  have hf := o1.frozen
  obtain ⟨w2, hw2⟩ : ∃ w2, w1.setCell ⟨bo, 0, none⟩ (.int .i64 0) = w2 := ⟨_, rfl⟩
  have b2 : Below w.heap.size w w2 := by rw [← hw2]; exact b1.setCell (p := ⟨bo, 0, none⟩) (by show w.heap.size ≤ bo; omega) _
  have o2 : Boxed w2 bo 3 (.int .i64 0) := by rw [← hw2]; exact o1.set _
  have HB := Lib.hid (And.intro b2 (And.intro o2 (show w.heap.size ≤ bo by omega)))
  clear b1 o1 b2 o2 h hL
  refine callsIn_of_wp_marks Try.func17 rfl trivial ?_ rfl
  simp only [Try.ntmps17, List.size_toArray, List.length_cons, List.length_nil, Nat.reduceAdd, Nat.reduceSub, Array.replicate_succ, Array.replicate_zero, List.push_toArray, List.append_toArray, List.nil_append, List.cons_append]
  gi_wp2_with (refine ⟨trivial, ?_⟩; gi_at_call 29; refine (callsIn_wide.2 (K.out w2 HB.out.1)).mono ?_; rintro e w3 ⟨lb, rfl, b3, hseq⟩)
  have o3 : Boxed w3 bo 3 (.int .i64 0) := (b3.block bo HB.out.2.1.lt).trans HB.out.2.1
  have hbo2 : bo < w2.heap.size := HB.out.2.1.lt
  have B3 := Lib.hid (up2 HB.out.1 b3)
  have hbw := HB.out.2.2
  have h23 := b3.size
  clear hc hf hw1 hw2
  refine wpIn_rangeFunc_ownG (F := Fence.wide) (n := 7) rfl (by decide) (gf := 47) (lb := lb) rfl trivial (enters_of Try.func47 (by kernel_rfl) rfl)
    (hseq (fun b => b = bo) w3.heap.size 6 (fun b hb => by subst hb; exact ⟨hbw, hbo2⟩) (Nat.le_refl _) (by decide)) (fun h k => h.trans k) (keepX_b (Nat.le_refl _)) (Below.refl _ _) (fun _ => rfl)
    (fun pre W => Boxed W bo 3 (.int .i64 (pre.length : Int)) ∧ KeepX (fun b => b = bo) w3.heap.size w3 W)
    (fun _ _ _ => False)
    (OwnFrom.and (Own.from (boxed_own bo 3 (fun pre : List Int => .int .i64 (pre.length : Int))) _) (ownFrom_keepX (Nat.le_refl _)))
    (fun _ _ _ _ _ hs _ _ => hs)
    ⟨o3, KeepX.refl _ _ _⟩
    (fun x => { tmps := #[.pointer p, .int .i64 v, undef, undef, .int .i64 0, .pointer (some ⟨bo, 0, none⟩), .pointer p, .int .i64 v, .func (.func 47) #[] lb, .int .i64 x, undef, undef, undef], defers := [] }) ?assign ?body ?done ?stop
  case assign =>
    intro l x W K hK
    gi_wp2
    simpa using hK
  case body =>
    rintro l0 pre x W ⟨hv, hkx⟩ hN
    have hc := hv.cell
    have hf := hv.frozen
    obtain ⟨k, hk⟩ : ∃ k, pre.length = k := ⟨_, rfl⟩
    have hb : pre.length < 8192 := by rw [natsI_len] at hN; omega
    have HP := Lib.hid (show ((pre ++ [x]).length : Int) = (k : Int) + 1 by rw [List.length_append, hk]; simp)
    have ew : IntKind.i64.wrap ((k : Int) + 1) = (k : Int) + 1 := IntWalk.i64_in _ (by omega)
    have HH := Lib.hid (And.intro hv hkx)
    rw [hk] at hc
    clear hv hkx hk hN hb
    gi_wp2_with fail
    exact ⟨(KeepsOthers.setCell _ _ _).from _, keepX_set (X := fun b => b = bo) rfl _, by rw [HP.out]; exact HH.out.1.set _, HH.out.2.trans (keepX_set (X := fun b => b = bo) rfl _)⟩
  case done =>
    rintro D ys W hD rfl ⟨hv, hkx⟩ hK
    have hc := hv.cell
    rw [natsI_len] at hc
    gi_wp2
    refine ⟨by simp, .inl ⟨_, _, rfl, run_takeDeferred hK, ?_⟩⟩
    refine ⟨_, results_tmp rfl _ _ _, rfl, ?_⟩
    exact (B3.out.trans (hkx.below (n := w.heap.size) B3.out.size B3.out.size (fun b hb => by subst hb; exact hbw))).trans (belowK_b (w := w3) B3.out.size W D _ _ hD hK rfl rfl)
  case stop =>
    rintro D c pre W hD hpre h hK
    exact h.elim
/-- What Link holds behind a corner: its row, the table's place; what it kept. -/
def LkM (m bt bo : Nat) (p : Option Addr) (W : World) (zs : List Int) (w' : World) : Prop :=
  (∃ A c, Boxed w' bo 28 (.slice A zs.length c) ∧ w'.ownsRow m 3 1 (.slice A zs.length c) zs.length (ints zs)) ∧ Boxed w' bt 26 (.pointer p) ∧ KeepX (fun b => b = bo) m W w' ∧ KeepsOthers W w'
theorem lkM_app {m bt bo n c9 : Nat} {cv : Nat} {p : Option Addr} {W w9 : World} {Av A9 : Option Addr} {ys : List Int} {y : Int} {tmp : Obj} (hv : Boxed W bo 28 (.slice Av n cv)) (hrow : W.ownsRow m 3 1 (.slice Av n cv) n (ints ys)) (hq : Boxed W bt 26 (.pointer p)) (hbt : bt < m) (hne : bt ≠ bo) (hys : ys.length = n)
    (gr : (W.alloc tmp).grownBy w9 (Value.slice Av n cv).ownBlock) (own : w9.ownsRow m 3 1 (.slice A9 (n + 1) c9) (n + 1) (ints (ys ++ [y]))) :
    (w9.cell? ⟨bo, 0, none⟩ = some (.slice Av n cv) ∧ w9.frozen? ⟨bo, 0, none⟩ = false ∧ w9.cell? ⟨bt, 0, none⟩ = some (.pointer p)) ∧ LkM m bt bo p W (ys ++ [y]) (w9.setCell ⟨bo, 0, none⟩ (.slice A9 (n + 1) c9)) := by
  have h9 : Boxed w9 bo 28 (.slice Av n cv) := (hv.alloc _).kept gr (hv.not_row (by decide) hrow)
  have q9 : Boxed w9 bt 26 (.pointer p) := (hq.alloc _).kept gr (fun e => by have := (hrow.lt bt e.symm).1; omega)
  have CO := collected (X := fun b => b = bo) (t := 28) rfl (by decide) hv hrow own gr
  have hl : (ys ++ [y]).length = n + 1 := by simp [hys]
  refine ⟨⟨h9.cell, h9.frozen, q9.cell⟩, ⟨A9, c9, ?_, ?_⟩, heap_far q9 hne _, CO.2.1, CO.1⟩
  · rw [hl]; exact CO.2.2.1
  · rw [hl]; exact CO.2.2.2
set_option maxHeartbeats 8000000 in
set_option maxRecDepth 100000 in
theorem rglink_of (w : World) (p : Option Addr) (l : List Tr) (h : RT w p l) (v : Int) (L : List Nat) (hL : IsRing l v L) : Calls Try.prog 15 #[.pointer p, .int .i64 v] w (RowTold w (linkL l L)) := by
  refine (callsIn_wide (n := 7)).1 ?_
  rw [← lkI_ring h.surf hL]
  have hlen := ring_le h.surf hL
  obtain ⟨i0, hi, hz0, hz1, hz2⟩ := info_parts Try.infoInt
  obtain ⟨w1, hw1⟩ : ∃ w1, w.alloc (.cells #[.pointer p] 26) = w1 := ⟨_, rfl⟩
  obtain ⟨bt, hbt⟩ : ∃ bt, w.heap.size = bt := ⟨_, rfl⟩
  obtain ⟨w2, hw2⟩ : ∃ w2, w1.alloc (.cells #[.slice none 0 0] 28) = w2 := ⟨_, rfl⟩
  obtain ⟨bo, hbo⟩ : ∃ bo, w1.heap.size = bo := ⟨_, rfl⟩
  have b1 : Below w.heap.size w w1 := by rw [← hw1]; exact (Below.refl _ w).alloc (Nat.le_refl _) _
  have b2 : Below w1.heap.size w1 w2 := by rw [← hw2]; exact (Below.refl _ w1).alloc (Nat.le_refl _) _
  have o1 : Boxed w1 bt 26 (.pointer p) := by rw [← hw1, ← hbt]; exact Boxed.new w _ _
  have o2 : Boxed w2 bo 28 (.slice none 0 0) := by rw [← hw2, ← hbo]; exact Boxed.new w1 _ _
  have q2 : Boxed w2 bt 26 (.pointer p) := (b2.block bt o1.lt).trans o1
  have c2 := q2.cell
  have K := Lib.hid (rgaround_of w p l h v L hL w2 (up2 b1 b2))
  have HR := Lib.hid (fun W (b : Below w.heap.size w W) => h.below b)
  have HB := Lib.hid (And.intro (up2 b1 b2) (And.intro q2 (And.intro o2 (show bt < bo by rw [← hbo]; exact o1.lt))))
  clear b1 b2 o1 o2 q2 h hL
  refine callsIn_of_wp_marks Try.func15 rfl trivial ?_ rfl
  simp only [Try.ntmps15, List.size_toArray, List.length_cons, List.length_nil, Nat.reduceAdd, Nat.reduceSub, Array.replicate_succ, Array.replicate_zero, List.push_toArray, List.append_toArray, List.nil_append, List.cons_append]
  gi_wp2_with (refine ⟨trivial, ?_⟩; gi_at_call 29; refine (callsIn_wide.2 K.out).mono ?_; rintro e w3 ⟨lb, rfl, b3, hseq⟩)
  have o3 : Boxed w3 bo 28 (.slice none 0 0) := (b3.block bo HB.out.2.2.1.lt).trans HB.out.2.2.1
  have q3 : Boxed w3 bt 26 (.pointer p) := (b3.block bt HB.out.2.1.lt).trans HB.out.2.1
  have hbo2 : bo < w2.heap.size := HB.out.2.2.1.lt
  have B3 := Lib.hid (up2 HB.out.1 b3)
  have hbw : w.heap.size ≤ bo := by have := HB.out.2.2.2; omega
  have hne : bt ≠ bo := Nat.ne_of_lt HB.out.2.2.2
  have h23 := b3.size
  clear c2 hw1 hw2
  refine wpIn_rangeFunc_ownG (F := Fence.wide) (n := 7) rfl (by decide) (gf := 47) (lb := lb) rfl trivial (enters_of Try.func47 (by kernel_rfl) rfl)
    (hseq (fun b => b = bo) w3.heap.size 6 (fun b hb => by subst hb; exact ⟨hbw, hbo2⟩) (Nat.le_refl _) (by decide)) (fun h k => h.trans k) (keepX_b (Nat.le_refl _)) (Below.refl _ _) (fun _ => rfl)
    (fun pre W => (∃ vo, Boxed W bo 28 vo ∧ W.ownsRow w3.heap.size 3 1 vo (lkI l pre).length (ints (lkI l pre)) ∧ True) ∧ (Boxed W bt 26 (.pointer p) ∧ KeepX (fun b => b = bo) w3.heap.size w3 W))
    (fun _ _ _ => False)
    (OwnFrom.and (Own.from (holdsRow_own w3.heap.size bo 28 3 1 (fun pre : List Int => (lkI l pre).length) (fun pre => ints (lkI l pre)) (fun _ _ => True)) _) (OwnFrom.and (Own.from (boxed_own bt 26 (fun _ => .pointer p)) _) (ownFrom_keepX (Nat.le_refl _))))
    (fun _ _ _ _ _ hs _ _ => hs)
    ⟨⟨_, o3, World.ownsRow_nil _ _ _ _, trivial⟩, q3, KeepX.refl _ _ _⟩
    (fun x => { tmps := #[.pointer p, .int .i64 v, .pointer (some ⟨bt, 0, none⟩), undef, .slice none 0 0, .pointer (some ⟨bo, 0, none⟩), .int .i64 x, .pointer p, .int .i64 v, .func (.func 47) #[] lb, .int .i64 x, undef, undef, undef, undef, undef, undef, undef, undef, undef, undef, undef, undef, undef, undef, undef, undef, undef, undef, undef, undef, undef], defers := [] }) ?assign ?body ?done ?stop
  case assign =>
    intro l x W K hK
    gi_wp2
    exact hK
  case body =>
    rintro l0 pre x W ⟨⟨vo, hv, hrow, _⟩, hq, hkx⟩ hN
    obtain ⟨ys, hys⟩ : ∃ ys, lkI l pre = ys := ⟨_, rfl⟩
    have hyl : ys.length ≤ 16384 := by
      have := lkI_len l pre
      rw [natsI_len] at hN
      rw [← hys]; omega
    have hsz : w3.heap.size ≤ W.heap.size := hkx.size
    have hbw3 : Below w.heap.size w W := B3.out.trans (hkx.below (n := w.heap.size) B3.out.size B3.out.size (fun b hb => by subst hb; exact hbw))
    have HPRE := Lib.hid (show lkI l (pre ++ [x]) = ys ++ (vtxI l l.length (nxtI l.length x) :: if aftI l x < 0 then [vtxI l l.length (prvI l.length x)] else []) by rw [lkI_snoc, hys])
    rw [hys] at hrow
    obtain ⟨Av, cv, rfl⟩ := ownK_form hrow
    obtain ⟨n, hn⟩ : ∃ n, ys.length = n := ⟨_, rfl⟩
    rw [hn] at hv hrow hyl
    obtain ⟨WD, hWD⟩ : ∃ WD, W.drew = WD := ⟨_, rfl⟩
    have HD := Lib.hid (show (Boxed WD bo 28 (.slice Av n cv) ∧ WD.ownsRow w3.heap.size 3 1 (.slice Av n cv) n (ints ys) ∧ Boxed WD bt 26 (.pointer p)) ∧ w3.heap.size ≤ WD.heap.size by rw [← hWD]; exact ⟨⟨hv, hrow, hq⟩, hsz⟩)
    have hd : WD.cell? ⟨bt, 0, none⟩ = some (.pointer p) := HD.out.1.2.2.cell
    have hcd : WD.cell? ⟨bo, 0, none⟩ = some (.slice Av n cv) := HD.out.1.1.cell
    have bD : Below W.heap.size W WD := by rw [← hWD]; exact Reading.below ⟨1, rfl⟩
    have hR := HR.out WD (up2 hbw3 bD)
    obtain ⟨c1, hc1⟩ : ∃ c1, nxtI l.length x = c1 := ⟨_, rfl⟩
    obtain ⟨y, hy⟩ : ∃ y, vtxI l l.length c1 = y := ⟨_, rfl⟩
    have K1 := Lib.hid (by have := hR.next x; rwa [hc1] at this)
    have K2 := Lib.hid (by have := hR.vertex c1; rwa [hy] at this)
    have HBT := Lib.hid q3.lt
    have HNE := Lib.hid hne
    have HYS := Lib.hid hn
    have HU := Lib.hid (fun o => (HD.out.1.2.2.alloc o).cell)
    have kD : KeepsOthers W WD := by rw [← hWD]; exact KeepsOthers.drew _
    have HH := Lib.hid (And.intro hkx (And.intro (up2 hbw3 bD) (And.intro (KeepX.of_below (X := fun b => b = bo) (m := w3.heap.size) bD) kD)))
    rw [hc1, hy] at HPRE
    have HL := Lib.hid hlen
    clear hv hrow hq hkx hN hys hbw3 hR hc1 hy bD kD hseq
    refine wpIn_block (wpIn_seq ?_)
    refine wpIn_mono (Q := NoPanic (Only fun a w' => (∃ u11 u12 u13 u14 u15 u16 u17 u18, a = { tmps := #[.pointer p, .int .i64 v, .pointer (some ⟨bt, 0, none⟩), undef, .slice none 0 0, .pointer (some ⟨bo, 0, none⟩), .int .i64 x, .pointer p, .int .i64 v, .func (.func 47) #[] lb, .int .i64 x, u11, u12, u13, u14, u15, u16, u17, u18, undef, undef, undef, undef, undef, undef, undef, undef, undef, undef, undef, undef, undef], defers := [] }) ∧ LkM w3.heap.size bt bo p WD (ys ++ [y]) w')) ?reg ?rest
    case reg =>
      refine wpIn_region_round (S := fun w' => w'.cell? ⟨bt, 0, none⟩ = some (.pointer p)) (by kernel_rfl) (by kernel_rfl) (by rw [hWD]; exact hd) (fun _ => ?_)
      rw [hWD]
      refine wpAnyH_take (i := 1) (v := ?v1x1) rfl (by kernel_rfl) (by kernel_rfl) (by kernel_rfl) (fun _ _ _ h => h) (Or.inl ⟨by rfl, ?y1x1⟩) hd ?_
      case y1x1 => (intro w hSw; (try dsimp only at hSw); go_simp; try with_reducible rfl)
      simp only [Act.put, List.setIfInBounds_toArray, List.set_cons_zero, List.set_cons_succ, List.getElem_toArray, List.getElem_cons_zero, List.getElem_cons_succ]
      refine wpAnyH_take (i := 2) (v := ?v2x2) rfl (by kernel_rfl) (by kernel_rfl) (by kernel_rfl) (fun _ _ _ h => h) (Or.inl ⟨by rfl, ?y2x2⟩) hd ?_
      case y2x2 => (intro w hSw; (try dsimp only at hSw); go_simp; try with_reducible rfl)
      simp only [Act.put, List.setIfInBounds_toArray, List.set_cons_zero, List.set_cons_succ, List.getElem_toArray, List.getElem_cons_zero, List.getElem_cons_succ]
      refine wpAnyH_take (i := 3) (v := ?v3x3) rfl (by kernel_rfl) (by kernel_rfl) (by kernel_rfl) (fun _ _ _ h => h) (Or.inl ⟨by rfl, ?y3x3⟩) hd ?_
      case y3x3 => (intro w hSw; (try dsimp only at hSw); go_simp; try with_reducible rfl)
      simp only [Act.put, List.setIfInBounds_toArray, List.set_cons_zero, List.set_cons_succ, List.getElem_toArray, List.getElem_cons_zero, List.getElem_cons_succ]
      refine wpAnyH_ready (rs := [0, 4]) (by kernel_rfl) (by simp) ?_
      refine AllReadyH.cons rfl (fun K hK => ?_) (AllReadyH.cons rfl (fun K hK => ?_) AllReadyH.nil)
      · go_simp
        refine hK.out _ _ hd (fun _ => ?_)
        clear hK K
        try simp only [Act.put, List.setIfInBounds_toArray, List.set_cons_zero, List.set_cons_succ, List.getElem_toArray, List.getElem_cons_zero, List.getElem_cons_succ]
        refine wpAnyH_ready (rs := [4]) (by kernel_rfl) (by simp) ?_
        refine AllReadyH.cons rfl (fun K hK => ?_) AllReadyH.nil
        rw [if_pos (by rfl)]
        go_wp2_with fail
        refine K1.out.mono ?_
        rintro e vv1 ⟨rfl, e9⟩
        obtain rfl := e9.symm
        go_wp2_with fail
        refine hK.out _ _ hd (fun _ => ?_)
        clear hK K
        try simp only [Act.put, List.setIfInBounds_toArray, List.set_cons_zero, List.set_cons_succ, List.getElem_toArray, List.getElem_cons_zero, List.getElem_cons_succ]
        refine wpAnyH_ready (rs := [5]) (by kernel_rfl) (by simp) ?_
        refine AllReadyH.cons rfl (fun K hK => ?_) AllReadyH.nil
        rw [if_pos (by rfl)]
        go_wp2_with fail
        refine K2.out.mono ?_
        rintro e vv1 ⟨rfl, e9⟩
        obtain rfl := e9.symm
        go_wp2_with fail
        refine hK.out _ _ hd (fun _ => ?_)
        clear hK K
        try simp only [Act.put, List.setIfInBounds_toArray, List.set_cons_zero, List.set_cons_succ, List.getElem_toArray, List.getElem_cons_zero, List.getElem_cons_succ]
        refine wpAnyH_ready (rs := [6]) (by kernel_rfl) (by simp) ?_
        refine AllReadyH.cons rfl (fun K hK => ?_) AllReadyH.nil
        go_simp
        refine hK.out _ _ (HU.out _) (fun _ => ?_)
        clear hK K
        try simp only [Act.put, List.setIfInBounds_toArray, List.set_cons_zero, List.set_cons_succ, List.getElem_toArray, List.getElem_cons_zero, List.getElem_cons_succ]
        obtain ⟨u1, hn⟩ : ∃ x, WD.alloc (.cells #[.int .i64 y] 3) = x := ⟨_, rfl⟩
        obtain ⟨q, hg⟩ : ∃ x, WD.heap.size = x := ⟨_, rfl⟩
        have qe : u1.heap[q]? = some (.cells #[.int .i64 y] 3 (0, 0)) := by rw [← hn, ← hg]; exact heap_alloc_new _ _
        have o1 : u1.ownsRow w3.heap.size 3 1 (.slice Av n cv) n (ints ys) := by rw [← hn]; exact HD.out.1.2.1.alloc _
        have hcu : u1.cell? ⟨bo, 0, none⟩ = some (.slice Av n cv) := by rw [← hn]; exact (HD.out.1.1.alloc _).cell
        have hu : u1.cell? ⟨bt, 0, none⟩ = some (.pointer p) := by rw [← hn]; exact (HD.out.1.2.2.alloc _).cell
        have hsz : w3.heap.size ≤ u1.heap.size := by rw [← hn]; exact Nat.le_trans HD.out.2 ((Below.refl _ WD).alloc (Nat.le_refl _) _).size
        simp only [hn, hg]
        have HN := Lib.hid hn
        clear hn hg
        refine wpAnyH_ready (rs := [7]) (by kernel_rfl) (by simp) ?_
        refine AllReadyH.cons rfl (fun K hK => ?_) AllReadyH.nil
        refine step_snocG y o1 hsz (by omega) qe rfl (.tmp 11) (.tmp 17) rfl (by go_simp) (by go_simp) ?_
        intro A9 c9 w9 gr9 own9
        rw [← HN.out] at gr9
        have M9 := Lib.hid (lkM_app HD.out.1.1 HD.out.1.2.1 HD.out.1.2.2 HBT.out HNE.out HYS.out gr9 own9)
        have hc9 := M9.out.1.1
        have hf9 := M9.out.1.2.1
        have hq9 := M9.out.1.2.2
        have hqf := M9.out.2.2.1.cell
        refine hK.out _ _ hq9 (fun _ => ?_)
        clear hK K
        try simp only [Act.put, List.setIfInBounds_toArray, List.set_cons_zero, List.set_cons_succ, List.getElem_toArray, List.getElem_cons_zero, List.getElem_cons_succ]
        clear gr9 own9 qe o1 hsz hcu hu
        refine wpAnyH_ready (rs := [8]) (by kernel_rfl) (by simp) ?_
        refine AllReadyH.cons rfl (fun K hK => ?_) AllReadyH.nil
        go_simp
        refine hK.out _ _ hqf (fun _ => ?_)
        clear hK K
        try simp only [Act.put, List.setIfInBounds_toArray, List.set_cons_zero, List.set_cons_succ, List.getElem_toArray, List.getElem_cons_zero, List.getElem_cons_succ]
        refine wpAnyH_done (by kernel_rfl) ?_ _
        refine NoPanic.normal ?_
        exact ⟨rfl, ⟨_, _, _, _, _, _, _, _, rfl⟩, M9.out.2⟩
      · rw [if_pos (by rfl)]
        go_wp2_with fail
        refine K1.out.mono ?_
        rintro e vv1 ⟨rfl, e9⟩
        obtain rfl := e9.symm
        go_wp2_with fail
        refine hK.out _ _ hd (fun _ => ?_)
        clear hK K
        try simp only [Act.put, List.setIfInBounds_toArray, List.set_cons_zero, List.set_cons_succ, List.getElem_toArray, List.getElem_cons_zero, List.getElem_cons_succ]
        refine wpAnyH_ready (rs := [0, 5]) (by kernel_rfl) (by simp) ?_
        refine AllReadyH.cons rfl (fun K hK => ?_) (AllReadyH.cons rfl (fun K hK => ?_) AllReadyH.nil)
        · go_simp
          refine hK.out _ _ hd (fun _ => ?_)
          clear hK K
          try simp only [Act.put, List.setIfInBounds_toArray, List.set_cons_zero, List.set_cons_succ, List.getElem_toArray, List.getElem_cons_zero, List.getElem_cons_succ]
          refine wpAnyH_ready (rs := [5]) (by kernel_rfl) (by simp) ?_
          refine AllReadyH.cons rfl (fun K hK => ?_) AllReadyH.nil
          rw [if_pos (by rfl)]
          go_wp2_with fail
          refine K2.out.mono ?_
          rintro e vv1 ⟨rfl, e9⟩
          obtain rfl := e9.symm
          go_wp2_with fail
          refine hK.out _ _ hd (fun _ => ?_)
          clear hK K
          try simp only [Act.put, List.setIfInBounds_toArray, List.set_cons_zero, List.set_cons_succ, List.getElem_toArray, List.getElem_cons_zero, List.getElem_cons_succ]
          refine wpAnyH_ready (rs := [6]) (by kernel_rfl) (by simp) ?_
          refine AllReadyH.cons rfl (fun K hK => ?_) AllReadyH.nil
          go_simp
          refine hK.out _ _ (HU.out _) (fun _ => ?_)
          clear hK K
          try simp only [Act.put, List.setIfInBounds_toArray, List.set_cons_zero, List.set_cons_succ, List.getElem_toArray, List.getElem_cons_zero, List.getElem_cons_succ]
          obtain ⟨u1, hn⟩ : ∃ x, WD.alloc (.cells #[.int .i64 y] 3) = x := ⟨_, rfl⟩
          obtain ⟨q, hg⟩ : ∃ x, WD.heap.size = x := ⟨_, rfl⟩
          have qe : u1.heap[q]? = some (.cells #[.int .i64 y] 3 (0, 0)) := by rw [← hn, ← hg]; exact heap_alloc_new _ _
          have o1 : u1.ownsRow w3.heap.size 3 1 (.slice Av n cv) n (ints ys) := by rw [← hn]; exact HD.out.1.2.1.alloc _
          have hcu : u1.cell? ⟨bo, 0, none⟩ = some (.slice Av n cv) := by rw [← hn]; exact (HD.out.1.1.alloc _).cell
          have hu : u1.cell? ⟨bt, 0, none⟩ = some (.pointer p) := by rw [← hn]; exact (HD.out.1.2.2.alloc _).cell
          have hsz : w3.heap.size ≤ u1.heap.size := by rw [← hn]; exact Nat.le_trans HD.out.2 ((Below.refl _ WD).alloc (Nat.le_refl _) _).size
          simp only [hn, hg]
          have HN := Lib.hid hn
          clear hn hg
          refine wpAnyH_ready (rs := [7]) (by kernel_rfl) (by simp) ?_
          refine AllReadyH.cons rfl (fun K hK => ?_) AllReadyH.nil
          refine step_snocG y o1 hsz (by omega) qe rfl (.tmp 11) (.tmp 17) rfl (by go_simp) (by go_simp) ?_
          intro A9 c9 w9 gr9 own9
          rw [← HN.out] at gr9
          have M9 := Lib.hid (lkM_app HD.out.1.1 HD.out.1.2.1 HD.out.1.2.2 HBT.out HNE.out HYS.out gr9 own9)
          have hc9 := M9.out.1.1
          have hf9 := M9.out.1.2.1
          have hq9 := M9.out.1.2.2
          have hqf := M9.out.2.2.1.cell
          refine hK.out _ _ hq9 (fun _ => ?_)
          clear hK K
          try simp only [Act.put, List.setIfInBounds_toArray, List.set_cons_zero, List.set_cons_succ, List.getElem_toArray, List.getElem_cons_zero, List.getElem_cons_succ]
          clear gr9 own9 qe o1 hsz hcu hu
          refine wpAnyH_ready (rs := [8]) (by kernel_rfl) (by simp) ?_
          refine AllReadyH.cons rfl (fun K hK => ?_) AllReadyH.nil
          go_simp
          refine hK.out _ _ hqf (fun _ => ?_)
          clear hK K
          try simp only [Act.put, List.setIfInBounds_toArray, List.set_cons_zero, List.set_cons_succ, List.getElem_toArray, List.getElem_cons_zero, List.getElem_cons_succ]
          refine wpAnyH_done (by kernel_rfl) ?_ _
          refine NoPanic.normal ?_
          exact ⟨rfl, ⟨_, _, _, _, _, _, _, _, rfl⟩, M9.out.2⟩
        · rw [if_pos (by rfl)]
          go_wp2_with fail
          refine K2.out.mono ?_
          rintro e vv1 ⟨rfl, e9⟩
          obtain rfl := e9.symm
          go_wp2_with fail
          refine hK.out _ _ hd (fun _ => ?_)
          clear hK K
          try simp only [Act.put, List.setIfInBounds_toArray, List.set_cons_zero, List.set_cons_succ, List.getElem_toArray, List.getElem_cons_zero, List.getElem_cons_succ]
          refine wpAnyH_ready (rs := [0, 6]) (by kernel_rfl) (by simp) ?_
          refine AllReadyH.cons rfl (fun K hK => ?_) (AllReadyH.cons rfl (fun K hK => ?_) AllReadyH.nil)
          · go_simp
            refine hK.out _ _ hd (fun _ => ?_)
            clear hK K
            try simp only [Act.put, List.setIfInBounds_toArray, List.set_cons_zero, List.set_cons_succ, List.getElem_toArray, List.getElem_cons_zero, List.getElem_cons_succ]
            refine wpAnyH_ready (rs := [6]) (by kernel_rfl) (by simp) ?_
            refine AllReadyH.cons rfl (fun K hK => ?_) AllReadyH.nil
            go_simp
            refine hK.out _ _ (HU.out _) (fun _ => ?_)
            clear hK K
            try simp only [Act.put, List.setIfInBounds_toArray, List.set_cons_zero, List.set_cons_succ, List.getElem_toArray, List.getElem_cons_zero, List.getElem_cons_succ]
            obtain ⟨u1, hn⟩ : ∃ x, WD.alloc (.cells #[.int .i64 y] 3) = x := ⟨_, rfl⟩
            obtain ⟨q, hg⟩ : ∃ x, WD.heap.size = x := ⟨_, rfl⟩
            have qe : u1.heap[q]? = some (.cells #[.int .i64 y] 3 (0, 0)) := by rw [← hn, ← hg]; exact heap_alloc_new _ _
            have o1 : u1.ownsRow w3.heap.size 3 1 (.slice Av n cv) n (ints ys) := by rw [← hn]; exact HD.out.1.2.1.alloc _
            have hcu : u1.cell? ⟨bo, 0, none⟩ = some (.slice Av n cv) := by rw [← hn]; exact (HD.out.1.1.alloc _).cell
            have hu : u1.cell? ⟨bt, 0, none⟩ = some (.pointer p) := by rw [← hn]; exact (HD.out.1.2.2.alloc _).cell
            have hsz : w3.heap.size ≤ u1.heap.size := by rw [← hn]; exact Nat.le_trans HD.out.2 ((Below.refl _ WD).alloc (Nat.le_refl _) _).size
            simp only [hn, hg]
            have HN := Lib.hid hn
            clear hn hg
            refine wpAnyH_ready (rs := [7]) (by kernel_rfl) (by simp) ?_
            refine AllReadyH.cons rfl (fun K hK => ?_) AllReadyH.nil
            refine step_snocG y o1 hsz (by omega) qe rfl (.tmp 11) (.tmp 17) rfl (by go_simp) (by go_simp) ?_
            intro A9 c9 w9 gr9 own9
            rw [← HN.out] at gr9
            have M9 := Lib.hid (lkM_app HD.out.1.1 HD.out.1.2.1 HD.out.1.2.2 HBT.out HNE.out HYS.out gr9 own9)
            have hc9 := M9.out.1.1
            have hf9 := M9.out.1.2.1
            have hq9 := M9.out.1.2.2
            have hqf := M9.out.2.2.1.cell
            refine hK.out _ _ hq9 (fun _ => ?_)
            clear hK K
            try simp only [Act.put, List.setIfInBounds_toArray, List.set_cons_zero, List.set_cons_succ, List.getElem_toArray, List.getElem_cons_zero, List.getElem_cons_succ]
            clear gr9 own9 qe o1 hsz hcu hu
            refine wpAnyH_ready (rs := [8]) (by kernel_rfl) (by simp) ?_
            refine AllReadyH.cons rfl (fun K hK => ?_) AllReadyH.nil
            go_simp
            refine hK.out _ _ hqf (fun _ => ?_)
            clear hK K
            try simp only [Act.put, List.setIfInBounds_toArray, List.set_cons_zero, List.set_cons_succ, List.getElem_toArray, List.getElem_cons_zero, List.getElem_cons_succ]
            refine wpAnyH_done (by kernel_rfl) ?_ _
            refine NoPanic.normal ?_
            exact ⟨rfl, ⟨_, _, _, _, _, _, _, _, rfl⟩, M9.out.2⟩
          · go_simp
            refine hK.out _ _ (HU.out _) (fun _ => ?_)
            clear hK K
            try simp only [Act.put, List.setIfInBounds_toArray, List.set_cons_zero, List.set_cons_succ, List.getElem_toArray, List.getElem_cons_zero, List.getElem_cons_succ]
            obtain ⟨u1, hn⟩ : ∃ x, WD.alloc (.cells #[.int .i64 y] 3) = x := ⟨_, rfl⟩
            obtain ⟨q, hg⟩ : ∃ x, WD.heap.size = x := ⟨_, rfl⟩
            have qe : u1.heap[q]? = some (.cells #[.int .i64 y] 3 (0, 0)) := by rw [← hn, ← hg]; exact heap_alloc_new _ _
            have o1 : u1.ownsRow w3.heap.size 3 1 (.slice Av n cv) n (ints ys) := by rw [← hn]; exact HD.out.1.2.1.alloc _
            have hcu : u1.cell? ⟨bo, 0, none⟩ = some (.slice Av n cv) := by rw [← hn]; exact (HD.out.1.1.alloc _).cell
            have hu : u1.cell? ⟨bt, 0, none⟩ = some (.pointer p) := by rw [← hn]; exact (HD.out.1.2.2.alloc _).cell
            have hsz : w3.heap.size ≤ u1.heap.size := by rw [← hn]; exact Nat.le_trans HD.out.2 ((Below.refl _ WD).alloc (Nat.le_refl _) _).size
            simp only [hn, hg]
            have HN := Lib.hid hn
            clear hn hg
            refine wpAnyH_ready (rs := [0]) (by kernel_rfl) (by simp) ?_
            refine AllReadyH.cons rfl (fun K hK => ?_) AllReadyH.nil
            go_simp
            refine hK.out _ _ hu (fun _ => ?_)
            clear hK K
            try simp only [Act.put, List.setIfInBounds_toArray, List.set_cons_zero, List.set_cons_succ, List.getElem_toArray, List.getElem_cons_zero, List.getElem_cons_succ]
            refine wpAnyH_ready (rs := [7]) (by kernel_rfl) (by simp) ?_
            refine AllReadyH.cons rfl (fun K hK => ?_) AllReadyH.nil
            refine step_snocG y o1 hsz (by omega) qe rfl (.tmp 11) (.tmp 17) rfl (by go_simp) (by go_simp) ?_
            intro A9 c9 w9 gr9 own9
            rw [← HN.out] at gr9
            have M9 := Lib.hid (lkM_app HD.out.1.1 HD.out.1.2.1 HD.out.1.2.2 HBT.out HNE.out HYS.out gr9 own9)
            have hc9 := M9.out.1.1
            have hf9 := M9.out.1.2.1
            have hq9 := M9.out.1.2.2
            have hqf := M9.out.2.2.1.cell
            refine hK.out _ _ hq9 (fun _ => ?_)
            clear hK K
            try simp only [Act.put, List.setIfInBounds_toArray, List.set_cons_zero, List.set_cons_succ, List.getElem_toArray, List.getElem_cons_zero, List.getElem_cons_succ]
            clear gr9 own9 qe o1 hsz hcu hu
            refine wpAnyH_ready (rs := [8]) (by kernel_rfl) (by simp) ?_
            refine AllReadyH.cons rfl (fun K hK => ?_) AllReadyH.nil
            go_simp
            refine hK.out _ _ hqf (fun _ => ?_)
            clear hK K
            try simp only [Act.put, List.setIfInBounds_toArray, List.set_cons_zero, List.set_cons_succ, List.getElem_toArray, List.getElem_cons_zero, List.getElem_cons_succ]
            refine wpAnyH_done (by kernel_rfl) ?_ _
            refine NoPanic.normal ?_
            exact ⟨rfl, ⟨_, _, _, _, _, _, _, _, rfl⟩, M9.out.2⟩
    case rest =>
      rintro e a1 w5 hout
      obtain ⟨rfl, ⟨u11, u12, u13, u14, u15, u16, u17, u18, rfl⟩, ⟨A5, c5, v5, r5⟩, q5, kx5, ko5⟩ := only_out hout
      have hn5 : (ys ++ [y]).length = n + 1 := by simp [HYS.out]
      rw [hn5] at v5 r5
      have hs5 : WD.heap.size ≤ w5.heap.size := kx5.size
      have hb5 : Below w.heap.size w w5 := HH.out.2.1.trans (kx5.below (n := w.heap.size) B3.out.size (Nat.le_trans B3.out.size HD.out.2) (fun b hb => by subst hb; exact hbw))
      have HW5 := Lib.hid (And.intro (And.intro v5 (And.intro r5 q5)) (And.intro (HH.out.2.2.1.trans kx5) (HH.out.2.2.2.trans ko5)))
      have K5 := Lib.hid (rgafter_any w5 p l (HR.out w5 hb5) x)
      have hq5 := q5.cell
      obtain ⟨z, hz⟩ : ∃ z, aftI l x = z := ⟨_, rfl⟩
      rw [hz] at K5 HPRE
      obtain ⟨bb, hbb⟩ : ∃ bb, decide (z < 0) = bb := ⟨_, rfl⟩
      have HBB := Lib.hid hbb
      have HB5 := Lib.hid hb5
      clear hz v5 r5 q5 kx5 ko5 hb5 hn5
      refine wpIn_seq ?_
      refine wpIn_mono (Q := NoPanic (Only fun a w' => w' = w5 ∧ ∃ u19 u20 u21, a = { tmps := #[.pointer p, .int .i64 v, .pointer (some ⟨bt, 0, none⟩), undef, .slice none 0 0, .pointer (some ⟨bo, 0, none⟩), .int .i64 x, .pointer p, .int .i64 v, .func (.func 47) #[] lb, .int .i64 x, u11, u12, u13, u14, u15, u16, u17, u18, u19, u20, u21, .bool bb, undef, undef, undef, undef, undef, undef, undef, undef, undef], defers := [] })) ?reg ?rest
      case reg =>
        gi_wp2_with (refine ⟨trivial, ?_⟩; gi_at_call 33; refine (CallsIn.inRound l0 (callsIn_wide.2 K5.out)).mono ?_; rintro e w6 ⟨rfl, e9⟩; obtain rfl := e9.symm)
        exact ⟨rfl, rfl, _, _, _, by rw [← hbb]⟩
      case rest =>
        rintro e a1 w6 hout
        obtain ⟨rfl, rfl, u19, u20, u21, rfl⟩ := only_out hout
        clear hbb hout
        cases bb with
        | false =>
          have hz0 : ¬ z < 0 := of_decide_eq_false HBB.out
          refine wpIn_cond (t := false) rfl ?_
          refine wpIn_skip ?_
          refine ⟨HW5.out.2.2.from _, HW5.out.2.1, ⟨⟨_, HW5.out.1.1, ?_, trivial⟩, HW5.out.1.2.2, HH.out.1.trans HW5.out.2.1⟩⟩
          rw [HPRE.out, if_neg hz0, show (ys ++ [y]).length = n + 1 by simp [HYS.out]]
          exact HW5.out.1.2.1
        | true =>
          have hz0 : z < 0 := of_decide_eq_true HBB.out
          refine wpIn_cond (t := true) rfl ?_
          rw [if_pos hz0] at HPRE
          obtain ⟨ys2, hys2⟩ : ∃ ys2, ys ++ [y] = ys2 := ⟨_, rfl⟩
          have hyl2 : ys2.length = n + 1 := by rw [← hys2]; simp [HYS.out]
          rw [hys2] at HW5
          obtain ⟨n2, hn2⟩ : ∃ n2, n + 1 = n2 := ⟨_, rfl⟩
          rw [hn2] at HW5 hyl2
          have hn2l : n2 ≤ 16385 := by omega
          obtain ⟨WE, hWE⟩ : ∃ WE, w6.drew = WE := ⟨_, rfl⟩
          have bE : Below w6.heap.size w6 WE := by rw [← hWE]; exact Reading.below ⟨1, rfl⟩
          have HE := Lib.hid (show (Boxed WE bo 28 (.slice A5 n2 c5) ∧ WE.ownsRow w3.heap.size 3 1 (.slice A5 n2 c5) n2 (ints ys2) ∧ Boxed WE bt 26 (.pointer p)) ∧ w3.heap.size ≤ WE.heap.size by
            rw [← hWE]; exact ⟨⟨HW5.out.1.1, HW5.out.1.2.1, HW5.out.1.2.2⟩, Nat.le_trans HD.out.2 hs5⟩)
          have he : WE.cell? ⟨bt, 0, none⟩ = some (.pointer p) := HE.out.1.2.2.cell
          have hce : WE.cell? ⟨bo, 0, none⟩ = some (.slice A5 n2 c5) := HE.out.1.1.cell
          have hR := HR.out WE (up2 HB5.out bE)
          obtain ⟨c2, hc2⟩ : ∃ c2, prvI l.length x = c2 := ⟨_, rfl⟩
          obtain ⟨y2, hy2⟩ : ∃ y2, vtxI l l.length c2 = y2 := ⟨_, rfl⟩
          have K3 := Lib.hid (by have := hR.prev x; rwa [hc2] at this)
          have K4 := Lib.hid (by have := hR.vertex c2; rwa [hy2] at this)
          have HYT := Lib.hid hyl2
          have HV := Lib.hid (fun o => (HE.out.1.2.2.alloc o).cell)
          have kE : KeepsOthers w6 WE := by rw [← hWE]; exact KeepsOthers.drew _
          have HK := Lib.hid (And.intro (HW5.out.2.1.trans (KeepX.of_below (X := fun b => b = bo) (m := w3.heap.size) bE)) (HW5.out.2.2.trans kE))
          have HP2 := Lib.hid (show lkI l (pre ++ [x]) = ys2 ++ [y2] by rw [HPRE.out, hc2, hy2, ← hys2, List.append_assoc]; rfl)
          clear hz0 hd hcd hq5 hs5 hys2 hyl2 hn2 hR hc2 hy2 bE kE K1 K2 K5
          refine wpIn_mono (Q := NoPanic (Only fun a w' => (∃ u23 u24 u25 u26 u27 u28 u29 u30, a = { tmps := #[.pointer p, .int .i64 v, .pointer (some ⟨bt, 0, none⟩), undef, .slice none 0 0, .pointer (some ⟨bo, 0, none⟩), .int .i64 x, .pointer p, .int .i64 v, .func (.func 47) #[] lb, .int .i64 x, u11, u12, u13, u14, u15, u16, u17, u18, u19, u20, u21, .bool true, u23, u24, u25, u26, u27, u28, u29, u30, undef], defers := [] }) ∧ LkM w3.heap.size bt bo p WE (ys2 ++ [y2]) w')) ?reg ?rest
          case reg =>
            refine wpIn_region_round (S := fun w' => w'.cell? ⟨bt, 0, none⟩ = some (.pointer p)) (by kernel_rfl) (by kernel_rfl) (by rw [hWE]; exact he) (fun _ => ?_)
            rw [hWE]
            refine wpAnyH_take (i := 1) (v := ?v1x4) rfl (by kernel_rfl) (by kernel_rfl) (by kernel_rfl) (fun _ _ _ h => h) (Or.inl ⟨by rfl, ?y1x4⟩) he ?_
            case y1x4 => (intro w hSw; (try dsimp only at hSw); go_simp; try with_reducible rfl)
            simp only [Act.put, List.setIfInBounds_toArray, List.set_cons_zero, List.set_cons_succ, List.getElem_toArray, List.getElem_cons_zero, List.getElem_cons_succ]
            refine wpAnyH_take (i := 2) (v := ?v2x5) rfl (by kernel_rfl) (by kernel_rfl) (by kernel_rfl) (fun _ _ _ h => h) (Or.inl ⟨by rfl, ?y2x5⟩) he ?_
            case y2x5 => (intro w hSw; (try dsimp only at hSw); go_simp; try with_reducible rfl)
            simp only [Act.put, List.setIfInBounds_toArray, List.set_cons_zero, List.set_cons_succ, List.getElem_toArray, List.getElem_cons_zero, List.getElem_cons_succ]
            refine wpAnyH_take (i := 3) (v := ?v3x6) rfl (by kernel_rfl) (by kernel_rfl) (by kernel_rfl) (fun _ _ _ h => h) (Or.inl ⟨by rfl, ?y3x6⟩) he ?_
            case y3x6 => (intro w hSw; (try dsimp only at hSw); go_simp; try with_reducible rfl)
            simp only [Act.put, List.setIfInBounds_toArray, List.set_cons_zero, List.set_cons_succ, List.getElem_toArray, List.getElem_cons_zero, List.getElem_cons_succ]
            refine wpAnyH_ready (rs := [0, 4]) (by kernel_rfl) (by simp) ?_
            refine AllReadyH.cons rfl (fun K hK => ?_) (AllReadyH.cons rfl (fun K hK => ?_) AllReadyH.nil)
            · go_simp
              refine hK.out _ _ he (fun _ => ?_)
              clear hK K
              try simp only [Act.put, List.setIfInBounds_toArray, List.set_cons_zero, List.set_cons_succ, List.getElem_toArray, List.getElem_cons_zero, List.getElem_cons_succ]
              refine wpAnyH_ready (rs := [4]) (by kernel_rfl) (by simp) ?_
              refine AllReadyH.cons rfl (fun K hK => ?_) AllReadyH.nil
              rw [if_pos (by rfl)]
              go_wp2_with fail
              refine K3.out.mono ?_
              rintro e vv1 ⟨rfl, e9⟩
              obtain rfl := e9.symm
              go_wp2_with fail
              refine hK.out _ _ he (fun _ => ?_)
              clear hK K
              try simp only [Act.put, List.setIfInBounds_toArray, List.set_cons_zero, List.set_cons_succ, List.getElem_toArray, List.getElem_cons_zero, List.getElem_cons_succ]
              refine wpAnyH_ready (rs := [5]) (by kernel_rfl) (by simp) ?_
              refine AllReadyH.cons rfl (fun K hK => ?_) AllReadyH.nil
              rw [if_pos (by rfl)]
              go_wp2_with fail
              refine K4.out.mono ?_
              rintro e vv1 ⟨rfl, e9⟩
              obtain rfl := e9.symm
              go_wp2_with fail
              refine hK.out _ _ he (fun _ => ?_)
              clear hK K
              try simp only [Act.put, List.setIfInBounds_toArray, List.set_cons_zero, List.set_cons_succ, List.getElem_toArray, List.getElem_cons_zero, List.getElem_cons_succ]
              refine wpAnyH_ready (rs := [6]) (by kernel_rfl) (by simp) ?_
              refine AllReadyH.cons rfl (fun K hK => ?_) AllReadyH.nil
              go_simp
              refine hK.out _ _ (HV.out _) (fun _ => ?_)
              clear hK K
              try simp only [Act.put, List.setIfInBounds_toArray, List.set_cons_zero, List.set_cons_succ, List.getElem_toArray, List.getElem_cons_zero, List.getElem_cons_succ]
              obtain ⟨u1, hn⟩ : ∃ x, WE.alloc (.cells #[.int .i64 y2] 3) = x := ⟨_, rfl⟩
              obtain ⟨q, hg⟩ : ∃ x, WE.heap.size = x := ⟨_, rfl⟩
              have qe : u1.heap[q]? = some (.cells #[.int .i64 y2] 3 (0, 0)) := by rw [← hn, ← hg]; exact heap_alloc_new _ _
              have o1 : u1.ownsRow w3.heap.size 3 1 (.slice A5 n2 c5) n2 (ints ys2) := by rw [← hn]; exact HE.out.1.2.1.alloc _
              have hcu : u1.cell? ⟨bo, 0, none⟩ = some (.slice A5 n2 c5) := by rw [← hn]; exact (HE.out.1.1.alloc _).cell
              have hu : u1.cell? ⟨bt, 0, none⟩ = some (.pointer p) := by rw [← hn]; exact (HE.out.1.2.2.alloc _).cell
              have hsz : w3.heap.size ≤ u1.heap.size := by rw [← hn]; exact Nat.le_trans HE.out.2 ((Below.refl _ WE).alloc (Nat.le_refl _) _).size
              simp only [hn, hg]
              have HN := Lib.hid hn
              clear hn hg
              refine wpAnyH_ready (rs := [7]) (by kernel_rfl) (by simp) ?_
              refine AllReadyH.cons rfl (fun K hK => ?_) AllReadyH.nil
              refine step_snocG y2 o1 hsz (by omega) qe rfl (.tmp 23) (.tmp 29) rfl (by go_simp) (by go_simp) ?_
              intro A9 c9 w9 gr9 own9
              rw [← HN.out] at gr9
              have M9 := Lib.hid (lkM_app HE.out.1.1 HE.out.1.2.1 HE.out.1.2.2 HBT.out HNE.out HYT.out gr9 own9)
              have hc9 := M9.out.1.1
              have hf9 := M9.out.1.2.1
              have hq9 := M9.out.1.2.2
              have hqf := M9.out.2.2.1.cell
              refine hK.out _ _ hq9 (fun _ => ?_)
              clear hK K
              try simp only [Act.put, List.setIfInBounds_toArray, List.set_cons_zero, List.set_cons_succ, List.getElem_toArray, List.getElem_cons_zero, List.getElem_cons_succ]
              clear gr9 own9 qe o1 hsz hcu hu
              refine wpAnyH_ready (rs := [8]) (by kernel_rfl) (by simp) ?_
              refine AllReadyH.cons rfl (fun K hK => ?_) AllReadyH.nil
              go_simp
              refine hK.out _ _ hqf (fun _ => ?_)
              clear hK K
              try simp only [Act.put, List.setIfInBounds_toArray, List.set_cons_zero, List.set_cons_succ, List.getElem_toArray, List.getElem_cons_zero, List.getElem_cons_succ]
              refine wpAnyH_done (by kernel_rfl) ?_ _
              refine NoPanic.normal ?_
              exact ⟨rfl, ⟨_, _, _, _, _, _, _, _, rfl⟩, M9.out.2⟩
            · rw [if_pos (by rfl)]
              go_wp2_with fail
              refine K3.out.mono ?_
              rintro e vv1 ⟨rfl, e9⟩
              obtain rfl := e9.symm
              go_wp2_with fail
              refine hK.out _ _ he (fun _ => ?_)
              clear hK K
              try simp only [Act.put, List.setIfInBounds_toArray, List.set_cons_zero, List.set_cons_succ, List.getElem_toArray, List.getElem_cons_zero, List.getElem_cons_succ]
              refine wpAnyH_ready (rs := [0, 5]) (by kernel_rfl) (by simp) ?_
              refine AllReadyH.cons rfl (fun K hK => ?_) (AllReadyH.cons rfl (fun K hK => ?_) AllReadyH.nil)
              · go_simp
                refine hK.out _ _ he (fun _ => ?_)
                clear hK K
                try simp only [Act.put, List.setIfInBounds_toArray, List.set_cons_zero, List.set_cons_succ, List.getElem_toArray, List.getElem_cons_zero, List.getElem_cons_succ]
                refine wpAnyH_ready (rs := [5]) (by kernel_rfl) (by simp) ?_
                refine AllReadyH.cons rfl (fun K hK => ?_) AllReadyH.nil
                rw [if_pos (by rfl)]
                go_wp2_with fail
                refine K4.out.mono ?_
                rintro e vv1 ⟨rfl, e9⟩
                obtain rfl := e9.symm
                go_wp2_with fail
                refine hK.out _ _ he (fun _ => ?_)
                clear hK K
                try simp only [Act.put, List.setIfInBounds_toArray, List.set_cons_zero, List.set_cons_succ, List.getElem_toArray, List.getElem_cons_zero, List.getElem_cons_succ]
                refine wpAnyH_ready (rs := [6]) (by kernel_rfl) (by simp) ?_
                refine AllReadyH.cons rfl (fun K hK => ?_) AllReadyH.nil
                go_simp
                refine hK.out _ _ (HV.out _) (fun _ => ?_)
                clear hK K
                try simp only [Act.put, List.setIfInBounds_toArray, List.set_cons_zero, List.set_cons_succ, List.getElem_toArray, List.getElem_cons_zero, List.getElem_cons_succ]
                obtain ⟨u1, hn⟩ : ∃ x, WE.alloc (.cells #[.int .i64 y2] 3) = x := ⟨_, rfl⟩
                obtain ⟨q, hg⟩ : ∃ x, WE.heap.size = x := ⟨_, rfl⟩
                have qe : u1.heap[q]? = some (.cells #[.int .i64 y2] 3 (0, 0)) := by rw [← hn, ← hg]; exact heap_alloc_new _ _
                have o1 : u1.ownsRow w3.heap.size 3 1 (.slice A5 n2 c5) n2 (ints ys2) := by rw [← hn]; exact HE.out.1.2.1.alloc _
                have hcu : u1.cell? ⟨bo, 0, none⟩ = some (.slice A5 n2 c5) := by rw [← hn]; exact (HE.out.1.1.alloc _).cell
                have hu : u1.cell? ⟨bt, 0, none⟩ = some (.pointer p) := by rw [← hn]; exact (HE.out.1.2.2.alloc _).cell
                have hsz : w3.heap.size ≤ u1.heap.size := by rw [← hn]; exact Nat.le_trans HE.out.2 ((Below.refl _ WE).alloc (Nat.le_refl _) _).size
                simp only [hn, hg]
                have HN := Lib.hid hn
                clear hn hg
                refine wpAnyH_ready (rs := [7]) (by kernel_rfl) (by simp) ?_
                refine AllReadyH.cons rfl (fun K hK => ?_) AllReadyH.nil
                refine step_snocG y2 o1 hsz (by omega) qe rfl (.tmp 23) (.tmp 29) rfl (by go_simp) (by go_simp) ?_
                intro A9 c9 w9 gr9 own9
                rw [← HN.out] at gr9
                have M9 := Lib.hid (lkM_app HE.out.1.1 HE.out.1.2.1 HE.out.1.2.2 HBT.out HNE.out HYT.out gr9 own9)
                have hc9 := M9.out.1.1
                have hf9 := M9.out.1.2.1
                have hq9 := M9.out.1.2.2
                have hqf := M9.out.2.2.1.cell
                refine hK.out _ _ hq9 (fun _ => ?_)
                clear hK K
                try simp only [Act.put, List.setIfInBounds_toArray, List.set_cons_zero, List.set_cons_succ, List.getElem_toArray, List.getElem_cons_zero, List.getElem_cons_succ]
                clear gr9 own9 qe o1 hsz hcu hu
                refine wpAnyH_ready (rs := [8]) (by kernel_rfl) (by simp) ?_
                refine AllReadyH.cons rfl (fun K hK => ?_) AllReadyH.nil
                go_simp
                refine hK.out _ _ hqf (fun _ => ?_)
                clear hK K
                try simp only [Act.put, List.setIfInBounds_toArray, List.set_cons_zero, List.set_cons_succ, List.getElem_toArray, List.getElem_cons_zero, List.getElem_cons_succ]
                refine wpAnyH_done (by kernel_rfl) ?_ _
                refine NoPanic.normal ?_
                exact ⟨rfl, ⟨_, _, _, _, _, _, _, _, rfl⟩, M9.out.2⟩
              · rw [if_pos (by rfl)]
                go_wp2_with fail
                refine K4.out.mono ?_
                rintro e vv1 ⟨rfl, e9⟩
                obtain rfl := e9.symm
                go_wp2_with fail
                refine hK.out _ _ he (fun _ => ?_)
                clear hK K
                try simp only [Act.put, List.setIfInBounds_toArray, List.set_cons_zero, List.set_cons_succ, List.getElem_toArray, List.getElem_cons_zero, List.getElem_cons_succ]
                refine wpAnyH_ready (rs := [0, 6]) (by kernel_rfl) (by simp) ?_
                refine AllReadyH.cons rfl (fun K hK => ?_) (AllReadyH.cons rfl (fun K hK => ?_) AllReadyH.nil)
                · go_simp
                  refine hK.out _ _ he (fun _ => ?_)
                  clear hK K
                  try simp only [Act.put, List.setIfInBounds_toArray, List.set_cons_zero, List.set_cons_succ, List.getElem_toArray, List.getElem_cons_zero, List.getElem_cons_succ]
                  refine wpAnyH_ready (rs := [6]) (by kernel_rfl) (by simp) ?_
                  refine AllReadyH.cons rfl (fun K hK => ?_) AllReadyH.nil
                  go_simp
                  refine hK.out _ _ (HV.out _) (fun _ => ?_)
                  clear hK K
                  try simp only [Act.put, List.setIfInBounds_toArray, List.set_cons_zero, List.set_cons_succ, List.getElem_toArray, List.getElem_cons_zero, List.getElem_cons_succ]
                  obtain ⟨u1, hn⟩ : ∃ x, WE.alloc (.cells #[.int .i64 y2] 3) = x := ⟨_, rfl⟩
                  obtain ⟨q, hg⟩ : ∃ x, WE.heap.size = x := ⟨_, rfl⟩
                  have qe : u1.heap[q]? = some (.cells #[.int .i64 y2] 3 (0, 0)) := by rw [← hn, ← hg]; exact heap_alloc_new _ _
                  have o1 : u1.ownsRow w3.heap.size 3 1 (.slice A5 n2 c5) n2 (ints ys2) := by rw [← hn]; exact HE.out.1.2.1.alloc _
                  have hcu : u1.cell? ⟨bo, 0, none⟩ = some (.slice A5 n2 c5) := by rw [← hn]; exact (HE.out.1.1.alloc _).cell
                  have hu : u1.cell? ⟨bt, 0, none⟩ = some (.pointer p) := by rw [← hn]; exact (HE.out.1.2.2.alloc _).cell
                  have hsz : w3.heap.size ≤ u1.heap.size := by rw [← hn]; exact Nat.le_trans HE.out.2 ((Below.refl _ WE).alloc (Nat.le_refl _) _).size
                  simp only [hn, hg]
                  have HN := Lib.hid hn
                  clear hn hg
                  refine wpAnyH_ready (rs := [7]) (by kernel_rfl) (by simp) ?_
                  refine AllReadyH.cons rfl (fun K hK => ?_) AllReadyH.nil
                  refine step_snocG y2 o1 hsz (by omega) qe rfl (.tmp 23) (.tmp 29) rfl (by go_simp) (by go_simp) ?_
                  intro A9 c9 w9 gr9 own9
                  rw [← HN.out] at gr9
                  have M9 := Lib.hid (lkM_app HE.out.1.1 HE.out.1.2.1 HE.out.1.2.2 HBT.out HNE.out HYT.out gr9 own9)
                  have hc9 := M9.out.1.1
                  have hf9 := M9.out.1.2.1
                  have hq9 := M9.out.1.2.2
                  have hqf := M9.out.2.2.1.cell
                  refine hK.out _ _ hq9 (fun _ => ?_)
                  clear hK K
                  try simp only [Act.put, List.setIfInBounds_toArray, List.set_cons_zero, List.set_cons_succ, List.getElem_toArray, List.getElem_cons_zero, List.getElem_cons_succ]
                  clear gr9 own9 qe o1 hsz hcu hu
                  refine wpAnyH_ready (rs := [8]) (by kernel_rfl) (by simp) ?_
                  refine AllReadyH.cons rfl (fun K hK => ?_) AllReadyH.nil
                  go_simp
                  refine hK.out _ _ hqf (fun _ => ?_)
                  clear hK K
                  try simp only [Act.put, List.setIfInBounds_toArray, List.set_cons_zero, List.set_cons_succ, List.getElem_toArray, List.getElem_cons_zero, List.getElem_cons_succ]
                  refine wpAnyH_done (by kernel_rfl) ?_ _
                  refine NoPanic.normal ?_
                  exact ⟨rfl, ⟨_, _, _, _, _, _, _, _, rfl⟩, M9.out.2⟩
                · go_simp
                  refine hK.out _ _ (HV.out _) (fun _ => ?_)
                  clear hK K
                  try simp only [Act.put, List.setIfInBounds_toArray, List.set_cons_zero, List.set_cons_succ, List.getElem_toArray, List.getElem_cons_zero, List.getElem_cons_succ]
                  obtain ⟨u1, hn⟩ : ∃ x, WE.alloc (.cells #[.int .i64 y2] 3) = x := ⟨_, rfl⟩
                  obtain ⟨q, hg⟩ : ∃ x, WE.heap.size = x := ⟨_, rfl⟩
                  have qe : u1.heap[q]? = some (.cells #[.int .i64 y2] 3 (0, 0)) := by rw [← hn, ← hg]; exact heap_alloc_new _ _
                  have o1 : u1.ownsRow w3.heap.size 3 1 (.slice A5 n2 c5) n2 (ints ys2) := by rw [← hn]; exact HE.out.1.2.1.alloc _
                  have hcu : u1.cell? ⟨bo, 0, none⟩ = some (.slice A5 n2 c5) := by rw [← hn]; exact (HE.out.1.1.alloc _).cell
                  have hu : u1.cell? ⟨bt, 0, none⟩ = some (.pointer p) := by rw [← hn]; exact (HE.out.1.2.2.alloc _).cell
                  have hsz : w3.heap.size ≤ u1.heap.size := by rw [← hn]; exact Nat.le_trans HE.out.2 ((Below.refl _ WE).alloc (Nat.le_refl _) _).size
                  simp only [hn, hg]
                  have HN := Lib.hid hn
                  clear hn hg
                  refine wpAnyH_ready (rs := [0]) (by kernel_rfl) (by simp) ?_
                  refine AllReadyH.cons rfl (fun K hK => ?_) AllReadyH.nil
                  go_simp
                  refine hK.out _ _ hu (fun _ => ?_)
                  clear hK K
                  try simp only [Act.put, List.setIfInBounds_toArray, List.set_cons_zero, List.set_cons_succ, List.getElem_toArray, List.getElem_cons_zero, List.getElem_cons_succ]
                  refine wpAnyH_ready (rs := [7]) (by kernel_rfl) (by simp) ?_
                  refine AllReadyH.cons rfl (fun K hK => ?_) AllReadyH.nil
                  refine step_snocG y2 o1 hsz (by omega) qe rfl (.tmp 23) (.tmp 29) rfl (by go_simp) (by go_simp) ?_
                  intro A9 c9 w9 gr9 own9
                  rw [← HN.out] at gr9
                  have M9 := Lib.hid (lkM_app HE.out.1.1 HE.out.1.2.1 HE.out.1.2.2 HBT.out HNE.out HYT.out gr9 own9)
                  have hc9 := M9.out.1.1
                  have hf9 := M9.out.1.2.1
                  have hq9 := M9.out.1.2.2
                  have hqf := M9.out.2.2.1.cell
                  refine hK.out _ _ hq9 (fun _ => ?_)
                  clear hK K
                  try simp only [Act.put, List.setIfInBounds_toArray, List.set_cons_zero, List.set_cons_succ, List.getElem_toArray, List.getElem_cons_zero, List.getElem_cons_succ]
                  clear gr9 own9 qe o1 hsz hcu hu
                  refine wpAnyH_ready (rs := [8]) (by kernel_rfl) (by simp) ?_
                  refine AllReadyH.cons rfl (fun K hK => ?_) AllReadyH.nil
                  go_simp
                  refine hK.out _ _ hqf (fun _ => ?_)
                  clear hK K
                  try simp only [Act.put, List.setIfInBounds_toArray, List.set_cons_zero, List.set_cons_succ, List.getElem_toArray, List.getElem_cons_zero, List.getElem_cons_succ]
                  refine wpAnyH_done (by kernel_rfl) ?_ _
                  refine NoPanic.normal ?_
                  exact ⟨rfl, ⟨_, _, _, _, _, _, _, _, rfl⟩, M9.out.2⟩
          case rest =>
            rintro e a1 w7 hout
            obtain ⟨rfl, _, ⟨A7, c7, v7, r7⟩, q7, kx7, ko7⟩ := only_out hout
            refine ⟨(HK.out.2.trans ko7).from _, HK.out.1.trans kx7, ⟨⟨_, v7, ?_, trivial⟩, q7, HH.out.1.trans (HK.out.1.trans kx7)⟩⟩
            rw [HP2.out]
            exact r7
  case done =>
    rintro D ys W hD rfl ⟨⟨vo, hv, hrow, _⟩, _, hkx⟩ hK
    have hc := hv.cell
    gi_wp2
    refine ⟨by simp, .inl ⟨_, _, rfl, run_takeDeferred hK, ?_⟩⟩
    obtain ⟨A', c', rfl⟩ := ownK_form hrow
    refine ⟨_, results_tmp rfl _ _ _, A', _, c', rfl, ?_, ?_⟩
    · exact ownK_base (ownsRow_putObj hrow _ hK rfl) B3.out.size
    · exact (B3.out.trans (hkx.below (n := w.heap.size) B3.out.size B3.out.size (fun b hb => by subst hb; exact hbw))).trans (belowK_b (w := w3) B3.out.size W D _ _ hD hK rfl rfl)
  case stop =>
    rintro D c pre W hD hpre h hK
    exact h.elim
/-! The developers' ring, of a table and of none. -/
theorem rt_tab {w : World} {B g : Nat} {N : Int} {l : List Tr} (h : KTab w B g N l) : RT w (some ⟨g, 0, none⟩) l := .inr ⟨B, g, N, rfl, h⟩
theorem rt_nil (w : World) : RT w none [] := .inl ⟨rfl, rfl⟩
theorem ring_nil (v : Int) : IsRing [] v [] := .inl ⟨rfl, rfl⟩
theorem rgaround_any (w : World) (B g : Nat) (N : Int) (l : List Tr) (h : KTab w B g N l) (v : Int) (_hv : -9223372036854775808 ≤ v ∧ v ≤ 9223372036854775807) (L : List Nat) (hL : IsRing l v L) (W : World) (hb : Below w.heap.size w W) : Calls Try.prog 29 #[.pointer (some ⟨g, 0, none⟩), .int .i64 v] W (SeqTold w.heap.size W (natsI L)) := rgaround_of w _ l (rt_tab h) v L hL W hb
theorem rgaround_nil (w : World) (v : Int) (_hv : -9223372036854775808 ≤ v ∧ v ≤ 9223372036854775807) (W : World) (hb : Below w.heap.size w W) : Calls Try.prog 29 #[.pointer none, .int .i64 v] W (SeqTold w.heap.size W []) := rgaround_of w none [] (rt_nil w) v [] (ring_nil v) W hb
theorem rglink_any (w : World) (B g : Nat) (N : Int) (l : List Tr) (h : KTab w B g N l) (v : Int) (_hv : -9223372036854775808 ≤ v ∧ v ≤ 9223372036854775807) (L : List Nat) (hL : IsRing l v L) : Calls Try.prog 15 #[.pointer (some ⟨g, 0, none⟩), .int .i64 v] w (RowTold w (linkL l L)) := rglink_of w _ l (rt_tab h) v L hL
theorem rglink_nil (w : World) (v : Int) (_hv : -9223372036854775808 ≤ v ∧ v ≤ 9223372036854775807) : Calls Try.prog 15 #[.pointer none, .int .i64 v] w (RowTold w []) := rglink_of w none [] (rt_nil w) v [] (ring_nil v)
theorem rginner_any (w : World) (B g : Nat) (N : Int) (l : List Tr) (h : KTab w B g N l) (v : Int) (_hv : -9223372036854775808 ≤ v ∧ v ≤ 9223372036854775807) (L : List Nat) (hL : IsRing l v L) : Calls Try.prog 16 #[.pointer (some ⟨g, 0, none⟩), .int .i64 v] w (BoolTold10 w (decide (InnerL l L))) := rginner_of w _ l (rt_tab h) v L hL
theorem rginner_nil (w : World) (v : Int) (_hv : -9223372036854775808 ≤ v ∧ v ≤ 9223372036854775807) : Calls Try.prog 16 #[.pointer none, .int .i64 v] w (BoolTold10 w false) := rginner_of w none [] (rt_nil w) v [] (ring_nil v)
theorem rgdegree_any (w : World) (B g : Nat) (N : Int) (l : List Tr) (h : KTab w B g N l) (v : Int) (_hv : -9223372036854775808 ≤ v ∧ v ≤ 9223372036854775807) (L : List Nat) (hL : IsRing l v L) : Calls Try.prog 17 #[.pointer (some ⟨g, 0, none⟩), .int .i64 v] w (IntTold w (L.length : Int)) := rgdegree_of w _ l (rt_tab h) v L hL
theorem rgdegree_nil (w : World) (v : Int) (_hv : -9223372036854775808 ≤ v ∧ v ≤ 9223372036854775807) : Calls Try.prog 17 #[.pointer none, .int .i64 v] w (IntTold w 0) := rgdegree_of w none [] (rt_nil w) v [] (ring_nil v)
theorem rgnear_any (w : World) (B g : Nat) (N : Int) (l : List Tr) (h : KTab w B g N l) (a b : Int) (ha : -9223372036854775808 ≤ a ∧ a ≤ 9223372036854775807) (hb : -9223372036854775808 ≤ b ∧ b ≤ 9223372036854775807) : Calls Try.prog 18 #[.pointer (some ⟨g, 0, none⟩), .int .i64 a, .int .i64 b] w (BoolTold10 w (decide (NearC l a b))) := rgnear_of w _ l (rt_tab h) a b ha hb
theorem rgnear_nil (w : World) (a b : Int) (ha : -9223372036854775808 ≤ a ∧ a ≤ 9223372036854775807) (hb : -9223372036854775808 ≤ b ∧ b ≤ 9223372036854775807) : Calls Try.prog 18 #[.pointer none, .int .i64 a, .int .i64 b] w (BoolTold10 w false) := by
  have := rgnear_of w none [] (rt_nil w) a b ha hb
  rwa [show decide (NearC [] a b) = false from decide_eq_false fun h => h.elim (fun h => h rfl) fun h => h rfl] at this
end Go.Proofs.Ytoianhaocjiffaa
