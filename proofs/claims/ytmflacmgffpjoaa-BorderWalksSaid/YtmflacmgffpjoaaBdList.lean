/- Layer 12: the law's own list of what a walk along the border tells. -/
import Derived.Test.YtmflacmgffpjoaaGY
namespace Go.Proofs.Ytmflacmgffpjoaa
open Go.RowKit Go.Shelf

attribute [local go_sem] Oper.semAt_some

set_option maxHeartbeats 4000000 in
set_option maxRecDepth 100000 in
theorem walk12_any (w : World) (p : Value) (v : Int) (xs : List Int) (hxs : xs.length ≤ 200) (M : Nat) (hM : M ≤ w.heap.size)
    (HA : ∀ W, Below w.heap.size w W → Calls Try.prog 24 #[p, .int .i64 v] W (SeqF 45 M W xs)) :
    Calls Try.prog 23 #[p, .int .i64 v] w (RowTold w xs) := by
  refine (callsIn_wide (n := 7)).1 ?_
  obtain ⟨i0, hi, hz0, hz1, hz2⟩ := info_parts Try.infoInt
  obtain ⟨w1, hw1⟩ : ∃ w1, w.alloc (.cells #[.slice none 0 0] 40) = w1 := ⟨_, rfl⟩
  obtain ⟨bo, hbo⟩ : ∃ bo, w.heap.size = bo := ⟨_, rfl⟩
  have b1 : Below w.heap.size w w1 := by rw [← hw1]; exact (Below.refl _ w).alloc (Nat.le_refl _) _
  have o1 : Boxed w1 bo 40 (.slice none 0 0) := by rw [← hw1, ← hbo]; exact Boxed.new w _ _
  have K := Lib.hid (HA w1 b1)
  have HK := Lib.hid (fun W (b : Below w1.heap.size w1 W) => HA W (up2 b1 b))
  have B1 := Lib.hid (And.intro b1 o1)
  clear b1 o1 HA
  have nf := fun d W f lb => eqlIn_nilF d W f lb
  have nf2 := eql_nilF
  refine callsIn_of_wp_marks Try.func23 rfl trivial ?_ rfl
  simp only [Try.ntmps23, List.size_toArray, List.length_cons, List.length_nil, Nat.reduceAdd, Nat.reduceSub, Array.replicate_succ, Array.replicate_zero, List.push_toArray, List.append_toArray, List.nil_append, List.cons_append]
  clear nf
  gi_wp2_with (refine ⟨trivial, ?_⟩; gi_at_call 24; refine (callsIn_wide.2 K.out).mono ?_; clear K; rintro e w2 ⟨lb1, rfl, b2, _⟩)
  have K2 := Lib.hid (HK.out w2 b2)
  gi_wp2_with (refine ⟨trivial, ?_⟩; gi_at_call 24; refine (callsIn_wide.2 K2.out).mono ?_; clear K2; rintro e w3 ⟨lb, rfl, b3, hseq⟩)
  clear nf2
  have h12 : w1.heap.size ≤ w2.heap.size := b2.size
  have b23 := up2 b2 b3
  have o3 : Boxed w3 bo 40 (.slice none 0 0) := (b23.block bo B1.out.2.lt).trans B1.out.2
  have hbw : w.heap.size ≤ bo := by omega
  have hbo2 : bo < w2.heap.size := Nat.lt_of_lt_of_le B1.out.2.lt h12
  have B3 := Lib.hid (up2 B1.out.1 b23)
  have h27 := b3.size
  refine wpIn_rangeFunc_ownG (F := Fence.wide) (n := 7) rfl (by decide) (gf := 45) (lb := lb) rfl trivial (enters_of Try.func45 (by kernel_rfl) rfl)
    (hseq (fun b => b = bo) w3.heap.size 6 (fun b hb => by subst hb; exact ⟨by omega, hbo2⟩) (Nat.le_refl _) (by decide)) (fun h k => h.trans k) (keepX_b (Nat.le_refl _)) (Below.refl _ _) (fun _ => rfl)
    (fun pre W => (∃ vo, Boxed W bo 40 vo ∧ W.ownsRow w3.heap.size 3 1 vo pre.length (ints pre) ∧ True) ∧ KeepX (fun b => b = bo) w3.heap.size w3 W)
    (fun _ _ _ => False)
    (OwnFrom.and (Own.from (holdsRow_own w3.heap.size bo 40 3 1 (fun pre : List Int => pre.length) (fun pre => ints pre) (fun _ _ => True)) _) (ownFrom_keepX (Nat.le_refl _)))
    (fun _ _ _ _ _ hs _ _ => hs)
    ⟨⟨_, o3, World.ownsRow_nil _ _ _ _, trivial⟩, KeepX.refl _ _ _⟩
    (fun x => { tmps := #[p, .int .i64 v, undef, undef, .slice none 0 0, .pointer (some ⟨bo, 0, none⟩), .int .i64 x, p, .int .i64 v, .func (.func 45) #[] lb1, .bool false, undef, p, .int .i64 v, .func (.func 45) #[] lb, .int .i64 x, undef, undef, undef, undef, undef, undef, undef, undef], defers := [] }) ?assign ?body ?done ?stop
  case assign =>
    intro l x W K hK
    gi_wp2
    exact hK
  case body =>
    rintro l pre x W ⟨⟨vo, hv, hrow, _⟩, hkx⟩ hN
    have hc := hv.cell
    obtain ⟨k, hk⟩ : ∃ k, pre.length = k := ⟨_, rfl⟩
    rw [hk] at hrow hN
    have hsz : w3.heap.size ≤ W.heap.size := hkx.size
    have d1 : decide ((k : Int) + 1 > 200) = false := decide_eq_false (by omega)
    have d2 : decide ((((k + 1 : Nat)) : Int) > 200) = false := decide_eq_false (by omega)
    have HP := Lib.hid (show (pre ++ [x]).length = k + 1 ∧ ints (pre ++ [x]) = ints pre ++ [.int .i64 x] from ⟨by simp [hk], by simp [ints]⟩)
    clear hk
    gi_wp2_with (gi_at_builtin; refine wpListIn_append_own _ rfl _ _ 40 rfl w3.heap.size 3 i0 (.int .i64 0) 1 8 Try.underlying40 hi hz0 hz1 hz2 rfl (by decide) _ _ _ rfl (hrow.alloc _) ⟨W.heap.size, 0, none⟩ 1 1 [.int .i64 x] rfl rfl (cell_one_new _ _ _) (by simp [Value.oneCell']) (by unfold maxLen; omega) (by omega) (by simp; omega) ?_; intro v' w9 hown' hgrow _; obtain ⟨g', cap', rfl⟩ := ownsRow_succ hown'; have hv1 : Boxed w9 bo 40 vo := (hv.alloc _).kept hgrow (hv.not_row (by decide) hrow); have hc1 := hv1.cell; have hf1 := hv1.frozen; have CO := Lib.hid (collected (X := fun b => b = bo) (t := 40) rfl (by decide) hv hrow hown' hgrow); have hc2 := CO.out.2.2.1.cell)
    exact ⟨CO.out.1.from _, CO.out.2.1, ⟨_, CO.out.2.2.1, by rw [HP.out.1, HP.out.2]; exact CO.out.2.2.2, trivial⟩, hkx.trans CO.out.2.1⟩
  case done =>
    rintro D ys W hD rfl ⟨⟨vo, hv, hrow, _⟩, hkx⟩ hK
    have hc := hv.cell
    gi_wp2
    refine ⟨by simp, .inl ⟨_, _, rfl, run_takeDeferred hK, ?_⟩⟩
    obtain ⟨A', c', rfl⟩ := ownK_form hrow
    refine ⟨_, results_tmp rfl _ _ _, A', _, c', rfl, ?_, ?_⟩
    · exact ownK_base (ownsRow_putObj hrow _ hK rfl) B3.out.size
    · exact (B3.out.trans (hkx.below (n := w.heap.size) B3.out.size B3.out.size (fun b hb => by subst hb; exact hbw))).trans (belowK_b (w := w3) B3.out.size W D _ _ hD hK rfl rfl)
  case stop =>
    rintro D c pre W hD hpre h hK
    exact h.elim
end Go.Proofs.Ytmflacmgffpjoaa
