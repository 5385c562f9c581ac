/- BorderLinks: the link of a border vertex begins with one neighbour on the border, and ends with the other one; both are as After tells. No condition. -/
import Derived.Test.YtmflacmgffpjoaaBdLaw
import Derived.Test.YtmflacmgffpjoaaBdRing
import Derived.Test.YtmflacmgffpjoaaGR
import Derived.Test.YtmflacmgffpjoaaGM
namespace Go.Proofs.Ytmflacmgffpjoaa.borderLinks
open Go.RowKit Go.ChangeShapes Go.WideShapes Go.ChangeAt

set_option maxHeartbeats 16000000 in
set_option maxRecDepth 100000 in
theorem walk (N : Int) (A : Option Addr) (n c : Nat) (l : List Tr) (v : Int) (w : World) (_ : -9223372036854775808 ≤ N) (_ : N ≤ 9223372036854775807) (h : T3 w A n l) (hv1 : -9223372036854775808 ≤ v) (hv2 : v ≤ 9223372036854775807) :
    Calls Try.prog 8 #[.agg #[.int .i64 N, .slice A n c], .int .i64 v] w (BoolTold10 w true) := by
  have hv : -9223372036854775808 ≤ v ∧ v ≤ 9223372036854775807 := ⟨hv1, hv2⟩
  clear hv1 hv2
  obtain rfl := h.1
  have HL := Lib.hid h
  have KA := Lib.hid awake12_true
  obtain ⟨w1, hw1⟩ : ∃ w1, w.alloc (.cells #[.int .i64 N, .slice A l.length c] 24) = w1 := ⟨_, rfl⟩
  obtain ⟨g0, hg0⟩ : ∃ g0, w.heap.size = g0 := ⟨_, rfl⟩
  have b1 : Below w.heap.size w w1 := by rw [← hw1]; exact (Below.refl _ w).alloc (Nat.le_refl _) _
  have x1 : Bx w1 g0 N A l.length c := by rw [← hw1, ← hg0]; exact Bx.made w N A l.length c
  have B1 := Lib.hid (And.intro b1 x1)
  clear b1 x1 h
  go_enter Try.func8, Try.ntmps8
  go_wp2_with fail
  refine (KA.out _).mono ?_
  rintro e w2 ⟨rfl, b2⟩
  have x2 := B1.out.2.below b2
  have e0 := x2.c0
  have e1 := x2.c1
  have B2 := Lib.hid (And.intro (up2 B1.out.1 b2) x2)
  have KL := Lib.hid (table12_any w2 N A l.length c l (HL.out.below B2.out.1))
  clear b2 x2
  go_wp2_with fail
  refine KL.out.mono ?_
  rintro e w3 ⟨b3, ⟨rfl, hno⟩ | ⟨hn40, g, rfl, tab⟩⟩
  · have x3 := B2.out.2.below b3
    have e0 := x3.c0
    have e1 := x3.c1
    have B3 := Lib.hid (up2 B2.out.1 b3)
    clear b3 x3
    by_cases h40 : 40 < l.length
    · have d40 : decide ((l.length : Int) > 40) = true := decide_eq_true (by omega)
      clear h40 hno
      go_wp2_with fail
      go_ret
      exact ⟨rfl, B3.out⟩
    · have d40 : decide ((l.length : Int) > 40) = false := decide_eq_false (by omega)
      have KS := Lib.hid (surf9_any w3 N A l.length c l (HL.out.below B3.out) (by omega) false ⟨fun h => (by cases h), fun h => hno.elim (fun k => absurd k h40) fun k => absurd h k⟩)
      clear h40 hno
      go_wp2_with fail
      refine KS.out.mono ?_
      rintro e w4 ⟨rfl, b4⟩
      have B4 := Lib.hid (up2 B3.out b4)
      clear b4
      go_wp2_with fail
      go_ret
      exact ⟨rfl, B4.out⟩
  have x3 := B2.out.2.below b3
  have e0 := x3.c0
  have e1 := x3.c1
  have B3 := Lib.hid (And.intro (up2 B2.out.1 b3) x3)
  have TAB := Lib.hid tab
  have SF := Lib.hid tab.surf
  have hN := And.intro tab.surf.n0 tab.surf.n1
  clear b3 x3 tab
  have KF := Lib.hid (bdafter_any w3 _ g N l TAB.out v hv)
  by_cases h0 : afterV l v < 0
  · have d0 : decide (afterV l v < 0) = true := decide_eq_true h0
    obtain ⟨z, hz⟩ : ∃ z, afterV l v = z := ⟨_, rfl⟩
    rw [hz] at KF d0
    clear h0 hz
    go_wp2_with fail
    refine KF.out.mono ?_
    rintro e w4 ⟨rfl, b4⟩
    have B4 := Lib.hid (up2 B3.out.1 b4)
    clear b4
    go_wp2_with fail
    go_ret
    exact ⟨rfl, B4.out⟩
  have h0' : 0 ≤ afterV l v := by omega
  obtain ⟨hin, _⟩ := after_in SF.out h0'
  obtain ⟨L, hL⟩ := ring_exists SF.out v
  obtain ⟨k, hk, hlast, hfirst⟩ := link_ends SF.out hin hL h0'
  have hne : (linkL l L).getD 0 0 ≠ afterV l v := fun e => by
    have b1 := (after_iff SF.out hin.1).1 hfirst
    have b2 := (after_iff SF.out h0').1 rfl
    rw [e] at b1
    exact (bdry_ne b2).2 b1
  have ha64 : -9223372036854775808 ≤ (linkL l L).getD 0 0 ∧ (linkL l L).getD 0 0 ≤ 9223372036854775807 := by
    have b1 := (bdry_in SF.out ((after_iff SF.out hin.1).1 hfirst)).2
    have := b1.1
    have := b1.2
    omega
  have hk16 : k ≤ 20000 := by
    have h1 := lkI_len l (natsI L)
    rw [lkI_ring (.inr ⟨N, SF.out⟩) hL, natsI_len, hk] at h1
    have := ring_le (.inr ⟨N, SF.out⟩) hL
    omega
  have KR := Lib.hid (fun W (b : Below w3.heap.size w3 W) => (rglink_of W (some ⟨g, 0, none⟩) l (.inr ⟨_, g, N, rfl, TAB.out.below b⟩) v L hL).mono fun _ _ h => h.at)
  obtain ⟨ls, hls⟩ : ∃ ls, linkL l L = ls := ⟨_, rfl⟩
  rw [hls] at hk hlast hfirst hne ha64
  simp only [hls] at KR
  obtain ⟨a, hea⟩ : ∃ a, ls.getD 0 0 = a := ⟨_, rfl⟩
  rw [hea] at hfirst hne ha64
  have kfa := fun W (b : Below w3.heap.size w3 W) => bdafter_any W _ g N l (TAB.out.below b) a ha64
  rw [hfirst] at kfa
  have KFA := Lib.hid kfa
  have d0 : decide (afterV l v < 0) = false := decide_eq_false h0
  obtain ⟨z, hz⟩ : ∃ z, afterV l v = z := ⟨_, rfl⟩
  rw [hz] at KF d0 hlast hne
  have HE := Lib.hid (And.intro hea (And.intro hlast hk))
  have e1 : (a == z) = false := by rw [beq_eq_false_iff_ne]; exact hne
  have e2 : (z == z) = true := beq_self_eq_true z
  have e3 : (v == v) = true := beq_self_eq_true v
  clear h0 h0' hin hL hk hlast hfirst hne ha64 hls hea kfa hz
  go_wp2_with fail
  refine KF.out.mono ?_
  rintro e w4 ⟨rfl, b4⟩
  have B4 := Lib.hid b4
  clear b4
  go_wp2_with fail
  refine (KR.out w4 B4.out).mono ?_
  rintro e w5 ⟨A5, c5, rfl, r5, b5, hc5⟩
  rw [HE.out.2.2] at r5 hc5
  simp only [HE.out.2.2]
  obtain ⟨ad, rfl, ca⟩ := r5.int 0 (by omega)
  obtain ⟨ad', e', cb⟩ := r5.int (k + 1) (by omega)
  injection e' with e'
  subst e'
  rw [HE.out.1] at ca
  rw [HE.out.2.1] at cb
  have B5 := Lib.hid (up2 B4.out b5)
  obtain ⟨m, hm⟩ : ∃ m, k + 1 = m := ⟨_, rfl⟩
  obtain ⟨M, hM⟩ : ∃ M, k + 2 = M := ⟨_, rfl⟩
  rw [hm] at cb
  simp only [hM]
  have d1 : decide ((M : Int) < 2) = false := decide_eq_false (by omega)
  have s1 : IntKind.i64.wrap ((M : Int) - 1) = (m : Int) := by rw [IntWalk.i64_in _ (by omega)]; omega
  have s3 : (0 : Int) ≤ (m : Int) := by omega
  have s4 : (m : Int) < (M : Int) := by omega
  have s5 : (0 : Int) < (M : Int) := by omega
  have s6 : m < M := by omega
  have s7 : 0 < M := by omega
  have cz := ca
  rw [show ad.add 0 = ad by unfold Addr.add; simp] at cz
  clear hm hM
  clear r5 b5 hc5
  go_wp2_with fail
  go_quiet (fail)
  have BN := Lib.hid (up2 B5.out (Reading.below (w := w5) (w' := w5.drewN nq) ⟨nq, rfl⟩))
  go_wp2_with fail
  refine (KFA.out _ BN.out).mono ?_
  rintro e w6 ⟨rfl, b6⟩
  have B6 := Lib.hid (up2 B3.out.1 (up2 BN.out b6))
  clear b6
  go_wp2_with fail
  go_ret
  exact ⟨rfl, B6.out⟩
set_option maxRecDepth 100000 in
theorem lifted (os : Os) (started : os.Started) (H : Type) (enc : TypeId × Value → H) :
    ReturnsInHanded {} Try.checked os 8 .any (Rows.borderLinksSpec.pre6 enc Try.prog Try.f8 Rows.borderLinksRow.domain false) (Rows.borderLinksSpec.post enc Try.prog Try.f8 false true false false) := by
  refine returnsInHanded_of_change (C := Try.checked) own_knob started (by kernel_rfl) Try.func8
    (ChangeSpec.witness6 (enc := enc) (C := Try.checked) false ⟨#[], #[.agg #[.int .i64 0, .slice none 0 0], .int .i64 0], []⟩ 8 (by kernel_rfl) (by kernel_rfl) (by kernel_rfl) (by kernel_rfl)) ?_
  intro W base args ds gs before hval0 hW hcnd _
  have hval : ∀ (j : Nat) t v, Try.f8.params[j]? = some t → args[j]? = some v → Value.okWide Try.prog W .any base t v := hval0
  have hW' := hW
  obtain ⟨p, q, hA0, hV, rfl, hfz, hnd⟩ := hW
  have hA : DataW.TrodAll enc Try.prog W 0 (fun _ => true) true Try.f8.params.toList args.toList ds p := hA0
  rw [Try.params8] at hA hval
  obtain ⟨v0, vs0, d0, ds0, p0, q0, hargs, rfl, rfl, h0, r0⟩ := trodAll_cons hA
  obtain ⟨v1, vs1, d1, ds1, p1, q1, rfl, rfl, rfl, h1, r1⟩ := trodAll_cons r0
  obtain ⟨rfl, rfl, rfl⟩ := trodAll_nil r1
  obtain rfl : args = #[v0, v1] := by cases args; simp_all
  obtain ⟨rfl, rfl⟩ := trodVars_none hV
  have lt0 : ∀ x ∈ p0, x.block < W.heap.size := by obtain ⟨m, hm⟩ := h0; exact DataW.trod_lt m _ _ _ hm
  obtain ⟨N0, a0, len0, cap0, xs0, rfl, hN0, hr0⟩ := arg_soup (hval 0 24 v0 rfl rfl) h0
  obtain ⟨a1, rfl, rfl, rfl, w1⟩ := open_int Try.underlying3 (hval 1 3 v1 rfl rfl) h1
  have bd1 := bounds_i64 w1
  clear hA0 hval0
  refine (walk N0 a0 len0 cap0 xs0 a1 W hN0.1 hN0.2 hr0 (by omega) (by omega)).mono fun e W' ⟨he, bel⟩ => ?_
  subst he
  exact ⟨_, rfl, _, _, _, [], _, [], hW', trodAll_mk1 (shut_bool Try.underlying4 _), (trodAll_cons_mk (Below.trod laid_out (by kernel_rfl) (of_decide_eq_true (by kernel_rfl)) h0 bel lt0) (trodAll_cons_mk (shut_int Try.underlying3 w1) trodAll_mk0)), rfl, bel.frame _, fun h => by cases h⟩

theorem over : Rows.borderLinksRow.holds Try.pinned (OpenSpec.ofChange Rows.borderLinksSpec) :=
  OpenClaim.holds_of_wide 8 Try.f8 rfl rfl rfl rfl rfl rfl rfl ⟨rfl, rfl, rfl, rfl, rfl⟩ rfl rfl rfl rfl rfl (by kernel_rfl) Try.func8 (by kernel_rfl)
    (of_decide_eq_true (by kernel_rfl)) (by unfold Func.isWrapper; first | (rw [if_pos (by decide +kernel)]; kernel_rfl) | (rw [if_neg (by decide +kernel)]; exact ⟨rfl, rfl⟩))
    (fun os started H enc _ => lifted os started H enc)

theorem proved : Rows.BorderLinksSaid := over
end Go.Proofs.Ytmflacmgffpjoaa.borderLinks
