/- CornerMirror: the mirrored surface is one, and each edge stands across just as before. No condition. -/
import Derived.Test.YtkcmieblnajmpaaGN
import Derived.Test.YtkcmieblnajmpaaGM
import Derived.Test.YtkcmieblnajmpaaGP
namespace Go.Proofs.Ytkcmieblnajmpaa.cornerMirror
open Go.RowKit Go.ChangeShapes Go.WideShapes Go.ChangeAt

def MiRnd (w3 : World) (m : Nat) (i : Value) (wr : World) : Prop := ∃ k : Nat, k ≤ m ∧ i = .int .i64 (k : Int) ∧ Below w3.heap.size w3 wr
set_option maxHeartbeats 16000000 in
set_option maxRecDepth 100000 in
theorem walk (N : Int) (A : Option Addr) (n c : Nat) (l : List Tr) (w : World) (_ : -9223372036854775808 ≤ N) (_ : N ≤ 9223372036854775807) (h : T3 w A n l) :
    Calls Try.prog 9 #[.agg #[.int .i64 N, .slice A n c]] w (BoolTold10 w true) := by
  obtain rfl := h.1
  have HL := Lib.hid h
  have KA := Lib.hid awake10_true
  obtain ⟨w1, hw1⟩ : ∃ w1, w.alloc (.cells #[.int .i64 N, .slice A l.length c] 24) = w1 := ⟨_, rfl⟩
  obtain ⟨g0, hg0⟩ : ∃ g0, w.heap.size = g0 := ⟨_, rfl⟩
  have b1 : Below w.heap.size w w1 := by rw [← hw1]; exact (Below.refl _ w).alloc (Nat.le_refl _) _
  have x1 : Bx w1 g0 N A l.length c := by rw [← hw1, ← hg0]; exact Bx.made w N A l.length c
  have B1 := Lib.hid (And.intro b1 x1)
  clear b1 x1 h
  go_enter Try.func9, Try.ntmps9
  go_wp2_with fail
  refine (KA.out _).mono ?_
  rintro e w2 ⟨rfl, b2⟩
  have x2 := B1.out.2.below b2
  have e0 := x2.c0
  have e1 := x2.c1
  have B2 := Lib.hid (And.intro (up2 B1.out.1 b2) x2)
  have KL := Lib.hid (laid_any w2 N A l.length c l (HL.out.below B2.out.1))
  clear b2 x2
  go_wp2_with fail
  refine KL.out.mono ?_
  rintro e w3 ⟨b3, ⟨_, rfl⟩ | ⟨hgr, g, rfl, tab⟩⟩
  · have B3 := Lib.hid (up2 B2.out.1 b3)
    clear b3
    go_wp2_with fail
    go_ret
    exact ⟨rfl, B3.out⟩
  have x3 := B2.out.2.below b3
  have e0 := x3.c0
  have e1 := x3.c1
  have B3 := Lib.hid (And.intro (up2 B2.out.1 b3) x3)
  have TAB := Lib.hid tab
  have SF := Lib.hid tab.surf
  have hn40 : l.length ≤ 40 := Nat.le_of_not_lt fun h => hgr (.inl (by omega))
  have hN60 : N ≤ 60 := Int.not_lt.1 fun h => hgr (.inr (.inl h))
  clear b3 x3 tab hgr
  obtain ⟨p, hp⟩ := isPin_exists (l.map mirT)
  have SM := Lib.hid (surf_mir SF.out)
  have HWS := Lib.hid ((surf_iff hp).2 SM.out)
  have HP := Lib.hid hp
  have KM := Lib.hid (smirror_any w3 N A l.length c l (HL.out.below B3.out.1) (by omega))
  clear hp
  go_wp2_with fail
  refine KM.out.mono ?_
  rintro e w4 ⟨v, rfl, A', c', rfl, own4, b4⟩
  have B4 := Lib.hid (And.intro b4 own4)
  have KN := Lib.hid (show Calls Try.prog 13 #[.agg #[.int .i64 N, .slice A' l.length c']] w4 (NewK w4 N (l.map mirT) (wits p N (l.map mirT))) from by
    have h := knew_any w4 N A' (l.map mirT).length c' (l.map mirT) p (T3.of_own B4.out.2) HP.out (by rw [List.length_map]; omega)
    rwa [List.length_map] at h)
  clear b4 own4
  rw [List.length_map]
  go_wp2_with fail
  refine KN.out.mono ?_
  rintro e w5 ⟨b5, ⟨hws, _⟩ | ⟨_, u, rfl, tab⟩⟩
  · exact absurd HWS.out hws
  obtain ⟨w6, hw6⟩ : ∃ w6, w5.alloc (.cells #[.int .i64 0, .int .i64 0, .int .i64 0] 29) = w6 := ⟨_, rfl⟩
  have b6 : Below w5.heap.size w5 w6 := by rw [← hw6]; exact (Below.refl _ w5).alloc (Nat.le_refl _) _
  have U6 := Lib.hid (tab.below b6)
  have B6 := Lib.hid (up2 B4.out.1 (up2 b5 b6))
  have T6 := Lib.hid (TAB.out.below B6.out)
  have HW6 := Lib.hid hw6
  obtain ⟨m, hm⟩ : ∃ m, 3 * l.length = m := ⟨_, rfl⟩
  have e3 : IntKind.i64.wrap (3 * (l.length : Int)) = (m : Int) := by rw [IntWalk.i64_in _ (by omega)]; omega
  have HM := Lib.hid hm
  have hm120 : m ≤ 120 := by omega
  have KT := Lib.hid T6.out.tris
  clear hm b5 b6 tab hw6 e0 e1
  simp only [wv]
  go_wp2_with fail
  simp only [HW6.out]
  refine KT.out.mono ?_
  rintro e w9 ⟨rfl, rfl⟩
  go_wp2_with fail
  clear e3
  go_loopw [26] (MiRnd w9 m) (fun i _ => m - (intOf i).toNat)
  case atStart => exact ⟨0, Nat.zero_le _, rfl, Below.refl _ _⟩
  case round =>
    obtain ⟨k, hk, rfl, hb⟩ := hrel
    have HB := Lib.hid hb
    clear hb
    by_cases hlt : k < m
    case neg =>
      obtain rfl : k = m := by omega
      have b1 : ¬ (k : Int) < k := by omega
      go_wp2
      go_ret
      exact ⟨rfl, up2 B3.out.1 (up2 B6.out HB.out)⟩
    have b1 : (k : Int) < m := by omega
    have hkl : k < 3 * l.length := by rw [HM.out]; exact hlt
    have hc : ∀ j : Nat, j < 3 * l.length → IsC l.length (j : Int) := fun j hj => ⟨by omega, by omega⟩
    have hcm : ∀ j : Nat, j < 3 * l.length → IsC (l.map mirT).length (j : Int) := fun j hj => by rw [List.length_map]; exact hc j hj
    obtain ⟨d, hd⟩ : ∃ d, edgeC l k = d := ⟨_, rfl⟩
    obtain ⟨d0, d1⟩ := d
    have hei := edgeC_in SF.out.inb hkl
    rw [hd] at hei
    have hwf : wfE (d1, d0) := ⟨wf_in hei.2 SF.out.n1, wf_in hei.1 SF.out.n1⟩
    obtain ⟨mk, hmk⟩ : ∃ mk : Nat, mirC k = mk := ⟨_, rfl⟩
    have hmkl : mk < 3 * l.length := by rw [← hmk]; exact mirC_lt hkl
    obtain ⟨vk, hvk⟩ : ∃ vk, vtx l k = vk := ⟨_, rfl⟩
    have KE := Lib.hid (show Calls Try.prog 25 #[.pointer (some ⟨g, 0, none⟩), .int .i64 (k : Int)] wr (EdTold wr (d0, d1)) from by
      have := (T6.out.below HB.out).edge k
      rwa [show edgI l l.length k = (d0, d1) by unfold edgI; rw [if_pos (hc k hkl), Int.toNat_natCast, hd]] at this)
    have KF := Lib.hid (fun W (b : Below w9.heap.size w9 W) => (show Calls Try.prog 31 #[.pointer (some ⟨u, 0, none⟩), .agg #[.int .i64 d1, .int .i64 d0]] W (IntTold W (mk : Int)) from by
      have := (U6.out.below b).facing d1 d0 hwf
      rwa [show facing (l.map mirT) (d1, d0) = (mk : Int) by rw [← hmk, ← facing_mir SF.out hkl, hd]; rfl] at this))
    have KV1 := Lib.hid (fun W (b : Below w9.heap.size w9 W) => (show Calls Try.prog 21 #[.pointer (some ⟨u, 0, none⟩), .int .i64 (mk : Int)] W (IntSame W vk) from by
      have := (U6.out.below b).vertex mk
      rwa [show vtxI (l.map mirT) (l.map mirT).length mk = vk by unfold vtxI; rw [if_pos (hcm mk hmkl), Int.toNat_natCast, ← hmk, vtx_mirC hkl, hvk]] at this))
    have KV2 := Lib.hid (fun W (b : Below w9.heap.size w9 W) => (show Calls Try.prog 21 #[.pointer (some ⟨g, 0, none⟩), .int .i64 (k : Int)] W (IntSame W vk) from by
      have := (T6.out.below b).vertex k
      rwa [show vtxI l l.length k = vk by unfold vtxI; rw [if_pos (hc k hkl), Int.toNat_natCast, hvk]] at this))
    have KO1 := Lib.hid (fun W (b : Below w9.heap.size w9 W) => (show Calls Try.prog 24 #[.pointer (some ⟨u, 0, none⟩), .int .i64 (mk : Int)] W (IntSame W (oppC (l.map mirT) mk)) from by
      have := (U6.out.below b).opp mk
      rwa [show oppI (l.map mirT) (l.map mirT).length mk = oppC (l.map mirT) mk by unfold oppI; rw [if_pos (hcm mk hmkl), Int.toNat_natCast]] at this))
    have KO2 := Lib.hid (fun W (b : Below w9.heap.size w9 W) => (show Calls Try.prog 24 #[.pointer (some ⟨g, 0, none⟩), .int .i64 (k : Int)] W (IntSame W (oppC l k)) from by
      have := (T6.out.below b).opp k
      rwa [show oppI l l.length k = oppC l k by unfold oppI; rw [if_pos (hc k hkl), Int.toNat_natCast]] at this))
    obtain ⟨qk, hqk⟩ : ∃ qk : Nat, k / 3 = qk := ⟨_, rfl⟩
    have hqm : mk / 3 = qk := by rw [← hmk, mirC_div, hqk]
    have t1 : Int.tdiv (mk : Int) 3 = (qk : Int) := by rw [Int.tdiv_eq_ediv_of_nonneg (by omega)]; omega
    have t2 : Int.tdiv (k : Int) 3 = (qk : Int) := by rw [Int.tdiv_eq_ediv_of_nonneg (by omega)]; omega
    have t3 : IntKind.i64.wrap (qk : Int) = (qk : Int) := IntWalk.i64_in _ (by omega)
    have t4 : decide ((mk : Int) < 0) = false := by simp
    have HO := Lib.hid (opp_mir SF.out hkl)
    rw [hmk] at HO
    clear hc hcm hd hei hwf hmk hmkl hvk hqk hqm hkl
    go_wp2_with fail
    refine KE.out.mono ?_
    rintro e w4 ⟨rfl, b4⟩
    have B7 := Lib.hid (up2 HB.out b4)
    obtain ⟨w5', hw5⟩ : ∃ w5', w4.alloc (.cells #[.int .i64 d0, .int .i64 d1] 41) = w5' := ⟨_, rfl⟩
    obtain ⟨q, hq⟩ : ∃ q, w4.heap.size = q := ⟨_, rfl⟩
    have b5 : Below w4.heap.size w4 w5' := by rw [← hw5]; exact (Below.refl _ w4).alloc (Nat.le_refl _) _
    have q5 : w5'.heap[q]? = some (.cells #[.int .i64 d0, .int .i64 d1] 41 (0, 0)) := by rw [← hw5, ← hq]; exact heap_alloc_new w4 _
    have z0 : w5'.cell? ⟨q, 0, none⟩ = some (.int .i64 d0) := by rw [cell_in q5]; rfl
    have z1 : w5'.cell? ⟨q, 1, none⟩ = some (.int .i64 d1) := by rw [cell_in q5]; rfl
    have B8 := Lib.hid (up2 B7.out b5)
    clear b4 b5 q5
    go_wp2_with fail
    refine (KF.out _ B8.out).mono ?_
    rintro e w7 ⟨rfl, b7⟩
    have B9 := Lib.hid (up2 B8.out b7)
    clear b7
    go_wp2_with fail
    refine (KV1.out _ B9.out).mono ?_
    rintro e w8 ⟨rfl, rfl⟩
    go_wp2_with fail
    refine (KV2.out _ B9.out).mono ?_
    rintro e w8 ⟨rfl, rfl⟩
    go_wp2_with fail
    refine (KO1.out _ B9.out).mono ?_
    rintro e w8 ⟨rfl, rfl⟩
    rcases HO.out with ⟨h1, h2⟩ | ⟨o, ho, h1, h2⟩
    · rw [h1] at KO2
      rw [h2]
      have g0 : decide ((-1 : Int) < 0) = true := rfl
      have g1 : decide ((-1 : Int) ≥ 0) = false := rfl
      clear h1 h2
      go_wp2_with fail
      refine (KO2.out _ B9.out).mono ?_
      rintro e w8 ⟨rfl, rfl⟩
      go_wp2_with fail
      refine (KO2.out _ B9.out).mono ?_
      rintro e w8 ⟨rfl, rfl⟩
      go_wp2_with fail
      exact ⟨⟨k + 1, by omega, by go_num, B9.out⟩, by simp [intOf]; omega⟩
    · obtain ⟨mo, hmo⟩ : ∃ mo : Nat, mirC o = mo := ⟨_, rfl⟩
      obtain ⟨qo, hqo⟩ : ∃ qo : Nat, o / 3 = qo := ⟨_, rfl⟩
      have hqm : mo / 3 = qo := by rw [← hmo, mirC_div, hqo]
      have h120 : o < 120 := by omega
      rw [hmo] at h2
      rw [h1] at KO2
      rw [h2] at KO1
      rw [h2]
      have g0 : decide ((mo : Int) < 0) = false := by simp
      have g1 : decide ((o : Int) < 0) = false := by simp
      have g2 : decide ((o : Int) ≥ 0) = true := by simp
      have t5 : Int.tdiv (mo : Int) 3 = (qo : Int) := by rw [Int.tdiv_eq_ediv_of_nonneg (by omega)]; omega
      have t6 : Int.tdiv (o : Int) 3 = (qo : Int) := by rw [Int.tdiv_eq_ediv_of_nonneg (by omega)]; omega
      have t7 : IntKind.i64.wrap (qo : Int) = (qo : Int) := IntWalk.i64_in _ (by omega)
      clear h1 h2 hmo hqo hqm ho
      go_wp2_with fail
      refine (KO2.out _ B9.out).mono ?_
      rintro e w8 ⟨rfl, rfl⟩
      go_wp2_with fail
      refine (KO2.out _ B9.out).mono ?_
      rintro e w8 ⟨rfl, rfl⟩
      go_wp2_with fail
      refine (KO1.out _ B9.out).mono ?_
      rintro e w8 ⟨rfl, rfl⟩
      go_wp2_with fail
      refine (KO2.out _ B9.out).mono ?_
      rintro e w8 ⟨rfl, rfl⟩
      go_wp2_with fail
      exact ⟨⟨k + 1, by omega, by go_num, B9.out⟩, by simp [intOf]; omega⟩
set_option maxRecDepth 100000 in
theorem lifted (os : Os) (started : os.Started) (H : Type) (enc : TypeId × Value → H) :
    ReturnsInHanded {} Try.checked os 9 .any (Rows.cornerMirrorSpec.pre6 enc Try.prog Try.f9 Rows.cornerMirrorRow.domain false) (Rows.cornerMirrorSpec.post enc Try.prog Try.f9 false true false false) := by
  refine returnsInHanded_of_change (C := Try.checked) own_knob started (by kernel_rfl) Try.func9
    (ChangeSpec.witness6 (enc := enc) (C := Try.checked) false ⟨#[], #[.agg #[.int .i64 0, .slice none 0 0]], []⟩ 8 (by kernel_rfl) (by kernel_rfl) (by kernel_rfl) (by kernel_rfl)) ?_
  intro W base args ds gs before hval0 hW hcnd _
  have hval : ∀ (j : Nat) t v, Try.f9.params[j]? = some t → args[j]? = some v → Value.okWide Try.prog W .any base t v := hval0
  have hW' := hW
  obtain ⟨p, q, hA0, hV, rfl, hfz, hnd⟩ := hW
  have hA : DataW.TrodAll enc Try.prog W 0 (fun _ => true) true Try.f9.params.toList args.toList ds p := hA0
  rw [Try.params9] at hA hval
  obtain ⟨v0, vs0, d0, ds0, p0, q0, hargs, rfl, rfl, h0, r0⟩ := trodAll_cons hA
  obtain ⟨rfl, rfl, rfl⟩ := trodAll_nil r0
  obtain rfl : args = #[v0] := by cases args; simp_all
  obtain ⟨rfl, rfl⟩ := trodVars_none hV
  have lt0 : ∀ x ∈ p0, x.block < W.heap.size := by obtain ⟨m, hm⟩ := h0; exact DataW.trod_lt m _ _ _ hm
  obtain ⟨N0, a0, len0, cap0, xs0, rfl, hN0, hr0⟩ := arg_soup (hval 0 24 v0 rfl rfl) h0
  clear hA0 hval0
  refine (walk N0 a0 len0 cap0 xs0 W hN0.1 hN0.2 hr0).mono fun e W' ⟨he, bel⟩ => ?_
  subst he
  exact ⟨_, rfl, _, _, _, [], _, [], hW', trodAll_mk1 (shut_bool Try.underlying4 _), (trodAll_cons_mk (Below.trod laid_out (by kernel_rfl) (of_decide_eq_true (by kernel_rfl)) h0 bel lt0) trodAll_mk0), rfl, bel.frame _, fun h => by cases h⟩

theorem over : Rows.cornerMirrorRow.holds Try.pinned (OpenSpec.ofChange Rows.cornerMirrorSpec) :=
  OpenClaim.holds_of_wide 9 Try.f9 rfl rfl rfl rfl rfl rfl rfl ⟨rfl, rfl, rfl, rfl, rfl⟩ rfl rfl rfl rfl rfl (by kernel_rfl) Try.func9 (by kernel_rfl)
    (of_decide_eq_true (by kernel_rfl)) (by unfold Func.isWrapper; first | (rw [if_pos (by decide +kernel)]; kernel_rfl) | (rw [if_neg (by decide +kernel)]; exact ⟨rfl, rfl⟩))
    (fun os started H enc _ => lifted os started H enc)

theorem proved : Rows.CornerMirrorSaid := over
end Go.Proofs.Ytkcmieblnajmpaa.cornerMirror
