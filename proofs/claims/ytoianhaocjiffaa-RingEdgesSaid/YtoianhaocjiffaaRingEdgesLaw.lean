/- RingEdges: the edges that layer 8 tells are just the pairs that are near one another; half of all links' vertices. No condition. -/
import Derived.Test.YtoianhaocjiffaaRgLaw
import Derived.Test.YtoianhaocjiffaaGR
import Derived.Test.YtoianhaocjiffaaSouEdge
import Derived.Test.YtoianhaocjiffaaGP
import Derived.Test.YtoianhaocjiffaaGM
namespace Go.Proofs.Ytoianhaocjiffaa.ringEdges
open Go.RowKit Go.ChangeShapes Go.WideShapes Go.ChangeAt

theorem e2_own {w : World} {B n c : Nat} {A : Option Addr} {l : List Ed} (h : w.ownsRow B 45 2 (.slice A n c) n (ints (flat2 l))) : E2 w A n l := by
  have hl : l.length = n := by have := h.1; rw [length_ints, length_flat2] at this; omega
  refine ⟨hl, fun hn => ?_⟩
  rcases h.2 with ⟨h1, h2⟩ | ⟨q, cap, cur, h1, hq, hh, hc, hm, hs, ht⟩
  · omega
  · injection h1 with h1 _ h3
    subst h1 h3
    refine ⟨q, 0, rfl, fun i hi => ?_⟩
    obtain ⟨a0, a1⟩ := flat2_at l i (by omega)
    have hc := fun j (hj : j < n * 2) => h.cellAt j hj
    rw [hc _ (by omega), hc _ (by omega)]
    simp only [ints_at, Nat.zero_add, Nat.mul_comm i 2, a0, a1, Option.map_some, and_self]
/-- How many are near the numbers below a, in all. -/
def endsN (l : List Tr) (n a : Nat) : Nat := ((List.range a).map fun x => (List.range n).countP fun b => nearB l x b).sum
theorem endsN_succ (l : List Tr) (n a : Nat) : endsN l n (a + 1) = endsN l n a + (List.range n).countP fun b => nearB l a b := by
  unfold endsN
  rw [List.range_succ, List.map_append, List.sum_append]
  simp
theorem endsN_le (l : List Tr) (n : Nat) : ∀ a, endsN l n a ≤ a * n
  | 0 => by simp [endsN]
  | a + 1 => by
    have h1 := endsN_le l n a
    have h2 : ((List.range n).countP fun b => nearB l a b) ≤ n := Nat.le_trans List.countP_le_length (by rw [List.length_range]; exact Nat.le_refl _)
    rw [endsN_succ, Nat.add_mul, Nat.one_mul]
    omega
def kN (l : List Tr) (n a b : Nat) : Nat := (pairsE l n a ++ rowE l a b).length
theorem kN_start (l : List Tr) (n a : Nat) : kN l n a (a + 1) = (pairsE l n a).length := by unfold kN; rw [rowE_start, List.append_nil]
theorem kN_end (l : List Tr) (n a : Nat) : kN l n a n = (pairsE l n (a + 1)).length := by unfold kN; rw [pairsE_succ]
theorem kN_succ (l : List Tr) (n a b : Nat) : kN l n a (b + 1) = kN l n a b + if a < b ∧ NearC l (a : Int) (b : Int) then 1 else 0 := by
  unfold kN
  rw [rowE_succ, ← List.append_assoc, List.length_append (bs := if a < b ∧ NearC l (a : Int) (b : Int) then [((a : Int), (b : Int))] else [])]
  split <;> rfl
def Re1 (w4 : World) (n : Nat) (l : List Tr) (k en a : Value) (wr : World) : Prop := Below w4.heap.size w4 wr ∧ ∃ i : Nat, i ≤ n ∧ a = .int .i64 (i : Int) ∧ k = .int .i64 ((pairsE l n i).length : Int) ∧ en = .int .i64 (endsN l n i : Int)
def Re2 (w4 : World) (n a : Nat) (l : List Tr) (k b : Value) (wr : World) : Prop := Below w4.heap.size w4 wr ∧ ∃ j : Nat, a + 1 ≤ j ∧ j ≤ n ∧ b = .int .i64 (j : Int) ∧ k = .int .i64 (kN l n a j : Int)
set_option maxHeartbeats 16000000 in
set_option maxRecDepth 100000 in
theorem walk (N : Int) (A : Option Addr) (n c : Nat) (l : List Tr) (w : World) (_ : -9223372036854775808 ≤ N) (_ : N ≤ 9223372036854775807) (h : T3 w A n l) :
    Calls Try.prog 8 #[.agg #[.int .i64 N, .slice A n c]] w (BoolTold10 w true) := by
  obtain rfl := h.1
  have HL := Lib.hid h
  have KA := Lib.hid awake11_true
  obtain ⟨w1, hw1⟩ : ∃ w1, w.alloc (.cells #[.int .i64 N, .slice A l.length c] 24) = w1 := ⟨_, rfl⟩
  obtain ⟨g0, hg0⟩ : ∃ g0, w.heap.size = g0 := ⟨_, rfl⟩
  have b1 : Below w.heap.size w w1 := by rw [← hw1]; exact (Below.refl _ w).alloc (Nat.le_refl _) _
  have x1 : Bx w1 g0 N A l.length c := by rw [← hw1, ← hg0]; exact Bx.made w N A l.length c
  have B1 := Lib.hid (And.intro b1 x1)
  clear b1 x1 h
  go_enter Try.func8, Try.ntmps8
  go_wp2_with fail
  refine (KA.out _).mono ?_
  rintro e w2 ⟨rfl, b2⟩
  have x2 := B1.out.2.below b2
  have e0 := x2.c0
  have e1 := x2.c1
  have B2 := Lib.hid (And.intro (up2 B1.out.1 b2) x2)
  have KL := Lib.hid (table11_any w2 N A l.length c l (HL.out.below B2.out.1))
  clear b2 x2
  go_wp2_with fail
  refine KL.out.mono ?_
  rintro e w3 ⟨b3, rfl | ⟨hsm, g, rfl, tab⟩⟩
  · have B3 := Lib.hid (up2 B2.out.1 b3)
    clear b3
    go_wp2_with fail
    go_ret
    exact ⟨rfl, B3.out⟩
  have x3 := B2.out.2.below b3
  have e0 := x3.c0
  have e1 := x3.c1
  have B3 := Lib.hid (And.intro (up2 B2.out.1 b3) x3)
  have TAB := Lib.hid tab
  have SF := Lib.hid tab.surf
  have hn40 : l.length ≤ 40 := by have := hsm.1; omega
  have hN60 : 0 ≤ N ∧ N ≤ 60 := ⟨hsm.2.2, hsm.2.1⟩
  clear b3 x3 tab hsm
  obtain ⟨Nn, rfl⟩ : ∃ Nn : Nat, N = (Nn : Int) := ⟨N.toNat, by omega⟩
  have KE := Lib.hid (sedges_any w3 Nn A l.length c l (HL.out.below B3.out.1) (by omega) (surf_fit SF.out))
  go_wp2_with fail
  refine KE.out.mono ?_
  rintro e w4 ⟨es, A4, c4, rfl, he, o4, b4, hes⟩
  have hep := edges_pairs SF.out he
  subst hep
  obtain ⟨M, hM⟩ : ∃ M, (pairsE l Nn Nn).length = M := ⟨_, rfl⟩
  rw [hM] at o4 hes
  simp only [hM]
  have HE := Lib.hid (And.intro b4 (And.intro (e2_own o4) hM))
  have hM120 : M ≤ 120 := by omega
  have S4 := Lib.hid (show Re1 w4 Nn l (.int .i64 0) (.int .i64 0) (.int .i64 ((0 : Nat) : Int)) w4 from ⟨Below.refl _ _, 0, Nat.zero_le _, rfl, rfl, rfl⟩)
  clear he o4 b4 hes hM e0 e1
  go_wp2_with fail
  go_loopw [5, 6, 7] (Re1 w4 Nn l) (fun _ _ i _ => Nn - (intOf i).toNat)
  case atStart => exact S4.out
  case round =>
    obtain ⟨hb, a, ha, rfl, rfl, rfl⟩ := hrel
    have HB := Lib.hid hb
    have x9 := B3.out.2.below (up2 HE.out.1 hb)
    have e0 := x9.c0
    have e1 := x9.c1
    clear hb x9
    have hend := endsN_le l Nn a
    have hmul : a * Nn ≤ 60 * 60 := Nat.mul_le_mul (by omega) (by omega)
    obtain ⟨en, hen⟩ : ∃ en, endsN l Nn a = en := ⟨_, rfl⟩
    obtain ⟨k, hk⟩ : ∃ k, (pairsE l Nn a).length = k := ⟨_, rfl⟩
    rw [hen] at hend
    simp only [hen, hk]
    by_cases hlt : a < Nn
    case neg =>
      obtain rfl : a = Nn := by omega
      have b1 : ¬ (a : Int) < a := by omega
      have hkM : k = M := by rw [← hk, HE.out.2.2]
      have h2 : en = 2 * k := by rw [← hen, ← hk]; exact near_twice SF.out a
      subst hkM h2
      have t1 : ((k : Int) == (k : Int)) = true := by simp
      have t2 : (((2 * k : Nat) : Int) == 2 * (k : Int)) = true := by simp
      have t3 : IntKind.i64.wrap (2 * (k : Int)) = 2 * (k : Int) := IntWalk.i64_in _ (by omega)
      clear hen hk hend hmul
      go_wp2_with fail
      go_ret
      exact ⟨by simp, up2 B3.out.1 (up2 HE.out.1 HB.out)⟩
    have b1 : (a : Int) < Nn := by omega
    obtain ⟨L, hL⟩ := ring_exists SF.out (a : Int)
    have hlk := links_of SF.out (show inN (Nn : Int) (a : Int) from ⟨by omega, b1⟩) hL
    have hcnt := hlk.count SF.out hL.mem
    obtain ⟨cl, hcl⟩ : ∃ cl, (linkL l L).length = cl := ⟨_, rfl⟩
    have hcl60 : cl ≤ 60 := by rw [← hcl, hcnt]; exact Nat.le_trans List.countP_le_length (by rw [List.length_range]; omega)
    have KL := Lib.hid ((rglink_any wr _ g Nn l (TAB.out.below (up2 HE.out.1 HB.out)) a (by omega) L hL).mono fun _ _ h => h.at)
    have sw : IntKind.i64.wrap ((en : Int) + (cl : Int)) = (en : Int) + (cl : Int) := IntWalk.i64_in _ (by omega)
    have HN := Lib.hid (And.intro hcnt (And.intro hcl (And.intro hen hk)))
    have sa : IntKind.i64.wrap ((a : Int) + 1) = (a : Int) + 1 := IntWalk.i64_in _ (by omega)
    have HLT := Lib.hid hlt
    clear hL hlk hcnt hen hk hend hmul
    go_wp2_with fail
    refine KL.out.mono ?_
    rintro e w5 ⟨A5, c5, rfl, _, b5, _⟩
    simp only [hcl]
    have B5 := Lib.hid (up2 HB.out b5)
    have x5 := B3.out.2.below (up2 HE.out.1 B5.out)
    have e0 := x5.c0
    have e1 := x5.c1
    have S5 := Lib.hid (show Re2 w4 Nn a l (.int .i64 (k : Int)) (.int .i64 (((a + 1 : Nat)) : Int)) w5 from ⟨B5.out, a + 1, Nat.le_refl _, HLT.out, rfl, by rw [kN_start, HN.out.2.2.2]⟩)
    clear b5 x5 hcl
    go_wp2_with fail
    clear e0 e1
    go_loopw [5, 8] (Re2 w4 Nn a l) (fun _ i _ => Nn - (intOf i).toNat)
    case atStart => exact S5.out
    case round =>
      obtain ⟨hb, b, hab, hbn, rfl, rfl⟩ := hrel
      have HB2 := Lib.hid hb
      have x9 := B3.out.2.below (up2 HE.out.1 hb)
      have e0 := x9.c0
      clear hb x9
      by_cases hlt2 : b < Nn
      case neg =>
        obtain rfl : b = Nn := by omega
        have b2 : ¬ (b : Int) < b := by omega
        have S9 := Lib.hid (show Re1 w4 b l (.int .i64 (kN l b a b : Int)) (.int .i64 ((en : Int) + (cl : Int))) (.int .i64 (((a + 1 : Nat)) : Int)) wr from
          ⟨HB2.out, a + 1, HLT.out, rfl, by rw [kN_end], by rw [endsN_succ, ← HN.out.1, HN.out.2.1, HN.out.2.2.1, Int.natCast_add]⟩)
        go_wp2_with fail
        exact ⟨S9.out, by have := HLT.out; simp [intOf]; omega⟩
      have b2 : (b : Int) < Nn := by omega
      obtain ⟨q, hq⟩ : ∃ q, kN l Nn a b = q := ⟨_, rfl⟩
      simp only [hq]
      obtain ⟨bn, hbn2⟩ : ∃ bn, decide (NearC l (a : Int) (b : Int)) = bn := ⟨_, rfl⟩
      have KN := Lib.hid (show Calls Try.prog 18 #[.pointer (some ⟨g, 0, none⟩), .int .i64 (a : Int), .int .i64 (b : Int)] wr (BoolTold10 wr bn) from by
        have := rgnear_any wr _ g Nn l (TAB.out.below (up2 HE.out.1 HB2.out)) a b (by omega) (by omega); rwa [hbn2] at this)
      have HX := Lib.hid (And.intro hab (And.intro hlt2 (And.intro hq hbn2)))
      clear hq hbn2 hbn
      go_wp2_with fail
      refine KN.out.mono ?_
      rintro e w6 ⟨rfl, b6⟩
      have B6 := Lib.hid (up2 HB2.out b6)
      clear b6
      cases bn with
      | false =>
        go_wp2_with fail
        exact ⟨⟨B6.out, b + 1, by omega, HX.out.2.1, by go_num, by rw [kN_succ, HX.out.2.2.1, if_neg (fun h => of_decide_eq_false HX.out.2.2.2 h.2)]; rfl⟩, by have := HX.out.2.1; simp [intOf]; omega⟩
      | true =>
        have hp := near_pair_at HLT.out HX.out.2.1 HX.out.1 (of_decide_eq_true HX.out.2.2.2) z2
        rw [show (pairsE l Nn a ++ rowE l a b).length = q from HX.out.2.2.1, HE.out.2.2] at hp
        obtain ⟨hqM, hpe⟩ := hp
        obtain ⟨bk, off, rfl, hcell⟩ := (HE.out.2.1.below B6.out).2 (by omega)
        obtain ⟨z0, z1⟩ := hcell q hqM
        rw [hpe] at z0 z1
        have d0 : decide ((q : Int) ≥ (M : Int)) = false := by simpa using hqM
        have d1 : decide (M ≤ q) = false := by simpa using hqM
        have nq := fun W a b => neq2 W a b a b
        have ge := fun W op u v xs ys => run_eqGuard_agg (P := Try.prog) W op 45 u v xs ys Try.eqGuardType45
        have HQ := Lib.hid (And.intro hqM hpe)
        clear hpe hcell
        go_wp2_with fail
        exact ⟨⟨B6.out, b + 1, by omega, HX.out.2.1, by go_num, by rw [kN_succ, HX.out.2.2.1, if_pos ⟨HX.out.1, of_decide_eq_true HX.out.2.2.2⟩]; rfl⟩, by have := HX.out.2.1; simp [intOf]; omega⟩
set_option maxRecDepth 100000 in
theorem lifted (os : Os) (started : os.Started) (H : Type) (enc : TypeId × Value → H) :
    ReturnsInHanded {} Try.checked os 8 .any (Rows.ringEdgesSpec.pre6 enc Try.prog Try.f8 Rows.ringEdgesRow.domain false) (Rows.ringEdgesSpec.post enc Try.prog Try.f8 false true false false) := by
  refine returnsInHanded_of_change (C := Try.checked) own_knob started (by kernel_rfl) Try.func8
    (ChangeSpec.witness6 (enc := enc) (C := Try.checked) false ⟨#[], #[.agg #[.int .i64 0, .slice none 0 0]], []⟩ 8 (by kernel_rfl) (by kernel_rfl) (by kernel_rfl) (by kernel_rfl)) ?_
  intro W base args ds gs before hval0 hW hcnd _
  have hval : ∀ (j : Nat) t v, Try.f8.params[j]? = some t → args[j]? = some v → Value.okWide Try.prog W .any base t v := hval0
  have hW' := hW
  obtain ⟨p, q, hA0, hV, rfl, hfz, hnd⟩ := hW
  have hA : DataW.TrodAll enc Try.prog W 0 (fun _ => true) true Try.f8.params.toList args.toList ds p := hA0
  rw [Try.params8] at hA hval
  obtain ⟨v0, vs0, d0, ds0, p0, q0, hargs, rfl, rfl, h0, r0⟩ := trodAll_cons hA
  obtain ⟨rfl, rfl, rfl⟩ := trodAll_nil r0
  obtain rfl : args = #[v0] := by cases args; simp_all
  obtain ⟨rfl, rfl⟩ := trodVars_none hV
  have lt0 : ∀ x ∈ p0, x.block < W.heap.size := by obtain ⟨m, hm⟩ := h0; exact DataW.trod_lt m _ _ _ hm
  obtain ⟨N0, a0, len0, cap0, xs0, rfl, hN0, hr0⟩ := arg_soup (hval 0 24 v0 rfl rfl) h0
  clear hA0 hval0
  refine (walk N0 a0 len0 cap0 xs0 W hN0.1 hN0.2 hr0).mono fun e W' ⟨he, bel⟩ => ?_
  subst he
  exact ⟨_, rfl, _, _, _, [], _, [], hW', trodAll_mk1 (shut_bool Try.underlying4 _), (trodAll_cons_mk (Below.trod laid_out (by kernel_rfl) (of_decide_eq_true (by kernel_rfl)) h0 bel lt0) trodAll_mk0), rfl, bel.frame _, fun h => by cases h⟩

theorem over : Rows.ringEdgesRow.holds Try.pinned (OpenSpec.ofChange Rows.ringEdgesSpec) :=
  OpenClaim.holds_of_wide 8 Try.f8 rfl rfl rfl rfl rfl rfl rfl ⟨rfl, rfl, rfl, rfl, rfl⟩ rfl rfl rfl rfl rfl (by kernel_rfl) Try.func8 (by kernel_rfl)
    (of_decide_eq_true (by kernel_rfl)) (by unfold Func.isWrapper; first | (rw [if_pos (by decide +kernel)]; kernel_rfl) | (rw [if_neg (by decide +kernel)]; exact ⟨rfl, rfl⟩))
    (fun os started H enc _ => lifted os started H enc)

theorem proved : Rows.RingEdgesSaid := over
end Go.Proofs.Ytoianhaocjiffaa.ringEdges
