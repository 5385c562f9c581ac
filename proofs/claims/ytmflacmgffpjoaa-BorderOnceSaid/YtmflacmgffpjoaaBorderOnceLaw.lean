/- BorderOnce: each border vertex is in just one loop, and each loop has at least three; together they have as many as there are border edges; inner vertices are in none. No condition. -/
import Derived.Test.YtmflacmgffpjoaaBdLaw
import Derived.Test.YtmflacmgffpjoaaBdCnt
import Derived.Test.YtmflacmgffpjoaaBdLps
import Derived.Test.YtmflacmgffpjoaaBdRing
import Derived.Test.YtmflacmgffpjoaaGR
import Derived.Test.YtmflacmgffpjoaaGM
namespace Go.Proofs.Ytmflacmgffpjoaa.borderOnce
open Go.RowKit Go.ChangeShapes Go.WideShapes Go.ChangeAt

theorem atI {W : World} {ad : Addr} {n : Nat} {xs : List Int} (h : Reads W (some ad) n (ints xs)) {k : Nat} (hk : k < n) : W.cell? (ad.add k) = some (.int .i64 (xs.getD k 0)) := by
  obtain ⟨ad', e, h'⟩ := h.int k hk
  injection e with e
  subst e
  exact h'
theorem ll_map {LL : List (List Nat)} {k : Nat} : (LL.map natsI).getD k [] = natsI (LL.getD k []) := by
  rw [List.getD_eq_getElem?_getD, List.getD_eq_getElem?_getD, List.getElem?_map]
  cases LL[k]? <;> rfl
def On1 (w3 : World) (q B Nn : Nat) (LL : List (List Nat)) (A5 : Option Addr) (n5 : Nat) (s i : Value) (wr : World) : Prop :=
  Below w3.heap.size w3 wr ∧ RowsB wr B A5 n5 (LL.map natsI) ∧ ∃ k : Nat, k ≤ n5 ∧ i = .int .i64 (k : Int) ∧ s = .int .i64 ((flUp LL k).length : Int) ∧ RowI wr q (mkC Nn (flUp LL k))
def On2 (w3 : World) (q B Nn : Nat) (LL : List (List Nat)) (A5 : Option Addr) (n5 : Nat) (F L : List Nat) (Ai : Option Addr) (m : Nat) (s i : Value) (wr : World) : Prop :=
  Below w3.heap.size w3 wr ∧ RowsB wr B A5 n5 (LL.map natsI) ∧ ReadsB wr B Ai m (natsI L) ∧ ∃ j : Nat, j ≤ m ∧ i = .int .i64 (j : Int) ∧ s = .int .i64 ((F.length + j : Nat) : Int) ∧ RowI wr q (mkC Nn (F ++ L.take j))
def On3 (w3 : World) (q Nn : Nat) (F : List Nat) (i : Value) (wr : World) : Prop := Below w3.heap.size w3 wr ∧ ∃ k : Nat, k ≤ Nn ∧ i = .int .i64 (k : Int) ∧ RowI wr q (mkC Nn F)
set_option maxHeartbeats 16000000 in
set_option maxRecDepth 100000 in
theorem walk (N : Int) (A : Option Addr) (n c : Nat) (l : List Tr) (w : World) (_ : -9223372036854775808 ≤ N) (_ : N ≤ 9223372036854775807) (h : T3 w A n l) :
    Calls Try.prog 5 #[.agg #[.int .i64 N, .slice A n c]] w (BoolTold10 w true) := by
  obtain rfl := h.1
  have HL := Lib.hid h
  have KA := Lib.hid awake12_true
  obtain ⟨w1, hw1⟩ : ∃ w1, w.alloc (.cells #[.int .i64 N, .slice A l.length c] 24) = w1 := ⟨_, rfl⟩
  obtain ⟨g0, hg0⟩ : ∃ g0, w.heap.size = g0 := ⟨_, rfl⟩
  have b1 : Below w.heap.size w w1 := by rw [← hw1]; exact (Below.refl _ w).alloc (Nat.le_refl _) _
  have x1 : Bx w1 g0 N A l.length c := by rw [← hw1, ← hg0]; exact Bx.made w N A l.length c
  have B1 := Lib.hid (And.intro b1 x1)
  clear b1 x1 h
  go_enter Try.func5, Try.ntmps5
  go_wp2_with fail
  refine (KA.out _).mono ?_
  rintro e w2 ⟨rfl, b2⟩
  have x2 := B1.out.2.below b2
  have e0 := x2.c0
  have e1 := x2.c1
  have B2 := Lib.hid (And.intro (up2 B1.out.1 b2) x2)
  have KL := Lib.hid (table12_any w2 N A l.length c l (HL.out.below B2.out.1))
  clear b2 x2
  go_wp2_with fail
  refine KL.out.mono ?_
  rintro e w3 ⟨b3, ⟨rfl, hno⟩ | ⟨hn40, g, rfl, tab⟩⟩
  · have x3 := B2.out.2.below b3
    have e0 := x3.c0
    have e1 := x3.c1
    have B3 := Lib.hid (up2 B2.out.1 b3)
    clear b3 x3
    by_cases h40 : 40 < l.length
    · have d40 : decide ((l.length : Int) > 40) = true := decide_eq_true (by omega)
      clear h40 hno
      go_wp2_with fail
      go_ret
      exact ⟨rfl, B3.out⟩
    · have d40 : decide ((l.length : Int) > 40) = false := decide_eq_false (by omega)
      have KS := Lib.hid (surf9_any w3 N A l.length c l (HL.out.below B3.out) (by omega) false ⟨fun h => (by cases h), fun h => hno.elim (fun k => absurd k h40) fun k => absurd h k⟩)
      clear h40 hno
      go_wp2_with fail
      refine KS.out.mono ?_
      rintro e w4 ⟨rfl, b4⟩
      have B4 := Lib.hid (up2 B3.out b4)
      clear b4
      go_wp2_with fail
      go_ret
      exact ⟨rfl, B4.out⟩
  have x3 := B2.out.2.below b3
  have e0 := x3.c0
  have e1 := x3.c1
  have B3 := Lib.hid (And.intro (up2 B2.out.1 b3) x3)
  have TAB := Lib.hid tab
  have SF := Lib.hid tab.surf
  have hN := And.intro tab.surf.n0 tab.surf.n1
  clear b3 x3 tab
  obtain ⟨Nn, rfl⟩ : ∃ Nn : Nat, N = (Nn : Int) := ⟨N.toNat, by omega⟩
  have hNn : Nn ≤ 4096 := by omega
  obtain ⟨LL, hLL⟩ := loops_exists (Nn : Int) l
  have hmi := fun W => makeI Nn (by omega) W
  obtain ⟨q, hq⟩ : ∃ q, w3.heap.size = q := ⟨_, rfl⟩
  obtain ⟨w4, hw4⟩ : ∃ w4, w3.alloc (zerI Nn) = w4 := ⟨_, rfl⟩
  have b4 : Below w3.heap.size w3 w4 := by rw [← hw4]; exact (Below.refl _ w3).alloc (Nat.le_refl _) _
  have r4 : RowI w4 q (List.replicate Nn 0) := by rw [← hw4, ← hq]; exact RowI.made w3 Nn
  rw [← mkC_nil] at r4
  have KL := Lib.hid (bdloops_any w4 _ g Nn l (TAB.out.below b4) LL hLL)
  obtain ⟨B, hB⟩ : ∃ B, w4.heap.size = B := ⟨_, rfl⟩
  have HQ := Lib.hid (show w3.heap.size ≤ q ∧ q < B from ⟨by rw [← hq]; exact Nat.le_refl _, by rw [← hB]; exact heap_lt r4⟩)
  have H4 := Lib.hid (And.intro b4 r4)
  have HLL := Lib.hid hLL
  have HBB := Lib.hid hB
  clear b4 r4 hLL hB
  go_wp2_with fail
  clear hw4 hq hmi
  refine KL.out.mono ?_
  rintro e w5 ⟨A5, n5, c5, rfl, r5, b5⟩
  have hn5 : n5 = LL.length := by have := r5.1; rw [List.length_map] at this; exact this.symm
  have S5 := Lib.hid (show On1 w3 q B Nn LL A5 n5 (.int .i64 0) (.int .i64 ((0 : Nat) : Int)) w5 from ⟨up2 H4.out.1 b5, by rw [← HBB.out]; exact r5, 0, Nat.zero_le _, rfl, by rw [flUp_zero]; rfl, by rw [flUp_zero]; exact H4.out.2.below b5⟩)
  have HN5 := Lib.hid hn5
  clear b5 r5 hn5
  go_wp2_with fail
  clear e0 e1
  go_loopw [5, 33] (On1 w3 q B Nn LL A5 n5) (fun _ i _ => n5 - (intOf i).toNat)
  case atStart => exact S5.out
  case round =>
    obtain ⟨hb, hrows, k, hk, rfl, rfl, hrow⟩ := hrel
    have HB := Lib.hid (And.intro hb (And.intro hrows hrow))
    have x9 := B3.out.2.below hb
    have e0 := x9.c0
    have e1 := x9.c1
    clear hb hrows hrow x9
    by_cases hlt : k < n5
    case neg =>
      obtain rfl : k = n5 := by omega
      have b1 : ¬ (k : Int) < k := by omega
      have hfl : flUp LL k = LL.flatten := by rw [HN5.out]; exact flUp_all LL
      have S9 := Lib.hid (show On3 w3 q Nn LL.flatten (.int .i64 ((0 : Nat) : Int)) wr from ⟨HB.out.1, 0, Nat.zero_le _, rfl, by rw [← hfl]; exact HB.out.2.2⟩)
      have hall : (flUp LL k).length = (bE l).length := by rw [hfl, HLL.out.total SF.out]; unfold bE; rw [List.length_map]
      obtain ⟨M, hM⟩ : ∃ M, (bE l).length = M := ⟨_, rfl⟩
      rw [hM] at hall
      simp only [hall]
      have HM := Lib.hid hM
      clear hall hfl hM
      go_wp2_with fail
      clear e0 e1
      go_loopw [10] (On3 w3 q Nn LL.flatten) (fun i _ => Nn - (intOf i).toNat)
      case atStart => exact S9.out
      case round =>
        obtain ⟨hb, v, hv, rfl, hrow⟩ := hrel
        have HB2 := Lib.hid (And.intro hb hrow)
        have x9 := B3.out.2.below hb
        have e0 := x9.c0
        have e1 := x9.c1
        clear hb hrow x9
        by_cases hlt : v < Nn
        case neg =>
          obtain rfl : v = Nn := by omega
          have b2 : ¬ (v : Int) < v := by omega
          have KE := Lib.hid (bdedges_any wr _ g v l (TAB.out.below HB2.out.1))
          go_wp2_with fail
          refine KE.out.mono ?_
          rintro e w6 ⟨A6, n6, c6, rfl, r6, b6⟩
          obtain rfl : n6 = M := by rw [← HM.out]; exact r6.1.symm
          have B6 := Lib.hid (up2 HB2.out.1 b6)
          have be : ((n6 : Int) == (n6 : Int)) = true := beq_self_eq_true _
          clear r6 b6
          go_wp2_with fail
          go_ret
          exact ⟨by simp, up2 B3.out.1 B6.out⟩
        have b2 : (v : Int) < Nn := by omega
        have hin : inN (Nn : Int) (v : Int) := ⟨by omega, b2⟩
        obtain ⟨L, hL⟩ := ring_exists SF.out (v : Int)
        have hib := inner_border SF.out hin hL
        have hcnt := loops_count SF.out HLL.out (v := v)
        have hbm : v ∈ bV (Nn : Int) l ↔ 0 ≤ afterV l (v : Int) := by
          unfold bV
          rw [List.mem_filter, List.mem_range, decide_eq_true_iff]
          exact ⟨fun h => h.2, fun h => ⟨by omega, h⟩⟩
        have cx := HB2.out.2.cell v (by rw [mkC_len]; exact hlt)
        rw [mkC_at _ hlt, hcnt] at cx
        have KI := Lib.hid (rginner_of wr (some ⟨g, 0, none⟩) l (.inr ⟨_, g, Nn, rfl, TAB.out.below HB2.out.1⟩) (v : Int) L hL)
        have KA := Lib.hid (fun W (b : Below w3.heap.size w3 W) => bdafter_any W _ g Nn l (TAB.out.below b) (v : Int) (by omega))
        have HCX := Lib.hid (fun W (b : Below wr.heap.size wr W) => (b.cell (World.block_lt_of_cell? _ _ cx)).trans cx)
        obtain ⟨z, hz⟩ : ∃ z, afterV l (v : Int) = z := ⟨_, rfl⟩
        rw [hz] at hib hbm
        simp only [hz] at KA
        have HV := Lib.hid (And.intro hv hlt)
        clear hv hL hcnt hin hz cx
        by_cases hz0 : z < 0
        · rw [decide_eq_true (hib.2 hz0)] at KI
          have hnm : v ∉ bV (Nn : Int) l := fun hm => by have := hbm.1 hm; omega
          have d1 : decide (z < 0) = true := decide_eq_true hz0
          have HC0 := Lib.hid hnm
          clear hz0 hib hbm hnm
          go_wp2_with fail
          refine KI.out.mono ?_
          rintro e w6 ⟨rfl, b6⟩
          have cv := HCX.out w6 b6
          rw [if_neg HC0.out] at cv
          have cv' : w6.cell? ⟨q, v, none⟩ = some (.int .i64 0) := cv
          have B6 := Lib.hid (up2 HB2.out.1 b6)
          have RI := Lib.hid (HB2.out.2.below b6)
          clear b6 cv
          go_wp2_with fail
          refine (KA.out w6 B6.out).mono ?_
          rintro e w7 ⟨rfl, b7⟩
          have B7 := Lib.hid (And.intro (up2 B6.out b7) (RI.out.below b7))
          clear b7
          go_wp2_with fail
          exact ⟨⟨B7.out.1, v + 1, HV.out.2, by go_num, B7.out.2⟩, by have := HV.out.2; simp [intOf]; omega⟩
        · rw [decide_eq_false (fun h => hz0 (hib.1 h))] at KI
          have hnm : v ∈ bV (Nn : Int) l := hbm.2 (by omega)
          have d1 : decide (z < 0) = false := decide_eq_false hz0
          have HC0 := Lib.hid hnm
          clear hz0 hib hbm hnm
          go_wp2_with fail
          refine KI.out.mono ?_
          rintro e w6 ⟨rfl, b6⟩
          have cv := HCX.out w6 b6
          rw [if_pos HC0.out] at cv
          have cv' : w6.cell? ⟨q, v, none⟩ = some (.int .i64 1) := cv
          have B6 := Lib.hid (up2 HB2.out.1 b6)
          have RI := Lib.hid (HB2.out.2.below b6)
          clear b6 cv
          go_wp2_with fail
          refine (KA.out w6 B6.out).mono ?_
          rintro e w7 ⟨rfl, b7⟩
          have B7 := Lib.hid (And.intro (up2 B6.out b7) (RI.out.below b7))
          clear b7
          go_wp2_with fail
          exact ⟨⟨B7.out.1, v + 1, HV.out.2, by go_num, B7.out.2⟩, by have := HV.out.2; simp [intOf]; omega⟩
    have b1 : (k : Int) < n5 := by omega
    have b2 : 0 ≤ (k : Int) := by omega
    have hkl : k < LL.length := by rw [← HN5.out]; exact hlt
    obtain ⟨ad, rfl, _, hat⟩ := HB.out.2.1.2 (by omega)
    obtain ⟨Ai, ci, c1, r1, h1⟩ := hat k hlt
    have hk4 : k < 4096 := by have := loopsK_le HLL.out; omega
    have hfs := flUp_succ hkl
    have hfl := flUp_len_le SF.out HLL.out (k + 1)
    obtain ⟨v0, _, _, hloop, _⟩ := HLL.out.at hkl
    rw [ll_map] at c1 r1
    obtain ⟨L, hLk⟩ : ∃ L, LL.getD k [] = L := ⟨_, rfl⟩
    rw [hLk] at c1 r1 hloop hfs
    have h3 := hloop.three SF.out
    have hlt4 : ∀ x ∈ L, x < Nn := fun x hx => by have := bV_lt (hloop.chain.sub x hx); omega
    obtain ⟨m, hm⟩ : ∃ m, (natsI L).length = m := ⟨_, rfl⟩
    rw [hm] at c1 r1
    rw [natsI_len] at hm
    obtain ⟨F, hF⟩ : ∃ F, flUp LL k = F := ⟨_, rfl⟩
    rw [hF] at hfs
    rw [hfs, List.length_append, hm] at hfl
    have hfm : F.length + m ≤ 120 := by omega
    have d3 : decide ((m : Int) < 3) = false := decide_eq_false (by omega)
    have S2 := Lib.hid (show On2 w3 q B Nn LL (some ad) n5 F L Ai m (.int .i64 (F.length : Int)) (.int .i64 ((0 : Nat) : Int)) wr from ⟨HB.out.1, HB.out.2.1, ⟨r1, h1⟩, 0, Nat.zero_le _, rfl, rfl, by rw [List.take_zero, List.append_nil, ← hF]; exact HB.out.2.2⟩)
    have HK := Lib.hid (And.intro hfs (And.intro hm (And.intro hlt hlt4)))
    simp only [hF]
    clear hat r1 h1 hfs hfl hloop hLk h3 hlt4 hm hF hk
    go_wp2_with fail
    clear e0 e1 c1
    go_loopw [5, 42] (On2 w3 q B Nn LL (some ad) n5 F L Ai m) (fun _ i _ => m - (intOf i).toNat)
    case atStart => exact S2.out
    case round =>
      obtain ⟨hb, hrows, hri, j, hj, rfl, rfl, hrow⟩ := hrel
      have HA := Lib.hid (And.intro hb (And.intro hrows (And.intro hri hrow)))
      have x9 := B3.out.2.below hb
      have e0 := x9.c0
      have e1 := x9.c1
      clear hb hrows hri hrow x9
      by_cases hjm : j < m
      case neg =>
        obtain rfl : j = m := by omega
        have b3 : ¬ (j : Int) < j := by omega
        have S9 := Lib.hid (show On1 w3 q B Nn LL (some ad) n5 (.int .i64 ((F.length + j : Nat) : Int)) (.int .i64 (((k + 1 : Nat)) : Int)) wr from by
          refine ⟨HA.out.1, HA.out.2.1, k + 1, HK.out.2.2.1, rfl, by rw [HK.out.1, List.length_append, HK.out.2.1], ?_⟩
          have := HA.out.2.2.2
          rwa [List.take_of_length_le (by rw [HK.out.2.1]; exact Nat.le_refl _), ← HK.out.1] at this)
        have sv : IntKind.i64.wrap ((k : Int) + 1) = (k : Int) + 1 := IntWalk.i64_in _ (by omega)
        go_wp2_with fail
        exact ⟨S9.out, by have := HK.out.2.2.1; simp [intOf]; omega⟩
      have b3 : (j : Int) < m := by omega
      have b4 : 0 ≤ (j : Int) := by omega
      have hjl : j < L.length := by rw [HK.out.2.1]; exact hjm
      have hxN := HK.out.2.2.2 _ (getDn_mem hjl)
      have hsn := take_snocN hjl
      obtain ⟨a2, rfl, cx⟩ := HA.out.2.2.1.1.int j hjm
      rw [natsI_at] at cx
      obtain ⟨x, hx⟩ : ∃ x, L.getD j 0 = x := ⟨_, rfl⟩
      rw [hx] at cx hxN hsn
      have cq := HA.out.2.2.2.cell x (by rw [mkC_len]; exact hxN)
      rw [mkC_at _ hxN] at cq
      have fq := HA.out.2.2.2.frozen x
      have hcl : (F ++ L.take j).count x ≤ F.length + m := by
        have := List.count_le_length (a := x) (l := F ++ L.take j)
        rw [List.length_append, List.length_take] at this
        omega
      have RS := HA.out.2.2.2.set x (((F ++ L.take j).count x : Nat) + 1)
      rw [← mkC_snoc _ hxN, List.append_assoc, ← hsn] at RS
      obtain ⟨cn, hcn⟩ : ∃ cn, (F ++ L.take j).count x = cn := ⟨_, rfl⟩
      rw [hcn] at cq hcl RS
      have sw : IntKind.i64.wrap ((cn : Int) + 1) = (cn : Int) + 1 := IntWalk.i64_in _ (by omega)
      obtain ⟨ws, hws⟩ : ∃ ws, wr.setCell ⟨q, x, none⟩ (.int .i64 ((cn : Int) + 1)) = ws := ⟨_, rfl⟩
      have kp := set_keep wr x (.int .i64 ((cn : Int) + 1)) HQ.out.2
      rw [hws] at kp RS
      have BS : Below w3.heap.size w3 ws := by rw [← hws]; exact HA.out.1.setCell (p := ⟨q, x, none⟩) HQ.out.1 _
      have HW := Lib.hid (And.intro BS (And.intro (HA.out.2.1.keep kp) (And.intro (HA.out.2.2.1.keep kp) RS)))
      obtain ⟨sm, hsm⟩ : ∃ sm, F.length + j = sm := ⟨_, rfl⟩
      have sw2 : IntKind.i64.wrap ((sm : Int) + 1) = (sm : Int) + 1 := IntWalk.i64_in _ (by omega)
      have HS2 := Lib.hid hsm
      simp only [hsm]
      have dx : decide ((x : Int) < 0) = false := by simp
      have dm : decide ((x : Int) ≥ (Nn : Int)) = false := by simpa using hxN
      have dn : decide (Nn ≤ x) = false := by simpa using hxN
      have bx : (x : Int) < (Nn : Int) := by omega
      have bx0 : 0 ≤ (x : Int) := by omega
      have HJ := Lib.hid (And.intro hj hjm)
      clear hj hx hsn hcl RS kp BS hcn hjl hsm hxN
      go_wp2_with fail
      exact ⟨⟨HW.out.1, HW.out.2.1, HW.out.2.2.1, j + 1, HJ.out.2, by go_num, by rw [← HS2.out]; simp [Int.natCast_add, Int.add_assoc], HW.out.2.2.2⟩, by have := HJ.out.2; simp [intOf]; omega⟩
set_option maxRecDepth 100000 in
theorem lifted (os : Os) (started : os.Started) (H : Type) (enc : TypeId × Value → H) :
    ReturnsInHanded {} Try.checked os 5 .any (Rows.borderOnceSpec.pre6 enc Try.prog Try.f5 Rows.borderOnceRow.domain false) (Rows.borderOnceSpec.post enc Try.prog Try.f5 false true false false) := by
  refine returnsInHanded_of_change (C := Try.checked) own_knob started (by kernel_rfl) Try.func5
    (ChangeSpec.witness6 (enc := enc) (C := Try.checked) false ⟨#[], #[.agg #[.int .i64 0, .slice none 0 0]], []⟩ 8 (by kernel_rfl) (by kernel_rfl) (by kernel_rfl) (by kernel_rfl)) ?_
  intro W base args ds gs before hval0 hW hcnd _
  have hval : ∀ (j : Nat) t v, Try.f5.params[j]? = some t → args[j]? = some v → Value.okWide Try.prog W .any base t v := hval0
  have hW' := hW
  obtain ⟨p, q, hA0, hV, rfl, hfz, hnd⟩ := hW
  have hA : DataW.TrodAll enc Try.prog W 0 (fun _ => true) true Try.f5.params.toList args.toList ds p := hA0
  rw [Try.params5] at hA hval
  obtain ⟨v0, vs0, d0, ds0, p0, q0, hargs, rfl, rfl, h0, r0⟩ := trodAll_cons hA
  obtain ⟨rfl, rfl, rfl⟩ := trodAll_nil r0
  obtain rfl : args = #[v0] := by cases args; simp_all
  obtain ⟨rfl, rfl⟩ := trodVars_none hV
  have lt0 : ∀ x ∈ p0, x.block < W.heap.size := by obtain ⟨m, hm⟩ := h0; exact DataW.trod_lt m _ _ _ hm
  obtain ⟨N0, a0, len0, cap0, xs0, rfl, hN0, hr0⟩ := arg_soup (hval 0 24 v0 rfl rfl) h0
  clear hA0 hval0
  refine (walk N0 a0 len0 cap0 xs0 W hN0.1 hN0.2 hr0).mono fun e W' ⟨he, bel⟩ => ?_
  subst he
  exact ⟨_, rfl, _, _, _, [], _, [], hW', trodAll_mk1 (shut_bool Try.underlying4 _), (trodAll_cons_mk (Below.trod laid_out (by kernel_rfl) (of_decide_eq_true (by kernel_rfl)) h0 bel lt0) trodAll_mk0), rfl, bel.frame _, fun h => by cases h⟩

theorem over : Rows.borderOnceRow.holds Try.pinned (OpenSpec.ofChange Rows.borderOnceSpec) :=
  OpenClaim.holds_of_wide 5 Try.f5 rfl rfl rfl rfl rfl rfl rfl ⟨rfl, rfl, rfl, rfl, rfl⟩ rfl rfl rfl rfl rfl (by kernel_rfl) Try.func5 (by kernel_rfl)
    (of_decide_eq_true (by kernel_rfl)) (by unfold Func.isWrapper; first | (rw [if_pos (by decide +kernel)]; kernel_rfl) | (rw [if_neg (by decide +kernel)]; exact ⟨rfl, rfl⟩))
    (fun os started H enc _ => lifted os started H enc)

theorem proved : Rows.BorderOnceSaid := over
end Go.Proofs.Ytmflacmgffpjoaa.borderOnce
