/- RingTurned: on the mirrored surface each link is the same, backward, but for where that of an inner vertex begins. No condition. -/
import Derived.Test.YtoianhaocjiffaaRgLaw
import Derived.Test.YtoianhaocjiffaaGR
import Derived.Test.YtoianhaocjiffaaGK
import Derived.Test.YtoianhaocjiffaaGM
namespace Go.Proofs.Ytoianhaocjiffaa.ringTurned
open Go.RowKit Go.ChangeShapes Go.WideShapes Go.ChangeAt

theorem atI {W : World} {ad : Addr} {n : Nat} {xs : List Int} (h : Reads W (some ad) n (ints xs)) {k : Nat} (hk : k < n) : W.cell? (ad.add k) = some (.int .i64 (xs.getD k 0)) := by
  obtain ⟨ad', e, h'⟩ := h.int k hk
  injection e with e
  subst e
  exact h'
def Td1 (w9 : World) (K t : Nat) (tu i : Value) (wr : World) : Prop := Below w9.heap.size w9 wr ∧ ∃ k : Nat, k ≤ K ∧ i = .int .i64 (k : Int) ∧ tu = .int .i64 (if t < k then (t : Int) else -1)
def Td2 (w9 : World) (K : Nat) (i : Value) (wr : World) : Prop := Below w9.heap.size w9 wr ∧ ∃ k : Nat, k ≤ K ∧ i = .int .i64 (k : Int)
set_option maxHeartbeats 16000000 in
set_option maxRecDepth 100000 in
theorem walk (N : Int) (A : Option Addr) (n c : Nat) (l : List Tr) (v : Int) (w : World) (_ : -9223372036854775808 ≤ N) (_ : N ≤ 9223372036854775807) (h : T3 w A n l) (hv1 : -9223372036854775808 ≤ v) (hv2 : v ≤ 9223372036854775807) :
    Calls Try.prog 9 #[.agg #[.int .i64 N, .slice A n c], .int .i64 v] w (BoolTold10 w true) := by
  have hv : -9223372036854775808 ≤ v ∧ v ≤ 9223372036854775807 := ⟨hv1, hv2⟩
  clear hv1 hv2
  obtain rfl := h.1
  have HL := Lib.hid h
  have KA := Lib.hid awake11_true
  obtain ⟨w1, hw1⟩ : ∃ w1, w.alloc (.cells #[.int .i64 N, .slice A l.length c] 24) = w1 := ⟨_, rfl⟩
  obtain ⟨g0, hg0⟩ : ∃ g0, w.heap.size = g0 := ⟨_, rfl⟩
  have b1 : Below w.heap.size w w1 := by rw [← hw1]; exact (Below.refl _ w).alloc (Nat.le_refl _) _
  have x1 : Bx w1 g0 N A l.length c := by rw [← hw1, ← hg0]; exact Bx.made w N A l.length c
  have B1 := Lib.hid (And.intro b1 x1)
  clear b1 x1 h
  go_enter Try.func9, Try.ntmps9
  go_wp2_with fail
  refine (KA.out _).mono ?_
  rintro e w2 ⟨rfl, b2⟩
  have x2 := B1.out.2.below b2
  have e0 := x2.c0
  have e1 := x2.c1
  have B2 := Lib.hid (And.intro (up2 B1.out.1 b2) x2)
  have KL := Lib.hid (table11_any w2 N A l.length c l (HL.out.below B2.out.1))
  clear b2 x2
  go_wp2_with fail
  refine KL.out.mono ?_
  rintro e w3 ⟨b3, rfl | ⟨hsm, g, rfl, tab⟩⟩
  · have B3 := Lib.hid (up2 B2.out.1 b3)
    clear b3
    go_wp2_with fail
    go_ret
    exact ⟨rfl, B3.out⟩
  have x3 := B2.out.2.below b3
  have e0 := x3.c0
  have e1 := x3.c1
  have B3 := Lib.hid (And.intro (up2 B2.out.1 b3) x3)
  have TAB := Lib.hid tab
  have SF := Lib.hid tab.surf
  have hn40 : l.length ≤ 40 := by have := hsm.1; omega
  have hN60 : 0 ≤ N ∧ N ≤ 60 := ⟨hsm.2.2, hsm.2.1⟩
  clear b3 x3 tab hsm
  by_cases g1 : v < 0
  · have d1 : decide (v < 0) = true := by simpa using g1
    clear g1
    go_wp2_with fail
    go_ret
    exact ⟨rfl, B3.out.1⟩
  have d1 : decide (v < 0) = false := by simpa using g1
  by_cases g2 : v < N
  case neg =>
    have d2 : decide (v ≥ N) = true := by simpa using g2
    clear g1 g2
    go_wp2_with fail
    go_ret
    exact ⟨rfl, B3.out.1⟩
  have d2 : decide (v ≥ N) = false := by simpa using g2
  obtain ⟨p, hp⟩ := isPin_exists (l.map mirT)
  have SM := Lib.hid (surf_mir SF.out)
  have HWS := Lib.hid ((surf_iff hp).2 SM.out)
  have HP := Lib.hid hp
  have KM := Lib.hid (smirror_any w3 N A l.length c l (HL.out.below B3.out.1) (by omega))
  obtain ⟨L, hL⟩ := ring_exists SF.out v
  obtain ⟨L', hL'⟩ := ring_exists SM.out v
  obtain ⟨hin, hbl, hK0, hbnd, t, htK, ht0, hall⟩ := link_mir SF.out (show inN N v from ⟨by omega, g2⟩) hL hL'
  have hK41 : (linkL l L).length ≤ 41 := by
    have h1 := (links_of SF.out (show inN N v from ⟨by omega, g2⟩) hL).len
    have h2 := hL.len
    have h3 := cAt_le SF.out v
    split at h1 <;> omega
  obtain ⟨a, ea⟩ : ∃ a, linkL l L = a := ⟨_, rfl⟩
  obtain ⟨b, eb⟩ : ∃ b, linkL (l.map mirT) L' = b := ⟨_, rfl⟩
  obtain ⟨K, hK⟩ : ∃ K, a.length = K := ⟨_, rfl⟩
  obtain ⟨bi, hbi⟩ : ∃ bi, decide (InnerL l L) = bi := ⟨_, rfl⟩
  have hbi' : decide (InnerL (l.map mirT) L') = bi := by rw [← hbi]; exact decide_eq_decide.2 hin
  have htb : 0 < t → bi = true := fun h0 => by rw [← hbi]; exact decide_eq_true (ht0 h0)
  rw [ea, eb, hK] at hbl
  rw [ea, hK] at hK0 htK hK41
  rw [ea, eb, hK] at hall
  rw [eb] at hbnd
  have HR := Lib.hid (And.intro hL (And.intro hL' (And.intro hbi hbi')))
  have HE := Lib.hid (And.intro ea eb)
  have HA := Lib.hid (And.intro hbl (And.intro hbnd (And.intro htb hall)))
  clear g1 g2 hp hL hL' hin ht0 ea eb hbi hbi' htb hall hbnd
  go_wp2_with fail
  refine KM.out.mono ?_
  rintro e w4 ⟨v4, rfl, A', c', rfl, own4, b4⟩
  have B4 := Lib.hid (And.intro b4 own4)
  have KN := Lib.hid (show Calls Try.prog 27 #[.agg #[.int .i64 N, .slice A' l.length c']] w4 (NewK w4 N (l.map mirT) (wits p N (l.map mirT))) from by
    have h := knew_any w4 N A' (l.map mirT).length c' (l.map mirT) p (T3.of_own B4.out.2) HP.out (by rw [List.length_map]; omega)
    rwa [List.length_map] at h)
  clear b4 own4
  rw [List.length_map]
  go_wp2_with fail
  refine KN.out.mono ?_
  rintro e w5 ⟨b5, ⟨hws, _⟩ | ⟨_, u, rfl, tab⟩⟩
  · exact absurd HWS.out hws
  obtain ⟨w6, hw6⟩ : ∃ w6, w5.alloc (.cells #[.int .i64 0, .int .i64 0, .int .i64 0] 47) = w6 := ⟨_, rfl⟩
  have b6 : Below w5.heap.size w5 w6 := by rw [← hw6]; exact (Below.refl _ w5).alloc (Nat.le_refl _) _
  have U6 := Lib.hid (tab.below b6)
  have B6 := Lib.hid (up2 B4.out.1 (up2 b5 b6))
  have T6 := Lib.hid (TAB.out.below B6.out)
  have HW6 := Lib.hid hw6
  have KA := Lib.hid (show Calls Try.prog 15 #[.pointer (some ⟨g, 0, none⟩), .int .i64 v] w6 (RowAt w6 a) from by
    have := (rglink_any w6 _ g N l T6.out v hv L HR.out.1).mono fun _ _ h => h.at
    rwa [HE.out.1] at this)
  have KB := Lib.hid (fun W (b0 : Below w6.heap.size w6 W) => (show Calls Try.prog 15 #[.pointer (some ⟨u, 0, none⟩), .int .i64 v] W (RowAt W b) from by
    have := (rglink_any W _ u N (l.map mirT) (U6.out.below b0) v hv L' HR.out.2.1).mono fun _ _ h => h.at
    rwa [HE.out.2] at this))
  have KI := Lib.hid (fun W (b0 : Below w6.heap.size w6 W) => (show Calls Try.prog 16 #[.pointer (some ⟨g, 0, none⟩), .int .i64 v] W (BoolTold10 W bi) from by
    have := rginner_any W _ g N l (T6.out.below b0) v hv L HR.out.1; rwa [HR.out.2.2.1] at this))
  have KJ := Lib.hid (fun W (b0 : Below w6.heap.size w6 W) => (show Calls Try.prog 16 #[.pointer (some ⟨u, 0, none⟩), .int .i64 v] W (BoolTold10 W bi) from by
    have := rginner_any W _ u N (l.map mirT) (U6.out.below b0) v hv L' HR.out.2.1; rwa [HR.out.2.2.2] at this))
  have kk : ((K : Int) != (K : Int)) = false := by simp
  have k0 : ((K : Int) == 0) = false := by simp; omega
  have ii : (bi != bi) = false := by simp
  clear b5 b6 tab hw6 e0 e1
  simp only [wv]
  go_wp2_with fail
  simp only [HW6.out]
  refine KA.out.mono ?_
  rintro e w7 ⟨A7, c7, rfl, r7, b7, _⟩
  rw [hK] at r7
  simp only [hK]
  have B7 := Lib.hid (And.intro b7 r7)
  clear b7 r7
  go_wp2_with fail
  refine (KB.out _ B7.out.1).mono ?_
  rintro e w8 ⟨A8, c8, rfl, r8, b8, _⟩
  rw [hbl] at r8
  simp only [hbl]
  have B8 := Lib.hid (And.intro (up2 B7.out.1 b8) (And.intro (B7.out.2.below b8) r8))
  clear b8 r8 hbl hK
  go_wp2_with fail
  refine (KI.out _ B8.out.1).mono ?_
  rintro e w9 ⟨rfl, b9⟩
  have B9 := Lib.hid (And.intro (up2 B8.out.1 b9) (And.intro (B8.out.2.1.below b9) (B8.out.2.2.below b9)))
  clear b9
  go_wp2_with fail
  refine (KJ.out _ B9.out.1).mono ?_
  rintro e w10 ⟨rfl, b10⟩
  have B10 := Lib.hid (And.intro (up2 B9.out.1 b10) (And.intro (B9.out.2.1.below b10) (B9.out.2.2.below b10)))
  clear b10
  obtain ⟨ad, rfl, hat⟩ := B10.out.2.1.2 (by omega)
  obtain ⟨bd, rfl, hbt⟩ := B10.out.2.2.2 (by omega)
  have CA := Lib.hid (fun W (b0 : Below w10.heap.size w10 W) (j : Nat) (hj : j < K) => (show W.cell? (ad.add j) = some (.int .i64 (a.getD j 0)) from atI (B10.out.2.1.below b0) hj))
  have CB := Lib.hid (fun W (b0 : Below w10.heap.size w10 W) (j : Nat) (hj : j < K) => (show W.cell? (bd.add j) = some (.int .i64 (b.getD j 0)) from atI (B10.out.2.2.below b0) hj))
  obtain ⟨k1, hk1⟩ : ∃ k1 : Nat, K - 1 = k1 := ⟨_, rfl⟩
  have sk1 : IntKind.i64.wrap ((K : Int) - 1) = (k1 : Int) := by rw [IntWalk.i64_in _ (by omega)]; omega
  have hk1K : k1 < K := by omega
  have HK := Lib.hid hk1
  have HTK := Lib.hid htK
  clear hat hbt hk1 htK
  go_wp2_with fail
  go_loopw [10, 11] (Td1 w10 K t) (fun _ i _ => K - (intOf i).toNat)
  case atStart => exact ⟨Below.refl _ _, 0, Nat.zero_le _, rfl, rfl⟩
  case round =>
    obtain ⟨hb, i, hi, rfl, rfl⟩ := hrel
    have HB := Lib.hid hb
    clear hb
    by_cases hlt : i < K
    case neg =>
      obtain rfl : i = K := by omega
      have b1 : ¬ (i : Int) < i := by omega
      rw [if_pos HTK.out]
      have t0 : decide ((t : Int) < 0) = false := by simp
      have S9 := Lib.hid (show Td2 w10 i (.int .i64 ((0 : Nat) : Int)) wr from ⟨HB.out, 0, Nat.zero_le _, rfl⟩)
      rcases Nat.eq_zero_or_pos t with h0 | h0
      · have t1 : decide ((t : Int) > 0) = false := by simp; omega
        have t2 : decide (0 < t) = false := by simp; omega
        clear h0
        go_wp2_with fail
        go_loopw [12] (Td2 w10 i) (fun j _ => i - (intOf j).toNat)
        case atStart => exact S9.out
        case round =>
          obtain ⟨hb, j, hj, rfl⟩ := hrel
          have HB2 := Lib.hid hb
          clear hb
          by_cases hlt : j < i
          case neg =>
            obtain rfl : j = i := by omega
            have b2 : ¬ (j : Int) < j := by omega
            go_wp2_with fail
            go_ret
            exact ⟨rfl, up2 B3.out.1 (up2 B6.out (up2 B10.out.1 HB2.out))⟩
          have b2 : (j : Int) < i := by omega
          obtain ⟨p2, hp2⟩ : ∃ p2 : Nat, (t + j) % i = p2 := ⟨_, rfl⟩
          obtain ⟨r, hr⟩ : ∃ r : Nat, k1 - j = r := ⟨_, rfl⟩
          have hp2K : p2 < i := by rw [← hp2]; exact Nat.mod_lt _ (by omega)
          have hrK : r < i := by omega
          have hrk : j ≤ k1 := by have := HK.out; omega
          obtain ⟨z, hz⟩ : ∃ z, a.getD r 0 = z := ⟨_, rfl⟩
          have HS := Lib.hid (fun W (b0 : Below w10.heap.size w10 W) => (show W.cell? (bd.add p2) = some (.int .i64 z) ∧ W.cell? (ad.add r) = some (.int .i64 z) from
            ⟨by have h1 := CB.out W b0 p2 hp2K; have h2 := HA.out.2.2.2 j hlt; rw [hp2, HK.out, hr, hz] at h2; rwa [h2] at h1, by have := CA.out W b0 r hrK; rwa [hz] at this⟩))
          have dd : Below w10.heap.size w10 wr.drew := up2 HB2.out (Reading.below ⟨1, rfl⟩)
          have hd := HS.out _ dd
          have s1 : IntKind.i64.wrap ((t : Int) + (j : Int)) = (t : Int) + (j : Int) := IntWalk.i64_in _ (by have := HTK.out; omega)
          have s2 : Int.tmod ((t : Int) + (j : Int)) (i : Int) = (p2 : Int) := by rw [Int.tmod_eq_emod_of_nonneg (by omega), ← hp2, Int.natCast_emod, Int.natCast_add]
          have s3 : IntKind.i64.wrap (p2 : Int) = (p2 : Int) := IntWalk.i64_in _ (by omega)
          have s4 : IntKind.i64.wrap ((k1 : Int) - (j : Int)) = (r : Int) := by rw [IntWalk.i64_in _ (by omega)]; omega
          have m1 : ¬ i = 0 := by omega
          have p0 : 0 ≤ (p2 : Int) := by omega
          have p1 : (p2 : Int) < (i : Int) := by omega
          have r0 : 0 ≤ (r : Int) := by omega
          have r1 : (r : Int) < (i : Int) := by omega
          have zz : (z != z) = false := by simp
          have HX := Lib.hid (And.intro hj hlt)
          clear hp2 hr hz hrk hj
          go_wp2_with fail
          refine wp_region_noPanic ?_
          refine wp_region_held_drew (S := fun w' => w'.cell? (bd.add p2) = some (.int .i64 z) ∧ w'.cell? (ad.add r) = some (.int .i64 z)) (by kernel_rfl) hd (fun _ => ?_)
          refine wpAnyH_take (i := 0) (v := ?v0z1) rfl (by kernel_rfl) (by kernel_rfl) (by kernel_rfl) (fun _ _ _ h => h) (Or.inl ⟨by rfl, ?y0z1⟩) hd ?_
          case y0z1 => (intro w hSw; (try dsimp only at hSw); go_simp; try with_reducible rfl)
          simp only [Act.put, List.setIfInBounds_toArray, List.set_cons_zero, List.set_cons_succ, List.getElem_toArray, List.getElem_cons_zero]
          refine wpAnyH_take (i := 1) (v := ?v1z2) rfl (by kernel_rfl) (by kernel_rfl) (by kernel_rfl) (fun _ _ _ h => h) (Or.inl ⟨by rfl, ?y1z2⟩) hd ?_
          case y1z2 => (intro w hSw; (try dsimp only at hSw); go_simp; try with_reducible rfl)
          simp only [Act.put, List.setIfInBounds_toArray, List.set_cons_zero, List.set_cons_succ, List.getElem_toArray, List.getElem_cons_zero, List.getElem_cons_succ]
          refine wpAnyH_take (i := 2) (v := ?v2z3) rfl (by kernel_rfl) (by kernel_rfl) (by kernel_rfl) (fun _ _ _ h => h) (Or.inl ⟨by rfl, ?y2z3⟩) hd ?_
          case y2z3 => (intro w hSw; (try dsimp only at hSw); go_simp; try with_reducible rfl)
          simp only [Act.put, List.setIfInBounds_toArray, List.set_cons_zero, List.set_cons_succ, List.getElem_toArray, List.getElem_cons_zero, List.getElem_cons_succ]
          refine wpAnyH_take (i := 3) (v := ?v3z4) rfl (by kernel_rfl) (by kernel_rfl) (by kernel_rfl) (fun _ _ _ h => h) (Or.inl ⟨by rfl, ?y3z4⟩) hd ?_
          case y3z4 => (intro w hSw; (try dsimp only at hSw); go_simp; try with_reducible rfl)
          simp only [Act.put, List.setIfInBounds_toArray, List.set_cons_zero, List.set_cons_succ, List.getElem_toArray, List.getElem_cons_zero, List.getElem_cons_succ]
          refine wpAnyH_take (i := 4) (v := ?v4z5) rfl (by kernel_rfl) (by kernel_rfl) (by kernel_rfl) (fun _ _ _ h => h) (Or.inl ⟨by rfl, ?y4z5⟩) hd ?_
          case y4z5 => (intro w hSw; (try dsimp only at hSw); go_simp; try with_reducible rfl)
          simp only [Act.put, List.setIfInBounds_toArray, List.set_cons_zero, List.set_cons_succ, List.getElem_toArray, List.getElem_cons_zero, List.getElem_cons_succ]
          refine wpAnyH_take (i := 5) (v := ?v5z6) rfl (by kernel_rfl) (by kernel_rfl) (by kernel_rfl) (fun _ _ _ h => h) (Or.inl ⟨by rfl, ?y5z6⟩) hd ?_
          case y5z6 => (intro w hSw; (try dsimp only at hSw); go_simp; try with_reducible rfl)
          simp only [Act.put, List.setIfInBounds_toArray, List.set_cons_zero, List.set_cons_succ, List.getElem_toArray, List.getElem_cons_zero, List.getElem_cons_succ]
          refine wpAnyH_take (i := 6) (v := ?v6z7) rfl (by kernel_rfl) (by kernel_rfl) (by kernel_rfl) (fun _ _ _ h => h) (Or.inl ⟨by rfl, ?y6z7⟩) hd ?_
          case y6z7 => (intro w hSw; (try dsimp only at hSw); go_simp; try with_reducible rfl)
          simp only [Act.put, List.setIfInBounds_toArray, List.set_cons_zero, List.set_cons_succ, List.getElem_toArray, List.getElem_cons_zero, List.getElem_cons_succ]
          refine wpAnyH_take (i := 7) (v := ?v7z8) rfl (by kernel_rfl) (by kernel_rfl) (by kernel_rfl) (fun _ _ _ h => h) (Or.inl ⟨by rfl, ?y7z8⟩) hd ?_
          case y7z8 => (intro w hSw; (try dsimp only at hSw); go_simp; try with_reducible rfl)
          simp only [Act.put, List.setIfInBounds_toArray, List.set_cons_zero, List.set_cons_succ, List.getElem_toArray, List.getElem_cons_zero, List.getElem_cons_succ]
          refine wpAnyH_take (i := 8) (v := ?v8z9) rfl (by kernel_rfl) (by kernel_rfl) (by kernel_rfl) (fun _ _ _ h => h) (Or.inl ⟨by rfl, ?y8z9⟩) hd ?_
          case y8z9 => (intro w hSw; (try dsimp only at hSw); go_simp; try with_reducible rfl)
          simp only [Act.put, List.setIfInBounds_toArray, List.set_cons_zero, List.set_cons_succ, List.getElem_toArray, List.getElem_cons_zero, List.getElem_cons_succ]
          refine wpAnyH_take (i := 9) (v := ?v9z10) rfl (by kernel_rfl) (by kernel_rfl) (by kernel_rfl) (fun _ _ _ h => h) (Or.inl ⟨by rfl, ?y9z10⟩) hd ?_
          case y9z10 => (intro w hSw; (try dsimp only at hSw); go_simp; try with_reducible rfl)
          simp only [Act.put, List.setIfInBounds_toArray, List.set_cons_zero, List.set_cons_succ, List.getElem_toArray, List.getElem_cons_zero, List.getElem_cons_succ]
          refine wpAnyH_take (i := 10) (v := ?v10z11) rfl (by kernel_rfl) (by kernel_rfl) (by kernel_rfl) (fun _ _ _ h => h) (Or.inl ⟨by rfl, ?y10z11⟩) hd ?_
          case y10z11 => (intro w hSw; (try dsimp only at hSw); go_simp; try with_reducible rfl)
          simp only [Act.put, List.setIfInBounds_toArray, List.set_cons_zero, List.set_cons_succ, List.getElem_toArray, List.getElem_cons_zero, List.getElem_cons_succ]
          refine wpAnyH_take (i := 11) (v := ?v11z12) rfl (by kernel_rfl) (by kernel_rfl) (by kernel_rfl) (fun _ _ _ h => h) (Or.inl ⟨by rfl, ?y11z12⟩) hd ?_
          case y11z12 => (intro w hSw; (try dsimp only at hSw); go_simp; try with_reducible rfl)
          simp only [Act.put, List.setIfInBounds_toArray, List.set_cons_zero, List.set_cons_succ, List.getElem_toArray, List.getElem_cons_zero, List.getElem_cons_succ]
          refine wpAnyH_take (i := 12) (v := ?v12z13) rfl (by kernel_rfl) (by kernel_rfl) (by kernel_rfl) (fun _ _ _ h => h) (Or.inl ⟨by rfl, ?y12z13⟩) hd ?_
          case y12z13 => (intro w hSw; (try dsimp only at hSw); go_simp; try with_reducible rfl)
          simp only [Act.put, List.setIfInBounds_toArray, List.set_cons_zero, List.set_cons_succ, List.getElem_toArray, List.getElem_cons_zero, List.getElem_cons_succ]
          refine wpAnyH_take (i := 13) (v := ?v13z14) rfl (by kernel_rfl) (by kernel_rfl) (by kernel_rfl) (fun _ _ _ h => h) (Or.inl ⟨by rfl, ?y13z14⟩) hd ?_
          case y13z14 => (intro w hSw; (try dsimp only at hSw); go_simp; try with_reducible rfl)
          simp only [Act.put, List.setIfInBounds_toArray, List.set_cons_zero, List.set_cons_succ, List.getElem_toArray, List.getElem_cons_zero, List.getElem_cons_succ]
          refine wpAnyH_take (i := 14) (v := ?v14z15) rfl (by kernel_rfl) (by kernel_rfl) (by kernel_rfl) (fun _ _ _ h => h) (Or.inl ⟨by rfl, ?y14z15⟩) hd ?_
          case y14z15 => (intro w hSw; (try dsimp only at hSw); go_simp; try with_reducible rfl)
          simp only [Act.put, List.setIfInBounds_toArray, List.set_cons_zero, List.set_cons_succ, List.getElem_toArray, List.getElem_cons_zero, List.getElem_cons_succ]
          refine wpAnyH_take (i := 15) (v := ?v15z16) rfl (by kernel_rfl) (by kernel_rfl) (by kernel_rfl) (fun _ _ _ h => h) (Or.inl ⟨by rfl, ?y15z16⟩) hd ?_
          case y15z16 => (intro w hSw; (try dsimp only at hSw); go_simp; try with_reducible rfl)
          simp only [Act.put, List.setIfInBounds_toArray, List.set_cons_zero, List.set_cons_succ, List.getElem_toArray, List.getElem_cons_zero, List.getElem_cons_succ]
          refine wpAnyH_take (i := 16) (v := ?v16z17) rfl (by kernel_rfl) (by kernel_rfl) (by kernel_rfl) (fun _ _ _ h => h) (Or.inl ⟨by rfl, ?y16z17⟩) hd ?_
          case y16z17 => (intro w hSw; (try dsimp only at hSw); go_simp; try with_reducible rfl)
          simp only [Act.put, List.setIfInBounds_toArray, List.set_cons_zero, List.set_cons_succ, List.getElem_toArray, List.getElem_cons_zero, List.getElem_cons_succ]
          refine wpAnyH_take (i := 17) (v := ?v17z18) rfl (by kernel_rfl) (by kernel_rfl) (by kernel_rfl) (fun _ _ _ h => h) (Or.inl ⟨by rfl, ?y17z18⟩) hd ?_
          case y17z18 => (intro w hSw; (try dsimp only at hSw); go_simp; try with_reducible rfl)
          simp only [Act.put, List.setIfInBounds_toArray, List.set_cons_zero, List.set_cons_succ, List.getElem_toArray, List.getElem_cons_zero, List.getElem_cons_succ]
          refine wpAnyH_done (by kernel_rfl) ?_ _
          refine NoPanic.normal ?_
          go_wp2_with fail
          exact ⟨⟨dd, j + 1, HX.out.2, by go_num⟩, by have := HX.out.2; simp [intOf]; omega⟩
      · have t1 : decide ((t : Int) > 0) = true := by simp; omega
        have t2 : decide (0 < t) = true := by simpa using h0
        obtain rfl := HA.out.2.2.1 h0
        clear h0
        go_wp2_with fail
        refine (KI.out _ (up2 B10.out.1 HB.out)).mono ?_
        rintro e w11 ⟨rfl, b11⟩
        have S9 := Lib.hid (show Td2 w10 i (.int .i64 ((0 : Nat) : Int)) w11 from ⟨up2 HB.out b11, 0, Nat.zero_le _, rfl⟩)
        clear b11
        go_wp2_with fail
        go_loopw [12] (Td2 w10 i) (fun j _ => i - (intOf j).toNat)
        case atStart => exact S9.out
        case round =>
          obtain ⟨hb, j, hj, rfl⟩ := hrel
          have HB2 := Lib.hid hb
          clear hb
          by_cases hlt : j < i
          case neg =>
            obtain rfl : j = i := by omega
            have b2 : ¬ (j : Int) < j := by omega
            go_wp2_with fail
            go_ret
            exact ⟨rfl, up2 B3.out.1 (up2 B6.out (up2 B10.out.1 HB2.out))⟩
          have b2 : (j : Int) < i := by omega
          obtain ⟨p2, hp2⟩ : ∃ p2 : Nat, (t + j) % i = p2 := ⟨_, rfl⟩
          obtain ⟨r, hr⟩ : ∃ r : Nat, k1 - j = r := ⟨_, rfl⟩
          have hp2K : p2 < i := by rw [← hp2]; exact Nat.mod_lt _ (by omega)
          have hrK : r < i := by omega
          have hrk : j ≤ k1 := by have := HK.out; omega
          obtain ⟨z, hz⟩ : ∃ z, a.getD r 0 = z := ⟨_, rfl⟩
          have HS := Lib.hid (fun W (b0 : Below w10.heap.size w10 W) => (show W.cell? (bd.add p2) = some (.int .i64 z) ∧ W.cell? (ad.add r) = some (.int .i64 z) from
            ⟨by have h1 := CB.out W b0 p2 hp2K; have h2 := HA.out.2.2.2 j hlt; rw [hp2, HK.out, hr, hz] at h2; rwa [h2] at h1, by have := CA.out W b0 r hrK; rwa [hz] at this⟩))
          have dd : Below w10.heap.size w10 wr.drew := up2 HB2.out (Reading.below ⟨1, rfl⟩)
          have hd := HS.out _ dd
          have s1 : IntKind.i64.wrap ((t : Int) + (j : Int)) = (t : Int) + (j : Int) := IntWalk.i64_in _ (by have := HTK.out; omega)
          have s2 : Int.tmod ((t : Int) + (j : Int)) (i : Int) = (p2 : Int) := by rw [Int.tmod_eq_emod_of_nonneg (by omega), ← hp2, Int.natCast_emod, Int.natCast_add]
          have s3 : IntKind.i64.wrap (p2 : Int) = (p2 : Int) := IntWalk.i64_in _ (by omega)
          have s4 : IntKind.i64.wrap ((k1 : Int) - (j : Int)) = (r : Int) := by rw [IntWalk.i64_in _ (by omega)]; omega
          have m1 : ¬ i = 0 := by omega
          have p0 : 0 ≤ (p2 : Int) := by omega
          have p1 : (p2 : Int) < (i : Int) := by omega
          have r0 : 0 ≤ (r : Int) := by omega
          have r1 : (r : Int) < (i : Int) := by omega
          have zz : (z != z) = false := by simp
          have HX := Lib.hid (And.intro hj hlt)
          clear hp2 hr hz hrk hj
          go_wp2_with fail
          refine wp_region_noPanic ?_
          refine wp_region_held_drew (S := fun w' => w'.cell? (bd.add p2) = some (.int .i64 z) ∧ w'.cell? (ad.add r) = some (.int .i64 z)) (by kernel_rfl) hd (fun _ => ?_)
          refine wpAnyH_take (i := 0) (v := ?v0z19) rfl (by kernel_rfl) (by kernel_rfl) (by kernel_rfl) (fun _ _ _ h => h) (Or.inl ⟨by rfl, ?y0z19⟩) hd ?_
          case y0z19 => (intro w hSw; (try dsimp only at hSw); go_simp; try with_reducible rfl)
          simp only [Act.put, List.setIfInBounds_toArray, List.set_cons_zero, List.set_cons_succ, List.getElem_toArray, List.getElem_cons_zero]
          refine wpAnyH_take (i := 1) (v := ?v1z20) rfl (by kernel_rfl) (by kernel_rfl) (by kernel_rfl) (fun _ _ _ h => h) (Or.inl ⟨by rfl, ?y1z20⟩) hd ?_
          case y1z20 => (intro w hSw; (try dsimp only at hSw); go_simp; try with_reducible rfl)
          simp only [Act.put, List.setIfInBounds_toArray, List.set_cons_zero, List.set_cons_succ, List.getElem_toArray, List.getElem_cons_zero, List.getElem_cons_succ]
          refine wpAnyH_take (i := 2) (v := ?v2z21) rfl (by kernel_rfl) (by kernel_rfl) (by kernel_rfl) (fun _ _ _ h => h) (Or.inl ⟨by rfl, ?y2z21⟩) hd ?_
          case y2z21 => (intro w hSw; (try dsimp only at hSw); go_simp; try with_reducible rfl)
          simp only [Act.put, List.setIfInBounds_toArray, List.set_cons_zero, List.set_cons_succ, List.getElem_toArray, List.getElem_cons_zero, List.getElem_cons_succ]
          refine wpAnyH_take (i := 3) (v := ?v3z22) rfl (by kernel_rfl) (by kernel_rfl) (by kernel_rfl) (fun _ _ _ h => h) (Or.inl ⟨by rfl, ?y3z22⟩) hd ?_
          case y3z22 => (intro w hSw; (try dsimp only at hSw); go_simp; try with_reducible rfl)
          simp only [Act.put, List.setIfInBounds_toArray, List.set_cons_zero, List.set_cons_succ, List.getElem_toArray, List.getElem_cons_zero, List.getElem_cons_succ]
          refine wpAnyH_take (i := 4) (v := ?v4z23) rfl (by kernel_rfl) (by kernel_rfl) (by kernel_rfl) (fun _ _ _ h => h) (Or.inl ⟨by rfl, ?y4z23⟩) hd ?_
          case y4z23 => (intro w hSw; (try dsimp only at hSw); go_simp; try with_reducible rfl)
          simp only [Act.put, List.setIfInBounds_toArray, List.set_cons_zero, List.set_cons_succ, List.getElem_toArray, List.getElem_cons_zero, List.getElem_cons_succ]
          refine wpAnyH_take (i := 5) (v := ?v5z24) rfl (by kernel_rfl) (by kernel_rfl) (by kernel_rfl) (fun _ _ _ h => h) (Or.inl ⟨by rfl, ?y5z24⟩) hd ?_
          case y5z24 => (intro w hSw; (try dsimp only at hSw); go_simp; try with_reducible rfl)
          simp only [Act.put, List.setIfInBounds_toArray, List.set_cons_zero, List.set_cons_succ, List.getElem_toArray, List.getElem_cons_zero, List.getElem_cons_succ]
          refine wpAnyH_take (i := 6) (v := ?v6z25) rfl (by kernel_rfl) (by kernel_rfl) (by kernel_rfl) (fun _ _ _ h => h) (Or.inl ⟨by rfl, ?y6z25⟩) hd ?_
          case y6z25 => (intro w hSw; (try dsimp only at hSw); go_simp; try with_reducible rfl)
          simp only [Act.put, List.setIfInBounds_toArray, List.set_cons_zero, List.set_cons_succ, List.getElem_toArray, List.getElem_cons_zero, List.getElem_cons_succ]
          refine wpAnyH_take (i := 7) (v := ?v7z26) rfl (by kernel_rfl) (by kernel_rfl) (by kernel_rfl) (fun _ _ _ h => h) (Or.inl ⟨by rfl, ?y7z26⟩) hd ?_
          case y7z26 => (intro w hSw; (try dsimp only at hSw); go_simp; try with_reducible rfl)
          simp only [Act.put, List.setIfInBounds_toArray, List.set_cons_zero, List.set_cons_succ, List.getElem_toArray, List.getElem_cons_zero, List.getElem_cons_succ]
          refine wpAnyH_take (i := 8) (v := ?v8z27) rfl (by kernel_rfl) (by kernel_rfl) (by kernel_rfl) (fun _ _ _ h => h) (Or.inl ⟨by rfl, ?y8z27⟩) hd ?_
          case y8z27 => (intro w hSw; (try dsimp only at hSw); go_simp; try with_reducible rfl)
          simp only [Act.put, List.setIfInBounds_toArray, List.set_cons_zero, List.set_cons_succ, List.getElem_toArray, List.getElem_cons_zero, List.getElem_cons_succ]
          refine wpAnyH_take (i := 9) (v := ?v9z28) rfl (by kernel_rfl) (by kernel_rfl) (by kernel_rfl) (fun _ _ _ h => h) (Or.inl ⟨by rfl, ?y9z28⟩) hd ?_
          case y9z28 => (intro w hSw; (try dsimp only at hSw); go_simp; try with_reducible rfl)
          simp only [Act.put, List.setIfInBounds_toArray, List.set_cons_zero, List.set_cons_succ, List.getElem_toArray, List.getElem_cons_zero, List.getElem_cons_succ]
          refine wpAnyH_take (i := 10) (v := ?v10z29) rfl (by kernel_rfl) (by kernel_rfl) (by kernel_rfl) (fun _ _ _ h => h) (Or.inl ⟨by rfl, ?y10z29⟩) hd ?_
          case y10z29 => (intro w hSw; (try dsimp only at hSw); go_simp; try with_reducible rfl)
          simp only [Act.put, List.setIfInBounds_toArray, List.set_cons_zero, List.set_cons_succ, List.getElem_toArray, List.getElem_cons_zero, List.getElem_cons_succ]
          refine wpAnyH_take (i := 11) (v := ?v11z30) rfl (by kernel_rfl) (by kernel_rfl) (by kernel_rfl) (fun _ _ _ h => h) (Or.inl ⟨by rfl, ?y11z30⟩) hd ?_
          case y11z30 => (intro w hSw; (try dsimp only at hSw); go_simp; try with_reducible rfl)
          simp only [Act.put, List.setIfInBounds_toArray, List.set_cons_zero, List.set_cons_succ, List.getElem_toArray, List.getElem_cons_zero, List.getElem_cons_succ]
          refine wpAnyH_take (i := 12) (v := ?v12z31) rfl (by kernel_rfl) (by kernel_rfl) (by kernel_rfl) (fun _ _ _ h => h) (Or.inl ⟨by rfl, ?y12z31⟩) hd ?_
          case y12z31 => (intro w hSw; (try dsimp only at hSw); go_simp; try with_reducible rfl)
          simp only [Act.put, List.setIfInBounds_toArray, List.set_cons_zero, List.set_cons_succ, List.getElem_toArray, List.getElem_cons_zero, List.getElem_cons_succ]
          refine wpAnyH_take (i := 13) (v := ?v13z32) rfl (by kernel_rfl) (by kernel_rfl) (by kernel_rfl) (fun _ _ _ h => h) (Or.inl ⟨by rfl, ?y13z32⟩) hd ?_
          case y13z32 => (intro w hSw; (try dsimp only at hSw); go_simp; try with_reducible rfl)
          simp only [Act.put, List.setIfInBounds_toArray, List.set_cons_zero, List.set_cons_succ, List.getElem_toArray, List.getElem_cons_zero, List.getElem_cons_succ]
          refine wpAnyH_take (i := 14) (v := ?v14z33) rfl (by kernel_rfl) (by kernel_rfl) (by kernel_rfl) (fun _ _ _ h => h) (Or.inl ⟨by rfl, ?y14z33⟩) hd ?_
          case y14z33 => (intro w hSw; (try dsimp only at hSw); go_simp; try with_reducible rfl)
          simp only [Act.put, List.setIfInBounds_toArray, List.set_cons_zero, List.set_cons_succ, List.getElem_toArray, List.getElem_cons_zero, List.getElem_cons_succ]
          refine wpAnyH_take (i := 15) (v := ?v15z34) rfl (by kernel_rfl) (by kernel_rfl) (by kernel_rfl) (fun _ _ _ h => h) (Or.inl ⟨by rfl, ?y15z34⟩) hd ?_
          case y15z34 => (intro w hSw; (try dsimp only at hSw); go_simp; try with_reducible rfl)
          simp only [Act.put, List.setIfInBounds_toArray, List.set_cons_zero, List.set_cons_succ, List.getElem_toArray, List.getElem_cons_zero, List.getElem_cons_succ]
          refine wpAnyH_take (i := 16) (v := ?v16z35) rfl (by kernel_rfl) (by kernel_rfl) (by kernel_rfl) (fun _ _ _ h => h) (Or.inl ⟨by rfl, ?y16z35⟩) hd ?_
          case y16z35 => (intro w hSw; (try dsimp only at hSw); go_simp; try with_reducible rfl)
          simp only [Act.put, List.setIfInBounds_toArray, List.set_cons_zero, List.set_cons_succ, List.getElem_toArray, List.getElem_cons_zero, List.getElem_cons_succ]
          refine wpAnyH_take (i := 17) (v := ?v17z36) rfl (by kernel_rfl) (by kernel_rfl) (by kernel_rfl) (fun _ _ _ h => h) (Or.inl ⟨by rfl, ?y17z36⟩) hd ?_
          case y17z36 => (intro w hSw; (try dsimp only at hSw); go_simp; try with_reducible rfl)
          simp only [Act.put, List.setIfInBounds_toArray, List.set_cons_zero, List.set_cons_succ, List.getElem_toArray, List.getElem_cons_zero, List.getElem_cons_succ]
          refine wpAnyH_done (by kernel_rfl) ?_ _
          refine NoPanic.normal ?_
          go_wp2_with fail
          exact ⟨⟨dd, j + 1, HX.out.2, by go_num⟩, by have := HX.out.2; simp [intOf]; omega⟩
    have b1 : (i : Int) < K := by omega
    obtain ⟨x, hx⟩ : ∃ x, a.getD k1 0 = x := ⟨_, rfl⟩
    obtain ⟨y, hy⟩ : ∃ y, b.getD i 0 = y := ⟨_, rfl⟩
    have HS := Lib.hid (fun W (b0 : Below w10.heap.size w10 W) => (show W.cell? (bd.add i) = some (.int .i64 y) ∧ W.cell? (ad.add k1) = some (.int .i64 x) from
      ⟨by have := CB.out W b0 i hlt; rwa [hy] at this, by have := CA.out W b0 k1 hk1K; rwa [hx] at this⟩))
    have hta : b.getD t 0 = x := by
      have := HA.out.2.2.2 0 (by omega)
      rw [Nat.add_zero, Nat.mod_eq_of_lt HTK.out, Nat.sub_zero, HK.out, hx] at this
      exact this
    have hiff : y = x ↔ i = t := ⟨fun e => getI_inj HA.out.2.1 (show i < b.length by rw [HA.out.1]; exact hlt) (show t < b.length by rw [HA.out.1]; exact HTK.out) (by rw [hy, hta, e]), fun e => by rw [← hy, e, hta]⟩
    have dd : Below w10.heap.size w10 wr.drew := up2 HB.out (Reading.below ⟨1, rfl⟩)
    have hd := HS.out _ dd
    have k10 : 0 ≤ (k1 : Int) := by omega
    have k11 : (k1 : Int) < (K : Int) := by omega
    have HX := Lib.hid (And.intro hi hlt)
    clear hx hy hta hi
    obtain ⟨tv, htv⟩ : ∃ tv, (if t < i then (t : Int) else -1) = tv := ⟨_, rfl⟩
    have HTV := Lib.hid htv
    simp only [htv]
    clear htv
    by_cases hit : i = t
    · have he : (y == x) = true := by simpa using hiff.2 hit
      have HIT := Lib.hid hit
      clear hiff hit
      go_wp2_with fail
      refine wp_region_noPanic ?_
      refine wp_region_held_drew (S := fun w' => w'.cell? (bd.add i) = some (.int .i64 y) ∧ w'.cell? (ad.add k1) = some (.int .i64 x)) (by kernel_rfl) hd (fun _ => ?_)
      refine wpAnyH_take (i := 0) (v := ?v0z37) rfl (by kernel_rfl) (by kernel_rfl) (by kernel_rfl) (fun _ _ _ h => h) (Or.inl ⟨by rfl, ?y0z37⟩) hd ?_
      case y0z37 => (intro w hSw; (try dsimp only at hSw); go_simp; try with_reducible rfl)
      simp only [Act.put, List.setIfInBounds_toArray, List.set_cons_zero, List.set_cons_succ, List.getElem_toArray, List.getElem_cons_zero]
      refine wpAnyH_take (i := 1) (v := ?v1z38) rfl (by kernel_rfl) (by kernel_rfl) (by kernel_rfl) (fun _ _ _ h => h) (Or.inl ⟨by rfl, ?y1z38⟩) hd ?_
      case y1z38 => (intro w hSw; (try dsimp only at hSw); go_simp; try with_reducible rfl)
      simp only [Act.put, List.setIfInBounds_toArray, List.set_cons_zero, List.set_cons_succ, List.getElem_toArray, List.getElem_cons_zero, List.getElem_cons_succ]
      refine wpAnyH_take (i := 2) (v := ?v2z39) rfl (by kernel_rfl) (by kernel_rfl) (by kernel_rfl) (fun _ _ _ h => h) (Or.inl ⟨by rfl, ?y2z39⟩) hd ?_
      case y2z39 => (intro w hSw; (try dsimp only at hSw); go_simp; try with_reducible rfl)
      simp only [Act.put, List.setIfInBounds_toArray, List.set_cons_zero, List.set_cons_succ, List.getElem_toArray, List.getElem_cons_zero, List.getElem_cons_succ]
      refine wpAnyH_take (i := 3) (v := ?v3z40) rfl (by kernel_rfl) (by kernel_rfl) (by kernel_rfl) (fun _ _ _ h => h) (Or.inl ⟨by rfl, ?y3z40⟩) hd ?_
      case y3z40 => (intro w hSw; (try dsimp only at hSw); go_simp; try with_reducible rfl)
      simp only [Act.put, List.setIfInBounds_toArray, List.set_cons_zero, List.set_cons_succ, List.getElem_toArray, List.getElem_cons_zero, List.getElem_cons_succ]
      refine wpAnyH_take (i := 4) (v := ?v4z41) rfl (by kernel_rfl) (by kernel_rfl) (by kernel_rfl) (fun _ _ _ h => h) (Or.inl ⟨by rfl, ?y4z41⟩) hd ?_
      case y4z41 => (intro w hSw; (try dsimp only at hSw); go_simp; try with_reducible rfl)
      simp only [Act.put, List.setIfInBounds_toArray, List.set_cons_zero, List.set_cons_succ, List.getElem_toArray, List.getElem_cons_zero, List.getElem_cons_succ]
      refine wpAnyH_take (i := 5) (v := ?v5z42) rfl (by kernel_rfl) (by kernel_rfl) (by kernel_rfl) (fun _ _ _ h => h) (Or.inl ⟨by rfl, ?y5z42⟩) hd ?_
      case y5z42 => (intro w hSw; (try dsimp only at hSw); go_simp; try with_reducible rfl)
      simp only [Act.put, List.setIfInBounds_toArray, List.set_cons_zero, List.set_cons_succ, List.getElem_toArray, List.getElem_cons_zero, List.getElem_cons_succ]
      refine wpAnyH_take (i := 6) (v := ?v6z43) rfl (by kernel_rfl) (by kernel_rfl) (by kernel_rfl) (fun _ _ _ h => h) (Or.inl ⟨by rfl, ?y6z43⟩) hd ?_
      case y6z43 => (intro w hSw; (try dsimp only at hSw); go_simp; try with_reducible rfl)
      simp only [Act.put, List.setIfInBounds_toArray, List.set_cons_zero, List.set_cons_succ, List.getElem_toArray, List.getElem_cons_zero, List.getElem_cons_succ]
      refine wpAnyH_take (i := 7) (v := ?v7z44) rfl (by kernel_rfl) (by kernel_rfl) (by kernel_rfl) (fun _ _ _ h => h) (Or.inl ⟨by rfl, ?y7z44⟩) hd ?_
      case y7z44 => (intro w hSw; (try dsimp only at hSw); go_simp; try with_reducible rfl)
      simp only [Act.put, List.setIfInBounds_toArray, List.set_cons_zero, List.set_cons_succ, List.getElem_toArray, List.getElem_cons_zero, List.getElem_cons_succ]
      refine wpAnyH_take (i := 8) (v := ?v8z45) rfl (by kernel_rfl) (by kernel_rfl) (by kernel_rfl) (fun _ _ _ h => h) (Or.inl ⟨by rfl, ?y8z45⟩) hd ?_
      case y8z45 => (intro w hSw; (try dsimp only at hSw); go_simp; try with_reducible rfl)
      simp only [Act.put, List.setIfInBounds_toArray, List.set_cons_zero, List.set_cons_succ, List.getElem_toArray, List.getElem_cons_zero, List.getElem_cons_succ]
      refine wpAnyH_take (i := 9) (v := ?v9z46) rfl (by kernel_rfl) (by kernel_rfl) (by kernel_rfl) (fun _ _ _ h => h) (Or.inl ⟨by rfl, ?y9z46⟩) hd ?_
      case y9z46 => (intro w hSw; (try dsimp only at hSw); go_simp; try with_reducible rfl)
      simp only [Act.put, List.setIfInBounds_toArray, List.set_cons_zero, List.set_cons_succ, List.getElem_toArray, List.getElem_cons_zero, List.getElem_cons_succ]
      refine wpAnyH_take (i := 10) (v := ?v10z47) rfl (by kernel_rfl) (by kernel_rfl) (by kernel_rfl) (fun _ _ _ h => h) (Or.inl ⟨by rfl, ?y10z47⟩) hd ?_
      case y10z47 => (intro w hSw; (try dsimp only at hSw); go_simp; try with_reducible rfl)
      simp only [Act.put, List.setIfInBounds_toArray, List.set_cons_zero, List.set_cons_succ, List.getElem_toArray, List.getElem_cons_zero, List.getElem_cons_succ]
      refine wpAnyH_done (by kernel_rfl) ?_ _
      refine NoPanic.normal ?_
      go_wp2_with fail
      exact ⟨⟨dd, i + 1, HX.out.2, by go_num, by rw [if_pos (show t < i + 1 by have := HIT.out; omega), HIT.out]⟩, by have := HX.out.2; simp [intOf]; omega⟩
    · have he : (y == x) = false := by simpa using fun e => hit (hiff.1 e)
      have HIT := Lib.hid hit
      clear hiff hit
      go_wp2_with fail
      refine wp_region_noPanic ?_
      refine wp_region_held_drew (S := fun w' => w'.cell? (bd.add i) = some (.int .i64 y) ∧ w'.cell? (ad.add k1) = some (.int .i64 x)) (by kernel_rfl) hd (fun _ => ?_)
      refine wpAnyH_take (i := 0) (v := ?v0z48) rfl (by kernel_rfl) (by kernel_rfl) (by kernel_rfl) (fun _ _ _ h => h) (Or.inl ⟨by rfl, ?y0z48⟩) hd ?_
      case y0z48 => (intro w hSw; (try dsimp only at hSw); go_simp; try with_reducible rfl)
      simp only [Act.put, List.setIfInBounds_toArray, List.set_cons_zero, List.set_cons_succ, List.getElem_toArray, List.getElem_cons_zero]
      refine wpAnyH_take (i := 1) (v := ?v1z49) rfl (by kernel_rfl) (by kernel_rfl) (by kernel_rfl) (fun _ _ _ h => h) (Or.inl ⟨by rfl, ?y1z49⟩) hd ?_
      case y1z49 => (intro w hSw; (try dsimp only at hSw); go_simp; try with_reducible rfl)
      simp only [Act.put, List.setIfInBounds_toArray, List.set_cons_zero, List.set_cons_succ, List.getElem_toArray, List.getElem_cons_zero, List.getElem_cons_succ]
      refine wpAnyH_take (i := 2) (v := ?v2z50) rfl (by kernel_rfl) (by kernel_rfl) (by kernel_rfl) (fun _ _ _ h => h) (Or.inl ⟨by rfl, ?y2z50⟩) hd ?_
      case y2z50 => (intro w hSw; (try dsimp only at hSw); go_simp; try with_reducible rfl)
      simp only [Act.put, List.setIfInBounds_toArray, List.set_cons_zero, List.set_cons_succ, List.getElem_toArray, List.getElem_cons_zero, List.getElem_cons_succ]
      refine wpAnyH_take (i := 3) (v := ?v3z51) rfl (by kernel_rfl) (by kernel_rfl) (by kernel_rfl) (fun _ _ _ h => h) (Or.inl ⟨by rfl, ?y3z51⟩) hd ?_
      case y3z51 => (intro w hSw; (try dsimp only at hSw); go_simp; try with_reducible rfl)
      simp only [Act.put, List.setIfInBounds_toArray, List.set_cons_zero, List.set_cons_succ, List.getElem_toArray, List.getElem_cons_zero, List.getElem_cons_succ]
      refine wpAnyH_take (i := 4) (v := ?v4z52) rfl (by kernel_rfl) (by kernel_rfl) (by kernel_rfl) (fun _ _ _ h => h) (Or.inl ⟨by rfl, ?y4z52⟩) hd ?_
      case y4z52 => (intro w hSw; (try dsimp only at hSw); go_simp; try with_reducible rfl)
      simp only [Act.put, List.setIfInBounds_toArray, List.set_cons_zero, List.set_cons_succ, List.getElem_toArray, List.getElem_cons_zero, List.getElem_cons_succ]
      refine wpAnyH_take (i := 5) (v := ?v5z53) rfl (by kernel_rfl) (by kernel_rfl) (by kernel_rfl) (fun _ _ _ h => h) (Or.inl ⟨by rfl, ?y5z53⟩) hd ?_
      case y5z53 => (intro w hSw; (try dsimp only at hSw); go_simp; try with_reducible rfl)
      simp only [Act.put, List.setIfInBounds_toArray, List.set_cons_zero, List.set_cons_succ, List.getElem_toArray, List.getElem_cons_zero, List.getElem_cons_succ]
      refine wpAnyH_take (i := 6) (v := ?v6z54) rfl (by kernel_rfl) (by kernel_rfl) (by kernel_rfl) (fun _ _ _ h => h) (Or.inl ⟨by rfl, ?y6z54⟩) hd ?_
      case y6z54 => (intro w hSw; (try dsimp only at hSw); go_simp; try with_reducible rfl)
      simp only [Act.put, List.setIfInBounds_toArray, List.set_cons_zero, List.set_cons_succ, List.getElem_toArray, List.getElem_cons_zero, List.getElem_cons_succ]
      refine wpAnyH_take (i := 7) (v := ?v7z55) rfl (by kernel_rfl) (by kernel_rfl) (by kernel_rfl) (fun _ _ _ h => h) (Or.inl ⟨by rfl, ?y7z55⟩) hd ?_
      case y7z55 => (intro w hSw; (try dsimp only at hSw); go_simp; try with_reducible rfl)
      simp only [Act.put, List.setIfInBounds_toArray, List.set_cons_zero, List.set_cons_succ, List.getElem_toArray, List.getElem_cons_zero, List.getElem_cons_succ]
      refine wpAnyH_take (i := 8) (v := ?v8z56) rfl (by kernel_rfl) (by kernel_rfl) (by kernel_rfl) (fun _ _ _ h => h) (Or.inl ⟨by rfl, ?y8z56⟩) hd ?_
      case y8z56 => (intro w hSw; (try dsimp only at hSw); go_simp; try with_reducible rfl)
      simp only [Act.put, List.setIfInBounds_toArray, List.set_cons_zero, List.set_cons_succ, List.getElem_toArray, List.getElem_cons_zero, List.getElem_cons_succ]
      refine wpAnyH_take (i := 9) (v := ?v9z57) rfl (by kernel_rfl) (by kernel_rfl) (by kernel_rfl) (fun _ _ _ h => h) (Or.inl ⟨by rfl, ?y9z57⟩) hd ?_
      case y9z57 => (intro w hSw; (try dsimp only at hSw); go_simp; try with_reducible rfl)
      simp only [Act.put, List.setIfInBounds_toArray, List.set_cons_zero, List.set_cons_succ, List.getElem_toArray, List.getElem_cons_zero, List.getElem_cons_succ]
      refine wpAnyH_take (i := 10) (v := ?v10z58) rfl (by kernel_rfl) (by kernel_rfl) (by kernel_rfl) (fun _ _ _ h => h) (Or.inl ⟨by rfl, ?y10z58⟩) hd ?_
      case y10z58 => (intro w hSw; (try dsimp only at hSw); go_simp; try with_reducible rfl)
      simp only [Act.put, List.setIfInBounds_toArray, List.set_cons_zero, List.set_cons_succ, List.getElem_toArray, List.getElem_cons_zero, List.getElem_cons_succ]
      refine wpAnyH_done (by kernel_rfl) ?_ _
      refine NoPanic.normal ?_
      go_wp2_with fail
      refine ⟨⟨dd, i + 1, HX.out.2, by go_num, ?_⟩, by have := HX.out.2; simp [intOf]; omega⟩
      rw [← HTV.out]
      have := HIT.out
      by_cases g : t < i
      · rw [if_pos g, if_pos (by omega)]
      · rw [if_neg g, if_neg (by omega)]
set_option maxRecDepth 100000 in
theorem lifted (os : Os) (started : os.Started) (H : Type) (enc : TypeId × Value → H) :
    ReturnsInHanded {} Try.checked os 9 .any (Rows.ringTurnedSpec.pre6 enc Try.prog Try.f9 Rows.ringTurnedRow.domain false) (Rows.ringTurnedSpec.post enc Try.prog Try.f9 false true false false) := by
  refine returnsInHanded_of_change (C := Try.checked) own_knob started (by kernel_rfl) Try.func9
    (ChangeSpec.witness6 (enc := enc) (C := Try.checked) false ⟨#[], #[.agg #[.int .i64 0, .slice none 0 0], .int .i64 0], []⟩ 8 (by kernel_rfl) (by kernel_rfl) (by kernel_rfl) (by kernel_rfl)) ?_
  intro W base args ds gs before hval0 hW hcnd _
  have hval : ∀ (j : Nat) t v, Try.f9.params[j]? = some t → args[j]? = some v → Value.okWide Try.prog W .any base t v := hval0
  have hW' := hW
  obtain ⟨p, q, hA0, hV, rfl, hfz, hnd⟩ := hW
  have hA : DataW.TrodAll enc Try.prog W 0 (fun _ => true) true Try.f9.params.toList args.toList ds p := hA0
  rw [Try.params9] at hA hval
  obtain ⟨v0, vs0, d0, ds0, p0, q0, hargs, rfl, rfl, h0, r0⟩ := trodAll_cons hA
  obtain ⟨v1, vs1, d1, ds1, p1, q1, rfl, rfl, rfl, h1, r1⟩ := trodAll_cons r0
  obtain ⟨rfl, rfl, rfl⟩ := trodAll_nil r1
  obtain rfl : args = #[v0, v1] := by cases args; simp_all
  obtain ⟨rfl, rfl⟩ := trodVars_none hV
  have lt0 : ∀ x ∈ p0, x.block < W.heap.size := by obtain ⟨m, hm⟩ := h0; exact DataW.trod_lt m _ _ _ hm
  obtain ⟨N0, a0, len0, cap0, xs0, rfl, hN0, hr0⟩ := arg_soup (hval 0 24 v0 rfl rfl) h0
  obtain ⟨a1, rfl, rfl, rfl, w1⟩ := open_int Try.underlying3 (hval 1 3 v1 rfl rfl) h1
  have bd1 := bounds_i64 w1
  clear hA0 hval0
  refine (walk N0 a0 len0 cap0 xs0 a1 W hN0.1 hN0.2 hr0 (by omega) (by omega)).mono fun e W' ⟨he, bel⟩ => ?_
  subst he
  exact ⟨_, rfl, _, _, _, [], _, [], hW', trodAll_mk1 (shut_bool Try.underlying4 _), (trodAll_cons_mk (Below.trod laid_out (by kernel_rfl) (of_decide_eq_true (by kernel_rfl)) h0 bel lt0) (trodAll_cons_mk (shut_int Try.underlying3 w1) trodAll_mk0)), rfl, bel.frame _, fun h => by cases h⟩

theorem over : Rows.ringTurnedRow.holds Try.pinned (OpenSpec.ofChange Rows.ringTurnedSpec) :=
  OpenClaim.holds_of_wide 9 Try.f9 rfl rfl rfl rfl rfl rfl rfl ⟨rfl, rfl, rfl, rfl, rfl⟩ rfl rfl rfl rfl rfl (by kernel_rfl) Try.func9 (by kernel_rfl)
    (of_decide_eq_true (by kernel_rfl)) (by unfold Func.isWrapper; first | (rw [if_pos (by decide +kernel)]; kernel_rfl) | (rw [if_neg (by decide +kernel)]; exact ⟨rfl, rfl⟩))
    (fun os started H enc _ => lifted os started H enc)

theorem proved : Rows.RingTurnedSaid := over
end Go.Proofs.Ytoianhaocjiffaa.ringTurned
