/- Layer 9: the document's All. -/
import Derived.Test.YtelbmjbjpgcdaaaCrPin
import Derived.Test.YtelbmjbjpgcdaaaCrPairs
import Derived.Test.YtelbmjbjpgcdaaaCeRepP
namespace Go.Proofs.Ytelbmjbjpgcdaaa
open Go.RowKit

theorem RwSt.next {w wr w' : World} {g Z : Nat} {N : Int} {A : Option Addr} {n c : Nat} {v : Value} {l ws : List Wt} {A' : Option Addr} {c' : Nat} (h : RwSt w wr g Z N A n c v l) (o : w'.ownsRow wr.heap.size 37 3 (.slice A' ws.length c') ws.length (ints (flat3 ws))) (b : Below wr.heap.size wr w') : RwSt w w' g Z N A n c (.slice A' ws.length c') ws :=
  ⟨h.below.trans (b.mono h.below.size), h.bx.below b, ownK9_base o h.zw, h.wz, h.gz, Nat.le_trans h.zw b.size⟩
theorem RwSt.box {w wr : World} {g Z : Nat} {N : Int} {A : Option Addr} {n c : Nat} {v : Value} {l : List Wt} (h : RwSt w wr g Z N A n c v l) : wr.cell? ⟨g, 0, none⟩ = some (.int .i64 N) ∧ wr.cell? ⟨g, 1, none⟩ = some (.slice A n c) := ⟨h.bx.c0, h.bx.c1⟩
def usd (tl : List Tr) (v : Int) (k : Nat) : Bool := (List.range k).any fun i => decide (hasV (tl.getD i z3) v)
theorem usd_succ (tl : List Tr) (v : Int) (k : Nat) : usd tl v (k + 1) = (usd tl v k || decide (hasV (tl.getD k z3) v)) := by
  unfold usd
  rw [List.range_succ, List.any_append]
  simp
theorem usd_lonely (tl : List Tr) (v : Int) : lonely tl v = !usd tl v tl.length := by
  cases hq : usd tl v tl.length with
  | true =>
    unfold usd at hq
    rw [List.any_eq_true] at hq
    obtain ⟨i, hi, h⟩ := hq
    exact lonely_false.2 ⟨_, getD3_mem (List.mem_range.1 hi), of_decide_eq_true h⟩
  | false =>
    cases hl : lonely tl v with
    | true => rfl
    | false =>
      obtain ⟨t, ht, hv⟩ := lonely_false.1 hl
      obtain ⟨i, hi, rfl⟩ := mem3_getD ht
      unfold usd at hq
      rw [List.any_eq_false] at hq
      exact absurd (decide_eq_true hv) (hq i (List.mem_range.2 hi))
def Ra1 (w : World) (g Z : Nat) (N : Int) (A : Option Addr) (n c : Nat) (tl : List Tr) (v i : Value) (wr : World) : Prop := ∃ k : Nat, k ≤ n ∧ i = .int .i64 (k : Int) ∧ RwSt w wr g Z N A n c v (idxP 2 (fun t => decide (loopT t)) tl k)
def Ra2 (w : World) (g Z : Nat) (N : Int) (A : Option Addr) (n c : Nat) (kd : Int) (q : Int → Bool) (M : Nat) (v i : Value) (wr : World) : Prop := ∃ k : Nat, k ≤ M ∧ i = .int .i64 (k : Int) ∧ RwSt w wr g Z N A n c v (vertP kd q k)
def Ra3 (w : World) (g Z : Nat) (N : Int) (A : Option Addr) (n c : Nat) (tl : List Tr) (v : Int) (out : Value) (l : List Wt) (us i : Value) (wr : World) : Prop := ∃ k : Nat, k ≤ n ∧ i = .int .i64 (k : Int) ∧ us = .bool (usd tl v k) ∧ RwSt w wr g Z N A n c out l
theorem vertP_len (kd : Int) (q : Int → Bool) (a : Nat) : (vertP kd q a).length ≤ a := by
  unfold vertP vertW
  rw [List.length_map]
  have := List.length_filter_le (fun v : Nat => q v) (List.range (a : Int).toNat)
  rw [List.length_range] at this
  omega

set_option maxHeartbeats 16000000 in
set_option maxRecDepth 100000 in
theorem r9all_any (w : World) (N : Int) (A : Option Addr) (n c : Nat) (tl : List Tr) (p : Int → Bool) (hp : IsPin tl p) (ht : T3 w A n tl) (hn : n ≤ 1000000) : Calls Try.prog 14 #[.agg #[.int .i64 N, .slice A n c]] w (RwTold w (wits p N tl)) := by
  obtain ⟨w1, hw1⟩ : ∃ w1, w.alloc (.cells #[.int .i64 N, .slice A n c] 24) = w1 := ⟨_, rfl⟩
  obtain ⟨g, hg⟩ : ∃ g, w.heap.size = g := ⟨_, rfl⟩
  have b1 : Below w.heap.size w w1 := by rw [← hw1]; exact (Below.refl _ w).alloc (Nat.le_refl _) _
  have x1 : Bx w1 g N A n c := by rw [← hw1, ← hg]; exact Bx.made w N A n c
  have z0 := x1.c0
  have z1 := x1.c1
  have HT := Lib.hid ht
  have HP := Lib.hid hp
  have S1 := Lib.hid (RwSt.start b1 x1)
  obtain ⟨Z, hZ⟩ : ∃ Z, w1.heap.size = Z := ⟨_, rfl⟩
  rw [hZ] at S1
  have KI := Lib.hid (r9index_any w1 N A n c tl (ht.below b1) hn)
  have HW := Lib.hid (show ∀ k, (∀ j, j < k → (stgs p N tl).getD j [] = []) → (stgs p N tl).getD k [] ≠ [] → wits p N tl = (stgs p N tl).getD k [] from fun k h1 h2 => ((stage_at h1).resolve_left h2).symm)
  clear b1 x1 ht hp
  go_enter Try.func14, Try.ntmps14
  go_wp2_with fail
  clear hw1 hg hZ z0 z1
  refine KI.out.mono ?_
  rintro e w2 ⟨A0, c0, rfl, o2, b2⟩
  have s2 := S1.out.next o2 b2
  obtain ⟨ws0, h0⟩ : ∃ ws0, indexW N tl = ws0 := ⟨_, rfl⟩
  rw [h0] at s2 ⊢
  obtain ⟨L0, hL0⟩ : ∃ L0, ws0.length = L0 := ⟨_, rfl⟩
  rw [hL0] at s2 ⊢
  have S2 := Lib.hid s2
  have H0 := Lib.hid (And.intro h0 hL0)
  clear s2 o2 b2 h0 hL0
  by_cases hz : L0 = 0
  case neg =>
    have hz1 : (0 : Int) < L0 := by omega
    have HE := Lib.hid (show wits p N tl = ws0 by
      have := HW.out 0 (fun j hj => absurd hj (by omega)) (by show indexW N tl ≠ []; rw [H0.out.1]; intro e; rw [e] at H0; exact hz H0.out.2.symm)
      rw [this]; exact H0.out.1)
    go_wp2
    go_ret
    rw [HE.out]
    have := S2.out.told
    exact this
  subst hz
  have hw0 : ws0 = [] := List.eq_nil_of_length_eq_zero H0.out.2
  subst hw0
  have G0 := Lib.hid (stage0 H0.out.1)
  obtain ⟨M, rfl⟩ : ∃ M : Nat, N = (M : Int) := ⟨N.toNat, by have := G0.out.1; omega⟩
  have hM : M ≤ 4096 := by have := G0.out.2.1; omega
  have hn8 : n ≤ 8192 := by have := G0.out.2.2.1; rwa [HT.out.1] at this
  obtain ⟨z0, z1⟩ := S2.out.box
  go_wp2_with fail
  clear z0 z1
  go_loopw [3, 4] (Ra1 w g Z (M : Int) A n c tl) (fun _ i _ => n - (intOf i).toNat)
  case atStart => exact ⟨0, Nat.zero_le _, rfl, S2.out⟩
  case round =>
    obtain ⟨k, hk, rfl, hst⟩ := hrel
    obtain ⟨Av, cv, rfl⟩ := ownK9_form hst.own
    have hlen := idxP_len 2 (fun t => decide (loopT t)) tl k
    obtain ⟨P, hP⟩ : ∃ P, idxP 2 (fun t => decide (loopT t)) tl k = P := ⟨_, rfl⟩
    rw [hP] at hst hlen ⊢
    obtain ⟨L, hL⟩ : ∃ L, P.length = L := ⟨_, rfl⟩
    rw [hL] at hst hlen ⊢
    have HS := Lib.hid hst
    have HPL := Lib.hid (And.intro hP hL)
    obtain ⟨z0, z1⟩ := hst.box
    clear hst hP hL
    by_cases hlt : k < n
    case pos =>
      have b1 : (k : Int) < n := by omega
      obtain ⟨bA, off, rfl, hat⟩ := (HT.out.below HS.out.below).2 (by omega)
      obtain ⟨c0', c1, c2⟩ := hat k hlt
      clear hat
      obtain ⟨x, hx⟩ : ∃ x, tl.getD k z3 = x := ⟨_, rfl⟩
      rw [hx] at c0' c1 c2
      have HX := Lib.hid hx
      clear hx
      obtain ⟨x0, x1, x2⟩ := x
      obtain ⟨w3, hw3⟩ : ∃ w3, wr.alloc (.cells #[.int .i64 x0, .int .i64 x1, .int .i64 x2] 41) = w3 := ⟨_, rfl⟩
      have b3 : Below wr.heap.size wr w3 := by rw [← hw3]; exact (Below.refl _ wr).alloc (Nat.le_refl _) _
      obtain ⟨q, hq⟩ : ∃ q, wr.heap.size = q := ⟨_, rfl⟩
      have q0 : w3.heap[q]? = some (.cells #[.int .i64 x0, .int .i64 x1, .int .i64 x2] 41 (0, 0)) := by rw [← hw3, ← hq]; exact heap_alloc_new wr _
      have q1 := cell_in q0 0
      have q2 := cell_in q0 1
      have q3 := cell_in q0 2
      simp only [List.getElem?_toArray, List.getElem?_cons_zero, List.getElem?_cons_succ] at q1 q2 q3
      have S3 := Lib.hid (HS.out.up b3)
      clear b3 q0
      have yes : loopT (x0, x1, x2) → idxP 2 (fun t => decide (loopT t)) tl (k + 1) = P ++ [(2, (k : Int), 0)] := fun h => by
        rw [idxP_yes (by rw [HX.out]; exact decide_eq_true h), HPL.out.1]
      by_cases h0 : x0 = x1
      · have HE := Lib.hid (yes (.inl h0))
        subst h0
        clear yes
        go_wp2_with (at_builtin; refine RwSt.wpl S3.out (2, (k : Int), 0) rfl (.tmp 47) (.tmp 50) rfl (by go_simp) rfl (by rw [HPL.out.2]; omega) ?_)
        intro A' c' w9 st9 _
        have ST := Lib.hid st9
        clear st9
        go_wp2_with fail
        refine ⟨⟨k + 1, by omega, by go_num, ?_⟩, by simp [intOf]; omega⟩
        rw [HE.out]
        exact ST.out
      by_cases h1 : x1 = x2
      · have HE := Lib.hid (yes (.inr (.inl h1)))
        subst h1
        clear yes
        go_wp2_with (at_builtin; refine RwSt.wpl S3.out (2, (k : Int), 0) rfl (.tmp 47) (.tmp 50) rfl (by go_simp) rfl (by rw [HPL.out.2]; omega) ?_)
        intro A' c' w9 st9 _
        have ST := Lib.hid st9
        clear st9
        go_wp2_with fail
        refine ⟨⟨k + 1, by omega, by go_num, ?_⟩, by simp [intOf]; omega⟩
        rw [HE.out]
        exact ST.out
      by_cases h2 : x2 = x0
      · have HE := Lib.hid (yes (.inr (.inr h2)))
        subst h2
        clear yes
        go_wp2_with (at_builtin; refine RwSt.wpl S3.out (2, (k : Int), 0) rfl (.tmp 47) (.tmp 50) rfl (by go_simp) rfl (by rw [HPL.out.2]; omega) ?_)
        intro A' c' w9 st9 _
        have ST := Lib.hid st9
        clear st9
        go_wp2_with fail
        refine ⟨⟨k + 1, by omega, by go_num, ?_⟩, by simp [intOf]; omega⟩
        rw [HE.out]
        exact ST.out
      have HE := Lib.hid (idxP_no (kd := 2) (q := fun t => decide (loopT t)) (tl := tl) (a := k) (by rw [HX.out]; exact decide_eq_false fun h => h.elim h0 fun h => h.elim h1 h2))
      have e0 : (x0 == x1) = false := by simp [h0]
      have e1 : (x1 == x2) = false := by simp [h1]
      have e2 : (x2 == x0) = false := by simp [h2]
      clear yes
      go_wp2_with fail
      refine ⟨⟨k + 1, by omega, by go_num, ?_⟩, by simp [intOf]; omega⟩
      rw [HE.out, HPL.out.1]
      exact S3.out
    obtain rfl : k = n := by omega
    have b1 : ¬ (k : Int) < k := by omega
    have hP2 : idxW 2 (fun t => decide (loopT t)) tl = P := by rw [← idxP_all, HT.out.1, HPL.out.1]
    have H1 := Lib.hid hP2
    clear hP2
    by_cases hz : L = 0
    case neg =>
      have hz1 : (0 : Int) < L := by omega
      have HE := Lib.hid (show wits p (M : Int) tl = P by
        have := HW.out 1 (fun j hj => by obtain rfl : j = 0 := (by omega); exact H0.out.1) (by show idxW 2 (fun t => decide (loopT t)) tl ≠ []; rw [H1.out]; intro e; rw [e] at HPL; exact hz HPL.out.2.symm)
        rw [this]; exact H1.out)
      go_wp2
      go_ret
      rw [HE.out]
      exact HS.out.told
    subst hz
    obtain rfl : P = [] := List.eq_nil_of_length_eq_zero HPL.out.2
    have G1 := Lib.hid (stage1 H1.out)
    have K3 := Lib.hid (r9pairs_any wr (M : Int) A k c tl 3 q9 (.inl ⟨rfl, rfl⟩) (HT.out.below HS.out.below) hn8)
    go_wp2_with fail
    refine K3.out.mono ?_
    rintro e w4 ⟨A4, c4, rfl, o4, b4⟩
    have s4 := HS.out.next o4 b4
    obtain ⟨ws4, h4⟩ : ∃ ws4, pairW 3 q9 tl = ws4 := ⟨_, rfl⟩
    rw [h4] at s4 ⊢
    obtain ⟨L4, hL4⟩ : ∃ L4, ws4.length = L4 := ⟨_, rfl⟩
    rw [hL4] at s4 ⊢
    have S4 := Lib.hid s4
    have H4 := Lib.hid (And.intro h4 hL4)
    obtain ⟨z0, z1⟩ := s4.box
    clear s4 o4 b4 h4 hL4
    by_cases hz : L4 = 0
    case neg =>
      have hz1 : (0 : Int) < L4 := by omega
      have HE := Lib.hid (show wits p (M : Int) tl = ws4 by
        have := HW.out 2 (fun j hj => by
          rcases (show j = 0 ∨ j = 1 by omega) with rfl | rfl
          · exact H0.out.1
          · exact H1.out) (by show pairW 3 q9 tl ≠ []; rw [H4.out.1]; intro e; rw [e] at H4; exact hz H4.out.2.symm)
        rw [this]; exact H4.out.1)
      go_wp2
      go_ret
      rw [HE.out]
      exact S4.out.told
    subst hz
    obtain rfl : ws4 = [] := List.eq_nil_of_length_eq_zero H4.out.2
    have K5 := Lib.hid (r9pairs_any w4 (M : Int) A k c tl 4 m9 (.inr ⟨rfl, rfl⟩) (HT.out.below S4.out.below) hn8)
    go_wp2_with fail
    refine K5.out.mono ?_
    rintro e w5 ⟨A5, c5, rfl, o5, b5⟩
    have s5 := S4.out.next o5 b5
    obtain ⟨ws5, h5⟩ : ∃ ws5, pairW 4 m9 tl = ws5 := ⟨_, rfl⟩
    rw [h5] at s5 ⊢
    obtain ⟨L5, hL5⟩ : ∃ L5, ws5.length = L5 := ⟨_, rfl⟩
    rw [hL5] at s5 ⊢
    have S5 := Lib.hid s5
    have H5 := Lib.hid (And.intro h5 hL5)
    obtain ⟨z0, z1⟩ := s5.box
    clear s5 o5 b5 h5 hL5
    by_cases hz : L5 = 0
    case neg =>
      have hz1 : (0 : Int) < L5 := by omega
      have HE := Lib.hid (show wits p (M : Int) tl = ws5 by
        have := HW.out 3 (fun j hj => by
          rcases (show j = 0 ∨ j = 1 ∨ j = 2 by omega) with rfl | rfl | rfl
          · exact H0.out.1
          · exact H1.out
          · exact H4.out.1) (by show pairW 4 m9 tl ≠ []; rw [H5.out.1]; intro e; rw [e] at H5; exact hz H5.out.2.symm)
        rw [this]; exact H5.out.1)
      go_wp2
      go_ret
      rw [HE.out]
      exact S5.out.told
    subst hz
    obtain rfl : ws5 = [] := List.eq_nil_of_length_eq_zero H5.out.2
    have hA := HS.out.below
    clear K3 K5 S4
    go_wp2_with fail
    clear z0 z1
    go_loopw [3, 6] (Ra2 w g Z (M : Int) A k c 5 (lonely tl) M) (fun _ i _ => M - (intOf i).toNat)
    case atStart => exact ⟨0, Nat.zero_le _, rfl, S5.out⟩
    case round =>
      clear S5 HS
      obtain ⟨a, ha, rfl, hst⟩ := hrel
      obtain ⟨Av6, cv6, rfl⟩ := ownK9_form hst.own
      have hlen := vertP_len 5 (lonely tl) a
      obtain ⟨P, hP⟩ : ∃ P, vertP 5 (lonely tl) a = P := ⟨_, rfl⟩
      rw [hP] at hst hlen ⊢
      obtain ⟨L, hL⟩ : ∃ L, P.length = L := ⟨_, rfl⟩
      rw [hL] at hst hlen ⊢
      have HS := Lib.hid hst
      have HP6 := Lib.hid (And.intro hP hL)
      obtain ⟨z0, z1⟩ := hst.box
      clear hst hP hL
      by_cases hlt : a < M
      case pos =>
        have b1 : (a : Int) < M := by omega
        go_wp2_with fail
        clear z0 z1
        go_loopw [7, 8] (Ra3 w g Z (M : Int) A k c tl (a : Int) (.slice Av6 L cv6) P) (fun _ i _ => k - (intOf i).toNat)
        case atStart => exact ⟨0, Nat.zero_le _, rfl, rfl, HS.out⟩
        case round =>
          clear HS
          obtain ⟨j, hj, rfl, rfl, hst⟩ := hrel
          have HS := Lib.hid hst
          obtain ⟨z0, z1⟩ := hst.box
          clear hst
          by_cases hlt : j < k
          case pos =>
            have b2 : (j : Int) < k := by omega
            have hsucc := usd_succ tl (a : Int) j
            obtain ⟨us, hus⟩ : ∃ us, usd tl (a : Int) j = us := ⟨_, rfl⟩
            rw [hus] at hsucc ⊢
            clear hus
            cases us
            · obtain ⟨bA, off, rfl, hat⟩ := (HT.out.below HS.out.below).2 (by omega)
              obtain ⟨c0', c1, c2⟩ := hat j hlt
              clear hat
              obtain ⟨x, hx⟩ : ∃ x, tl.getD j z3 = x := ⟨_, rfl⟩
              rw [hx] at c0' c1 c2 hsucc
              clear hx
              have HU := Lib.hid hsucc
              clear hsucc
              obtain ⟨x0, x1, x2⟩ := x
              have KH := Lib.hid (r9has_any wr x0 x1 x2 (a : Int))
              unfold DecTold at KH
              go_wp2_with fail
              refine KH.out.mono ?_
              rintro e w6 ⟨rfl, b6⟩
              have S6 := Lib.hid (HS.out.up b6)
              clear b6
              go_wp2_with fail
              exact ⟨⟨j + 1, by omega, by go_num, by rw [HU.out]; rfl, S6.out⟩, by simp [intOf]; omega⟩
            · have HU := Lib.hid hsucc
              clear hsucc
              go_wp2_with fail
              exact ⟨⟨j + 1, by omega, by go_num, by rw [HU.out]; rfl, HS.out⟩, by simp [intOf]; omega⟩
          obtain rfl : j = k := by omega
          have b2 : ¬ (j : Int) < j := by omega
          have hlo := usd_lonely tl (a : Int)
          rw [HT.out.1] at hlo
          obtain ⟨us, hus⟩ : ∃ us, usd tl (a : Int) j = us := ⟨_, rfl⟩
          rw [hus] at hlo ⊢
          clear hus
          cases us
          · have HE := Lib.hid (vertP_yes (kd := 5) (q := lonely tl) (a := a) (by rw [hlo]; rfl))
            clear hlo
            go_wp2_with (at_builtin; refine RwSt.wpl HS.out (5, (a : Int), 0) rfl (.tmp 93) (.tmp 96) rfl (by go_simp) rfl (by rw [HP6.out.2]; omega) ?_)
            intro A' c' w9 st9 _
            have ST := Lib.hid st9
            clear st9
            go_wp2_with fail
            refine ⟨⟨a + 1, by omega, by go_num, ?_⟩, by simp [intOf]; omega⟩
            rw [HE.out, HP6.out.1]
            exact ST.out
          · have HE := Lib.hid (vertP_no (kd := 5) (q := lonely tl) (a := a) (by rw [hlo]; rfl))
            clear hlo
            go_wp2_with fail
            refine ⟨⟨a + 1, by omega, by go_num, ?_⟩, by simp [intOf]; omega⟩
            rw [HE.out, HP6.out.1]
            exact HS.out
      obtain rfl : a = M := by omega
      have b1 : ¬ (a : Int) < a := by omega
      have hP6 : vertW 5 (lonely tl) (a : Int) = P := HP6.out.1
      have H6 := Lib.hid hP6
      clear hP6
      by_cases hz : L = 0
      case neg =>
        have hz1 : (0 : Int) < L := by omega
        have HE := Lib.hid (show wits p (a : Int) tl = P by
          have := HW.out 4 (fun j hj => by
            rcases (show j = 0 ∨ j = 1 ∨ j = 2 ∨ j = 3 by omega) with rfl | rfl | rfl | rfl
            · exact H0.out.1
            · exact H1.out
            · exact H4.out.1
            · exact H5.out.1) (by show vertW 5 (lonely tl) _ ≠ []; rw [H6.out]; intro e; rw [e] at HP6; exact hz HP6.out.2.symm)
          rw [this]; exact H6.out)
        go_wp2
        go_ret
        rw [HE.out]
        exact HS.out.told
      subst hz
      obtain rfl : P = [] := List.eq_nil_of_length_eq_zero HP6.out.2
      go_wp2_with fail
      clear z0 z1
      go_loopw [3, 9] (Ra2 w g Z (a : Int) A k c 6 p a) (fun _ i _ => a - (intOf i).toNat)
      case atStart => exact ⟨0, Nat.zero_le _, rfl, HS.out⟩
      case round =>
        clear HS
        obtain ⟨v, hv, rfl, hst⟩ := hrel
        obtain ⟨Av7, cv7, rfl⟩ := ownK9_form hst.own
        have hlen7 := vertP_len 6 p v
        obtain ⟨P, hP⟩ : ∃ P, vertP 6 p v = P := ⟨_, rfl⟩
        rw [hP] at hst hlen7 ⊢
        obtain ⟨L, hL⟩ : ∃ L, P.length = L := ⟨_, rfl⟩
        rw [hL] at hst hlen7 ⊢
        have HS := Lib.hid hst
        have HP7 := Lib.hid (And.intro hP hL)
        obtain ⟨z0, z1⟩ := hst.box
        clear hst hP hL
        by_cases hlt : v < a
        case pos =>
          have b1 : (v : Int) < a := by omega
          have KP := Lib.hid (r9pin_any wr (a : Int) A k c tl (v : Int) p HP.out G1.out (HT.out.below HS.out.below) hn8)
          have hpy := fun h => vertP_yes (kd := 6) (q := p) (a := v) h
          have hpn := fun h => vertP_no (kd := 6) (q := p) (a := v) h
          obtain ⟨pv, hpv⟩ : ∃ pv, p (v : Int) = pv := ⟨_, rfl⟩
          rw [hpv] at KP hpy hpn
          clear hpv
          cases pv
          · have HE := Lib.hid (hpn rfl)
            clear hpy hpn
            go_wp2_with fail
            refine KP.out.mono ?_
            rintro e w6 ⟨rfl, b6⟩
            have S6 := Lib.hid (HS.out.up b6)
            clear b6
            go_wp2_with fail
            refine ⟨⟨v + 1, by omega, by go_num, ?_⟩, by simp [intOf]; omega⟩
            rw [HE.out, HP7.out.1]
            exact S6.out
          · have HE := Lib.hid (hpy rfl)
            clear hpy hpn
            go_wp2_with fail
            refine KP.out.mono ?_
            rintro e w6 ⟨rfl, b6⟩
            have S6 := Lib.hid (HS.out.up b6)
            clear b6
            go_wp2_with (at_builtin; refine RwSt.wpl S6.out (6, (v : Int), 0) rfl (.tmp 111) (.tmp 114) rfl (by go_simp) rfl (by rw [HP7.out.2]; omega) ?_)
            intro A' c' w9 st9 _
            have ST := Lib.hid st9
            clear st9
            go_wp2_with fail
            refine ⟨⟨v + 1, by omega, by go_num, ?_⟩, by simp [intOf]; omega⟩
            rw [HE.out, HP7.out.1]
            exact ST.out
        obtain rfl : v = a := by omega
        have b1 : ¬ (v : Int) < v := by omega
        have HE := Lib.hid (show wits p (v : Int) tl = P by
          by_cases he : P = []
          · rw [he]
            refine stage_none fun j hj => ?_
            rcases (show j = 0 ∨ j = 1 ∨ j = 2 ∨ j = 3 ∨ j = 4 ∨ j = 5 by omega) with rfl | rfl | rfl | rfl | rfl | rfl
            · exact H0.out.1
            · exact H1.out
            · exact H4.out.1
            · exact H5.out.1
            · exact H6.out
            · exact (HP7.out.1).trans he
          · have := HW.out 5 (fun j hj => by
              rcases (show j = 0 ∨ j = 1 ∨ j = 2 ∨ j = 3 ∨ j = 4 by omega) with rfl | rfl | rfl | rfl | rfl
              · exact H0.out.1
              · exact H1.out
              · exact H4.out.1
              · exact H5.out.1
              · exact H6.out) (fun e => he ((HP7.out.1).symm.trans e))
            rw [this]; exact HP7.out.1)
        go_wp2
        go_ret
        rw [HE.out]
        exact HS.out.told
end Go.Proofs.Ytelbmjbjpgcdaaa
