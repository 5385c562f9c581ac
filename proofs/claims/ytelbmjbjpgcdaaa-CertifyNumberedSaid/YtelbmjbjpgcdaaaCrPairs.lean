/- Layer 9: the document's witnesses of two triangles: Twice, or Mirrored. -/
import Derived.Test.YtelbmjbjpgcdaaaCrIdx
import Derived.Test.YtelbmjbjpgcdaaaCrTw
import Derived.Test.YtelbmjbjpgcdaaaCeMirP
import Derived.Deep.DeepCutAuto
import Derived.BigRegion
namespace Go.Proofs.Ytelbmjbjpgcdaaa
open Go.RowKit

theorem pairP_len (kd : Int) (q : Tr → Tr → Bool) (tl : List Tr) (b a : Nat) : (pairP kd q tl b a).length ≤ b * b + a := by
  induction b generalizing a with
  | zero =>
    unfold pairP rowP
    simp only [List.range_zero, List.flatMap_nil, List.nil_append, List.length_map]
    have := List.length_filter_le (fun i => q (tl.getD i z3) (tl.getD 0 z3)) (List.range a)
    rw [List.length_range] at this
    omega
  | succ b ih =>
    have h1 := ih b
    rw [← pairP_next] at h1
    have h2 : (pairP kd q tl (b + 1) a).length = (pairP kd q tl (b + 1) 0).length + (rowP kd q tl (b + 1) a).length := by
      have e0 : rowP kd q tl (b + 1) 0 = [] := rfl
      unfold pairP
      rw [e0, List.append_nil, List.length_append]
    have h3 : (rowP kd q tl (b + 1) a).length ≤ a := by
      unfold rowP
      rw [List.length_map]
      have := List.length_filter_le (fun i => q (tl.getD i z3) (tl.getD (b + 1) z3)) (List.range a)
      rwa [List.length_range] at this
    have h4 : (b + 1) * (b + 1) = b * b + b + b + 1 := by rw [Nat.mul_add, Nat.add_mul]; omega
    omega
def PaOut (w : World) (g Z : Nat) (N : Int) (A : Option Addr) (n c : Nat) (kd : Int) (q : Tr → Tr → Bool) (tl : List Tr) (v i : Value) (wr : World) : Prop := ∃ k : Nat, k ≤ n ∧ i = .int .i64 (k : Int) ∧ RwSt w wr g Z N A n c v (pairP kd q tl k 0)
def PaIn (w : World) (g Z : Nat) (N : Int) (A : Option Addr) (n c : Nat) (kd : Int) (q : Tr → Tr → Bool) (tl : List Tr) (k : Nat) (v i : Value) (wr : World) : Prop := ∃ a : Nat, a ≤ k ∧ i = .int .i64 (a : Int) ∧ RwSt w wr g Z N A n c v (pairP kd q tl k a)
def PaCut (w : World) (g Z : Nat) (N : Int) (A : Option Addr) (n c : Nat) (v : Value) (l : List Wt) (t u : Tr) (t8 t9 : Value) (wr : World) : Prop := ∃ p q, t8 = .pointer (some ⟨p, 0, none⟩) ∧ t9 = .pointer (some ⟨q, 0, none⟩) ∧ RwSt w wr g Z N A n c v l ∧
  wr.heap[p]? = some (.cells #[.int .i64 t.1, .int .i64 t.2.1, .int .i64 t.2.2] 41 (0, 0)) ∧ wr.heap[q]? = some (.cells #[.int .i64 u.1, .int .i64 u.2.1, .int .i64 u.2.2] 41 (0, 0))

abbrev triO9 (t : Tr) : Obj := .cells #[.int .i64 t.1, .int .i64 t.2.1, .int .i64 t.2.2] 41
theorem pa_one {w wr : World} {g Z : Nat} {N : Int} {A : Option Addr} {n c : Nat} {v : Value} {l : List Wt} (h : RwSt w wr g Z N A n c v l) (t u : Tr) : PaCut w g Z N A n c v l t u (.pointer (some ⟨wr.heap.size, 0, none⟩)) (.pointer (some ⟨wr.heap.size + 1, 0, none⟩)) ((wr.alloc (triO9 t)).alloc (triO9 u)).drew :=
  ⟨_, _, rfl, rfl, h.up (upd (up1 (up1 (Below.refl _ wr) _) _)), heap_alloc2_old wr (triO9 t) (triO9 u), heap_alloc2_new wr (triO9 t) (triO9 u)⟩
theorem pa_two {w wr : World} {g Z : Nat} {N : Int} {A : Option Addr} {n c : Nat} {v : Value} {l : List Wt} (h : RwSt w wr g Z N A n c v l) (t u : Tr) : PaCut w g Z N A n c v l t u (.pointer (some ⟨wr.heap.size + 1, 0, none⟩)) (.pointer (some ⟨wr.heap.size, 0, none⟩)) ((wr.alloc (triO9 u)).alloc (triO9 t)).drew :=
  ⟨_, _, rfl, rfl, h.up (upd (up1 (up1 (Below.refl _ wr) _) _)), heap_alloc2_new wr (triO9 u) (triO9 t), heap_alloc2_old wr (triO9 u) (triO9 t)⟩
set_option maxHeartbeats 8000000 in
set_option maxRecDepth 100000 in
theorem r9pairs_any (w : World) (N : Int) (A : Option Addr) (n c : Nat) (tl : List Tr) (kd : Int) (q : Tr → Tr → Bool) (hk : (kd = 3 ∧ q = q9) ∨ (kd = 4 ∧ q = m9)) (ht : T3 w A n tl) (hn : n ≤ 8192) : Calls Try.prog 27 #[.agg #[.int .i64 N, .slice A n c], .int .i64 kd] w (RwTold w (pairW kd q tl)) := by
  obtain ⟨w1, hw1⟩ : ∃ w1, w.alloc (.cells #[.int .i64 N, .slice A n c] 24) = w1 := ⟨_, rfl⟩
  obtain ⟨g, hg⟩ : ∃ g, w.heap.size = g := ⟨_, rfl⟩
  have b1 : Below w.heap.size w w1 := by rw [← hw1]; exact (Below.refl _ w).alloc (Nat.le_refl _) _
  have x1 : Bx w1 g N A n c := by rw [← hw1, ← hg]; exact Bx.made w N A n c
  have HT := Lib.hid ht
  have hw : pairW kd q tl = pairP kd q tl n 0 := by rw [← ht.1, pairP_all]
  rw [hw]
  have S1 := Lib.hid (RwSt.start b1 x1)
  obtain ⟨Z, hZ⟩ : ∃ Z, w1.heap.size = Z := ⟨_, rfl⟩
  rw [hZ] at S1
  have HK := Lib.hid hk
  clear b1 x1 ht hw hk
  go_enter Try.func27, Try.ntmps27
  go_wp2_with fail
  clear hw1 hg hZ
  go_loopw [5, 6] (PaOut w g Z N A n c kd q tl) (fun _ i _ => n - (intOf i).toNat)
  case atStart => exact ⟨0, Nat.zero_le _, rfl, S1.out⟩
  case round =>
    obtain ⟨k, hk, rfl, hst⟩ := hrel
    obtain ⟨Av, cv, rfl⟩ := ownK9_form hst.own
    obtain ⟨P, hP⟩ : ∃ P, pairP kd q tl k 0 = P := ⟨_, rfl⟩
    rw [hP] at hst ⊢
    obtain ⟨L, hL⟩ : ∃ L, P.length = L := ⟨_, rfl⟩
    rw [hL] at hst ⊢
    have HS := Lib.hid hst
    have HPL := Lib.hid (And.intro hP hL)
    have z1 := hst.bx.c1
    clear hst hP hL
    by_cases hlt : k < n
    case neg =>
      obtain rfl : k = n := by omega
      have b1 : ¬ (k : Int) < k := by omega
      go_wp2
      go_ret
      have := HS.out.told
      rw [← HPL.out.1] at this
      exact this
    have b1 : (k : Int) < n := by omega
    obtain ⟨u, hu⟩ : ∃ u, tl.getD k z3 = u := ⟨_, rfl⟩
    have HU := Lib.hid hu
    clear hu
    go_wp2_with fail
    go_loopw [5, 7] (PaIn w g Z N A n c kd q tl k) (fun _ i _ => k - (intOf i).toNat)
    case atStart => exact ⟨0, Nat.zero_le _, rfl, by rw [HPL.out.1]; exact HS.out⟩
    case round =>
      obtain ⟨a, ha, rfl, hst⟩ := hrel
      obtain ⟨Aw, cw, rfl⟩ := ownK9_form hst.own
      have hlen := pairP_len kd q tl k a
      obtain ⟨P2, hP2⟩ : ∃ P2, pairP kd q tl k a = P2 := ⟨_, rfl⟩
      rw [hP2] at hst hlen ⊢
      obtain ⟨L2, hL2⟩ : ∃ L2, P2.length = L2 := ⟨_, rfl⟩
      rw [hL2] at hst hlen ⊢
      have S9 := Lib.hid hst
      have HPL2 := Lib.hid (And.intro hP2 hL2)
      have z1 := hst.bx.c1
      have hkk : k * k ≤ 8192 * 8192 := Nat.mul_le_mul (by omega) (by omega)
      have HLN := Lib.hid (show L2 ≤ 100000000 by omega)
      clear hst hP2 hL2 hlen hkk
      by_cases hak : a < k
      case neg =>
        obtain rfl : a = k := by omega
        have b2 : ¬ (a : Int) < a := by omega
        go_wp2_with fail
        refine ⟨⟨a + 1, by omega, by go_num, ?_⟩, by simp [intOf]; omega⟩
        rw [pairP_next, HPL2.out.1]
        exact S9.out
      have b2 : (a : Int) < k := by omega
      have b3 : (a : Int) < n := by omega
      have m0 : 0 ≤ (a : Int) := by omega
      obtain ⟨bA, off, rfl, hat⟩ := (HT.out.below S9.out.below).2 (by omega)
      obtain ⟨c0, c1, c2⟩ := hat a (by omega)
      obtain ⟨d0, d1, d2⟩ := hat k hlt
      obtain ⟨t, ht⟩ : ∃ t, tl.getD a z3 = t := ⟨_, rfl⟩
      rw [ht] at c0 c1 c2
      rw [HU.out] at d0 d1 d2
      have HTt := Lib.hid ht
      clear hat ht
      obtain ⟨t0, t1, t2⟩ := t
      obtain ⟨u0, u1, u2⟩ := u
      have HF := Lib.hid (fun W (b' : Below wr.heap.size wr W) => show W.cell? ⟨g, 1, none⟩ = some (.slice (some ⟨bA, off, none⟩) n c) ∧ W.cell? ⟨bA, off + a * 3, none⟩ = some (.int .i64 t0) ∧ W.cell? ⟨bA, off + a * 3 + 1, none⟩ = some (.int .i64 t1) ∧ W.cell? ⟨bA, off + a * 3 + 2, none⟩ = some (.int .i64 t2) ∧ W.cell? ⟨bA, off + k * 3, none⟩ = some (.int .i64 u0) ∧ W.cell? ⟨bA, off + k * 3 + 1, none⟩ = some (.int .i64 u1) ∧ W.cell? ⟨bA, off + k * 3 + 2, none⟩ = some (.int .i64 u2) from
        ⟨(S9.out.bx.below b').c1, (b'.cell (World.block_lt_of_cell? wr _ c0)).trans c0, (b'.cell (World.block_lt_of_cell? wr _ c1)).trans c1, (b'.cell (World.block_lt_of_cell? wr _ c2)).trans c2, (b'.cell (World.block_lt_of_cell? wr _ d0)).trans d0, (b'.cell (World.block_lt_of_cell? wr _ d1)).trans d1, (b'.cell (World.block_lt_of_cell? wr _ d2)).trans d2⟩)
      have bd := upd (Below.refl _ wr)
      go_upto_region 8 with fail
      go_cut [8, 9] (PaCut w g Z N (some ⟨bA, off, none⟩) n c (.slice Aw L2 cw) P2 (t0, t1, t2) (u0, u1, u2))
      case first =>
        go_wp2_with fail
        go_region_held3 (fun W => W.cell? ⟨g, 1, none⟩ = some (.slice (some ⟨bA, off, none⟩) n c) ∧ W.cell? ⟨bA, off + a * 3, none⟩ = some (.int .i64 t0) ∧ W.cell? ⟨bA, off + a * 3 + 1, none⟩ = some (.int .i64 t1) ∧ W.cell? ⟨bA, off + a * 3 + 2, none⟩ = some (.int .i64 t2) ∧ W.cell? ⟨bA, off + k * 3, none⟩ = some (.int .i64 u0) ∧ W.cell? ⟨bA, off + k * 3 + 1, none⟩ = some (.int .i64 u1) ∧ W.cell? ⟨bA, off + k * 3 + 2, none⟩ = some (.int .i64 u2))
          (first | exact HF.out _ (Below.refl _ _) | exact HF.out _ bd | exact HF.out _ (up1 bd _) | exact HF.out _ (up1 (up1 bd _) _) | fail)
          (fail)
        all_goals go_wp2_with fail
        all_goals go_meet
        · exact pa_one S9.out (t0, t1, t2) (u0, u1, u2)
        · exact pa_two S9.out (t0, t1, t2) (u0, u1, u2)
      case rest =>
        obtain ⟨p, qb, rfl, rfl, st1, hp, hq⟩ := hcut
        have p0 : wc.cell? ⟨p, 0, none⟩ = some (.int .i64 t0) := by rw [cell_in hp]; rfl
        have p1 : wc.cell? ⟨p, 1, none⟩ = some (.int .i64 t1) := by rw [cell_in hp]; rfl
        have p2 : wc.cell? ⟨p, 2, none⟩ = some (.int .i64 t2) := by rw [cell_in hp]; rfl
        have q0 : wc.cell? ⟨qb, 0, none⟩ = some (.int .i64 u0) := by rw [cell_in hq]; rfl
        have q1 : wc.cell? ⟨qb, 1, none⟩ = some (.int .i64 u1) := by rw [cell_in hq]; rfl
        have q2 : wc.cell? ⟨qb, 2, none⟩ = some (.int .i64 u2) := by rw [cell_in hq]; rfl
        have ST1 := Lib.hid st1
        have HC := Lib.hid (fun W (hb : Below wc.heap.size wc W) => show (W.cell? ⟨p, 0, none⟩ = some (.int .i64 t0) ∧ W.cell? ⟨p, 1, none⟩ = some (.int .i64 t1) ∧ W.cell? ⟨p, 2, none⟩ = some (.int .i64 t2)) ∧ W.cell? ⟨qb, 0, none⟩ = some (.int .i64 u0) ∧ W.cell? ⟨qb, 1, none⟩ = some (.int .i64 u1) ∧ W.cell? ⟨qb, 2, none⟩ = some (.int .i64 u2) from
          ⟨⟨(hb.cell (World.block_lt_of_cell? wc _ p0)).trans p0, (hb.cell (World.block_lt_of_cell? wc _ p1)).trans p1, (hb.cell (World.block_lt_of_cell? wc _ p2)).trans p2⟩, (hb.cell (World.block_lt_of_cell? wc _ q0)).trans q0, (hb.cell (World.block_lt_of_cell? wc _ q1)).trans q1, (hb.cell (World.block_lt_of_cell? wc _ q2)).trans q2⟩)
        clear st1 hp hq bd
        have KT := Lib.hid (r9twice_any wc t0 t1 t2 u0 u1 u2)
        have KH0 := Lib.hid (r9has_any wc u0 u1 u2 t0)
        have KH1 := Lib.hid (fun W => r9has_any W u0 u1 u2 t1)
        have KH2 := Lib.hid (fun W => r9has_any W u0 u1 u2 t2)
        unfold DecTold at KT KH0 KH1 KH2
        rcases HK.out with ⟨hk3, hqq⟩ | ⟨hk4, hqq⟩
        · have f3 : (kd == 3) = true := by rw [beq_iff_eq]; exact hk3
          have f4 : (kd == 4) = false := by rw [beq_eq_false_iff_ne]; omega
          have hqv : q (t0, t1, t2) (u0, u1, u2) = decide (twice (t0, t1, t2) (u0, u1, u2)) := by rw [hqq]
          obtain ⟨d, hd⟩ : ∃ d, decide (twice (t0, t1, t2) (u0, u1, u2)) = d := ⟨_, rfl⟩
          rw [hd] at KT
          have hq9 := hqv.trans hd
          clear hk3 hqq hqv hd
          go_wp2_with fail
          refine KT.out.mono ?_
          rintro e w3 ⟨rfl, b9⟩
          have Bw3 := Lib.hid (b9)
          clear b9
          obtain ⟨⟨p0, p1, p2⟩, q0, q1, q2⟩ := HC.out w3 Bw3.out
          cases d
          · have E1 := Lib.hid (pairP_no (kd := kd) (q := q) (tl := tl) (b := k) (a := a) (by rw [HTt.out, HU.out]; exact hq9))
            clear hq9
            go_wp2_with fail
            refine ⟨⟨a + 1, by omega, by go_num, ?_⟩, by simp [intOf]; omega⟩
            rw [E1.out, HPL2.out.1]
            exact ST1.out.up Bw3.out
          · have E1 := Lib.hid (pairP_yes (kd := kd) (q := q) (tl := tl) (b := k) (a := a) (by rw [HTt.out, HU.out]; exact hq9))
            clear hq9
            go_wp2_with (at_builtin; refine RwSt.wpl (ST1.out.up Bw3.out) (kd, (a : Int), (k : Int)) rfl (.tmp 61) (.tmp 66) rfl (by go_simp) rfl (by rw [HPL2.out.2]; exact HLN.out) ?_)
            intro A' c' w9 st9 _
            have ST := Lib.hid st9
            clear st9
            go_wp2_with fail
            refine ⟨⟨a + 1, by omega, by go_num, ?_⟩, by simp [intOf]; omega⟩
            rw [E1.out, HPL2.out.1]
            exact ST.out
        · have f3 : (kd == 3) = false := by rw [beq_eq_false_iff_ne]; omega
          have f4 : (kd == 4) = true := by rw [beq_iff_eq]; exact hk4
          obtain ⟨e0, h0⟩ : ∃ e0, decide (hasV (u0, u1, u2) t0) = e0 := ⟨_, rfl⟩
          obtain ⟨e1, h1⟩ : ∃ e1, decide (hasV (u0, u1, u2) t1) = e1 := ⟨_, rfl⟩
          obtain ⟨e2, h2⟩ : ∃ e2, decide (hasV (u0, u1, u2) t2) = e2 := ⟨_, rfl⟩
          have hq9 : q (t0, t1, t2) (u0, u1, u2) = (e0 && (e1 && e2)) := by
            rw [hqq, ← h0, ← h1, ← h2]
            refine (bool_dec ?_).symm
            simp only [Bool.and_eq_true, decide_eq_true_eq]
            exact Iff.rfl
          rw [h0] at KH0
          simp only [h1] at KH1
          simp only [h2] at KH2
          clear hk4 hqq h0 h1 h2
          go_wp2_with fail
          refine KH0.out.mono ?_
          rintro e w3 ⟨rfl, b9⟩
          have Bw3 := Lib.hid (b9)
          clear b9
          obtain ⟨⟨p0, p1, p2⟩, q0, q1, q2⟩ := HC.out w3 Bw3.out
          cases e0
          · simp only [Bool.false_and] at hq9
            have E1 := Lib.hid (pairP_no (kd := kd) (q := q) (tl := tl) (b := k) (a := a) (by rw [HTt.out, HU.out]; exact hq9))
            clear hq9
            go_wp2_with fail
            refine ⟨⟨a + 1, by omega, by go_num, ?_⟩, by simp [intOf]; omega⟩
            rw [E1.out, HPL2.out.1]
            exact ST1.out.up Bw3.out
          simp only [Bool.true_and] at hq9
          go_wp2_with fail
          refine (KH1.out w3).mono ?_
          rintro e w4 ⟨rfl, b9⟩
          have Bw4 := Lib.hid (Bw3.out.trans (b9.mono Bw3.out.size))
          clear b9
          obtain ⟨⟨p0, p1, p2⟩, q0, q1, q2⟩ := HC.out w4 Bw4.out
          cases e1
          · simp only [Bool.false_and] at hq9
            have E1 := Lib.hid (pairP_no (kd := kd) (q := q) (tl := tl) (b := k) (a := a) (by rw [HTt.out, HU.out]; exact hq9))
            clear hq9
            go_wp2_with fail
            refine ⟨⟨a + 1, by omega, by go_num, ?_⟩, by simp [intOf]; omega⟩
            rw [E1.out, HPL2.out.1]
            exact ST1.out.up Bw4.out
          simp only [Bool.true_and] at hq9
          go_wp2_with fail
          refine (KH2.out w4).mono ?_
          rintro e w5 ⟨rfl, b9⟩
          have Bw5 := Lib.hid (Bw4.out.trans (b9.mono Bw4.out.size))
          clear b9
          obtain ⟨⟨p0, p1, p2⟩, q0, q1, q2⟩ := HC.out w5 Bw5.out
          cases e2
          · have E1 := Lib.hid (pairP_no (kd := kd) (q := q) (tl := tl) (b := k) (a := a) (by rw [HTt.out, HU.out]; exact hq9))
            clear hq9
            go_wp2_with fail
            refine ⟨⟨a + 1, by omega, by go_num, ?_⟩, by simp [intOf]; omega⟩
            rw [E1.out, HPL2.out.1]
            exact ST1.out.up Bw5.out
          · have E1 := Lib.hid (pairP_yes (kd := kd) (q := q) (tl := tl) (b := k) (a := a) (by rw [HTt.out, HU.out]; exact hq9))
            clear hq9
            go_wp2_with (at_builtin; refine RwSt.wpl (ST1.out.up Bw5.out) (kd, (a : Int), (k : Int)) rfl (.tmp 61) (.tmp 66) rfl (by go_simp) rfl (by rw [HPL2.out.2]; exact HLN.out) ?_)
            intro A' c' w9 st9 _
            have ST := Lib.hid st9
            clear st9
            go_wp2_with fail
            refine ⟨⟨a + 1, by omega, by go_num, ?_⟩, by simp [intOf]; omega⟩
            rw [E1.out, HPL2.out.1]
            exact ST.out
end Go.Proofs.Ytelbmjbjpgcdaaa
