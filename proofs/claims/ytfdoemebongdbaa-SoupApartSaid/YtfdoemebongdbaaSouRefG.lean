/- The document's answer for layer 8: edges. -/
import Derived.Test.YtfdoemebongdbaaSouRefE
namespace Go.Proofs.Ytfdoemebongdbaa
open Go.RowKit

/-- Edges being put together: ascending, just those of S. -/
structure QSt (w wr : World) (g : Nat) (N : Int) (A : Option Addr) (n c : Nat) (S L : List Ed) (v : Value) : Prop where
  below : Below w.heap.size w wr
  bx : Bx wr g N A n c
  own : wr.ownsRow w.heap.size 54 2 v L.length (ints (flat2 L))
  asc : L.Pairwise ltE
  mem : ∀ e, e ∈ L ↔ e ∈ S
  len : L.length ≤ S.length
  gw : w.heap.size ≤ g
theorem QSt.same {w wr : World} {g : Nat} {N : Int} {A : Option Addr} {n c : Nat} {S L : List Ed} {v : Value} {e : Ed} (h : QSt w wr g N A n c S L v) (he : e ∈ L) : QSt w wr g N A n c (S ++ [e]) L v := by
  refine ⟨h.below, h.bx, h.own, h.asc, fun z => ?_, by rw [List.length_append]; exact Nat.le_trans h.len (by omega), h.gw⟩
  rw [h.mem, List.mem_append, List.mem_singleton]
  constructor
  · exact .inl
  · rintro (h1 | rfl)
    · exact h1
    · exact (h.mem _).1 he
theorem QSt.ins {w wr w9 : World} {g p : Nat} {N : Int} {A : Option Addr} {n c : Nat} {S L : List Ed} {v v' : Value} {e : Ed} (h : QSt w wr g N A n c S L v) (b : Below wr.heap.size wr w9) (hi : (L.take p ++ e :: L.drop p).Pairwise ltE)
    (own : w9.ownsRow wr.heap.size 54 2 v' (L.take p ++ e :: L.drop p).length (ints (flat2 (L.take p ++ e :: L.drop p)))) : QSt w w9 g N A n c (S ++ [e]) (L.take p ++ e :: L.drop p) v' := by
  refine ⟨h.below.trans (b.mono h.below.size), h.bx.below b, ownK_base own h.below.size, hi, fun z => ?_, ?_, h.gw⟩
  · rw [ins_mem, h.mem, List.mem_append, List.mem_singleton]
  · have := h.len
    simp only [List.length_append, List.length_cons, List.length_take, List.length_drop, List.length_nil]
    omega
def Q1At (w : World) (g : Nat) (N : Int) (A : Option Addr) (n c : Nat) (l : List Tr) (v i : Value) (wr : World) : Prop := ∃ k L, k ≤ n ∧ i = .int .i64 ((k : Nat) : Int) ∧ QSt w wr g N A n c (allSides (l.take k)) L v
def Q2At (w : World) (g : Nat) (N : Int) (A : Option Addr) (n c : Nat) (S : List Ed) (t : Tr) (v i : Value) (wr : World) : Prop := ∃ j L, j ≤ 3 ∧ i = .int .i64 ((j : Nat) : Int) ∧ QSt w wr g N A n c (S ++ (sides t).take j) L v
def Q3At (w : World) (L : List Ed) (e : Ed) (i : Value) (wr : World) : Prop := w = wr ∧ ∃ p, p ≤ L.length ∧ i = .int .i64 ((p : Nat) : Int) ∧ ∀ j, j < p → ltE (L.getD j z2) e

set_option maxHeartbeats 8000000 in
set_option maxRecDepth 100000 in
theorem redges_no (w : World) (N : Int) (A : Option Addr) (n c : Nat) (l : List Tr) (h : T3 w A n l) (hn : n ≤ 1000000) (hf : ¬ Fit N l) :
    Calls Try.prog 31 #[.agg #[.int .i64 N, .slice A n c]] w fun e w' => e = .returned (.slice none 0 0) ∧ Below w.heap.size w w' := by
  have HL := Lib.hid h
  have HF := Lib.hid hf
  have K := Lib.hid (fun (w' : World) (h : T3 w' A n l) => rfits_any w' N A n c l h (by omega))
  clear h hf
  have B0 := Lib.hid ((Below.refl _ w).alloc (Nat.le_refl _) (.cells #[.int .i64 N, .slice A n c] 24))
  go_enter Try.func31, Try.ntmps31
  go_wp2_with fail
  refine (K.out _ (HL.out.below B0.out)).mono ?_
  rintro e w1 ⟨rfl, b1⟩
  have hd := decide_eq_false HF.out
  simp only [hd]
  have B1 := Lib.hid (up2 B0.out b1)
  clear b1 hd
  go_wp2_with fail
  go_ret
  exact ⟨rfl, B1.out⟩

set_option maxHeartbeats 8000000 in
set_option maxRecDepth 100000 in
theorem redges_any (w : World) (N : Int) (A : Option Addr) (n c : Nat) (l : List Tr) (h : T3 w A n l) (hn : n ≤ 8192) (hf : Fit N l) :
    Calls Try.prog 31 #[.agg #[.int .i64 N, .slice A n c]] w (EdgesTold w l) := by
  have HL := Lib.hid h
  have HF := Lib.hid hf
  have K := Lib.hid (fun (w' : World) (h : T3 w' A n l) => rfits_any w' N A n c l h (by omega))
  clear h hf
  have B0 := Lib.hid ((Below.refl _ w).alloc (Nat.le_refl _) (.cells #[.int .i64 N, .slice A n c] 24))
  have X0 := Lib.hid (Bx.made w N A n c)
  go_enter Try.func31, Try.ntmps31
  go_wp2_with fail
  refine (K.out _ (HL.out.below B0.out)).mono ?_
  rintro e w1 ⟨rfl, b1⟩
  have hd := decide_eq_true HF.out
  simp only [hd]
  have S0 : QSt w w1 w.heap.size N A n c (allSides (l.take 0)) [] (.slice none 0 0) := ⟨up2 B0.out b1, X0.out.below b1, World.ownsRow_nil _ _ _ _, List.Pairwise.nil, fun e => by simp [allSides], by simp, Nat.le_refl _⟩
  have SS := Lib.hid S0
  clear b1 hd S0
  go_wp2_with fail
  obtain ⟨g, hg⟩ : ∃ g, w.heap.size = g := ⟨_, rfl⟩
  have HG := Lib.hid hg
  rw [hg] at SS
  simp only [hg]
  clear hg
  go_loopw [3, 4] (Q1At w g N A n c l) (fun _ i _ => n - (intOf i).toNat)
  case atStart => exact ⟨0, [], Nat.zero_le _, rfl, SS.out⟩
  case round =>
    obtain ⟨k, L, hk, rfl, hst⟩ := hrel
    have HS := Lib.hid hst
    have e1 := hst.bx.c1
    clear hst
    by_cases hlt : k < n
    · have b1 : (k : Int) < n := by omega
      obtain ⟨b, off, rfl, hat⟩ := (HL.out.below HS.out.below).2 (by omega)
      have hkl : k < l.length := by rw [HL.out.1]; exact hlt
      have E := take_succ_getD3 l k hkl
      obtain ⟨x, hx⟩ : ∃ x, l.getD k z3 = x := ⟨_, rfl⟩
      rw [hx] at E
      have HE := Lib.hid (And.intro E hx)
      have hSl : (allSides (l.take k)).length = 3 * k := by rw [allSides_len, List.length_take]; omega
      clear hx hkl E hat
      obtain ⟨x0, x1, x2⟩ := x
      obtain ⟨S, hS⟩ : ∃ S, allSides (l.take k) = S := ⟨_, rfl⟩
      rw [hS] at HS hSl
      have HSS := Lib.hid hS
      clear hS
      go_wp2_with fail
      go_loopw [3, 5] (Q2At w g N (some ⟨b, off, none⟩) n c S (x0, x1, x2)) (fun _ i _ => 3 - (intOf i).toNat)
      case atStart => exact ⟨0, L, by omega, rfl, by simpa using HS.out⟩
      case round =>
        obtain ⟨j, L, hj, rfl, hst⟩ := hrel
        have HT := Lib.hid hst
        have e1 := hst.bx.c1
        obtain ⟨c0, c1, c2⟩ := (HL.out.below hst.below).at k hlt
        rw [HE.out.2] at c0 c1 c2
        obtain ⟨Av, cv, rfl⟩ := ownK_form hst.own
        clear hst
        by_cases hj3 : j < 3
        · obtain ⟨j', hj'⟩ : ∃ j' : Nat, (j + 1) % 3 = j' := ⟨_, rfl⟩
          have w1' : IntKind.i64.wrap ((j : Int) + 1) = (j : Int) + 1 := IntWalk.i64_in _ (by omega)
          have t1 : ((j : Int) + 1).tmod 3 = (j' : Int) := by rw [Int.tmod_eq_emod_of_nonneg (by omega)]; omega
          have bj : (j : Int) < 3 := by omega
          have bj' : (j' : Int) < 3 := by omega
          obtain ⟨xa, xb, da, db, hside⟩ := side_at (k := k) hj3 hj' c0 c1 c2
          have HSN := Lib.hid (show S ++ (sides (x0, x1, x2)).take (j + 1) = (S ++ (sides (x0, x1, x2)).take j) ++ [nrm xa xb] by rw [hside, List.append_assoc])
          have hLen := HT.out.len
          rw [List.length_append] at hLen
          have hl3 := List.length_take_le j (sides (x0, x1, x2))
          clear hj' c0 c1 c2 hside
          obtain ⟨Ln, hLn⟩ : ∃ Ln, L.length = Ln := ⟨_, rfl⟩
          have HLn := Lib.hid hLn
          rw [hLn] at hLen
          simp only [hLn]
          clear hLn
          go_wp2_with fail
          go_quiet (fail)
          have HTq : QSt w (wr.drewN nq) g N (some ⟨b, off, none⟩) n c (S ++ (sides (x0, x1, x2)).take j) L (.slice Av L.length cv) := ⟨HT.out.below.trans (Reading.below ⟨nq, rfl⟩), HT.out.bx, HT.out.own, HT.out.asc, HT.out.mem, HT.out.len, HT.out.gw⟩
          clear HT da db e1
          generalize wr.drewN nq = wq at *
          have FH := Lib.hid ((FE.of_own (by have := HTq.own; rwa [HLn.out] at this)).1)
          have hcvn : Ln ≤ cv := (FE.of_own (by have := HTq.own; rwa [HLn.out] at this)).2
          have HT := Lib.hid HTq
          clear HTq
          by_cases hab : xb < xa
          · have gab : xb < xa := hab
            have HN := Lib.hid (show nrm xa xb = (xb, xa) by unfold nrm; rw [Int.min_eq_right (by omega), Int.max_eq_left (by omega)])
            go_wp2_with fail
            go_loopw [8] (Q3At wq L (xb, xa)) (fun i _ => L.length - (intOf i).toNat)
            case atStart => exact ⟨rfl, 0, Nat.zero_le _, rfl, fun i hi => absurd hi (by omega)⟩
            case round =>
              obtain ⟨rfl, p, hp, rfl, hb3⟩ := hrel
              have HB3 := Lib.hid hb3
              clear hb3
              have hpn : p ≤ Ln := by rw [← HLn.out]; exact hp
              by_cases hpl : p < Ln
              · have bp : (p : Int) < Ln := by omega
                obtain ⟨qq, hqq⟩ := edge_at HT.out.own HLn.out (by omega)
                obtain ⟨rfl, hcell⟩ := hqq
                obtain ⟨o0, o1⟩ := hcell p hpl
                clear hcell
                obtain ⟨yy, hyy⟩ : ∃ y, L.getD p z2 = y := ⟨_, rfl⟩
                have HY := Lib.hid hyy
                rw [hyy] at o0 o1
                clear hyy
                obtain ⟨y0, y1⟩ := yy
                by_cases h1 : y0 < xb
                · go_wp2_with fail
                  refine ⟨⟨rfl, p + 1, by rw [HLn.out]; omega, by go_num, fun i hi => ?_⟩, by simp [intOf, HLn.out]; omega⟩
                  rcases Nat.lt_or_ge i p with h3 | h3
                  · exact HB3.out i h3
                  · obtain rfl : i = p := by omega
                    rw [HY.out]; exact .inl h1
                · by_cases h2 : y0 = xb
                  · have f1 : (y0 == xb) = true := by simpa using h2
                    have H2 := Lib.hid h2
                    clear h2
                    by_cases h3 : y1 < xa
                    · go_wp2_with fail
                      refine ⟨⟨rfl, p + 1, by rw [HLn.out]; omega, by go_num, fun i hi => ?_⟩, by simp [intOf, HLn.out]; omega⟩
                      rcases Nat.lt_or_ge i p with h4 | h4
                      · exact HB3.out i h4
                      · obtain rfl : i = p := by omega
                        rw [HY.out]; exact .inr ⟨H2.out, h3⟩
                    · have gd := fun op u v => run_eqGuard_agg (P := Try.prog) wq op 54 u v #[.int .i64 y0, .int .i64 y1] #[.int .i64 xb, .int .i64 xa] Try.eqGuardType54
                      have nq := eqIn2 wq y0 y1 xb xa
                      by_cases h5 : y1 = xa
                      · rw [(eq2_iff (y0, y1) (xb, xa)).2 (Prod.ext H2.out h5)] at nq
                        have H5 := Lib.hid h5
                        clear h5
                        go_wp2_with fail
                        refine ⟨⟨j + 1, L, by omega, by go_num, ?_⟩, by simp [intOf]; omega⟩
                        have hin : (xb, xa) ∈ L := by rw [show (xb, xa) = (y0, y1) from (Prod.ext H2.out H5.out).symm, ← HY.out]; rw [List.getD_eq_getElem?_getD, List.getElem?_eq_getElem (show p < L.length by rw [HLn.out]; exact hpl)]; exact List.getElem_mem _
                        rw [HSN.out, HN.out]
                        have := HT.out.same hin
                        rwa [HLn.out] at this
                      · rw [eq2_no (x := (y0, y1)) (y := (xb, xa)) (fun e => h5 (congrArg Prod.snd e))] at nq
                        have HAF := Lib.hid (show p < L.length → ltE (xb, xa) (L.getD p z2) from fun _ => by rw [HY.out]; exact .inr ⟨H2.out.symm, by omega⟩)
                        have IA := Lib.hid (ins_asc HT.out.asc hp HB3.out HAF.out)
                        have hrun1 := run_headE (some ⟨qq, 0, none⟩) Ln cv p (by omega)
                        have hrun2 := run_tailE (some ⟨qq, 0, none⟩) Ln cv p (Ln - p) (by omega)
                        have FD := Lib.hid (FH.out.below (w' := wq.drew) (Reading.below ⟨1, rfl⟩))
                        have BD := Lib.hid (show Below wq.heap.size wq wq.drew from Reading.below ⟨1, rfl⟩)
                        go_wp2_with fail
                        refine wp_region_noPanic ?_
                        refine wp_region_held_drew (S := fun _ => True) (by kernel_rfl) trivial (fun _ => ?_)
                        refine wpAnyH_take (i := 1) (v := ?v1x1) rfl (by kernel_rfl) (by kernel_rfl) (by kernel_rfl) (fun _ _ _ h => h) (Or.inl ⟨by rfl, ?y1x1⟩) trivial ?_
                        case y1x1 => (intro w hSw; (try dsimp only at hSw); go_simp; try with_reducible rfl)
                        simp only [Act.put, List.setIfInBounds_toArray, List.set_cons_zero, List.set_cons_succ, List.getElem_toArray, List.getElem_cons_zero, List.getElem_cons_succ]
                        refine wpAnyH_take (i := 2) (v := ?v2x2) rfl (by kernel_rfl) (by kernel_rfl) (by kernel_rfl) (fun _ _ _ h => h) (Or.inl ⟨by rfl, ?y2x2⟩) trivial ?_
                        case y2x2 => (intro w hSw; (try dsimp only at hSw); go_simp; try with_reducible rfl)
                        simp only [Act.put, List.setIfInBounds_toArray, List.set_cons_zero, List.set_cons_succ, List.getElem_toArray, List.getElem_cons_zero, List.getElem_cons_succ]
                        refine wpAnyH_take (i := 3) (v := ?v3x3) rfl (by kernel_rfl) (by kernel_rfl) (by kernel_rfl) (fun _ _ _ h => h) (Or.inl ⟨by rfl, ?y3x3⟩) trivial ?_
                        case y3x3 => (intro w hSw; (try dsimp only at hSw); go_simp; try with_reducible rfl)
                        simp only [Act.put, List.setIfInBounds_toArray, List.set_cons_zero, List.set_cons_succ, List.getElem_toArray, List.getElem_cons_zero, List.getElem_cons_succ]
                        refine wpAnyH_take (i := 5) (v := ?v5x4) rfl (by kernel_rfl) (by kernel_rfl) (by kernel_rfl) (fun _ _ _ h => h) (Or.inl ⟨by rfl, ?y5x4⟩) trivial ?_
                        case y5x4 => (intro w hSw; (try dsimp only at hSw); go_simp; try with_reducible rfl)
                        simp only [Act.put, List.setIfInBounds_toArray, List.set_cons_zero, List.set_cons_succ, List.getElem_toArray, List.getElem_cons_zero, List.getElem_cons_succ]
                        refine wpAnyH_take (i := 6) (v := ?v6x5) rfl (by kernel_rfl) (by kernel_rfl) (by kernel_rfl) (fun _ _ _ h => h) (Or.inl ⟨by rfl, ?y6x5⟩) trivial ?_
                        case y6x5 => (intro w hSw; (try dsimp only at hSw); go_simp; try with_reducible rfl)
                        simp only [Act.put, List.setIfInBounds_toArray, List.set_cons_zero, List.set_cons_succ, List.getElem_toArray, List.getElem_cons_zero, List.getElem_cons_succ]
                        refine wpAnyH_take (i := 7) (v := ?v7x6) rfl (by kernel_rfl) (by kernel_rfl) (by kernel_rfl) (fun _ _ _ h => h) (Or.inl ⟨by rfl, ?y7x6⟩) trivial ?_
                        case y7x6 => (intro w hSw; (try dsimp only at hSw); go_simp; try with_reducible rfl)
                        simp only [Act.put, List.setIfInBounds_toArray, List.set_cons_zero, List.set_cons_succ, List.getElem_toArray, List.getElem_cons_zero, List.getElem_cons_succ]
                        refine wpAnyH_take (i := 10) (v := ?v10x7) rfl (by kernel_rfl) (by kernel_rfl) (by kernel_rfl) (fun _ _ _ h => h) (Or.inl ⟨by rfl, ?y10x7⟩) trivial ?_
                        case y10x7 => (intro w hSw; (try dsimp only at hSw); go_simp; try with_reducible rfl)
                        simp only [Act.put, List.setIfInBounds_toArray, List.set_cons_zero, List.set_cons_succ, List.getElem_toArray, List.getElem_cons_zero, List.getElem_cons_succ]
                        refine wpAnyH_take (i := 11) (v := ?v11x8) rfl (by kernel_rfl) (by kernel_rfl) (by kernel_rfl) (fun _ _ _ h => h) (Or.inl ⟨by rfl, ?y11x8⟩) trivial ?_
                        case y11x8 => (intro w hSw; (try dsimp only at hSw); go_simp; try with_reducible rfl)
                        simp only [Act.put, List.setIfInBounds_toArray, List.set_cons_zero, List.set_cons_succ, List.getElem_toArray, List.getElem_cons_zero, List.getElem_cons_succ]
                        refine wpAnyH_take (i := 12) (v := ?v12x9) rfl (by kernel_rfl) (by kernel_rfl) (by kernel_rfl) (fun _ _ _ h => h) (Or.inl ⟨by rfl, ?y12x9⟩) trivial ?_
                        case y12x9 => (intro w hSw; (try dsimp only at hSw); go_simp; try with_reducible rfl)
                        simp only [Act.put, List.setIfInBounds_toArray, List.set_cons_zero, List.set_cons_succ, List.getElem_toArray, List.getElem_cons_zero, List.getElem_cons_succ]
                        refine wpAnyH_ready (rs := [0, 8]) (by kernel_rfl) (by simp) ?_
                        refine AllReadyH.cons rfl (fun K hK => ?_) (AllReadyH.cons rfl (fun K hK => ?_) AllReadyH.nil)
                        · go_simp
                          refine hK.out _ _ trivial (fun _ => ?_)
                          clear hK K
                          try simp only [Act.put, List.setIfInBounds_toArray, List.set_cons_zero, List.set_cons_succ, List.getElem_toArray, List.getElem_cons_zero, List.getElem_cons_succ]
                          refine wpAnyH_ready (rs := [4, 8]) (by kernel_rfl) (by simp) ?_
                          refine AllReadyH.cons rfl (fun K hK => ?_) (AllReadyH.cons rfl (fun K hK => ?_) AllReadyH.nil)
                          · refine stepE (own_emptyE wq.drew) ((FD.out.head p hpn).below (mk_below wq.drew (.cells #[] 54))) (by rfl) (.tmp 91) (.tmp 94) (by rfl) (by go_simp) (by go_simp) (by omega) (mk_below wq.drew (.cells #[] 54)).size ?_
                            intro A5 c5 w5 o5 g5
                            have B5 := Lib.hid (own_grown_below (B := wq.heap.size) (BD.out.trans (mk_below wq.drew (.cells #[] 54))) g5 (mk_below wq.drew (.cells #[] 54)).size (fun q hq => ownK_lt (own_emptyE wq.drew) q hq))
                            have O5 := Lib.hid o5
                            have G5 := Lib.hid g5
                            clear o5 g5
                            refine hK.out _ _ trivial (fun _ => ?_)
                            clear hK K
                            try simp only [Act.put, List.setIfInBounds_toArray, List.set_cons_zero, List.set_cons_succ, List.getElem_toArray, List.getElem_cons_zero, List.getElem_cons_succ]
                            refine wpAnyH_ready (rs := [8]) (by kernel_rfl) (by simp) ?_
                            refine AllReadyH.cons rfl (fun K hK => ?_) AllReadyH.nil
                            go_simp
                            refine hK.out _ _ trivial (fun _ => ?_)
                            clear hK K
                            try simp only [Act.put, List.setIfInBounds_toArray, List.set_cons_zero, List.set_cons_succ, List.getElem_toArray, List.getElem_cons_zero, List.getElem_cons_succ]
                            refine wpAnyH_ready (rs := [9]) (by kernel_rfl) (by simp) ?_
                            refine AllReadyH.cons rfl (fun K hK => ?_) AllReadyH.nil
                            refine stepE (ownK_up O5.out (mk_below w5 (.cells #[.int .i64 xb, .int .i64 xa] 54))) (FE.one w5 (xb, xa)) (by rfl) (.tmp 95) (.tmp 99) (by rfl) (by go_simp) (by go_simp) (by omega) (up1 B5.out (.cells #[.int .i64 xb, .int .i64 xa] 54)).size ?_
                            intro A9 c9 w9 o9 g9
                            have B9 := Lib.hid (own_grown_below (B := wq.heap.size) (up1 B5.out (.cells #[.int .i64 xb, .int .i64 xa] 54)) g9 (up1 B5.out (.cells #[.int .i64 xb, .int .i64 xa] 54)).size (fun q hq => ownK_lt (ownK_up O5.out (mk_below w5 (.cells #[.int .i64 xb, .int .i64 xa] 54))) q hq))
                            have O9 := Lib.hid o9
                            clear o9 g9
                            refine hK.out _ _ trivial (fun _ => ?_)
                            clear hK K
                            try simp only [Act.put, List.setIfInBounds_toArray, List.set_cons_zero, List.set_cons_succ, List.getElem_toArray, List.getElem_cons_zero, List.getElem_cons_succ]
                            refine wpAnyH_ready (rs := [13]) (by kernel_rfl) (by simp) ?_
                            refine AllReadyH.cons rfl (fun K hK => ?_) AllReadyH.nil
                            refine stepE O9.out ((FH.out.tail hcvn p (Ln - p) (by omega)).below B9.out) (by rfl) (.tmp 100) (.tmp 103) (by rfl) (by go_simp) (by go_simp) (by omega) B9.out.size ?_
                            intro A13 c13 w13 o13 g13
                            have B13 := Lib.hid (own_grown_below (B := wq.heap.size) B9.out g13 B9.out.size (fun q hq => ownK_lt O9.out q hq))
                            have O13 := Lib.hid o13
                            clear o13 g13
                            refine hK.out _ _ trivial (fun _ => ?_)
                            clear hK K
                            try simp only [Act.put, List.setIfInBounds_toArray, List.set_cons_zero, List.set_cons_succ, List.getElem_toArray, List.getElem_cons_zero, List.getElem_cons_succ]
                            refine wpAnyH_take (i := 14) (v := ?v14x10) rfl (by kernel_rfl) (by kernel_rfl) (by kernel_rfl) (fun _ _ _ h => h) (Or.inl ⟨by rfl, ?y14x10⟩) trivial ?_
                            case y14x10 => (intro w hSw; (try dsimp only at hSw); go_simp; try with_reducible rfl)
                            simp only [Act.put, List.setIfInBounds_toArray, List.set_cons_zero, List.set_cons_succ, List.getElem_toArray, List.getElem_cons_zero, List.getElem_cons_succ]
                            refine wpAnyH_done (by kernel_rfl) ?_ _
                            refine NoPanic.normal ?_
                            go_wp2_with fail
                            have hLL : (([] ++ L.take p) ++ [(xb, xa)]) ++ L.drop p = L.take p ++ (xb, xa) :: L.drop p := by simp
                            have hlen : (L.take p ++ (xb, xa) :: L.drop p).length = 0 + p + 1 + (Ln - p) := by have := HLn.out; simp; omega
                            refine ⟨⟨j + 1, L.take p ++ (xb, xa) :: L.drop p, by omega, by go_num, ?_⟩, by simp [intOf]; omega⟩
                            rw [HSN.out, HN.out]
                            refine HT.out.ins B13.out IA.out ?_
                            have := O13.out
                            rw [hLL, Nat.zero_add] at this
                            rw [hlen, Nat.zero_add]
                            exact this
                          · go_simp
                            refine hK.out _ _ trivial (fun _ => ?_)
                            clear hK K
                            try simp only [Act.put, List.setIfInBounds_toArray, List.set_cons_zero, List.set_cons_succ, List.getElem_toArray, List.getElem_cons_zero, List.getElem_cons_succ]
                            refine wpAnyH_ready (rs := [4]) (by kernel_rfl) (by simp) ?_
                            refine AllReadyH.cons rfl (fun K hK => ?_) AllReadyH.nil
                            refine stepE (ownK_up (own_emptyE wq.drew) (mk_below (wq.drew.alloc (.cells #[] 54)) (.cells #[.int .i64 xb, .int .i64 xa] 54))) ((FD.out.head p hpn).below (up1 (mk_below wq.drew (.cells #[] 54)) (.cells #[.int .i64 xb, .int .i64 xa] 54))) (by rfl) (.tmp 91) (.tmp 94) (by rfl) (by go_simp) (by go_simp) (by omega) (up1 (mk_below wq.drew (.cells #[] 54)) (.cells #[.int .i64 xb, .int .i64 xa] 54)).size ?_
                            intro A5 c5 w5 o5 g5
                            have B5 := Lib.hid (own_grown_below (B := wq.heap.size) (BD.out.trans (up1 (mk_below wq.drew (.cells #[] 54)) (.cells #[.int .i64 xb, .int .i64 xa] 54))) g5 (up1 (mk_below wq.drew (.cells #[] 54)) (.cells #[.int .i64 xb, .int .i64 xa] 54)).size (fun q hq => ownK_lt (ownK_up (own_emptyE wq.drew) (mk_below (wq.drew.alloc (.cells #[] 54)) (.cells #[.int .i64 xb, .int .i64 xa] 54))) q hq))
                            have O5 := Lib.hid o5
                            have G5 := Lib.hid g5
                            clear o5 g5
                            refine hK.out _ _ trivial (fun _ => ?_)
                            clear hK K
                            try simp only [Act.put, List.setIfInBounds_toArray, List.set_cons_zero, List.set_cons_succ, List.getElem_toArray, List.getElem_cons_zero, List.getElem_cons_succ]
                            refine wpAnyH_ready (rs := [9]) (by kernel_rfl) (by simp) ?_
                            refine AllReadyH.cons rfl (fun K hK => ?_) AllReadyH.nil
                            refine stepE O5.out (((show FE ((wq.drew.alloc (.cells #[] 54)).alloc (.cells #[.int .i64 xb, .int .i64 xa] 54)) (some ⟨wq.heap.size + 1, 0, none⟩) 1 1 [(xb, xa)] by have := FE.one (wq.drew.alloc (.cells #[] 54)) (xb, xa); rwa [World.size_alloc] at this)).grown G5.out (by simp [Value.ownBlock])) (by rfl) (.tmp 95) (.tmp 99) (by rfl) (by go_simp) (by go_simp) (by omega) B5.out.size ?_
                            intro A9 c9 w9 o9 g9
                            have B9 := Lib.hid (own_grown_below (B := wq.heap.size) B5.out g9 B5.out.size (fun q hq => ownK_lt O5.out q hq))
                            have O9 := Lib.hid o9
                            clear o9 g9
                            refine hK.out _ _ trivial (fun _ => ?_)
                            clear hK K
                            try simp only [Act.put, List.setIfInBounds_toArray, List.set_cons_zero, List.set_cons_succ, List.getElem_toArray, List.getElem_cons_zero, List.getElem_cons_succ]
                            refine wpAnyH_ready (rs := [13]) (by kernel_rfl) (by simp) ?_
                            refine AllReadyH.cons rfl (fun K hK => ?_) AllReadyH.nil
                            refine stepE O9.out ((FH.out.tail hcvn p (Ln - p) (by omega)).below B9.out) (by rfl) (.tmp 100) (.tmp 103) (by rfl) (by go_simp) (by go_simp) (by omega) B9.out.size ?_
                            intro A13 c13 w13 o13 g13
                            have B13 := Lib.hid (own_grown_below (B := wq.heap.size) B9.out g13 B9.out.size (fun q hq => ownK_lt O9.out q hq))
                            have O13 := Lib.hid o13
                            clear o13 g13
                            refine hK.out _ _ trivial (fun _ => ?_)
                            clear hK K
                            try simp only [Act.put, List.setIfInBounds_toArray, List.set_cons_zero, List.set_cons_succ, List.getElem_toArray, List.getElem_cons_zero, List.getElem_cons_succ]
                            refine wpAnyH_take (i := 14) (v := ?v14x11) rfl (by kernel_rfl) (by kernel_rfl) (by kernel_rfl) (fun _ _ _ h => h) (Or.inl ⟨by rfl, ?y14x11⟩) trivial ?_
                            case y14x11 => (intro w hSw; (try dsimp only at hSw); go_simp; try with_reducible rfl)
                            simp only [Act.put, List.setIfInBounds_toArray, List.set_cons_zero, List.set_cons_succ, List.getElem_toArray, List.getElem_cons_zero, List.getElem_cons_succ]
                            refine wpAnyH_done (by kernel_rfl) ?_ _
                            refine NoPanic.normal ?_
                            go_wp2_with fail
                            have hLL : (([] ++ L.take p) ++ [(xb, xa)]) ++ L.drop p = L.take p ++ (xb, xa) :: L.drop p := by simp
                            have hlen : (L.take p ++ (xb, xa) :: L.drop p).length = 0 + p + 1 + (Ln - p) := by have := HLn.out; simp; omega
                            refine ⟨⟨j + 1, L.take p ++ (xb, xa) :: L.drop p, by omega, by go_num, ?_⟩, by simp [intOf]; omega⟩
                            rw [HSN.out, HN.out]
                            refine HT.out.ins B13.out IA.out ?_
                            have := O13.out
                            rw [hLL, Nat.zero_add] at this
                            rw [hlen, Nat.zero_add]
                            exact this
                        · go_simp
                          refine hK.out _ _ trivial (fun _ => ?_)
                          clear hK K
                          try simp only [Act.put, List.setIfInBounds_toArray, List.set_cons_zero, List.set_cons_succ, List.getElem_toArray, List.getElem_cons_zero, List.getElem_cons_succ]
                          refine wpAnyH_ready (rs := [0]) (by kernel_rfl) (by simp) ?_
                          refine AllReadyH.cons rfl (fun K hK => ?_) AllReadyH.nil
                          go_simp
                          refine hK.out _ _ trivial (fun _ => ?_)
                          clear hK K
                          try simp only [Act.put, List.setIfInBounds_toArray, List.set_cons_zero, List.set_cons_succ, List.getElem_toArray, List.getElem_cons_zero, List.getElem_cons_succ]
                          refine wpAnyH_ready (rs := [4]) (by kernel_rfl) (by simp) ?_
                          refine AllReadyH.cons rfl (fun K hK => ?_) AllReadyH.nil
                          refine stepE (show ((wq.drew.alloc (.cells #[.int .i64 xb, .int .i64 xa] 54)).alloc (.cells #[] 54)).ownsRow wq.drew.heap.size 54 2 (.slice (some ⟨wq.heap.size + 1, 0, none⟩) 0 0) 0 (ints (flat2 [])) by have := own_emptyE (wq.drew.alloc (.cells #[.int .i64 xb, .int .i64 xa] 54)); rw [World.size_alloc] at this; exact ownK_base this (Nat.le_succ _)) ((FD.out.head p hpn).below (up1 (mk_below wq.drew (.cells #[.int .i64 xb, .int .i64 xa] 54)) (.cells #[] 54))) (by rfl) (.tmp 91) (.tmp 94) (by rfl) (by go_simp) (by go_simp) (by omega) (up1 (mk_below wq.drew (.cells #[.int .i64 xb, .int .i64 xa] 54)) (.cells #[] 54)).size ?_
                          intro A5 c5 w5 o5 g5
                          have B5 := Lib.hid (own_grown_below (B := wq.heap.size) (BD.out.trans (up1 (mk_below wq.drew (.cells #[.int .i64 xb, .int .i64 xa] 54)) (.cells #[] 54))) g5 (up1 (mk_below wq.drew (.cells #[.int .i64 xb, .int .i64 xa] 54)) (.cells #[] 54)).size (fun q hq => ownK_lt (show ((wq.drew.alloc (.cells #[.int .i64 xb, .int .i64 xa] 54)).alloc (.cells #[] 54)).ownsRow wq.drew.heap.size 54 2 (.slice (some ⟨wq.heap.size + 1, 0, none⟩) 0 0) 0 (ints (flat2 [])) by have := own_emptyE (wq.drew.alloc (.cells #[.int .i64 xb, .int .i64 xa] 54)); rw [World.size_alloc] at this; exact ownK_base this (Nat.le_succ _)) q hq))
                          have O5 := Lib.hid o5
                          have G5 := Lib.hid g5
                          clear o5 g5
                          refine hK.out _ _ trivial (fun _ => ?_)
                          clear hK K
                          try simp only [Act.put, List.setIfInBounds_toArray, List.set_cons_zero, List.set_cons_succ, List.getElem_toArray, List.getElem_cons_zero, List.getElem_cons_succ]
                          refine wpAnyH_ready (rs := [9]) (by kernel_rfl) (by simp) ?_
                          refine AllReadyH.cons rfl (fun K hK => ?_) AllReadyH.nil
                          refine stepE O5.out (((FE.one wq.drew (xb, xa)).below (mk_below (wq.drew.alloc (.cells #[.int .i64 xb, .int .i64 xa] 54)) (.cells #[] 54))).grown G5.out (by simp [Value.ownBlock])) (by rfl) (.tmp 95) (.tmp 99) (by rfl) (by go_simp) (by go_simp) (by omega) B5.out.size ?_
                          intro A9 c9 w9 o9 g9
                          have B9 := Lib.hid (own_grown_below (B := wq.heap.size) B5.out g9 B5.out.size (fun q hq => ownK_lt O5.out q hq))
                          have O9 := Lib.hid o9
                          clear o9 g9
                          refine hK.out _ _ trivial (fun _ => ?_)
                          clear hK K
                          try simp only [Act.put, List.setIfInBounds_toArray, List.set_cons_zero, List.set_cons_succ, List.getElem_toArray, List.getElem_cons_zero, List.getElem_cons_succ]
                          refine wpAnyH_ready (rs := [13]) (by kernel_rfl) (by simp) ?_
                          refine AllReadyH.cons rfl (fun K hK => ?_) AllReadyH.nil
                          refine stepE O9.out ((FH.out.tail hcvn p (Ln - p) (by omega)).below B9.out) (by rfl) (.tmp 100) (.tmp 103) (by rfl) (by go_simp) (by go_simp) (by omega) B9.out.size ?_
                          intro A13 c13 w13 o13 g13
                          have B13 := Lib.hid (own_grown_below (B := wq.heap.size) B9.out g13 B9.out.size (fun q hq => ownK_lt O9.out q hq))
                          have O13 := Lib.hid o13
                          clear o13 g13
                          refine hK.out _ _ trivial (fun _ => ?_)
                          clear hK K
                          try simp only [Act.put, List.setIfInBounds_toArray, List.set_cons_zero, List.set_cons_succ, List.getElem_toArray, List.getElem_cons_zero, List.getElem_cons_succ]
                          refine wpAnyH_take (i := 14) (v := ?v14x12) rfl (by kernel_rfl) (by kernel_rfl) (by kernel_rfl) (fun _ _ _ h => h) (Or.inl ⟨by rfl, ?y14x12⟩) trivial ?_
                          case y14x12 => (intro w hSw; (try dsimp only at hSw); go_simp; try with_reducible rfl)
                          simp only [Act.put, List.setIfInBounds_toArray, List.set_cons_zero, List.set_cons_succ, List.getElem_toArray, List.getElem_cons_zero, List.getElem_cons_succ]
                          refine wpAnyH_done (by kernel_rfl) ?_ _
                          refine NoPanic.normal ?_
                          go_wp2_with fail
                          have hLL : (([] ++ L.take p) ++ [(xb, xa)]) ++ L.drop p = L.take p ++ (xb, xa) :: L.drop p := by simp
                          have hlen : (L.take p ++ (xb, xa) :: L.drop p).length = 0 + p + 1 + (Ln - p) := by have := HLn.out; simp; omega
                          refine ⟨⟨j + 1, L.take p ++ (xb, xa) :: L.drop p, by omega, by go_num, ?_⟩, by simp [intOf]; omega⟩
                          rw [HSN.out, HN.out]
                          refine HT.out.ins B13.out IA.out ?_
                          have := O13.out
                          rw [hLL, Nat.zero_add] at this
                          rw [hlen, Nat.zero_add]
                          exact this
                  · have f1 : (y0 == xb) = false := by simpa using h2
                    have gd := fun op u v => run_eqGuard_agg (P := Try.prog) wq op 54 u v #[.int .i64 y0, .int .i64 y1] #[.int .i64 xb, .int .i64 xa] Try.eqGuardType54
                    have nq := eqIn2 wq y0 y1 xb xa
                    rw [eq2_no (x := (y0, y1)) (y := (xb, xa)) (fun e => h2 (congrArg Prod.fst e))] at nq
                    have HAF := Lib.hid (show p < L.length → ltE (xb, xa) (L.getD p z2) from fun _ => by rw [HY.out]; exact .inl (by omega))
                    have IA := Lib.hid (ins_asc HT.out.asc hp HB3.out HAF.out)
                    have hrun1 := run_headE (some ⟨qq, 0, none⟩) Ln cv p (by omega)
                    have hrun2 := run_tailE (some ⟨qq, 0, none⟩) Ln cv p (Ln - p) (by omega)
                    have FD := Lib.hid (FH.out.below (w' := wq.drew) (Reading.below ⟨1, rfl⟩))
                    have BD := Lib.hid (show Below wq.heap.size wq wq.drew from Reading.below ⟨1, rfl⟩)
                    go_wp2_with fail
                    refine wp_region_noPanic ?_
                    refine wp_region_held_drew (S := fun _ => True) (by kernel_rfl) trivial (fun _ => ?_)
                    refine wpAnyH_take (i := 1) (v := ?v1x13) rfl (by kernel_rfl) (by kernel_rfl) (by kernel_rfl) (fun _ _ _ h => h) (Or.inl ⟨by rfl, ?y1x13⟩) trivial ?_
                    case y1x13 => (intro w hSw; (try dsimp only at hSw); go_simp; try with_reducible rfl)
                    simp only [Act.put, List.setIfInBounds_toArray, List.set_cons_zero, List.set_cons_succ, List.getElem_toArray, List.getElem_cons_zero, List.getElem_cons_succ]
                    refine wpAnyH_take (i := 2) (v := ?v2x14) rfl (by kernel_rfl) (by kernel_rfl) (by kernel_rfl) (fun _ _ _ h => h) (Or.inl ⟨by rfl, ?y2x14⟩) trivial ?_
                    case y2x14 => (intro w hSw; (try dsimp only at hSw); go_simp; try with_reducible rfl)
                    simp only [Act.put, List.setIfInBounds_toArray, List.set_cons_zero, List.set_cons_succ, List.getElem_toArray, List.getElem_cons_zero, List.getElem_cons_succ]
                    refine wpAnyH_take (i := 3) (v := ?v3x15) rfl (by kernel_rfl) (by kernel_rfl) (by kernel_rfl) (fun _ _ _ h => h) (Or.inl ⟨by rfl, ?y3x15⟩) trivial ?_
                    case y3x15 => (intro w hSw; (try dsimp only at hSw); go_simp; try with_reducible rfl)
                    simp only [Act.put, List.setIfInBounds_toArray, List.set_cons_zero, List.set_cons_succ, List.getElem_toArray, List.getElem_cons_zero, List.getElem_cons_succ]
                    refine wpAnyH_take (i := 5) (v := ?v5x16) rfl (by kernel_rfl) (by kernel_rfl) (by kernel_rfl) (fun _ _ _ h => h) (Or.inl ⟨by rfl, ?y5x16⟩) trivial ?_
                    case y5x16 => (intro w hSw; (try dsimp only at hSw); go_simp; try with_reducible rfl)
                    simp only [Act.put, List.setIfInBounds_toArray, List.set_cons_zero, List.set_cons_succ, List.getElem_toArray, List.getElem_cons_zero, List.getElem_cons_succ]
                    refine wpAnyH_take (i := 6) (v := ?v6x17) rfl (by kernel_rfl) (by kernel_rfl) (by kernel_rfl) (fun _ _ _ h => h) (Or.inl ⟨by rfl, ?y6x17⟩) trivial ?_
                    case y6x17 => (intro w hSw; (try dsimp only at hSw); go_simp; try with_reducible rfl)
                    simp only [Act.put, List.setIfInBounds_toArray, List.set_cons_zero, List.set_cons_succ, List.getElem_toArray, List.getElem_cons_zero, List.getElem_cons_succ]
                    refine wpAnyH_take (i := 7) (v := ?v7x18) rfl (by kernel_rfl) (by kernel_rfl) (by kernel_rfl) (fun _ _ _ h => h) (Or.inl ⟨by rfl, ?y7x18⟩) trivial ?_
                    case y7x18 => (intro w hSw; (try dsimp only at hSw); go_simp; try with_reducible rfl)
                    simp only [Act.put, List.setIfInBounds_toArray, List.set_cons_zero, List.set_cons_succ, List.getElem_toArray, List.getElem_cons_zero, List.getElem_cons_succ]
                    refine wpAnyH_take (i := 10) (v := ?v10x19) rfl (by kernel_rfl) (by kernel_rfl) (by kernel_rfl) (fun _ _ _ h => h) (Or.inl ⟨by rfl, ?y10x19⟩) trivial ?_
                    case y10x19 => (intro w hSw; (try dsimp only at hSw); go_simp; try with_reducible rfl)
                    simp only [Act.put, List.setIfInBounds_toArray, List.set_cons_zero, List.set_cons_succ, List.getElem_toArray, List.getElem_cons_zero, List.getElem_cons_succ]
                    refine wpAnyH_take (i := 11) (v := ?v11x20) rfl (by kernel_rfl) (by kernel_rfl) (by kernel_rfl) (fun _ _ _ h => h) (Or.inl ⟨by rfl, ?y11x20⟩) trivial ?_
                    case y11x20 => (intro w hSw; (try dsimp only at hSw); go_simp; try with_reducible rfl)
                    simp only [Act.put, List.setIfInBounds_toArray, List.set_cons_zero, List.set_cons_succ, List.getElem_toArray, List.getElem_cons_zero, List.getElem_cons_succ]
                    refine wpAnyH_take (i := 12) (v := ?v12x21) rfl (by kernel_rfl) (by kernel_rfl) (by kernel_rfl) (fun _ _ _ h => h) (Or.inl ⟨by rfl, ?y12x21⟩) trivial ?_
                    case y12x21 => (intro w hSw; (try dsimp only at hSw); go_simp; try with_reducible rfl)
                    simp only [Act.put, List.setIfInBounds_toArray, List.set_cons_zero, List.set_cons_succ, List.getElem_toArray, List.getElem_cons_zero, List.getElem_cons_succ]
                    refine wpAnyH_ready (rs := [0, 8]) (by kernel_rfl) (by simp) ?_
                    refine AllReadyH.cons rfl (fun K hK => ?_) (AllReadyH.cons rfl (fun K hK => ?_) AllReadyH.nil)
                    · go_simp
                      refine hK.out _ _ trivial (fun _ => ?_)
                      clear hK K
                      try simp only [Act.put, List.setIfInBounds_toArray, List.set_cons_zero, List.set_cons_succ, List.getElem_toArray, List.getElem_cons_zero, List.getElem_cons_succ]
                      refine wpAnyH_ready (rs := [4, 8]) (by kernel_rfl) (by simp) ?_
                      refine AllReadyH.cons rfl (fun K hK => ?_) (AllReadyH.cons rfl (fun K hK => ?_) AllReadyH.nil)
                      · refine stepE (own_emptyE wq.drew) ((FD.out.head p hpn).below (mk_below wq.drew (.cells #[] 54))) (by rfl) (.tmp 91) (.tmp 94) (by rfl) (by go_simp) (by go_simp) (by omega) (mk_below wq.drew (.cells #[] 54)).size ?_
                        intro A5 c5 w5 o5 g5
                        have B5 := Lib.hid (own_grown_below (B := wq.heap.size) (BD.out.trans (mk_below wq.drew (.cells #[] 54))) g5 (mk_below wq.drew (.cells #[] 54)).size (fun q hq => ownK_lt (own_emptyE wq.drew) q hq))
                        have O5 := Lib.hid o5
                        have G5 := Lib.hid g5
                        clear o5 g5
                        refine hK.out _ _ trivial (fun _ => ?_)
                        clear hK K
                        try simp only [Act.put, List.setIfInBounds_toArray, List.set_cons_zero, List.set_cons_succ, List.getElem_toArray, List.getElem_cons_zero, List.getElem_cons_succ]
                        refine wpAnyH_ready (rs := [8]) (by kernel_rfl) (by simp) ?_
                        refine AllReadyH.cons rfl (fun K hK => ?_) AllReadyH.nil
                        go_simp
                        refine hK.out _ _ trivial (fun _ => ?_)
                        clear hK K
                        try simp only [Act.put, List.setIfInBounds_toArray, List.set_cons_zero, List.set_cons_succ, List.getElem_toArray, List.getElem_cons_zero, List.getElem_cons_succ]
                        refine wpAnyH_ready (rs := [9]) (by kernel_rfl) (by simp) ?_
                        refine AllReadyH.cons rfl (fun K hK => ?_) AllReadyH.nil
                        refine stepE (ownK_up O5.out (mk_below w5 (.cells #[.int .i64 xb, .int .i64 xa] 54))) (FE.one w5 (xb, xa)) (by rfl) (.tmp 95) (.tmp 99) (by rfl) (by go_simp) (by go_simp) (by omega) (up1 B5.out (.cells #[.int .i64 xb, .int .i64 xa] 54)).size ?_
                        intro A9 c9 w9 o9 g9
                        have B9 := Lib.hid (own_grown_below (B := wq.heap.size) (up1 B5.out (.cells #[.int .i64 xb, .int .i64 xa] 54)) g9 (up1 B5.out (.cells #[.int .i64 xb, .int .i64 xa] 54)).size (fun q hq => ownK_lt (ownK_up O5.out (mk_below w5 (.cells #[.int .i64 xb, .int .i64 xa] 54))) q hq))
                        have O9 := Lib.hid o9
                        clear o9 g9
                        refine hK.out _ _ trivial (fun _ => ?_)
                        clear hK K
                        try simp only [Act.put, List.setIfInBounds_toArray, List.set_cons_zero, List.set_cons_succ, List.getElem_toArray, List.getElem_cons_zero, List.getElem_cons_succ]
                        refine wpAnyH_ready (rs := [13]) (by kernel_rfl) (by simp) ?_
                        refine AllReadyH.cons rfl (fun K hK => ?_) AllReadyH.nil
                        refine stepE O9.out ((FH.out.tail hcvn p (Ln - p) (by omega)).below B9.out) (by rfl) (.tmp 100) (.tmp 103) (by rfl) (by go_simp) (by go_simp) (by omega) B9.out.size ?_
                        intro A13 c13 w13 o13 g13
                        have B13 := Lib.hid (own_grown_below (B := wq.heap.size) B9.out g13 B9.out.size (fun q hq => ownK_lt O9.out q hq))
                        have O13 := Lib.hid o13
                        clear o13 g13
                        refine hK.out _ _ trivial (fun _ => ?_)
                        clear hK K
                        try simp only [Act.put, List.setIfInBounds_toArray, List.set_cons_zero, List.set_cons_succ, List.getElem_toArray, List.getElem_cons_zero, List.getElem_cons_succ]
                        refine wpAnyH_take (i := 14) (v := ?v14x22) rfl (by kernel_rfl) (by kernel_rfl) (by kernel_rfl) (fun _ _ _ h => h) (Or.inl ⟨by rfl, ?y14x22⟩) trivial ?_
                        case y14x22 => (intro w hSw; (try dsimp only at hSw); go_simp; try with_reducible rfl)
                        simp only [Act.put, List.setIfInBounds_toArray, List.set_cons_zero, List.set_cons_succ, List.getElem_toArray, List.getElem_cons_zero, List.getElem_cons_succ]
                        refine wpAnyH_done (by kernel_rfl) ?_ _
                        refine NoPanic.normal ?_
                        go_wp2_with fail
                        have hLL : (([] ++ L.take p) ++ [(xb, xa)]) ++ L.drop p = L.take p ++ (xb, xa) :: L.drop p := by simp
                        have hlen : (L.take p ++ (xb, xa) :: L.drop p).length = 0 + p + 1 + (Ln - p) := by have := HLn.out; simp; omega
                        refine ⟨⟨j + 1, L.take p ++ (xb, xa) :: L.drop p, by omega, by go_num, ?_⟩, by simp [intOf]; omega⟩
                        rw [HSN.out, HN.out]
                        refine HT.out.ins B13.out IA.out ?_
                        have := O13.out
                        rw [hLL, Nat.zero_add] at this
                        rw [hlen, Nat.zero_add]
                        exact this
                      · go_simp
                        refine hK.out _ _ trivial (fun _ => ?_)
                        clear hK K
                        try simp only [Act.put, List.setIfInBounds_toArray, List.set_cons_zero, List.set_cons_succ, List.getElem_toArray, List.getElem_cons_zero, List.getElem_cons_succ]
                        refine wpAnyH_ready (rs := [4]) (by kernel_rfl) (by simp) ?_
                        refine AllReadyH.cons rfl (fun K hK => ?_) AllReadyH.nil
                        refine stepE (ownK_up (own_emptyE wq.drew) (mk_below (wq.drew.alloc (.cells #[] 54)) (.cells #[.int .i64 xb, .int .i64 xa] 54))) ((FD.out.head p hpn).below (up1 (mk_below wq.drew (.cells #[] 54)) (.cells #[.int .i64 xb, .int .i64 xa] 54))) (by rfl) (.tmp 91) (.tmp 94) (by rfl) (by go_simp) (by go_simp) (by omega) (up1 (mk_below wq.drew (.cells #[] 54)) (.cells #[.int .i64 xb, .int .i64 xa] 54)).size ?_
                        intro A5 c5 w5 o5 g5
                        have B5 := Lib.hid (own_grown_below (B := wq.heap.size) (BD.out.trans (up1 (mk_below wq.drew (.cells #[] 54)) (.cells #[.int .i64 xb, .int .i64 xa] 54))) g5 (up1 (mk_below wq.drew (.cells #[] 54)) (.cells #[.int .i64 xb, .int .i64 xa] 54)).size (fun q hq => ownK_lt (ownK_up (own_emptyE wq.drew) (mk_below (wq.drew.alloc (.cells #[] 54)) (.cells #[.int .i64 xb, .int .i64 xa] 54))) q hq))
                        have O5 := Lib.hid o5
                        have G5 := Lib.hid g5
                        clear o5 g5
                        refine hK.out _ _ trivial (fun _ => ?_)
                        clear hK K
                        try simp only [Act.put, List.setIfInBounds_toArray, List.set_cons_zero, List.set_cons_succ, List.getElem_toArray, List.getElem_cons_zero, List.getElem_cons_succ]
                        refine wpAnyH_ready (rs := [9]) (by kernel_rfl) (by simp) ?_
                        refine AllReadyH.cons rfl (fun K hK => ?_) AllReadyH.nil
                        refine stepE O5.out (((show FE ((wq.drew.alloc (.cells #[] 54)).alloc (.cells #[.int .i64 xb, .int .i64 xa] 54)) (some ⟨wq.heap.size + 1, 0, none⟩) 1 1 [(xb, xa)] by have := FE.one (wq.drew.alloc (.cells #[] 54)) (xb, xa); rwa [World.size_alloc] at this)).grown G5.out (by simp [Value.ownBlock])) (by rfl) (.tmp 95) (.tmp 99) (by rfl) (by go_simp) (by go_simp) (by omega) B5.out.size ?_
                        intro A9 c9 w9 o9 g9
                        have B9 := Lib.hid (own_grown_below (B := wq.heap.size) B5.out g9 B5.out.size (fun q hq => ownK_lt O5.out q hq))
                        have O9 := Lib.hid o9
                        clear o9 g9
                        refine hK.out _ _ trivial (fun _ => ?_)
                        clear hK K
                        try simp only [Act.put, List.setIfInBounds_toArray, List.set_cons_zero, List.set_cons_succ, List.getElem_toArray, List.getElem_cons_zero, List.getElem_cons_succ]
                        refine wpAnyH_ready (rs := [13]) (by kernel_rfl) (by simp) ?_
                        refine AllReadyH.cons rfl (fun K hK => ?_) AllReadyH.nil
                        refine stepE O9.out ((FH.out.tail hcvn p (Ln - p) (by omega)).below B9.out) (by rfl) (.tmp 100) (.tmp 103) (by rfl) (by go_simp) (by go_simp) (by omega) B9.out.size ?_
                        intro A13 c13 w13 o13 g13
                        have B13 := Lib.hid (own_grown_below (B := wq.heap.size) B9.out g13 B9.out.size (fun q hq => ownK_lt O9.out q hq))
                        have O13 := Lib.hid o13
                        clear o13 g13
                        refine hK.out _ _ trivial (fun _ => ?_)
                        clear hK K
                        try simp only [Act.put, List.setIfInBounds_toArray, List.set_cons_zero, List.set_cons_succ, List.getElem_toArray, List.getElem_cons_zero, List.getElem_cons_succ]
                        refine wpAnyH_take (i := 14) (v := ?v14x23) rfl (by kernel_rfl) (by kernel_rfl) (by kernel_rfl) (fun _ _ _ h => h) (Or.inl ⟨by rfl, ?y14x23⟩) trivial ?_
                        case y14x23 => (intro w hSw; (try dsimp only at hSw); go_simp; try with_reducible rfl)
                        simp only [Act.put, List.setIfInBounds_toArray, List.set_cons_zero, List.set_cons_succ, List.getElem_toArray, List.getElem_cons_zero, List.getElem_cons_succ]
                        refine wpAnyH_done (by kernel_rfl) ?_ _
                        refine NoPanic.normal ?_
                        go_wp2_with fail
                        have hLL : (([] ++ L.take p) ++ [(xb, xa)]) ++ L.drop p = L.take p ++ (xb, xa) :: L.drop p := by simp
                        have hlen : (L.take p ++ (xb, xa) :: L.drop p).length = 0 + p + 1 + (Ln - p) := by have := HLn.out; simp; omega
                        refine ⟨⟨j + 1, L.take p ++ (xb, xa) :: L.drop p, by omega, by go_num, ?_⟩, by simp [intOf]; omega⟩
                        rw [HSN.out, HN.out]
                        refine HT.out.ins B13.out IA.out ?_
                        have := O13.out
                        rw [hLL, Nat.zero_add] at this
                        rw [hlen, Nat.zero_add]
                        exact this
                    · go_simp
                      refine hK.out _ _ trivial (fun _ => ?_)
                      clear hK K
                      try simp only [Act.put, List.setIfInBounds_toArray, List.set_cons_zero, List.set_cons_succ, List.getElem_toArray, List.getElem_cons_zero, List.getElem_cons_succ]
                      refine wpAnyH_ready (rs := [0]) (by kernel_rfl) (by simp) ?_
                      refine AllReadyH.cons rfl (fun K hK => ?_) AllReadyH.nil
                      go_simp
                      refine hK.out _ _ trivial (fun _ => ?_)
                      clear hK K
                      try simp only [Act.put, List.setIfInBounds_toArray, List.set_cons_zero, List.set_cons_succ, List.getElem_toArray, List.getElem_cons_zero, List.getElem_cons_succ]
                      refine wpAnyH_ready (rs := [4]) (by kernel_rfl) (by simp) ?_
                      refine AllReadyH.cons rfl (fun K hK => ?_) AllReadyH.nil
                      refine stepE (show ((wq.drew.alloc (.cells #[.int .i64 xb, .int .i64 xa] 54)).alloc (.cells #[] 54)).ownsRow wq.drew.heap.size 54 2 (.slice (some ⟨wq.heap.size + 1, 0, none⟩) 0 0) 0 (ints (flat2 [])) by have := own_emptyE (wq.drew.alloc (.cells #[.int .i64 xb, .int .i64 xa] 54)); rw [World.size_alloc] at this; exact ownK_base this (Nat.le_succ _)) ((FD.out.head p hpn).below (up1 (mk_below wq.drew (.cells #[.int .i64 xb, .int .i64 xa] 54)) (.cells #[] 54))) (by rfl) (.tmp 91) (.tmp 94) (by rfl) (by go_simp) (by go_simp) (by omega) (up1 (mk_below wq.drew (.cells #[.int .i64 xb, .int .i64 xa] 54)) (.cells #[] 54)).size ?_
                      intro A5 c5 w5 o5 g5
                      have B5 := Lib.hid (own_grown_below (B := wq.heap.size) (BD.out.trans (up1 (mk_below wq.drew (.cells #[.int .i64 xb, .int .i64 xa] 54)) (.cells #[] 54))) g5 (up1 (mk_below wq.drew (.cells #[.int .i64 xb, .int .i64 xa] 54)) (.cells #[] 54)).size (fun q hq => ownK_lt (show ((wq.drew.alloc (.cells #[.int .i64 xb, .int .i64 xa] 54)).alloc (.cells #[] 54)).ownsRow wq.drew.heap.size 54 2 (.slice (some ⟨wq.heap.size + 1, 0, none⟩) 0 0) 0 (ints (flat2 [])) by have := own_emptyE (wq.drew.alloc (.cells #[.int .i64 xb, .int .i64 xa] 54)); rw [World.size_alloc] at this; exact ownK_base this (Nat.le_succ _)) q hq))
                      have O5 := Lib.hid o5
                      have G5 := Lib.hid g5
                      clear o5 g5
                      refine hK.out _ _ trivial (fun _ => ?_)
                      clear hK K
                      try simp only [Act.put, List.setIfInBounds_toArray, List.set_cons_zero, List.set_cons_succ, List.getElem_toArray, List.getElem_cons_zero, List.getElem_cons_succ]
                      refine wpAnyH_ready (rs := [9]) (by kernel_rfl) (by simp) ?_
                      refine AllReadyH.cons rfl (fun K hK => ?_) AllReadyH.nil
                      refine stepE O5.out (((FE.one wq.drew (xb, xa)).below (mk_below (wq.drew.alloc (.cells #[.int .i64 xb, .int .i64 xa] 54)) (.cells #[] 54))).grown G5.out (by simp [Value.ownBlock])) (by rfl) (.tmp 95) (.tmp 99) (by rfl) (by go_simp) (by go_simp) (by omega) B5.out.size ?_
                      intro A9 c9 w9 o9 g9
                      have B9 := Lib.hid (own_grown_below (B := wq.heap.size) B5.out g9 B5.out.size (fun q hq => ownK_lt O5.out q hq))
                      have O9 := Lib.hid o9
                      clear o9 g9
                      refine hK.out _ _ trivial (fun _ => ?_)
                      clear hK K
                      try simp only [Act.put, List.setIfInBounds_toArray, List.set_cons_zero, List.set_cons_succ, List.getElem_toArray, List.getElem_cons_zero, List.getElem_cons_succ]
                      refine wpAnyH_ready (rs := [13]) (by kernel_rfl) (by simp) ?_
                      refine AllReadyH.cons rfl (fun K hK => ?_) AllReadyH.nil
                      refine stepE O9.out ((FH.out.tail hcvn p (Ln - p) (by omega)).below B9.out) (by rfl) (.tmp 100) (.tmp 103) (by rfl) (by go_simp) (by go_simp) (by omega) B9.out.size ?_
                      intro A13 c13 w13 o13 g13
                      have B13 := Lib.hid (own_grown_below (B := wq.heap.size) B9.out g13 B9.out.size (fun q hq => ownK_lt O9.out q hq))
                      have O13 := Lib.hid o13
                      clear o13 g13
                      refine hK.out _ _ trivial (fun _ => ?_)
                      clear hK K
                      try simp only [Act.put, List.setIfInBounds_toArray, List.set_cons_zero, List.set_cons_succ, List.getElem_toArray, List.getElem_cons_zero, List.getElem_cons_succ]
                      refine wpAnyH_take (i := 14) (v := ?v14x24) rfl (by kernel_rfl) (by kernel_rfl) (by kernel_rfl) (fun _ _ _ h => h) (Or.inl ⟨by rfl, ?y14x24⟩) trivial ?_
                      case y14x24 => (intro w hSw; (try dsimp only at hSw); go_simp; try with_reducible rfl)
                      simp only [Act.put, List.setIfInBounds_toArray, List.set_cons_zero, List.set_cons_succ, List.getElem_toArray, List.getElem_cons_zero, List.getElem_cons_succ]
                      refine wpAnyH_done (by kernel_rfl) ?_ _
                      refine NoPanic.normal ?_
                      go_wp2_with fail
                      have hLL : (([] ++ L.take p) ++ [(xb, xa)]) ++ L.drop p = L.take p ++ (xb, xa) :: L.drop p := by simp
                      have hlen : (L.take p ++ (xb, xa) :: L.drop p).length = 0 + p + 1 + (Ln - p) := by have := HLn.out; simp; omega
                      refine ⟨⟨j + 1, L.take p ++ (xb, xa) :: L.drop p, by omega, by go_num, ?_⟩, by simp [intOf]; omega⟩
                      rw [HSN.out, HN.out]
                      refine HT.out.ins B13.out IA.out ?_
                      have := O13.out
                      rw [hLL, Nat.zero_add] at this
                      rw [hlen, Nat.zero_add]
                      exact this
              · have bp : ¬ (p : Int) < Ln := by omega
                have HAF := Lib.hid (show p < L.length → ltE (xb, xa) (L.getD p z2) from fun h => absurd h (by rw [HLn.out]; omega))
                have IA := Lib.hid (ins_asc HT.out.asc hp HB3.out HAF.out)
                have hrun1 := run_headE Av Ln cv p (by omega)
                have hrun2 := run_tailE Av Ln cv p (Ln - p) (by omega)
                have FD := Lib.hid (FH.out.below (w' := wq.drew) (Reading.below ⟨1, rfl⟩))
                have BD := Lib.hid (show Below wq.heap.size wq wq.drew from Reading.below ⟨1, rfl⟩)
                go_wp2_with fail
                refine wp_region_noPanic ?_
                refine wp_region_held_drew (S := fun _ => True) (by kernel_rfl) trivial (fun _ => ?_)
                refine wpAnyH_take (i := 1) (v := ?v1x25) rfl (by kernel_rfl) (by kernel_rfl) (by kernel_rfl) (fun _ _ _ h => h) (Or.inl ⟨by rfl, ?y1x25⟩) trivial ?_
                case y1x25 => (intro w hSw; (try dsimp only at hSw); go_simp; try with_reducible rfl)
                simp only [Act.put, List.setIfInBounds_toArray, List.set_cons_zero, List.set_cons_succ, List.getElem_toArray, List.getElem_cons_zero, List.getElem_cons_succ]
                refine wpAnyH_take (i := 2) (v := ?v2x26) rfl (by kernel_rfl) (by kernel_rfl) (by kernel_rfl) (fun _ _ _ h => h) (Or.inl ⟨by rfl, ?y2x26⟩) trivial ?_
                case y2x26 => (intro w hSw; (try dsimp only at hSw); go_simp; try with_reducible rfl)
                simp only [Act.put, List.setIfInBounds_toArray, List.set_cons_zero, List.set_cons_succ, List.getElem_toArray, List.getElem_cons_zero, List.getElem_cons_succ]
                refine wpAnyH_take (i := 3) (v := ?v3x27) rfl (by kernel_rfl) (by kernel_rfl) (by kernel_rfl) (fun _ _ _ h => h) (Or.inl ⟨by rfl, ?y3x27⟩) trivial ?_
                case y3x27 => (intro w hSw; (try dsimp only at hSw); go_simp; try with_reducible rfl)
                simp only [Act.put, List.setIfInBounds_toArray, List.set_cons_zero, List.set_cons_succ, List.getElem_toArray, List.getElem_cons_zero, List.getElem_cons_succ]
                refine wpAnyH_take (i := 5) (v := ?v5x28) rfl (by kernel_rfl) (by kernel_rfl) (by kernel_rfl) (fun _ _ _ h => h) (Or.inl ⟨by rfl, ?y5x28⟩) trivial ?_
                case y5x28 => (intro w hSw; (try dsimp only at hSw); go_simp; try with_reducible rfl)
                simp only [Act.put, List.setIfInBounds_toArray, List.set_cons_zero, List.set_cons_succ, List.getElem_toArray, List.getElem_cons_zero, List.getElem_cons_succ]
                refine wpAnyH_take (i := 6) (v := ?v6x29) rfl (by kernel_rfl) (by kernel_rfl) (by kernel_rfl) (fun _ _ _ h => h) (Or.inl ⟨by rfl, ?y6x29⟩) trivial ?_
                case y6x29 => (intro w hSw; (try dsimp only at hSw); go_simp; try with_reducible rfl)
                simp only [Act.put, List.setIfInBounds_toArray, List.set_cons_zero, List.set_cons_succ, List.getElem_toArray, List.getElem_cons_zero, List.getElem_cons_succ]
                refine wpAnyH_take (i := 7) (v := ?v7x30) rfl (by kernel_rfl) (by kernel_rfl) (by kernel_rfl) (fun _ _ _ h => h) (Or.inl ⟨by rfl, ?y7x30⟩) trivial ?_
                case y7x30 => (intro w hSw; (try dsimp only at hSw); go_simp; try with_reducible rfl)
                simp only [Act.put, List.setIfInBounds_toArray, List.set_cons_zero, List.set_cons_succ, List.getElem_toArray, List.getElem_cons_zero, List.getElem_cons_succ]
                refine wpAnyH_take (i := 10) (v := ?v10x31) rfl (by kernel_rfl) (by kernel_rfl) (by kernel_rfl) (fun _ _ _ h => h) (Or.inl ⟨by rfl, ?y10x31⟩) trivial ?_
                case y10x31 => (intro w hSw; (try dsimp only at hSw); go_simp; try with_reducible rfl)
                simp only [Act.put, List.setIfInBounds_toArray, List.set_cons_zero, List.set_cons_succ, List.getElem_toArray, List.getElem_cons_zero, List.getElem_cons_succ]
                refine wpAnyH_take (i := 11) (v := ?v11x32) rfl (by kernel_rfl) (by kernel_rfl) (by kernel_rfl) (fun _ _ _ h => h) (Or.inl ⟨by rfl, ?y11x32⟩) trivial ?_
                case y11x32 => (intro w hSw; (try dsimp only at hSw); go_simp; try with_reducible rfl)
                simp only [Act.put, List.setIfInBounds_toArray, List.set_cons_zero, List.set_cons_succ, List.getElem_toArray, List.getElem_cons_zero, List.getElem_cons_succ]
                refine wpAnyH_take (i := 12) (v := ?v12x33) rfl (by kernel_rfl) (by kernel_rfl) (by kernel_rfl) (fun _ _ _ h => h) (Or.inl ⟨by rfl, ?y12x33⟩) trivial ?_
                case y12x33 => (intro w hSw; (try dsimp only at hSw); go_simp; try with_reducible rfl)
                simp only [Act.put, List.setIfInBounds_toArray, List.set_cons_zero, List.set_cons_succ, List.getElem_toArray, List.getElem_cons_zero, List.getElem_cons_succ]
                refine wpAnyH_ready (rs := [0, 8]) (by kernel_rfl) (by simp) ?_
                refine AllReadyH.cons rfl (fun K hK => ?_) (AllReadyH.cons rfl (fun K hK => ?_) AllReadyH.nil)
                · go_simp
                  refine hK.out _ _ trivial (fun _ => ?_)
                  clear hK K
                  try simp only [Act.put, List.setIfInBounds_toArray, List.set_cons_zero, List.set_cons_succ, List.getElem_toArray, List.getElem_cons_zero, List.getElem_cons_succ]
                  refine wpAnyH_ready (rs := [4, 8]) (by kernel_rfl) (by simp) ?_
                  refine AllReadyH.cons rfl (fun K hK => ?_) (AllReadyH.cons rfl (fun K hK => ?_) AllReadyH.nil)
                  · refine stepE (own_emptyE wq.drew) ((FD.out.head p hpn).below (mk_below wq.drew (.cells #[] 54))) (by rfl) (.tmp 91) (.tmp 94) (by rfl) (by go_simp) (by go_simp) (by omega) (mk_below wq.drew (.cells #[] 54)).size ?_
                    intro A5 c5 w5 o5 g5
                    have B5 := Lib.hid (own_grown_below (B := wq.heap.size) (BD.out.trans (mk_below wq.drew (.cells #[] 54))) g5 (mk_below wq.drew (.cells #[] 54)).size (fun q hq => ownK_lt (own_emptyE wq.drew) q hq))
                    have O5 := Lib.hid o5
                    have G5 := Lib.hid g5
                    clear o5 g5
                    refine hK.out _ _ trivial (fun _ => ?_)
                    clear hK K
                    try simp only [Act.put, List.setIfInBounds_toArray, List.set_cons_zero, List.set_cons_succ, List.getElem_toArray, List.getElem_cons_zero, List.getElem_cons_succ]
                    refine wpAnyH_ready (rs := [8]) (by kernel_rfl) (by simp) ?_
                    refine AllReadyH.cons rfl (fun K hK => ?_) AllReadyH.nil
                    go_simp
                    refine hK.out _ _ trivial (fun _ => ?_)
                    clear hK K
                    try simp only [Act.put, List.setIfInBounds_toArray, List.set_cons_zero, List.set_cons_succ, List.getElem_toArray, List.getElem_cons_zero, List.getElem_cons_succ]
                    refine wpAnyH_ready (rs := [9]) (by kernel_rfl) (by simp) ?_
                    refine AllReadyH.cons rfl (fun K hK => ?_) AllReadyH.nil
                    refine stepE (ownK_up O5.out (mk_below w5 (.cells #[.int .i64 xb, .int .i64 xa] 54))) (FE.one w5 (xb, xa)) (by rfl) (.tmp 95) (.tmp 99) (by rfl) (by go_simp) (by go_simp) (by omega) (up1 B5.out (.cells #[.int .i64 xb, .int .i64 xa] 54)).size ?_
                    intro A9 c9 w9 o9 g9
                    have B9 := Lib.hid (own_grown_below (B := wq.heap.size) (up1 B5.out (.cells #[.int .i64 xb, .int .i64 xa] 54)) g9 (up1 B5.out (.cells #[.int .i64 xb, .int .i64 xa] 54)).size (fun q hq => ownK_lt (ownK_up O5.out (mk_below w5 (.cells #[.int .i64 xb, .int .i64 xa] 54))) q hq))
                    have O9 := Lib.hid o9
                    clear o9 g9
                    refine hK.out _ _ trivial (fun _ => ?_)
                    clear hK K
                    try simp only [Act.put, List.setIfInBounds_toArray, List.set_cons_zero, List.set_cons_succ, List.getElem_toArray, List.getElem_cons_zero, List.getElem_cons_succ]
                    refine wpAnyH_ready (rs := [13]) (by kernel_rfl) (by simp) ?_
                    refine AllReadyH.cons rfl (fun K hK => ?_) AllReadyH.nil
                    refine stepE O9.out ((FH.out.tail hcvn p (Ln - p) (by omega)).below B9.out) (by rfl) (.tmp 100) (.tmp 103) (by rfl) (by go_simp) (by go_simp) (by omega) B9.out.size ?_
                    intro A13 c13 w13 o13 g13
                    have B13 := Lib.hid (own_grown_below (B := wq.heap.size) B9.out g13 B9.out.size (fun q hq => ownK_lt O9.out q hq))
                    have O13 := Lib.hid o13
                    clear o13 g13
                    refine hK.out _ _ trivial (fun _ => ?_)
                    clear hK K
                    try simp only [Act.put, List.setIfInBounds_toArray, List.set_cons_zero, List.set_cons_succ, List.getElem_toArray, List.getElem_cons_zero, List.getElem_cons_succ]
                    refine wpAnyH_take (i := 14) (v := ?v14x34) rfl (by kernel_rfl) (by kernel_rfl) (by kernel_rfl) (fun _ _ _ h => h) (Or.inl ⟨by rfl, ?y14x34⟩) trivial ?_
                    case y14x34 => (intro w hSw; (try dsimp only at hSw); go_simp; try with_reducible rfl)
                    simp only [Act.put, List.setIfInBounds_toArray, List.set_cons_zero, List.set_cons_succ, List.getElem_toArray, List.getElem_cons_zero, List.getElem_cons_succ]
                    refine wpAnyH_done (by kernel_rfl) ?_ _
                    refine NoPanic.normal ?_
                    go_wp2_with fail
                    have hLL : (([] ++ L.take p) ++ [(xb, xa)]) ++ L.drop p = L.take p ++ (xb, xa) :: L.drop p := by simp
                    have hlen : (L.take p ++ (xb, xa) :: L.drop p).length = 0 + p + 1 + (Ln - p) := by have := HLn.out; simp; omega
                    refine ⟨⟨j + 1, L.take p ++ (xb, xa) :: L.drop p, by omega, by go_num, ?_⟩, by simp [intOf]; omega⟩
                    rw [HSN.out, HN.out]
                    refine HT.out.ins B13.out IA.out ?_
                    have := O13.out
                    rw [hLL, Nat.zero_add] at this
                    rw [hlen, Nat.zero_add]
                    exact this
                  · go_simp
                    refine hK.out _ _ trivial (fun _ => ?_)
                    clear hK K
                    try simp only [Act.put, List.setIfInBounds_toArray, List.set_cons_zero, List.set_cons_succ, List.getElem_toArray, List.getElem_cons_zero, List.getElem_cons_succ]
                    refine wpAnyH_ready (rs := [4]) (by kernel_rfl) (by simp) ?_
                    refine AllReadyH.cons rfl (fun K hK => ?_) AllReadyH.nil
                    refine stepE (ownK_up (own_emptyE wq.drew) (mk_below (wq.drew.alloc (.cells #[] 54)) (.cells #[.int .i64 xb, .int .i64 xa] 54))) ((FD.out.head p hpn).below (up1 (mk_below wq.drew (.cells #[] 54)) (.cells #[.int .i64 xb, .int .i64 xa] 54))) (by rfl) (.tmp 91) (.tmp 94) (by rfl) (by go_simp) (by go_simp) (by omega) (up1 (mk_below wq.drew (.cells #[] 54)) (.cells #[.int .i64 xb, .int .i64 xa] 54)).size ?_
                    intro A5 c5 w5 o5 g5
                    have B5 := Lib.hid (own_grown_below (B := wq.heap.size) (BD.out.trans (up1 (mk_below wq.drew (.cells #[] 54)) (.cells #[.int .i64 xb, .int .i64 xa] 54))) g5 (up1 (mk_below wq.drew (.cells #[] 54)) (.cells #[.int .i64 xb, .int .i64 xa] 54)).size (fun q hq => ownK_lt (ownK_up (own_emptyE wq.drew) (mk_below (wq.drew.alloc (.cells #[] 54)) (.cells #[.int .i64 xb, .int .i64 xa] 54))) q hq))
                    have O5 := Lib.hid o5
                    have G5 := Lib.hid g5
                    clear o5 g5
                    refine hK.out _ _ trivial (fun _ => ?_)
                    clear hK K
                    try simp only [Act.put, List.setIfInBounds_toArray, List.set_cons_zero, List.set_cons_succ, List.getElem_toArray, List.getElem_cons_zero, List.getElem_cons_succ]
                    refine wpAnyH_ready (rs := [9]) (by kernel_rfl) (by simp) ?_
                    refine AllReadyH.cons rfl (fun K hK => ?_) AllReadyH.nil
                    refine stepE O5.out (((show FE ((wq.drew.alloc (.cells #[] 54)).alloc (.cells #[.int .i64 xb, .int .i64 xa] 54)) (some ⟨wq.heap.size + 1, 0, none⟩) 1 1 [(xb, xa)] by have := FE.one (wq.drew.alloc (.cells #[] 54)) (xb, xa); rwa [World.size_alloc] at this)).grown G5.out (by simp [Value.ownBlock])) (by rfl) (.tmp 95) (.tmp 99) (by rfl) (by go_simp) (by go_simp) (by omega) B5.out.size ?_
                    intro A9 c9 w9 o9 g9
                    have B9 := Lib.hid (own_grown_below (B := wq.heap.size) B5.out g9 B5.out.size (fun q hq => ownK_lt O5.out q hq))
                    have O9 := Lib.hid o9
                    clear o9 g9
                    refine hK.out _ _ trivial (fun _ => ?_)
                    clear hK K
                    try simp only [Act.put, List.setIfInBounds_toArray, List.set_cons_zero, List.set_cons_succ, List.getElem_toArray, List.getElem_cons_zero, List.getElem_cons_succ]
                    refine wpAnyH_ready (rs := [13]) (by kernel_rfl) (by simp) ?_
                    refine AllReadyH.cons rfl (fun K hK => ?_) AllReadyH.nil
                    refine stepE O9.out ((FH.out.tail hcvn p (Ln - p) (by omega)).below B9.out) (by rfl) (.tmp 100) (.tmp 103) (by rfl) (by go_simp) (by go_simp) (by omega) B9.out.size ?_
                    intro A13 c13 w13 o13 g13
                    have B13 := Lib.hid (own_grown_below (B := wq.heap.size) B9.out g13 B9.out.size (fun q hq => ownK_lt O9.out q hq))
                    have O13 := Lib.hid o13
                    clear o13 g13
                    refine hK.out _ _ trivial (fun _ => ?_)
                    clear hK K
                    try simp only [Act.put, List.setIfInBounds_toArray, List.set_cons_zero, List.set_cons_succ, List.getElem_toArray, List.getElem_cons_zero, List.getElem_cons_succ]
                    refine wpAnyH_take (i := 14) (v := ?v14x35) rfl (by kernel_rfl) (by kernel_rfl) (by kernel_rfl) (fun _ _ _ h => h) (Or.inl ⟨by rfl, ?y14x35⟩) trivial ?_
                    case y14x35 => (intro w hSw; (try dsimp only at hSw); go_simp; try with_reducible rfl)
                    simp only [Act.put, List.setIfInBounds_toArray, List.set_cons_zero, List.set_cons_succ, List.getElem_toArray, List.getElem_cons_zero, List.getElem_cons_succ]
                    refine wpAnyH_done (by kernel_rfl) ?_ _
                    refine NoPanic.normal ?_
                    go_wp2_with fail
                    have hLL : (([] ++ L.take p) ++ [(xb, xa)]) ++ L.drop p = L.take p ++ (xb, xa) :: L.drop p := by simp
                    have hlen : (L.take p ++ (xb, xa) :: L.drop p).length = 0 + p + 1 + (Ln - p) := by have := HLn.out; simp; omega
                    refine ⟨⟨j + 1, L.take p ++ (xb, xa) :: L.drop p, by omega, by go_num, ?_⟩, by simp [intOf]; omega⟩
                    rw [HSN.out, HN.out]
                    refine HT.out.ins B13.out IA.out ?_
                    have := O13.out
                    rw [hLL, Nat.zero_add] at this
                    rw [hlen, Nat.zero_add]
                    exact this
                · go_simp
                  refine hK.out _ _ trivial (fun _ => ?_)
                  clear hK K
                  try simp only [Act.put, List.setIfInBounds_toArray, List.set_cons_zero, List.set_cons_succ, List.getElem_toArray, List.getElem_cons_zero, List.getElem_cons_succ]
                  refine wpAnyH_ready (rs := [0]) (by kernel_rfl) (by simp) ?_
                  refine AllReadyH.cons rfl (fun K hK => ?_) AllReadyH.nil
                  go_simp
                  refine hK.out _ _ trivial (fun _ => ?_)
                  clear hK K
                  try simp only [Act.put, List.setIfInBounds_toArray, List.set_cons_zero, List.set_cons_succ, List.getElem_toArray, List.getElem_cons_zero, List.getElem_cons_succ]
                  refine wpAnyH_ready (rs := [4]) (by kernel_rfl) (by simp) ?_
                  refine AllReadyH.cons rfl (fun K hK => ?_) AllReadyH.nil
                  refine stepE (show ((wq.drew.alloc (.cells #[.int .i64 xb, .int .i64 xa] 54)).alloc (.cells #[] 54)).ownsRow wq.drew.heap.size 54 2 (.slice (some ⟨wq.heap.size + 1, 0, none⟩) 0 0) 0 (ints (flat2 [])) by have := own_emptyE (wq.drew.alloc (.cells #[.int .i64 xb, .int .i64 xa] 54)); rw [World.size_alloc] at this; exact ownK_base this (Nat.le_succ _)) ((FD.out.head p hpn).below (up1 (mk_below wq.drew (.cells #[.int .i64 xb, .int .i64 xa] 54)) (.cells #[] 54))) (by rfl) (.tmp 91) (.tmp 94) (by rfl) (by go_simp) (by go_simp) (by omega) (up1 (mk_below wq.drew (.cells #[.int .i64 xb, .int .i64 xa] 54)) (.cells #[] 54)).size ?_
                  intro A5 c5 w5 o5 g5
                  have B5 := Lib.hid (own_grown_below (B := wq.heap.size) (BD.out.trans (up1 (mk_below wq.drew (.cells #[.int .i64 xb, .int .i64 xa] 54)) (.cells #[] 54))) g5 (up1 (mk_below wq.drew (.cells #[.int .i64 xb, .int .i64 xa] 54)) (.cells #[] 54)).size (fun q hq => ownK_lt (show ((wq.drew.alloc (.cells #[.int .i64 xb, .int .i64 xa] 54)).alloc (.cells #[] 54)).ownsRow wq.drew.heap.size 54 2 (.slice (some ⟨wq.heap.size + 1, 0, none⟩) 0 0) 0 (ints (flat2 [])) by have := own_emptyE (wq.drew.alloc (.cells #[.int .i64 xb, .int .i64 xa] 54)); rw [World.size_alloc] at this; exact ownK_base this (Nat.le_succ _)) q hq))
                  have O5 := Lib.hid o5
                  have G5 := Lib.hid g5
                  clear o5 g5
                  refine hK.out _ _ trivial (fun _ => ?_)
                  clear hK K
                  try simp only [Act.put, List.setIfInBounds_toArray, List.set_cons_zero, List.set_cons_succ, List.getElem_toArray, List.getElem_cons_zero, List.getElem_cons_succ]
                  refine wpAnyH_ready (rs := [9]) (by kernel_rfl) (by simp) ?_
                  refine AllReadyH.cons rfl (fun K hK => ?_) AllReadyH.nil
                  refine stepE O5.out (((FE.one wq.drew (xb, xa)).below (mk_below (wq.drew.alloc (.cells #[.int .i64 xb, .int .i64 xa] 54)) (.cells #[] 54))).grown G5.out (by simp [Value.ownBlock])) (by rfl) (.tmp 95) (.tmp 99) (by rfl) (by go_simp) (by go_simp) (by omega) B5.out.size ?_
                  intro A9 c9 w9 o9 g9
                  have B9 := Lib.hid (own_grown_below (B := wq.heap.size) B5.out g9 B5.out.size (fun q hq => ownK_lt O5.out q hq))
                  have O9 := Lib.hid o9
                  clear o9 g9
                  refine hK.out _ _ trivial (fun _ => ?_)
                  clear hK K
                  try simp only [Act.put, List.setIfInBounds_toArray, List.set_cons_zero, List.set_cons_succ, List.getElem_toArray, List.getElem_cons_zero, List.getElem_cons_succ]
                  refine wpAnyH_ready (rs := [13]) (by kernel_rfl) (by simp) ?_
                  refine AllReadyH.cons rfl (fun K hK => ?_) AllReadyH.nil
                  refine stepE O9.out ((FH.out.tail hcvn p (Ln - p) (by omega)).below B9.out) (by rfl) (.tmp 100) (.tmp 103) (by rfl) (by go_simp) (by go_simp) (by omega) B9.out.size ?_
                  intro A13 c13 w13 o13 g13
                  have B13 := Lib.hid (own_grown_below (B := wq.heap.size) B9.out g13 B9.out.size (fun q hq => ownK_lt O9.out q hq))
                  have O13 := Lib.hid o13
                  clear o13 g13
                  refine hK.out _ _ trivial (fun _ => ?_)
                  clear hK K
                  try simp only [Act.put, List.setIfInBounds_toArray, List.set_cons_zero, List.set_cons_succ, List.getElem_toArray, List.getElem_cons_zero, List.getElem_cons_succ]
                  refine wpAnyH_take (i := 14) (v := ?v14x36) rfl (by kernel_rfl) (by kernel_rfl) (by kernel_rfl) (fun _ _ _ h => h) (Or.inl ⟨by rfl, ?y14x36⟩) trivial ?_
                  case y14x36 => (intro w hSw; (try dsimp only at hSw); go_simp; try with_reducible rfl)
                  simp only [Act.put, List.setIfInBounds_toArray, List.set_cons_zero, List.set_cons_succ, List.getElem_toArray, List.getElem_cons_zero, List.getElem_cons_succ]
                  refine wpAnyH_done (by kernel_rfl) ?_ _
                  refine NoPanic.normal ?_
                  go_wp2_with fail
                  have hLL : (([] ++ L.take p) ++ [(xb, xa)]) ++ L.drop p = L.take p ++ (xb, xa) :: L.drop p := by simp
                  have hlen : (L.take p ++ (xb, xa) :: L.drop p).length = 0 + p + 1 + (Ln - p) := by have := HLn.out; simp; omega
                  refine ⟨⟨j + 1, L.take p ++ (xb, xa) :: L.drop p, by omega, by go_num, ?_⟩, by simp [intOf]; omega⟩
                  rw [HSN.out, HN.out]
                  refine HT.out.ins B13.out IA.out ?_
                  have := O13.out
                  rw [hLL, Nat.zero_add] at this
                  rw [hlen, Nat.zero_add]
                  exact this
          · have gab : ¬ xb < xa := hab
            have HN := Lib.hid (show nrm xa xb = (xa, xb) by unfold nrm; rw [Int.min_eq_left (by omega), Int.max_eq_right (by omega)])
            go_wp2_with fail
            go_loopw [8] (Q3At wq L (xa, xb)) (fun i _ => L.length - (intOf i).toNat)
            case atStart => exact ⟨rfl, 0, Nat.zero_le _, rfl, fun i hi => absurd hi (by omega)⟩
            case round =>
              obtain ⟨rfl, p, hp, rfl, hb3⟩ := hrel
              have HB3 := Lib.hid hb3
              clear hb3
              have hpn : p ≤ Ln := by rw [← HLn.out]; exact hp
              by_cases hpl : p < Ln
              · have bp : (p : Int) < Ln := by omega
                obtain ⟨qq, hqq⟩ := edge_at HT.out.own HLn.out (by omega)
                obtain ⟨rfl, hcell⟩ := hqq
                obtain ⟨o0, o1⟩ := hcell p hpl
                clear hcell
                obtain ⟨yy, hyy⟩ : ∃ y, L.getD p z2 = y := ⟨_, rfl⟩
                have HY := Lib.hid hyy
                rw [hyy] at o0 o1
                clear hyy
                obtain ⟨y0, y1⟩ := yy
                by_cases h1 : y0 < xa
                · go_wp2_with fail
                  refine ⟨⟨rfl, p + 1, by rw [HLn.out]; omega, by go_num, fun i hi => ?_⟩, by simp [intOf, HLn.out]; omega⟩
                  rcases Nat.lt_or_ge i p with h3 | h3
                  · exact HB3.out i h3
                  · obtain rfl : i = p := by omega
                    rw [HY.out]; exact .inl h1
                · by_cases h2 : y0 = xa
                  · have f1 : (y0 == xa) = true := by simpa using h2
                    have H2 := Lib.hid h2
                    clear h2
                    by_cases h3 : y1 < xb
                    · go_wp2_with fail
                      refine ⟨⟨rfl, p + 1, by rw [HLn.out]; omega, by go_num, fun i hi => ?_⟩, by simp [intOf, HLn.out]; omega⟩
                      rcases Nat.lt_or_ge i p with h4 | h4
                      · exact HB3.out i h4
                      · obtain rfl : i = p := by omega
                        rw [HY.out]; exact .inr ⟨H2.out, h3⟩
                    · have gd := fun op u v => run_eqGuard_agg (P := Try.prog) wq op 54 u v #[.int .i64 y0, .int .i64 y1] #[.int .i64 xa, .int .i64 xb] Try.eqGuardType54
                      have nq := eqIn2 wq y0 y1 xa xb
                      by_cases h5 : y1 = xb
                      · rw [(eq2_iff (y0, y1) (xa, xb)).2 (Prod.ext H2.out h5)] at nq
                        have H5 := Lib.hid h5
                        clear h5
                        go_wp2_with fail
                        refine ⟨⟨j + 1, L, by omega, by go_num, ?_⟩, by simp [intOf]; omega⟩
                        have hin : (xa, xb) ∈ L := by rw [show (xa, xb) = (y0, y1) from (Prod.ext H2.out H5.out).symm, ← HY.out]; rw [List.getD_eq_getElem?_getD, List.getElem?_eq_getElem (show p < L.length by rw [HLn.out]; exact hpl)]; exact List.getElem_mem _
                        rw [HSN.out, HN.out]
                        have := HT.out.same hin
                        rwa [HLn.out] at this
                      · rw [eq2_no (x := (y0, y1)) (y := (xa, xb)) (fun e => h5 (congrArg Prod.snd e))] at nq
                        have HAF := Lib.hid (show p < L.length → ltE (xa, xb) (L.getD p z2) from fun _ => by rw [HY.out]; exact .inr ⟨H2.out.symm, by omega⟩)
                        have IA := Lib.hid (ins_asc HT.out.asc hp HB3.out HAF.out)
                        have hrun1 := run_headE (some ⟨qq, 0, none⟩) Ln cv p (by omega)
                        have hrun2 := run_tailE (some ⟨qq, 0, none⟩) Ln cv p (Ln - p) (by omega)
                        have FD := Lib.hid (FH.out.below (w' := wq.drew) (Reading.below ⟨1, rfl⟩))
                        have BD := Lib.hid (show Below wq.heap.size wq wq.drew from Reading.below ⟨1, rfl⟩)
                        go_wp2_with fail
                        refine wp_region_noPanic ?_
                        refine wp_region_held_drew (S := fun _ => True) (by kernel_rfl) trivial (fun _ => ?_)
                        refine wpAnyH_take (i := 1) (v := ?v1x37) rfl (by kernel_rfl) (by kernel_rfl) (by kernel_rfl) (fun _ _ _ h => h) (Or.inl ⟨by rfl, ?y1x37⟩) trivial ?_
                        case y1x37 => (intro w hSw; (try dsimp only at hSw); go_simp; try with_reducible rfl)
                        simp only [Act.put, List.setIfInBounds_toArray, List.set_cons_zero, List.set_cons_succ, List.getElem_toArray, List.getElem_cons_zero, List.getElem_cons_succ]
                        refine wpAnyH_take (i := 2) (v := ?v2x38) rfl (by kernel_rfl) (by kernel_rfl) (by kernel_rfl) (fun _ _ _ h => h) (Or.inl ⟨by rfl, ?y2x38⟩) trivial ?_
                        case y2x38 => (intro w hSw; (try dsimp only at hSw); go_simp; try with_reducible rfl)
                        simp only [Act.put, List.setIfInBounds_toArray, List.set_cons_zero, List.set_cons_succ, List.getElem_toArray, List.getElem_cons_zero, List.getElem_cons_succ]
                        refine wpAnyH_take (i := 3) (v := ?v3x39) rfl (by kernel_rfl) (by kernel_rfl) (by kernel_rfl) (fun _ _ _ h => h) (Or.inl ⟨by rfl, ?y3x39⟩) trivial ?_
                        case y3x39 => (intro w hSw; (try dsimp only at hSw); go_simp; try with_reducible rfl)
                        simp only [Act.put, List.setIfInBounds_toArray, List.set_cons_zero, List.set_cons_succ, List.getElem_toArray, List.getElem_cons_zero, List.getElem_cons_succ]
                        refine wpAnyH_take (i := 5) (v := ?v5x40) rfl (by kernel_rfl) (by kernel_rfl) (by kernel_rfl) (fun _ _ _ h => h) (Or.inl ⟨by rfl, ?y5x40⟩) trivial ?_
                        case y5x40 => (intro w hSw; (try dsimp only at hSw); go_simp; try with_reducible rfl)
                        simp only [Act.put, List.setIfInBounds_toArray, List.set_cons_zero, List.set_cons_succ, List.getElem_toArray, List.getElem_cons_zero, List.getElem_cons_succ]
                        refine wpAnyH_take (i := 6) (v := ?v6x41) rfl (by kernel_rfl) (by kernel_rfl) (by kernel_rfl) (fun _ _ _ h => h) (Or.inl ⟨by rfl, ?y6x41⟩) trivial ?_
                        case y6x41 => (intro w hSw; (try dsimp only at hSw); go_simp; try with_reducible rfl)
                        simp only [Act.put, List.setIfInBounds_toArray, List.set_cons_zero, List.set_cons_succ, List.getElem_toArray, List.getElem_cons_zero, List.getElem_cons_succ]
                        refine wpAnyH_take (i := 7) (v := ?v7x42) rfl (by kernel_rfl) (by kernel_rfl) (by kernel_rfl) (fun _ _ _ h => h) (Or.inl ⟨by rfl, ?y7x42⟩) trivial ?_
                        case y7x42 => (intro w hSw; (try dsimp only at hSw); go_simp; try with_reducible rfl)
                        simp only [Act.put, List.setIfInBounds_toArray, List.set_cons_zero, List.set_cons_succ, List.getElem_toArray, List.getElem_cons_zero, List.getElem_cons_succ]
                        refine wpAnyH_take (i := 10) (v := ?v10x43) rfl (by kernel_rfl) (by kernel_rfl) (by kernel_rfl) (fun _ _ _ h => h) (Or.inl ⟨by rfl, ?y10x43⟩) trivial ?_
                        case y10x43 => (intro w hSw; (try dsimp only at hSw); go_simp; try with_reducible rfl)
                        simp only [Act.put, List.setIfInBounds_toArray, List.set_cons_zero, List.set_cons_succ, List.getElem_toArray, List.getElem_cons_zero, List.getElem_cons_succ]
                        refine wpAnyH_take (i := 11) (v := ?v11x44) rfl (by kernel_rfl) (by kernel_rfl) (by kernel_rfl) (fun _ _ _ h => h) (Or.inl ⟨by rfl, ?y11x44⟩) trivial ?_
                        case y11x44 => (intro w hSw; (try dsimp only at hSw); go_simp; try with_reducible rfl)
                        simp only [Act.put, List.setIfInBounds_toArray, List.set_cons_zero, List.set_cons_succ, List.getElem_toArray, List.getElem_cons_zero, List.getElem_cons_succ]
                        refine wpAnyH_take (i := 12) (v := ?v12x45) rfl (by kernel_rfl) (by kernel_rfl) (by kernel_rfl) (fun _ _ _ h => h) (Or.inl ⟨by rfl, ?y12x45⟩) trivial ?_
                        case y12x45 => (intro w hSw; (try dsimp only at hSw); go_simp; try with_reducible rfl)
                        simp only [Act.put, List.setIfInBounds_toArray, List.set_cons_zero, List.set_cons_succ, List.getElem_toArray, List.getElem_cons_zero, List.getElem_cons_succ]
                        refine wpAnyH_ready (rs := [0, 8]) (by kernel_rfl) (by simp) ?_
                        refine AllReadyH.cons rfl (fun K hK => ?_) (AllReadyH.cons rfl (fun K hK => ?_) AllReadyH.nil)
                        · go_simp
                          refine hK.out _ _ trivial (fun _ => ?_)
                          clear hK K
                          try simp only [Act.put, List.setIfInBounds_toArray, List.set_cons_zero, List.set_cons_succ, List.getElem_toArray, List.getElem_cons_zero, List.getElem_cons_succ]
                          refine wpAnyH_ready (rs := [4, 8]) (by kernel_rfl) (by simp) ?_
                          refine AllReadyH.cons rfl (fun K hK => ?_) (AllReadyH.cons rfl (fun K hK => ?_) AllReadyH.nil)
                          · refine stepE (own_emptyE wq.drew) ((FD.out.head p hpn).below (mk_below wq.drew (.cells #[] 54))) (by rfl) (.tmp 91) (.tmp 94) (by rfl) (by go_simp) (by go_simp) (by omega) (mk_below wq.drew (.cells #[] 54)).size ?_
                            intro A5 c5 w5 o5 g5
                            have B5 := Lib.hid (own_grown_below (B := wq.heap.size) (BD.out.trans (mk_below wq.drew (.cells #[] 54))) g5 (mk_below wq.drew (.cells #[] 54)).size (fun q hq => ownK_lt (own_emptyE wq.drew) q hq))
                            have O5 := Lib.hid o5
                            have G5 := Lib.hid g5
                            clear o5 g5
                            refine hK.out _ _ trivial (fun _ => ?_)
                            clear hK K
                            try simp only [Act.put, List.setIfInBounds_toArray, List.set_cons_zero, List.set_cons_succ, List.getElem_toArray, List.getElem_cons_zero, List.getElem_cons_succ]
                            refine wpAnyH_ready (rs := [8]) (by kernel_rfl) (by simp) ?_
                            refine AllReadyH.cons rfl (fun K hK => ?_) AllReadyH.nil
                            go_simp
                            refine hK.out _ _ trivial (fun _ => ?_)
                            clear hK K
                            try simp only [Act.put, List.setIfInBounds_toArray, List.set_cons_zero, List.set_cons_succ, List.getElem_toArray, List.getElem_cons_zero, List.getElem_cons_succ]
                            refine wpAnyH_ready (rs := [9]) (by kernel_rfl) (by simp) ?_
                            refine AllReadyH.cons rfl (fun K hK => ?_) AllReadyH.nil
                            refine stepE (ownK_up O5.out (mk_below w5 (.cells #[.int .i64 xa, .int .i64 xb] 54))) (FE.one w5 (xa, xb)) (by rfl) (.tmp 95) (.tmp 99) (by rfl) (by go_simp) (by go_simp) (by omega) (up1 B5.out (.cells #[.int .i64 xa, .int .i64 xb] 54)).size ?_
                            intro A9 c9 w9 o9 g9
                            have B9 := Lib.hid (own_grown_below (B := wq.heap.size) (up1 B5.out (.cells #[.int .i64 xa, .int .i64 xb] 54)) g9 (up1 B5.out (.cells #[.int .i64 xa, .int .i64 xb] 54)).size (fun q hq => ownK_lt (ownK_up O5.out (mk_below w5 (.cells #[.int .i64 xa, .int .i64 xb] 54))) q hq))
                            have O9 := Lib.hid o9
                            clear o9 g9
                            refine hK.out _ _ trivial (fun _ => ?_)
                            clear hK K
                            try simp only [Act.put, List.setIfInBounds_toArray, List.set_cons_zero, List.set_cons_succ, List.getElem_toArray, List.getElem_cons_zero, List.getElem_cons_succ]
                            refine wpAnyH_ready (rs := [13]) (by kernel_rfl) (by simp) ?_
                            refine AllReadyH.cons rfl (fun K hK => ?_) AllReadyH.nil
                            refine stepE O9.out ((FH.out.tail hcvn p (Ln - p) (by omega)).below B9.out) (by rfl) (.tmp 100) (.tmp 103) (by rfl) (by go_simp) (by go_simp) (by omega) B9.out.size ?_
                            intro A13 c13 w13 o13 g13
                            have B13 := Lib.hid (own_grown_below (B := wq.heap.size) B9.out g13 B9.out.size (fun q hq => ownK_lt O9.out q hq))
                            have O13 := Lib.hid o13
                            clear o13 g13
                            refine hK.out _ _ trivial (fun _ => ?_)
                            clear hK K
                            try simp only [Act.put, List.setIfInBounds_toArray, List.set_cons_zero, List.set_cons_succ, List.getElem_toArray, List.getElem_cons_zero, List.getElem_cons_succ]
                            refine wpAnyH_take (i := 14) (v := ?v14x46) rfl (by kernel_rfl) (by kernel_rfl) (by kernel_rfl) (fun _ _ _ h => h) (Or.inl ⟨by rfl, ?y14x46⟩) trivial ?_
                            case y14x46 => (intro w hSw; (try dsimp only at hSw); go_simp; try with_reducible rfl)
                            simp only [Act.put, List.setIfInBounds_toArray, List.set_cons_zero, List.set_cons_succ, List.getElem_toArray, List.getElem_cons_zero, List.getElem_cons_succ]
                            refine wpAnyH_done (by kernel_rfl) ?_ _
                            refine NoPanic.normal ?_
                            go_wp2_with fail
                            have hLL : (([] ++ L.take p) ++ [(xa, xb)]) ++ L.drop p = L.take p ++ (xa, xb) :: L.drop p := by simp
                            have hlen : (L.take p ++ (xa, xb) :: L.drop p).length = 0 + p + 1 + (Ln - p) := by have := HLn.out; simp; omega
                            refine ⟨⟨j + 1, L.take p ++ (xa, xb) :: L.drop p, by omega, by go_num, ?_⟩, by simp [intOf]; omega⟩
                            rw [HSN.out, HN.out]
                            refine HT.out.ins B13.out IA.out ?_
                            have := O13.out
                            rw [hLL, Nat.zero_add] at this
                            rw [hlen, Nat.zero_add]
                            exact this
                          · go_simp
                            refine hK.out _ _ trivial (fun _ => ?_)
                            clear hK K
                            try simp only [Act.put, List.setIfInBounds_toArray, List.set_cons_zero, List.set_cons_succ, List.getElem_toArray, List.getElem_cons_zero, List.getElem_cons_succ]
                            refine wpAnyH_ready (rs := [4]) (by kernel_rfl) (by simp) ?_
                            refine AllReadyH.cons rfl (fun K hK => ?_) AllReadyH.nil
                            refine stepE (ownK_up (own_emptyE wq.drew) (mk_below (wq.drew.alloc (.cells #[] 54)) (.cells #[.int .i64 xa, .int .i64 xb] 54))) ((FD.out.head p hpn).below (up1 (mk_below wq.drew (.cells #[] 54)) (.cells #[.int .i64 xa, .int .i64 xb] 54))) (by rfl) (.tmp 91) (.tmp 94) (by rfl) (by go_simp) (by go_simp) (by omega) (up1 (mk_below wq.drew (.cells #[] 54)) (.cells #[.int .i64 xa, .int .i64 xb] 54)).size ?_
                            intro A5 c5 w5 o5 g5
                            have B5 := Lib.hid (own_grown_below (B := wq.heap.size) (BD.out.trans (up1 (mk_below wq.drew (.cells #[] 54)) (.cells #[.int .i64 xa, .int .i64 xb] 54))) g5 (up1 (mk_below wq.drew (.cells #[] 54)) (.cells #[.int .i64 xa, .int .i64 xb] 54)).size (fun q hq => ownK_lt (ownK_up (own_emptyE wq.drew) (mk_below (wq.drew.alloc (.cells #[] 54)) (.cells #[.int .i64 xa, .int .i64 xb] 54))) q hq))
                            have O5 := Lib.hid o5
                            have G5 := Lib.hid g5
                            clear o5 g5
                            refine hK.out _ _ trivial (fun _ => ?_)
                            clear hK K
                            try simp only [Act.put, List.setIfInBounds_toArray, List.set_cons_zero, List.set_cons_succ, List.getElem_toArray, List.getElem_cons_zero, List.getElem_cons_succ]
                            refine wpAnyH_ready (rs := [9]) (by kernel_rfl) (by simp) ?_
                            refine AllReadyH.cons rfl (fun K hK => ?_) AllReadyH.nil
                            refine stepE O5.out (((show FE ((wq.drew.alloc (.cells #[] 54)).alloc (.cells #[.int .i64 xa, .int .i64 xb] 54)) (some ⟨wq.heap.size + 1, 0, none⟩) 1 1 [(xa, xb)] by have := FE.one (wq.drew.alloc (.cells #[] 54)) (xa, xb); rwa [World.size_alloc] at this)).grown G5.out (by simp [Value.ownBlock])) (by rfl) (.tmp 95) (.tmp 99) (by rfl) (by go_simp) (by go_simp) (by omega) B5.out.size ?_
                            intro A9 c9 w9 o9 g9
                            have B9 := Lib.hid (own_grown_below (B := wq.heap.size) B5.out g9 B5.out.size (fun q hq => ownK_lt O5.out q hq))
                            have O9 := Lib.hid o9
                            clear o9 g9
                            refine hK.out _ _ trivial (fun _ => ?_)
                            clear hK K
                            try simp only [Act.put, List.setIfInBounds_toArray, List.set_cons_zero, List.set_cons_succ, List.getElem_toArray, List.getElem_cons_zero, List.getElem_cons_succ]
                            refine wpAnyH_ready (rs := [13]) (by kernel_rfl) (by simp) ?_
                            refine AllReadyH.cons rfl (fun K hK => ?_) AllReadyH.nil
                            refine stepE O9.out ((FH.out.tail hcvn p (Ln - p) (by omega)).below B9.out) (by rfl) (.tmp 100) (.tmp 103) (by rfl) (by go_simp) (by go_simp) (by omega) B9.out.size ?_
                            intro A13 c13 w13 o13 g13
                            have B13 := Lib.hid (own_grown_below (B := wq.heap.size) B9.out g13 B9.out.size (fun q hq => ownK_lt O9.out q hq))
                            have O13 := Lib.hid o13
                            clear o13 g13
                            refine hK.out _ _ trivial (fun _ => ?_)
                            clear hK K
                            try simp only [Act.put, List.setIfInBounds_toArray, List.set_cons_zero, List.set_cons_succ, List.getElem_toArray, List.getElem_cons_zero, List.getElem_cons_succ]
                            refine wpAnyH_take (i := 14) (v := ?v14x47) rfl (by kernel_rfl) (by kernel_rfl) (by kernel_rfl) (fun _ _ _ h => h) (Or.inl ⟨by rfl, ?y14x47⟩) trivial ?_
                            case y14x47 => (intro w hSw; (try dsimp only at hSw); go_simp; try with_reducible rfl)
                            simp only [Act.put, List.setIfInBounds_toArray, List.set_cons_zero, List.set_cons_succ, List.getElem_toArray, List.getElem_cons_zero, List.getElem_cons_succ]
                            refine wpAnyH_done (by kernel_rfl) ?_ _
                            refine NoPanic.normal ?_
                            go_wp2_with fail
                            have hLL : (([] ++ L.take p) ++ [(xa, xb)]) ++ L.drop p = L.take p ++ (xa, xb) :: L.drop p := by simp
                            have hlen : (L.take p ++ (xa, xb) :: L.drop p).length = 0 + p + 1 + (Ln - p) := by have := HLn.out; simp; omega
                            refine ⟨⟨j + 1, L.take p ++ (xa, xb) :: L.drop p, by omega, by go_num, ?_⟩, by simp [intOf]; omega⟩
                            rw [HSN.out, HN.out]
                            refine HT.out.ins B13.out IA.out ?_
                            have := O13.out
                            rw [hLL, Nat.zero_add] at this
                            rw [hlen, Nat.zero_add]
                            exact this
                        · go_simp
                          refine hK.out _ _ trivial (fun _ => ?_)
                          clear hK K
                          try simp only [Act.put, List.setIfInBounds_toArray, List.set_cons_zero, List.set_cons_succ, List.getElem_toArray, List.getElem_cons_zero, List.getElem_cons_succ]
                          refine wpAnyH_ready (rs := [0]) (by kernel_rfl) (by simp) ?_
                          refine AllReadyH.cons rfl (fun K hK => ?_) AllReadyH.nil
                          go_simp
                          refine hK.out _ _ trivial (fun _ => ?_)
                          clear hK K
                          try simp only [Act.put, List.setIfInBounds_toArray, List.set_cons_zero, List.set_cons_succ, List.getElem_toArray, List.getElem_cons_zero, List.getElem_cons_succ]
                          refine wpAnyH_ready (rs := [4]) (by kernel_rfl) (by simp) ?_
                          refine AllReadyH.cons rfl (fun K hK => ?_) AllReadyH.nil
                          refine stepE (show ((wq.drew.alloc (.cells #[.int .i64 xa, .int .i64 xb] 54)).alloc (.cells #[] 54)).ownsRow wq.drew.heap.size 54 2 (.slice (some ⟨wq.heap.size + 1, 0, none⟩) 0 0) 0 (ints (flat2 [])) by have := own_emptyE (wq.drew.alloc (.cells #[.int .i64 xa, .int .i64 xb] 54)); rw [World.size_alloc] at this; exact ownK_base this (Nat.le_succ _)) ((FD.out.head p hpn).below (up1 (mk_below wq.drew (.cells #[.int .i64 xa, .int .i64 xb] 54)) (.cells #[] 54))) (by rfl) (.tmp 91) (.tmp 94) (by rfl) (by go_simp) (by go_simp) (by omega) (up1 (mk_below wq.drew (.cells #[.int .i64 xa, .int .i64 xb] 54)) (.cells #[] 54)).size ?_
                          intro A5 c5 w5 o5 g5
                          have B5 := Lib.hid (own_grown_below (B := wq.heap.size) (BD.out.trans (up1 (mk_below wq.drew (.cells #[.int .i64 xa, .int .i64 xb] 54)) (.cells #[] 54))) g5 (up1 (mk_below wq.drew (.cells #[.int .i64 xa, .int .i64 xb] 54)) (.cells #[] 54)).size (fun q hq => ownK_lt (show ((wq.drew.alloc (.cells #[.int .i64 xa, .int .i64 xb] 54)).alloc (.cells #[] 54)).ownsRow wq.drew.heap.size 54 2 (.slice (some ⟨wq.heap.size + 1, 0, none⟩) 0 0) 0 (ints (flat2 [])) by have := own_emptyE (wq.drew.alloc (.cells #[.int .i64 xa, .int .i64 xb] 54)); rw [World.size_alloc] at this; exact ownK_base this (Nat.le_succ _)) q hq))
                          have O5 := Lib.hid o5
                          have G5 := Lib.hid g5
                          clear o5 g5
                          refine hK.out _ _ trivial (fun _ => ?_)
                          clear hK K
                          try simp only [Act.put, List.setIfInBounds_toArray, List.set_cons_zero, List.set_cons_succ, List.getElem_toArray, List.getElem_cons_zero, List.getElem_cons_succ]
                          refine wpAnyH_ready (rs := [9]) (by kernel_rfl) (by simp) ?_
                          refine AllReadyH.cons rfl (fun K hK => ?_) AllReadyH.nil
                          refine stepE O5.out (((FE.one wq.drew (xa, xb)).below (mk_below (wq.drew.alloc (.cells #[.int .i64 xa, .int .i64 xb] 54)) (.cells #[] 54))).grown G5.out (by simp [Value.ownBlock])) (by rfl) (.tmp 95) (.tmp 99) (by rfl) (by go_simp) (by go_simp) (by omega) B5.out.size ?_
                          intro A9 c9 w9 o9 g9
                          have B9 := Lib.hid (own_grown_below (B := wq.heap.size) B5.out g9 B5.out.size (fun q hq => ownK_lt O5.out q hq))
                          have O9 := Lib.hid o9
                          clear o9 g9
                          refine hK.out _ _ trivial (fun _ => ?_)
                          clear hK K
                          try simp only [Act.put, List.setIfInBounds_toArray, List.set_cons_zero, List.set_cons_succ, List.getElem_toArray, List.getElem_cons_zero, List.getElem_cons_succ]
                          refine wpAnyH_ready (rs := [13]) (by kernel_rfl) (by simp) ?_
                          refine AllReadyH.cons rfl (fun K hK => ?_) AllReadyH.nil
                          refine stepE O9.out ((FH.out.tail hcvn p (Ln - p) (by omega)).below B9.out) (by rfl) (.tmp 100) (.tmp 103) (by rfl) (by go_simp) (by go_simp) (by omega) B9.out.size ?_
                          intro A13 c13 w13 o13 g13
                          have B13 := Lib.hid (own_grown_below (B := wq.heap.size) B9.out g13 B9.out.size (fun q hq => ownK_lt O9.out q hq))
                          have O13 := Lib.hid o13
                          clear o13 g13
                          refine hK.out _ _ trivial (fun _ => ?_)
                          clear hK K
                          try simp only [Act.put, List.setIfInBounds_toArray, List.set_cons_zero, List.set_cons_succ, List.getElem_toArray, List.getElem_cons_zero, List.getElem_cons_succ]
                          refine wpAnyH_take (i := 14) (v := ?v14x48) rfl (by kernel_rfl) (by kernel_rfl) (by kernel_rfl) (fun _ _ _ h => h) (Or.inl ⟨by rfl, ?y14x48⟩) trivial ?_
                          case y14x48 => (intro w hSw; (try dsimp only at hSw); go_simp; try with_reducible rfl)
                          simp only [Act.put, List.setIfInBounds_toArray, List.set_cons_zero, List.set_cons_succ, List.getElem_toArray, List.getElem_cons_zero, List.getElem_cons_succ]
                          refine wpAnyH_done (by kernel_rfl) ?_ _
                          refine NoPanic.normal ?_
                          go_wp2_with fail
                          have hLL : (([] ++ L.take p) ++ [(xa, xb)]) ++ L.drop p = L.take p ++ (xa, xb) :: L.drop p := by simp
                          have hlen : (L.take p ++ (xa, xb) :: L.drop p).length = 0 + p + 1 + (Ln - p) := by have := HLn.out; simp; omega
                          refine ⟨⟨j + 1, L.take p ++ (xa, xb) :: L.drop p, by omega, by go_num, ?_⟩, by simp [intOf]; omega⟩
                          rw [HSN.out, HN.out]
                          refine HT.out.ins B13.out IA.out ?_
                          have := O13.out
                          rw [hLL, Nat.zero_add] at this
                          rw [hlen, Nat.zero_add]
                          exact this
                  · have f1 : (y0 == xa) = false := by simpa using h2
                    have gd := fun op u v => run_eqGuard_agg (P := Try.prog) wq op 54 u v #[.int .i64 y0, .int .i64 y1] #[.int .i64 xa, .int .i64 xb] Try.eqGuardType54
                    have nq := eqIn2 wq y0 y1 xa xb
                    rw [eq2_no (x := (y0, y1)) (y := (xa, xb)) (fun e => h2 (congrArg Prod.fst e))] at nq
                    have HAF := Lib.hid (show p < L.length → ltE (xa, xb) (L.getD p z2) from fun _ => by rw [HY.out]; exact .inl (by omega))
                    have IA := Lib.hid (ins_asc HT.out.asc hp HB3.out HAF.out)
                    have hrun1 := run_headE (some ⟨qq, 0, none⟩) Ln cv p (by omega)
                    have hrun2 := run_tailE (some ⟨qq, 0, none⟩) Ln cv p (Ln - p) (by omega)
                    have FD := Lib.hid (FH.out.below (w' := wq.drew) (Reading.below ⟨1, rfl⟩))
                    have BD := Lib.hid (show Below wq.heap.size wq wq.drew from Reading.below ⟨1, rfl⟩)
                    go_wp2_with fail
                    refine wp_region_noPanic ?_
                    refine wp_region_held_drew (S := fun _ => True) (by kernel_rfl) trivial (fun _ => ?_)
                    refine wpAnyH_take (i := 1) (v := ?v1x49) rfl (by kernel_rfl) (by kernel_rfl) (by kernel_rfl) (fun _ _ _ h => h) (Or.inl ⟨by rfl, ?y1x49⟩) trivial ?_
                    case y1x49 => (intro w hSw; (try dsimp only at hSw); go_simp; try with_reducible rfl)
                    simp only [Act.put, List.setIfInBounds_toArray, List.set_cons_zero, List.set_cons_succ, List.getElem_toArray, List.getElem_cons_zero, List.getElem_cons_succ]
                    refine wpAnyH_take (i := 2) (v := ?v2x50) rfl (by kernel_rfl) (by kernel_rfl) (by kernel_rfl) (fun _ _ _ h => h) (Or.inl ⟨by rfl, ?y2x50⟩) trivial ?_
                    case y2x50 => (intro w hSw; (try dsimp only at hSw); go_simp; try with_reducible rfl)
                    simp only [Act.put, List.setIfInBounds_toArray, List.set_cons_zero, List.set_cons_succ, List.getElem_toArray, List.getElem_cons_zero, List.getElem_cons_succ]
                    refine wpAnyH_take (i := 3) (v := ?v3x51) rfl (by kernel_rfl) (by kernel_rfl) (by kernel_rfl) (fun _ _ _ h => h) (Or.inl ⟨by rfl, ?y3x51⟩) trivial ?_
                    case y3x51 => (intro w hSw; (try dsimp only at hSw); go_simp; try with_reducible rfl)
                    simp only [Act.put, List.setIfInBounds_toArray, List.set_cons_zero, List.set_cons_succ, List.getElem_toArray, List.getElem_cons_zero, List.getElem_cons_succ]
                    refine wpAnyH_take (i := 5) (v := ?v5x52) rfl (by kernel_rfl) (by kernel_rfl) (by kernel_rfl) (fun _ _ _ h => h) (Or.inl ⟨by rfl, ?y5x52⟩) trivial ?_
                    case y5x52 => (intro w hSw; (try dsimp only at hSw); go_simp; try with_reducible rfl)
                    simp only [Act.put, List.setIfInBounds_toArray, List.set_cons_zero, List.set_cons_succ, List.getElem_toArray, List.getElem_cons_zero, List.getElem_cons_succ]
                    refine wpAnyH_take (i := 6) (v := ?v6x53) rfl (by kernel_rfl) (by kernel_rfl) (by kernel_rfl) (fun _ _ _ h => h) (Or.inl ⟨by rfl, ?y6x53⟩) trivial ?_
                    case y6x53 => (intro w hSw; (try dsimp only at hSw); go_simp; try with_reducible rfl)
                    simp only [Act.put, List.setIfInBounds_toArray, List.set_cons_zero, List.set_cons_succ, List.getElem_toArray, List.getElem_cons_zero, List.getElem_cons_succ]
                    refine wpAnyH_take (i := 7) (v := ?v7x54) rfl (by kernel_rfl) (by kernel_rfl) (by kernel_rfl) (fun _ _ _ h => h) (Or.inl ⟨by rfl, ?y7x54⟩) trivial ?_
                    case y7x54 => (intro w hSw; (try dsimp only at hSw); go_simp; try with_reducible rfl)
                    simp only [Act.put, List.setIfInBounds_toArray, List.set_cons_zero, List.set_cons_succ, List.getElem_toArray, List.getElem_cons_zero, List.getElem_cons_succ]
                    refine wpAnyH_take (i := 10) (v := ?v10x55) rfl (by kernel_rfl) (by kernel_rfl) (by kernel_rfl) (fun _ _ _ h => h) (Or.inl ⟨by rfl, ?y10x55⟩) trivial ?_
                    case y10x55 => (intro w hSw; (try dsimp only at hSw); go_simp; try with_reducible rfl)
                    simp only [Act.put, List.setIfInBounds_toArray, List.set_cons_zero, List.set_cons_succ, List.getElem_toArray, List.getElem_cons_zero, List.getElem_cons_succ]
                    refine wpAnyH_take (i := 11) (v := ?v11x56) rfl (by kernel_rfl) (by kernel_rfl) (by kernel_rfl) (fun _ _ _ h => h) (Or.inl ⟨by rfl, ?y11x56⟩) trivial ?_
                    case y11x56 => (intro w hSw; (try dsimp only at hSw); go_simp; try with_reducible rfl)
                    simp only [Act.put, List.setIfInBounds_toArray, List.set_cons_zero, List.set_cons_succ, List.getElem_toArray, List.getElem_cons_zero, List.getElem_cons_succ]
                    refine wpAnyH_take (i := 12) (v := ?v12x57) rfl (by kernel_rfl) (by kernel_rfl) (by kernel_rfl) (fun _ _ _ h => h) (Or.inl ⟨by rfl, ?y12x57⟩) trivial ?_
                    case y12x57 => (intro w hSw; (try dsimp only at hSw); go_simp; try with_reducible rfl)
                    simp only [Act.put, List.setIfInBounds_toArray, List.set_cons_zero, List.set_cons_succ, List.getElem_toArray, List.getElem_cons_zero, List.getElem_cons_succ]
                    refine wpAnyH_ready (rs := [0, 8]) (by kernel_rfl) (by simp) ?_
                    refine AllReadyH.cons rfl (fun K hK => ?_) (AllReadyH.cons rfl (fun K hK => ?_) AllReadyH.nil)
                    · go_simp
                      refine hK.out _ _ trivial (fun _ => ?_)
                      clear hK K
                      try simp only [Act.put, List.setIfInBounds_toArray, List.set_cons_zero, List.set_cons_succ, List.getElem_toArray, List.getElem_cons_zero, List.getElem_cons_succ]
                      refine wpAnyH_ready (rs := [4, 8]) (by kernel_rfl) (by simp) ?_
                      refine AllReadyH.cons rfl (fun K hK => ?_) (AllReadyH.cons rfl (fun K hK => ?_) AllReadyH.nil)
                      · refine stepE (own_emptyE wq.drew) ((FD.out.head p hpn).below (mk_below wq.drew (.cells #[] 54))) (by rfl) (.tmp 91) (.tmp 94) (by rfl) (by go_simp) (by go_simp) (by omega) (mk_below wq.drew (.cells #[] 54)).size ?_
                        intro A5 c5 w5 o5 g5
                        have B5 := Lib.hid (own_grown_below (B := wq.heap.size) (BD.out.trans (mk_below wq.drew (.cells #[] 54))) g5 (mk_below wq.drew (.cells #[] 54)).size (fun q hq => ownK_lt (own_emptyE wq.drew) q hq))
                        have O5 := Lib.hid o5
                        have G5 := Lib.hid g5
                        clear o5 g5
                        refine hK.out _ _ trivial (fun _ => ?_)
                        clear hK K
                        try simp only [Act.put, List.setIfInBounds_toArray, List.set_cons_zero, List.set_cons_succ, List.getElem_toArray, List.getElem_cons_zero, List.getElem_cons_succ]
                        refine wpAnyH_ready (rs := [8]) (by kernel_rfl) (by simp) ?_
                        refine AllReadyH.cons rfl (fun K hK => ?_) AllReadyH.nil
                        go_simp
                        refine hK.out _ _ trivial (fun _ => ?_)
                        clear hK K
                        try simp only [Act.put, List.setIfInBounds_toArray, List.set_cons_zero, List.set_cons_succ, List.getElem_toArray, List.getElem_cons_zero, List.getElem_cons_succ]
                        refine wpAnyH_ready (rs := [9]) (by kernel_rfl) (by simp) ?_
                        refine AllReadyH.cons rfl (fun K hK => ?_) AllReadyH.nil
                        refine stepE (ownK_up O5.out (mk_below w5 (.cells #[.int .i64 xa, .int .i64 xb] 54))) (FE.one w5 (xa, xb)) (by rfl) (.tmp 95) (.tmp 99) (by rfl) (by go_simp) (by go_simp) (by omega) (up1 B5.out (.cells #[.int .i64 xa, .int .i64 xb] 54)).size ?_
                        intro A9 c9 w9 o9 g9
                        have B9 := Lib.hid (own_grown_below (B := wq.heap.size) (up1 B5.out (.cells #[.int .i64 xa, .int .i64 xb] 54)) g9 (up1 B5.out (.cells #[.int .i64 xa, .int .i64 xb] 54)).size (fun q hq => ownK_lt (ownK_up O5.out (mk_below w5 (.cells #[.int .i64 xa, .int .i64 xb] 54))) q hq))
                        have O9 := Lib.hid o9
                        clear o9 g9
                        refine hK.out _ _ trivial (fun _ => ?_)
                        clear hK K
                        try simp only [Act.put, List.setIfInBounds_toArray, List.set_cons_zero, List.set_cons_succ, List.getElem_toArray, List.getElem_cons_zero, List.getElem_cons_succ]
                        refine wpAnyH_ready (rs := [13]) (by kernel_rfl) (by simp) ?_
                        refine AllReadyH.cons rfl (fun K hK => ?_) AllReadyH.nil
                        refine stepE O9.out ((FH.out.tail hcvn p (Ln - p) (by omega)).below B9.out) (by rfl) (.tmp 100) (.tmp 103) (by rfl) (by go_simp) (by go_simp) (by omega) B9.out.size ?_
                        intro A13 c13 w13 o13 g13
                        have B13 := Lib.hid (own_grown_below (B := wq.heap.size) B9.out g13 B9.out.size (fun q hq => ownK_lt O9.out q hq))
                        have O13 := Lib.hid o13
                        clear o13 g13
                        refine hK.out _ _ trivial (fun _ => ?_)
                        clear hK K
                        try simp only [Act.put, List.setIfInBounds_toArray, List.set_cons_zero, List.set_cons_succ, List.getElem_toArray, List.getElem_cons_zero, List.getElem_cons_succ]
                        refine wpAnyH_take (i := 14) (v := ?v14x58) rfl (by kernel_rfl) (by kernel_rfl) (by kernel_rfl) (fun _ _ _ h => h) (Or.inl ⟨by rfl, ?y14x58⟩) trivial ?_
                        case y14x58 => (intro w hSw; (try dsimp only at hSw); go_simp; try with_reducible rfl)
                        simp only [Act.put, List.setIfInBounds_toArray, List.set_cons_zero, List.set_cons_succ, List.getElem_toArray, List.getElem_cons_zero, List.getElem_cons_succ]
                        refine wpAnyH_done (by kernel_rfl) ?_ _
                        refine NoPanic.normal ?_
                        go_wp2_with fail
                        have hLL : (([] ++ L.take p) ++ [(xa, xb)]) ++ L.drop p = L.take p ++ (xa, xb) :: L.drop p := by simp
                        have hlen : (L.take p ++ (xa, xb) :: L.drop p).length = 0 + p + 1 + (Ln - p) := by have := HLn.out; simp; omega
                        refine ⟨⟨j + 1, L.take p ++ (xa, xb) :: L.drop p, by omega, by go_num, ?_⟩, by simp [intOf]; omega⟩
                        rw [HSN.out, HN.out]
                        refine HT.out.ins B13.out IA.out ?_
                        have := O13.out
                        rw [hLL, Nat.zero_add] at this
                        rw [hlen, Nat.zero_add]
                        exact this
                      · go_simp
                        refine hK.out _ _ trivial (fun _ => ?_)
                        clear hK K
                        try simp only [Act.put, List.setIfInBounds_toArray, List.set_cons_zero, List.set_cons_succ, List.getElem_toArray, List.getElem_cons_zero, List.getElem_cons_succ]
                        refine wpAnyH_ready (rs := [4]) (by kernel_rfl) (by simp) ?_
                        refine AllReadyH.cons rfl (fun K hK => ?_) AllReadyH.nil
                        refine stepE (ownK_up (own_emptyE wq.drew) (mk_below (wq.drew.alloc (.cells #[] 54)) (.cells #[.int .i64 xa, .int .i64 xb] 54))) ((FD.out.head p hpn).below (up1 (mk_below wq.drew (.cells #[] 54)) (.cells #[.int .i64 xa, .int .i64 xb] 54))) (by rfl) (.tmp 91) (.tmp 94) (by rfl) (by go_simp) (by go_simp) (by omega) (up1 (mk_below wq.drew (.cells #[] 54)) (.cells #[.int .i64 xa, .int .i64 xb] 54)).size ?_
                        intro A5 c5 w5 o5 g5
                        have B5 := Lib.hid (own_grown_below (B := wq.heap.size) (BD.out.trans (up1 (mk_below wq.drew (.cells #[] 54)) (.cells #[.int .i64 xa, .int .i64 xb] 54))) g5 (up1 (mk_below wq.drew (.cells #[] 54)) (.cells #[.int .i64 xa, .int .i64 xb] 54)).size (fun q hq => ownK_lt (ownK_up (own_emptyE wq.drew) (mk_below (wq.drew.alloc (.cells #[] 54)) (.cells #[.int .i64 xa, .int .i64 xb] 54))) q hq))
                        have O5 := Lib.hid o5
                        have G5 := Lib.hid g5
                        clear o5 g5
                        refine hK.out _ _ trivial (fun _ => ?_)
                        clear hK K
                        try simp only [Act.put, List.setIfInBounds_toArray, List.set_cons_zero, List.set_cons_succ, List.getElem_toArray, List.getElem_cons_zero, List.getElem_cons_succ]
                        refine wpAnyH_ready (rs := [9]) (by kernel_rfl) (by simp) ?_
                        refine AllReadyH.cons rfl (fun K hK => ?_) AllReadyH.nil
                        refine stepE O5.out (((show FE ((wq.drew.alloc (.cells #[] 54)).alloc (.cells #[.int .i64 xa, .int .i64 xb] 54)) (some ⟨wq.heap.size + 1, 0, none⟩) 1 1 [(xa, xb)] by have := FE.one (wq.drew.alloc (.cells #[] 54)) (xa, xb); rwa [World.size_alloc] at this)).grown G5.out (by simp [Value.ownBlock])) (by rfl) (.tmp 95) (.tmp 99) (by rfl) (by go_simp) (by go_simp) (by omega) B5.out.size ?_
                        intro A9 c9 w9 o9 g9
                        have B9 := Lib.hid (own_grown_below (B := wq.heap.size) B5.out g9 B5.out.size (fun q hq => ownK_lt O5.out q hq))
                        have O9 := Lib.hid o9
                        clear o9 g9
                        refine hK.out _ _ trivial (fun _ => ?_)
                        clear hK K
                        try simp only [Act.put, List.setIfInBounds_toArray, List.set_cons_zero, List.set_cons_succ, List.getElem_toArray, List.getElem_cons_zero, List.getElem_cons_succ]
                        refine wpAnyH_ready (rs := [13]) (by kernel_rfl) (by simp) ?_
                        refine AllReadyH.cons rfl (fun K hK => ?_) AllReadyH.nil
                        refine stepE O9.out ((FH.out.tail hcvn p (Ln - p) (by omega)).below B9.out) (by rfl) (.tmp 100) (.tmp 103) (by rfl) (by go_simp) (by go_simp) (by omega) B9.out.size ?_
                        intro A13 c13 w13 o13 g13
                        have B13 := Lib.hid (own_grown_below (B := wq.heap.size) B9.out g13 B9.out.size (fun q hq => ownK_lt O9.out q hq))
                        have O13 := Lib.hid o13
                        clear o13 g13
                        refine hK.out _ _ trivial (fun _ => ?_)
                        clear hK K
                        try simp only [Act.put, List.setIfInBounds_toArray, List.set_cons_zero, List.set_cons_succ, List.getElem_toArray, List.getElem_cons_zero, List.getElem_cons_succ]
                        refine wpAnyH_take (i := 14) (v := ?v14x59) rfl (by kernel_rfl) (by kernel_rfl) (by kernel_rfl) (fun _ _ _ h => h) (Or.inl ⟨by rfl, ?y14x59⟩) trivial ?_
                        case y14x59 => (intro w hSw; (try dsimp only at hSw); go_simp; try with_reducible rfl)
                        simp only [Act.put, List.setIfInBounds_toArray, List.set_cons_zero, List.set_cons_succ, List.getElem_toArray, List.getElem_cons_zero, List.getElem_cons_succ]
                        refine wpAnyH_done (by kernel_rfl) ?_ _
                        refine NoPanic.normal ?_
                        go_wp2_with fail
                        have hLL : (([] ++ L.take p) ++ [(xa, xb)]) ++ L.drop p = L.take p ++ (xa, xb) :: L.drop p := by simp
                        have hlen : (L.take p ++ (xa, xb) :: L.drop p).length = 0 + p + 1 + (Ln - p) := by have := HLn.out; simp; omega
                        refine ⟨⟨j + 1, L.take p ++ (xa, xb) :: L.drop p, by omega, by go_num, ?_⟩, by simp [intOf]; omega⟩
                        rw [HSN.out, HN.out]
                        refine HT.out.ins B13.out IA.out ?_
                        have := O13.out
                        rw [hLL, Nat.zero_add] at this
                        rw [hlen, Nat.zero_add]
                        exact this
                    · go_simp
                      refine hK.out _ _ trivial (fun _ => ?_)
                      clear hK K
                      try simp only [Act.put, List.setIfInBounds_toArray, List.set_cons_zero, List.set_cons_succ, List.getElem_toArray, List.getElem_cons_zero, List.getElem_cons_succ]
                      refine wpAnyH_ready (rs := [0]) (by kernel_rfl) (by simp) ?_
                      refine AllReadyH.cons rfl (fun K hK => ?_) AllReadyH.nil
                      go_simp
                      refine hK.out _ _ trivial (fun _ => ?_)
                      clear hK K
                      try simp only [Act.put, List.setIfInBounds_toArray, List.set_cons_zero, List.set_cons_succ, List.getElem_toArray, List.getElem_cons_zero, List.getElem_cons_succ]
                      refine wpAnyH_ready (rs := [4]) (by kernel_rfl) (by simp) ?_
                      refine AllReadyH.cons rfl (fun K hK => ?_) AllReadyH.nil
                      refine stepE (show ((wq.drew.alloc (.cells #[.int .i64 xa, .int .i64 xb] 54)).alloc (.cells #[] 54)).ownsRow wq.drew.heap.size 54 2 (.slice (some ⟨wq.heap.size + 1, 0, none⟩) 0 0) 0 (ints (flat2 [])) by have := own_emptyE (wq.drew.alloc (.cells #[.int .i64 xa, .int .i64 xb] 54)); rw [World.size_alloc] at this; exact ownK_base this (Nat.le_succ _)) ((FD.out.head p hpn).below (up1 (mk_below wq.drew (.cells #[.int .i64 xa, .int .i64 xb] 54)) (.cells #[] 54))) (by rfl) (.tmp 91) (.tmp 94) (by rfl) (by go_simp) (by go_simp) (by omega) (up1 (mk_below wq.drew (.cells #[.int .i64 xa, .int .i64 xb] 54)) (.cells #[] 54)).size ?_
                      intro A5 c5 w5 o5 g5
                      have B5 := Lib.hid (own_grown_below (B := wq.heap.size) (BD.out.trans (up1 (mk_below wq.drew (.cells #[.int .i64 xa, .int .i64 xb] 54)) (.cells #[] 54))) g5 (up1 (mk_below wq.drew (.cells #[.int .i64 xa, .int .i64 xb] 54)) (.cells #[] 54)).size (fun q hq => ownK_lt (show ((wq.drew.alloc (.cells #[.int .i64 xa, .int .i64 xb] 54)).alloc (.cells #[] 54)).ownsRow wq.drew.heap.size 54 2 (.slice (some ⟨wq.heap.size + 1, 0, none⟩) 0 0) 0 (ints (flat2 [])) by have := own_emptyE (wq.drew.alloc (.cells #[.int .i64 xa, .int .i64 xb] 54)); rw [World.size_alloc] at this; exact ownK_base this (Nat.le_succ _)) q hq))
                      have O5 := Lib.hid o5
                      have G5 := Lib.hid g5
                      clear o5 g5
                      refine hK.out _ _ trivial (fun _ => ?_)
                      clear hK K
                      try simp only [Act.put, List.setIfInBounds_toArray, List.set_cons_zero, List.set_cons_succ, List.getElem_toArray, List.getElem_cons_zero, List.getElem_cons_succ]
                      refine wpAnyH_ready (rs := [9]) (by kernel_rfl) (by simp) ?_
                      refine AllReadyH.cons rfl (fun K hK => ?_) AllReadyH.nil
                      refine stepE O5.out (((FE.one wq.drew (xa, xb)).below (mk_below (wq.drew.alloc (.cells #[.int .i64 xa, .int .i64 xb] 54)) (.cells #[] 54))).grown G5.out (by simp [Value.ownBlock])) (by rfl) (.tmp 95) (.tmp 99) (by rfl) (by go_simp) (by go_simp) (by omega) B5.out.size ?_
                      intro A9 c9 w9 o9 g9
                      have B9 := Lib.hid (own_grown_below (B := wq.heap.size) B5.out g9 B5.out.size (fun q hq => ownK_lt O5.out q hq))
                      have O9 := Lib.hid o9
                      clear o9 g9
                      refine hK.out _ _ trivial (fun _ => ?_)
                      clear hK K
                      try simp only [Act.put, List.setIfInBounds_toArray, List.set_cons_zero, List.set_cons_succ, List.getElem_toArray, List.getElem_cons_zero, List.getElem_cons_succ]
                      refine wpAnyH_ready (rs := [13]) (by kernel_rfl) (by simp) ?_
                      refine AllReadyH.cons rfl (fun K hK => ?_) AllReadyH.nil
                      refine stepE O9.out ((FH.out.tail hcvn p (Ln - p) (by omega)).below B9.out) (by rfl) (.tmp 100) (.tmp 103) (by rfl) (by go_simp) (by go_simp) (by omega) B9.out.size ?_
                      intro A13 c13 w13 o13 g13
                      have B13 := Lib.hid (own_grown_below (B := wq.heap.size) B9.out g13 B9.out.size (fun q hq => ownK_lt O9.out q hq))
                      have O13 := Lib.hid o13
                      clear o13 g13
                      refine hK.out _ _ trivial (fun _ => ?_)
                      clear hK K
                      try simp only [Act.put, List.setIfInBounds_toArray, List.set_cons_zero, List.set_cons_succ, List.getElem_toArray, List.getElem_cons_zero, List.getElem_cons_succ]
                      refine wpAnyH_take (i := 14) (v := ?v14x60) rfl (by kernel_rfl) (by kernel_rfl) (by kernel_rfl) (fun _ _ _ h => h) (Or.inl ⟨by rfl, ?y14x60⟩) trivial ?_
                      case y14x60 => (intro w hSw; (try dsimp only at hSw); go_simp; try with_reducible rfl)
                      simp only [Act.put, List.setIfInBounds_toArray, List.set_cons_zero, List.set_cons_succ, List.getElem_toArray, List.getElem_cons_zero, List.getElem_cons_succ]
                      refine wpAnyH_done (by kernel_rfl) ?_ _
                      refine NoPanic.normal ?_
                      go_wp2_with fail
                      have hLL : (([] ++ L.take p) ++ [(xa, xb)]) ++ L.drop p = L.take p ++ (xa, xb) :: L.drop p := by simp
                      have hlen : (L.take p ++ (xa, xb) :: L.drop p).length = 0 + p + 1 + (Ln - p) := by have := HLn.out; simp; omega
                      refine ⟨⟨j + 1, L.take p ++ (xa, xb) :: L.drop p, by omega, by go_num, ?_⟩, by simp [intOf]; omega⟩
                      rw [HSN.out, HN.out]
                      refine HT.out.ins B13.out IA.out ?_
                      have := O13.out
                      rw [hLL, Nat.zero_add] at this
                      rw [hlen, Nat.zero_add]
                      exact this
              · have bp : ¬ (p : Int) < Ln := by omega
                have HAF := Lib.hid (show p < L.length → ltE (xa, xb) (L.getD p z2) from fun h => absurd h (by rw [HLn.out]; omega))
                have IA := Lib.hid (ins_asc HT.out.asc hp HB3.out HAF.out)
                have hrun1 := run_headE Av Ln cv p (by omega)
                have hrun2 := run_tailE Av Ln cv p (Ln - p) (by omega)
                have FD := Lib.hid (FH.out.below (w' := wq.drew) (Reading.below ⟨1, rfl⟩))
                have BD := Lib.hid (show Below wq.heap.size wq wq.drew from Reading.below ⟨1, rfl⟩)
                go_wp2_with fail
                refine wp_region_noPanic ?_
                refine wp_region_held_drew (S := fun _ => True) (by kernel_rfl) trivial (fun _ => ?_)
                refine wpAnyH_take (i := 1) (v := ?v1x61) rfl (by kernel_rfl) (by kernel_rfl) (by kernel_rfl) (fun _ _ _ h => h) (Or.inl ⟨by rfl, ?y1x61⟩) trivial ?_
                case y1x61 => (intro w hSw; (try dsimp only at hSw); go_simp; try with_reducible rfl)
                simp only [Act.put, List.setIfInBounds_toArray, List.set_cons_zero, List.set_cons_succ, List.getElem_toArray, List.getElem_cons_zero, List.getElem_cons_succ]
                refine wpAnyH_take (i := 2) (v := ?v2x62) rfl (by kernel_rfl) (by kernel_rfl) (by kernel_rfl) (fun _ _ _ h => h) (Or.inl ⟨by rfl, ?y2x62⟩) trivial ?_
                case y2x62 => (intro w hSw; (try dsimp only at hSw); go_simp; try with_reducible rfl)
                simp only [Act.put, List.setIfInBounds_toArray, List.set_cons_zero, List.set_cons_succ, List.getElem_toArray, List.getElem_cons_zero, List.getElem_cons_succ]
                refine wpAnyH_take (i := 3) (v := ?v3x63) rfl (by kernel_rfl) (by kernel_rfl) (by kernel_rfl) (fun _ _ _ h => h) (Or.inl ⟨by rfl, ?y3x63⟩) trivial ?_
                case y3x63 => (intro w hSw; (try dsimp only at hSw); go_simp; try with_reducible rfl)
                simp only [Act.put, List.setIfInBounds_toArray, List.set_cons_zero, List.set_cons_succ, List.getElem_toArray, List.getElem_cons_zero, List.getElem_cons_succ]
                refine wpAnyH_take (i := 5) (v := ?v5x64) rfl (by kernel_rfl) (by kernel_rfl) (by kernel_rfl) (fun _ _ _ h => h) (Or.inl ⟨by rfl, ?y5x64⟩) trivial ?_
                case y5x64 => (intro w hSw; (try dsimp only at hSw); go_simp; try with_reducible rfl)
                simp only [Act.put, List.setIfInBounds_toArray, List.set_cons_zero, List.set_cons_succ, List.getElem_toArray, List.getElem_cons_zero, List.getElem_cons_succ]
                refine wpAnyH_take (i := 6) (v := ?v6x65) rfl (by kernel_rfl) (by kernel_rfl) (by kernel_rfl) (fun _ _ _ h => h) (Or.inl ⟨by rfl, ?y6x65⟩) trivial ?_
                case y6x65 => (intro w hSw; (try dsimp only at hSw); go_simp; try with_reducible rfl)
                simp only [Act.put, List.setIfInBounds_toArray, List.set_cons_zero, List.set_cons_succ, List.getElem_toArray, List.getElem_cons_zero, List.getElem_cons_succ]
                refine wpAnyH_take (i := 7) (v := ?v7x66) rfl (by kernel_rfl) (by kernel_rfl) (by kernel_rfl) (fun _ _ _ h => h) (Or.inl ⟨by rfl, ?y7x66⟩) trivial ?_
                case y7x66 => (intro w hSw; (try dsimp only at hSw); go_simp; try with_reducible rfl)
                simp only [Act.put, List.setIfInBounds_toArray, List.set_cons_zero, List.set_cons_succ, List.getElem_toArray, List.getElem_cons_zero, List.getElem_cons_succ]
                refine wpAnyH_take (i := 10) (v := ?v10x67) rfl (by kernel_rfl) (by kernel_rfl) (by kernel_rfl) (fun _ _ _ h => h) (Or.inl ⟨by rfl, ?y10x67⟩) trivial ?_
                case y10x67 => (intro w hSw; (try dsimp only at hSw); go_simp; try with_reducible rfl)
                simp only [Act.put, List.setIfInBounds_toArray, List.set_cons_zero, List.set_cons_succ, List.getElem_toArray, List.getElem_cons_zero, List.getElem_cons_succ]
                refine wpAnyH_take (i := 11) (v := ?v11x68) rfl (by kernel_rfl) (by kernel_rfl) (by kernel_rfl) (fun _ _ _ h => h) (Or.inl ⟨by rfl, ?y11x68⟩) trivial ?_
                case y11x68 => (intro w hSw; (try dsimp only at hSw); go_simp; try with_reducible rfl)
                simp only [Act.put, List.setIfInBounds_toArray, List.set_cons_zero, List.set_cons_succ, List.getElem_toArray, List.getElem_cons_zero, List.getElem_cons_succ]
                refine wpAnyH_take (i := 12) (v := ?v12x69) rfl (by kernel_rfl) (by kernel_rfl) (by kernel_rfl) (fun _ _ _ h => h) (Or.inl ⟨by rfl, ?y12x69⟩) trivial ?_
                case y12x69 => (intro w hSw; (try dsimp only at hSw); go_simp; try with_reducible rfl)
                simp only [Act.put, List.setIfInBounds_toArray, List.set_cons_zero, List.set_cons_succ, List.getElem_toArray, List.getElem_cons_zero, List.getElem_cons_succ]
                refine wpAnyH_ready (rs := [0, 8]) (by kernel_rfl) (by simp) ?_
                refine AllReadyH.cons rfl (fun K hK => ?_) (AllReadyH.cons rfl (fun K hK => ?_) AllReadyH.nil)
                · go_simp
                  refine hK.out _ _ trivial (fun _ => ?_)
                  clear hK K
                  try simp only [Act.put, List.setIfInBounds_toArray, List.set_cons_zero, List.set_cons_succ, List.getElem_toArray, List.getElem_cons_zero, List.getElem_cons_succ]
                  refine wpAnyH_ready (rs := [4, 8]) (by kernel_rfl) (by simp) ?_
                  refine AllReadyH.cons rfl (fun K hK => ?_) (AllReadyH.cons rfl (fun K hK => ?_) AllReadyH.nil)
                  · refine stepE (own_emptyE wq.drew) ((FD.out.head p hpn).below (mk_below wq.drew (.cells #[] 54))) (by rfl) (.tmp 91) (.tmp 94) (by rfl) (by go_simp) (by go_simp) (by omega) (mk_below wq.drew (.cells #[] 54)).size ?_
                    intro A5 c5 w5 o5 g5
                    have B5 := Lib.hid (own_grown_below (B := wq.heap.size) (BD.out.trans (mk_below wq.drew (.cells #[] 54))) g5 (mk_below wq.drew (.cells #[] 54)).size (fun q hq => ownK_lt (own_emptyE wq.drew) q hq))
                    have O5 := Lib.hid o5
                    have G5 := Lib.hid g5
                    clear o5 g5
                    refine hK.out _ _ trivial (fun _ => ?_)
                    clear hK K
                    try simp only [Act.put, List.setIfInBounds_toArray, List.set_cons_zero, List.set_cons_succ, List.getElem_toArray, List.getElem_cons_zero, List.getElem_cons_succ]
                    refine wpAnyH_ready (rs := [8]) (by kernel_rfl) (by simp) ?_
                    refine AllReadyH.cons rfl (fun K hK => ?_) AllReadyH.nil
                    go_simp
                    refine hK.out _ _ trivial (fun _ => ?_)
                    clear hK K
                    try simp only [Act.put, List.setIfInBounds_toArray, List.set_cons_zero, List.set_cons_succ, List.getElem_toArray, List.getElem_cons_zero, List.getElem_cons_succ]
                    refine wpAnyH_ready (rs := [9]) (by kernel_rfl) (by simp) ?_
                    refine AllReadyH.cons rfl (fun K hK => ?_) AllReadyH.nil
                    refine stepE (ownK_up O5.out (mk_below w5 (.cells #[.int .i64 xa, .int .i64 xb] 54))) (FE.one w5 (xa, xb)) (by rfl) (.tmp 95) (.tmp 99) (by rfl) (by go_simp) (by go_simp) (by omega) (up1 B5.out (.cells #[.int .i64 xa, .int .i64 xb] 54)).size ?_
                    intro A9 c9 w9 o9 g9
                    have B9 := Lib.hid (own_grown_below (B := wq.heap.size) (up1 B5.out (.cells #[.int .i64 xa, .int .i64 xb] 54)) g9 (up1 B5.out (.cells #[.int .i64 xa, .int .i64 xb] 54)).size (fun q hq => ownK_lt (ownK_up O5.out (mk_below w5 (.cells #[.int .i64 xa, .int .i64 xb] 54))) q hq))
                    have O9 := Lib.hid o9
                    clear o9 g9
                    refine hK.out _ _ trivial (fun _ => ?_)
                    clear hK K
                    try simp only [Act.put, List.setIfInBounds_toArray, List.set_cons_zero, List.set_cons_succ, List.getElem_toArray, List.getElem_cons_zero, List.getElem_cons_succ]
                    refine wpAnyH_ready (rs := [13]) (by kernel_rfl) (by simp) ?_
                    refine AllReadyH.cons rfl (fun K hK => ?_) AllReadyH.nil
                    refine stepE O9.out ((FH.out.tail hcvn p (Ln - p) (by omega)).below B9.out) (by rfl) (.tmp 100) (.tmp 103) (by rfl) (by go_simp) (by go_simp) (by omega) B9.out.size ?_
                    intro A13 c13 w13 o13 g13
                    have B13 := Lib.hid (own_grown_below (B := wq.heap.size) B9.out g13 B9.out.size (fun q hq => ownK_lt O9.out q hq))
                    have O13 := Lib.hid o13
                    clear o13 g13
                    refine hK.out _ _ trivial (fun _ => ?_)
                    clear hK K
                    try simp only [Act.put, List.setIfInBounds_toArray, List.set_cons_zero, List.set_cons_succ, List.getElem_toArray, List.getElem_cons_zero, List.getElem_cons_succ]
                    refine wpAnyH_take (i := 14) (v := ?v14x70) rfl (by kernel_rfl) (by kernel_rfl) (by kernel_rfl) (fun _ _ _ h => h) (Or.inl ⟨by rfl, ?y14x70⟩) trivial ?_
                    case y14x70 => (intro w hSw; (try dsimp only at hSw); go_simp; try with_reducible rfl)
                    simp only [Act.put, List.setIfInBounds_toArray, List.set_cons_zero, List.set_cons_succ, List.getElem_toArray, List.getElem_cons_zero, List.getElem_cons_succ]
                    refine wpAnyH_done (by kernel_rfl) ?_ _
                    refine NoPanic.normal ?_
                    go_wp2_with fail
                    have hLL : (([] ++ L.take p) ++ [(xa, xb)]) ++ L.drop p = L.take p ++ (xa, xb) :: L.drop p := by simp
                    have hlen : (L.take p ++ (xa, xb) :: L.drop p).length = 0 + p + 1 + (Ln - p) := by have := HLn.out; simp; omega
                    refine ⟨⟨j + 1, L.take p ++ (xa, xb) :: L.drop p, by omega, by go_num, ?_⟩, by simp [intOf]; omega⟩
                    rw [HSN.out, HN.out]
                    refine HT.out.ins B13.out IA.out ?_
                    have := O13.out
                    rw [hLL, Nat.zero_add] at this
                    rw [hlen, Nat.zero_add]
                    exact this
                  · go_simp
                    refine hK.out _ _ trivial (fun _ => ?_)
                    clear hK K
                    try simp only [Act.put, List.setIfInBounds_toArray, List.set_cons_zero, List.set_cons_succ, List.getElem_toArray, List.getElem_cons_zero, List.getElem_cons_succ]
                    refine wpAnyH_ready (rs := [4]) (by kernel_rfl) (by simp) ?_
                    refine AllReadyH.cons rfl (fun K hK => ?_) AllReadyH.nil
                    refine stepE (ownK_up (own_emptyE wq.drew) (mk_below (wq.drew.alloc (.cells #[] 54)) (.cells #[.int .i64 xa, .int .i64 xb] 54))) ((FD.out.head p hpn).below (up1 (mk_below wq.drew (.cells #[] 54)) (.cells #[.int .i64 xa, .int .i64 xb] 54))) (by rfl) (.tmp 91) (.tmp 94) (by rfl) (by go_simp) (by go_simp) (by omega) (up1 (mk_below wq.drew (.cells #[] 54)) (.cells #[.int .i64 xa, .int .i64 xb] 54)).size ?_
                    intro A5 c5 w5 o5 g5
                    have B5 := Lib.hid (own_grown_below (B := wq.heap.size) (BD.out.trans (up1 (mk_below wq.drew (.cells #[] 54)) (.cells #[.int .i64 xa, .int .i64 xb] 54))) g5 (up1 (mk_below wq.drew (.cells #[] 54)) (.cells #[.int .i64 xa, .int .i64 xb] 54)).size (fun q hq => ownK_lt (ownK_up (own_emptyE wq.drew) (mk_below (wq.drew.alloc (.cells #[] 54)) (.cells #[.int .i64 xa, .int .i64 xb] 54))) q hq))
                    have O5 := Lib.hid o5
                    have G5 := Lib.hid g5
                    clear o5 g5
                    refine hK.out _ _ trivial (fun _ => ?_)
                    clear hK K
                    try simp only [Act.put, List.setIfInBounds_toArray, List.set_cons_zero, List.set_cons_succ, List.getElem_toArray, List.getElem_cons_zero, List.getElem_cons_succ]
                    refine wpAnyH_ready (rs := [9]) (by kernel_rfl) (by simp) ?_
                    refine AllReadyH.cons rfl (fun K hK => ?_) AllReadyH.nil
                    refine stepE O5.out (((show FE ((wq.drew.alloc (.cells #[] 54)).alloc (.cells #[.int .i64 xa, .int .i64 xb] 54)) (some ⟨wq.heap.size + 1, 0, none⟩) 1 1 [(xa, xb)] by have := FE.one (wq.drew.alloc (.cells #[] 54)) (xa, xb); rwa [World.size_alloc] at this)).grown G5.out (by simp [Value.ownBlock])) (by rfl) (.tmp 95) (.tmp 99) (by rfl) (by go_simp) (by go_simp) (by omega) B5.out.size ?_
                    intro A9 c9 w9 o9 g9
                    have B9 := Lib.hid (own_grown_below (B := wq.heap.size) B5.out g9 B5.out.size (fun q hq => ownK_lt O5.out q hq))
                    have O9 := Lib.hid o9
                    clear o9 g9
                    refine hK.out _ _ trivial (fun _ => ?_)
                    clear hK K
                    try simp only [Act.put, List.setIfInBounds_toArray, List.set_cons_zero, List.set_cons_succ, List.getElem_toArray, List.getElem_cons_zero, List.getElem_cons_succ]
                    refine wpAnyH_ready (rs := [13]) (by kernel_rfl) (by simp) ?_
                    refine AllReadyH.cons rfl (fun K hK => ?_) AllReadyH.nil
                    refine stepE O9.out ((FH.out.tail hcvn p (Ln - p) (by omega)).below B9.out) (by rfl) (.tmp 100) (.tmp 103) (by rfl) (by go_simp) (by go_simp) (by omega) B9.out.size ?_
                    intro A13 c13 w13 o13 g13
                    have B13 := Lib.hid (own_grown_below (B := wq.heap.size) B9.out g13 B9.out.size (fun q hq => ownK_lt O9.out q hq))
                    have O13 := Lib.hid o13
                    clear o13 g13
                    refine hK.out _ _ trivial (fun _ => ?_)
                    clear hK K
                    try simp only [Act.put, List.setIfInBounds_toArray, List.set_cons_zero, List.set_cons_succ, List.getElem_toArray, List.getElem_cons_zero, List.getElem_cons_succ]
                    refine wpAnyH_take (i := 14) (v := ?v14x71) rfl (by kernel_rfl) (by kernel_rfl) (by kernel_rfl) (fun _ _ _ h => h) (Or.inl ⟨by rfl, ?y14x71⟩) trivial ?_
                    case y14x71 => (intro w hSw; (try dsimp only at hSw); go_simp; try with_reducible rfl)
                    simp only [Act.put, List.setIfInBounds_toArray, List.set_cons_zero, List.set_cons_succ, List.getElem_toArray, List.getElem_cons_zero, List.getElem_cons_succ]
                    refine wpAnyH_done (by kernel_rfl) ?_ _
                    refine NoPanic.normal ?_
                    go_wp2_with fail
                    have hLL : (([] ++ L.take p) ++ [(xa, xb)]) ++ L.drop p = L.take p ++ (xa, xb) :: L.drop p := by simp
                    have hlen : (L.take p ++ (xa, xb) :: L.drop p).length = 0 + p + 1 + (Ln - p) := by have := HLn.out; simp; omega
                    refine ⟨⟨j + 1, L.take p ++ (xa, xb) :: L.drop p, by omega, by go_num, ?_⟩, by simp [intOf]; omega⟩
                    rw [HSN.out, HN.out]
                    refine HT.out.ins B13.out IA.out ?_
                    have := O13.out
                    rw [hLL, Nat.zero_add] at this
                    rw [hlen, Nat.zero_add]
                    exact this
                · go_simp
                  refine hK.out _ _ trivial (fun _ => ?_)
                  clear hK K
                  try simp only [Act.put, List.setIfInBounds_toArray, List.set_cons_zero, List.set_cons_succ, List.getElem_toArray, List.getElem_cons_zero, List.getElem_cons_succ]
                  refine wpAnyH_ready (rs := [0]) (by kernel_rfl) (by simp) ?_
                  refine AllReadyH.cons rfl (fun K hK => ?_) AllReadyH.nil
                  go_simp
                  refine hK.out _ _ trivial (fun _ => ?_)
                  clear hK K
                  try simp only [Act.put, List.setIfInBounds_toArray, List.set_cons_zero, List.set_cons_succ, List.getElem_toArray, List.getElem_cons_zero, List.getElem_cons_succ]
                  refine wpAnyH_ready (rs := [4]) (by kernel_rfl) (by simp) ?_
                  refine AllReadyH.cons rfl (fun K hK => ?_) AllReadyH.nil
                  refine stepE (show ((wq.drew.alloc (.cells #[.int .i64 xa, .int .i64 xb] 54)).alloc (.cells #[] 54)).ownsRow wq.drew.heap.size 54 2 (.slice (some ⟨wq.heap.size + 1, 0, none⟩) 0 0) 0 (ints (flat2 [])) by have := own_emptyE (wq.drew.alloc (.cells #[.int .i64 xa, .int .i64 xb] 54)); rw [World.size_alloc] at this; exact ownK_base this (Nat.le_succ _)) ((FD.out.head p hpn).below (up1 (mk_below wq.drew (.cells #[.int .i64 xa, .int .i64 xb] 54)) (.cells #[] 54))) (by rfl) (.tmp 91) (.tmp 94) (by rfl) (by go_simp) (by go_simp) (by omega) (up1 (mk_below wq.drew (.cells #[.int .i64 xa, .int .i64 xb] 54)) (.cells #[] 54)).size ?_
                  intro A5 c5 w5 o5 g5
                  have B5 := Lib.hid (own_grown_below (B := wq.heap.size) (BD.out.trans (up1 (mk_below wq.drew (.cells #[.int .i64 xa, .int .i64 xb] 54)) (.cells #[] 54))) g5 (up1 (mk_below wq.drew (.cells #[.int .i64 xa, .int .i64 xb] 54)) (.cells #[] 54)).size (fun q hq => ownK_lt (show ((wq.drew.alloc (.cells #[.int .i64 xa, .int .i64 xb] 54)).alloc (.cells #[] 54)).ownsRow wq.drew.heap.size 54 2 (.slice (some ⟨wq.heap.size + 1, 0, none⟩) 0 0) 0 (ints (flat2 [])) by have := own_emptyE (wq.drew.alloc (.cells #[.int .i64 xa, .int .i64 xb] 54)); rw [World.size_alloc] at this; exact ownK_base this (Nat.le_succ _)) q hq))
                  have O5 := Lib.hid o5
                  have G5 := Lib.hid g5
                  clear o5 g5
                  refine hK.out _ _ trivial (fun _ => ?_)
                  clear hK K
                  try simp only [Act.put, List.setIfInBounds_toArray, List.set_cons_zero, List.set_cons_succ, List.getElem_toArray, List.getElem_cons_zero, List.getElem_cons_succ]
                  refine wpAnyH_ready (rs := [9]) (by kernel_rfl) (by simp) ?_
                  refine AllReadyH.cons rfl (fun K hK => ?_) AllReadyH.nil
                  refine stepE O5.out (((FE.one wq.drew (xa, xb)).below (mk_below (wq.drew.alloc (.cells #[.int .i64 xa, .int .i64 xb] 54)) (.cells #[] 54))).grown G5.out (by simp [Value.ownBlock])) (by rfl) (.tmp 95) (.tmp 99) (by rfl) (by go_simp) (by go_simp) (by omega) B5.out.size ?_
                  intro A9 c9 w9 o9 g9
                  have B9 := Lib.hid (own_grown_below (B := wq.heap.size) B5.out g9 B5.out.size (fun q hq => ownK_lt O5.out q hq))
                  have O9 := Lib.hid o9
                  clear o9 g9
                  refine hK.out _ _ trivial (fun _ => ?_)
                  clear hK K
                  try simp only [Act.put, List.setIfInBounds_toArray, List.set_cons_zero, List.set_cons_succ, List.getElem_toArray, List.getElem_cons_zero, List.getElem_cons_succ]
                  refine wpAnyH_ready (rs := [13]) (by kernel_rfl) (by simp) ?_
                  refine AllReadyH.cons rfl (fun K hK => ?_) AllReadyH.nil
                  refine stepE O9.out ((FH.out.tail hcvn p (Ln - p) (by omega)).below B9.out) (by rfl) (.tmp 100) (.tmp 103) (by rfl) (by go_simp) (by go_simp) (by omega) B9.out.size ?_
                  intro A13 c13 w13 o13 g13
                  have B13 := Lib.hid (own_grown_below (B := wq.heap.size) B9.out g13 B9.out.size (fun q hq => ownK_lt O9.out q hq))
                  have O13 := Lib.hid o13
                  clear o13 g13
                  refine hK.out _ _ trivial (fun _ => ?_)
                  clear hK K
                  try simp only [Act.put, List.setIfInBounds_toArray, List.set_cons_zero, List.set_cons_succ, List.getElem_toArray, List.getElem_cons_zero, List.getElem_cons_succ]
                  refine wpAnyH_take (i := 14) (v := ?v14x72) rfl (by kernel_rfl) (by kernel_rfl) (by kernel_rfl) (fun _ _ _ h => h) (Or.inl ⟨by rfl, ?y14x72⟩) trivial ?_
                  case y14x72 => (intro w hSw; (try dsimp only at hSw); go_simp; try with_reducible rfl)
                  simp only [Act.put, List.setIfInBounds_toArray, List.set_cons_zero, List.set_cons_succ, List.getElem_toArray, List.getElem_cons_zero, List.getElem_cons_succ]
                  refine wpAnyH_done (by kernel_rfl) ?_ _
                  refine NoPanic.normal ?_
                  go_wp2_with fail
                  have hLL : (([] ++ L.take p) ++ [(xa, xb)]) ++ L.drop p = L.take p ++ (xa, xb) :: L.drop p := by simp
                  have hlen : (L.take p ++ (xa, xb) :: L.drop p).length = 0 + p + 1 + (Ln - p) := by have := HLn.out; simp; omega
                  refine ⟨⟨j + 1, L.take p ++ (xa, xb) :: L.drop p, by omega, by go_num, ?_⟩, by simp [intOf]; omega⟩
                  rw [HSN.out, HN.out]
                  refine HT.out.ins B13.out IA.out ?_
                  have := O13.out
                  rw [hLL, Nat.zero_add] at this
                  rw [hlen, Nat.zero_add]
                  exact this
        · obtain rfl : j = 3 := by omega
          go_wp2_with fail
          refine ⟨⟨k + 1, L, by omega, by go_num, ?_⟩, by simp [intOf]; omega⟩
          rw [HE.out.1, allSides_snoc, HSS.out]
          exact HT.out
    · obtain rfl : k = n := by omega
      have b1 : ¬ (k : Int) < k := by omega
      have HS1 := HS.out
      rw [List.take_of_length_le (by rw [HL.out.1]; exact Nat.le_refl _)] at HS1
      obtain ⟨Av, cv, rfl⟩ := ownK_form HS1.own
      have HD := Lib.hid HS1
      clear HS1
      go_wp2_with fail
      go_ret
      exact ⟨L, Av, cv, rfl, ⟨HD.out.asc, HD.out.mem⟩, HD.out.own, HD.out.below, by have := HD.out.len; rwa [allSides_len] at this⟩
end Go.Proofs.Ytfdoemebongdbaa
