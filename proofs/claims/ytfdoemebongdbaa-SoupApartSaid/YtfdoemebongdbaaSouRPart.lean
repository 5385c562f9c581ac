/- The document's answer for layer 8: parts. -/
import Derived.Test.YtfdoemebongdbaaSouRefA
import Derived.Test.YtfdoemebongdbaaSouRefC
import Derived.Test.YtfdoemebongdbaaSouRFit
import Derived.Deep.RegionHeld3
import Derived.BigQuiet
namespace Go.Proofs.Ytfdoemebongdbaa
open Go.RowKit

theorem nodup_place {cs : List Int} (h : ∀ j, j < cs.length → placeOf cs (cs.getD j 0) = (j : Int)) : cs.Nodup := by
  rw [List.nodup_iff_pairwise_ne, List.pairwise_iff_getElem]
  intro i j hi hj hij e
  have h1 := h i hi
  have h2 := h j hj
  rw [List.getD_eq_getElem?_getD, List.getElem?_eq_getElem hi] at h1
  rw [List.getD_eq_getElem?_getD, List.getElem?_eq_getElem hj] at h2
  simp only [Option.getD_some] at h1 h2
  rw [e, h2] at h1
  omega
theorem place_in {l : List Int} {x : Int} (h : x ∈ l) : placeOf l x = ((l.idxOf x : Nat) : Int) := if_pos h
def PA (w1 : World) (n : Nat) (cs : List Int) (m : Nat) (i : Value) (wr : World) : Prop := ∃ k : Nat, k ≤ m ∧ i = .int .i64 (k : Int) ∧ Below w1.heap.size w1 wr ∧ ∀ j, j < k → inN (n : Int) (cs.getD j 0)
def PB (w1 : World) (cs : List Int) (m : Nat) (i : Value) (wr : World) : Prop := ∃ k : Nat, k ≤ m ∧ i = .int .i64 (k : Int) ∧ Below w1.heap.size w1 wr ∧ ∀ j, j < k → placeOf cs (cs.getD j 0) = (j : Int)
def PD (w1 : World) (l : List Tr) (cs : List Int) (m k : Nat) (v : Value) (i : Value) (wr : World) : Prop := ∃ t : Nat, t ≤ m ∧ i = .int .i64 (t : Int) ∧ Below w1.heap.size w1 wr ∧ wr.ownsRow w1.heap.size 3 1 v (vertsUp l cs k).length (ints (vertsUp l cs k)) ∧ ¬ (k : Int) ∈ usedOf l (cs.take t)
/-- append of one triangle, at a step of a region that draws its order; what the append grew is told besides. -/
theorem RSt.stepG {w wr : World} {g r ob Z : Nat} {N M : Int} {A : Option Addr} {n c : Nat} {L : List Tr} {v : Value} (h : RSt w wr g r ob Z N M A n c L v) (t : Tr) {ops : Array Oper} {o : Oper} {a : Act} {K : Act → World → Prop} {Q : Exit → Act → World → Prop} {E : Prop} (hgd : o.guard = none) (s x : Operand)
    (ho : o.op = .call { callee := .builtin .append, args := #[s, x], argTypes := #[22, 22] }) (hs : a.eval s = v) (hx : a.eval x = .slice (some ⟨wr.heap.size, 0, none⟩) 1 1) (hl : L.length ≤ 1000000)
    (cont : ∀ A' c' w9, RSt w (w9.setCell ⟨ob, 1, none⟩ (.slice A' (L.length + 1) c')) g r ob Z N M A n c (L ++ [t]) (.slice A' (L.length + 1) c') → w9.heap[ob]? = some (.cells #[.int .i64 M, v] 24 (0, 0)) → (wr.alloc (triO t)).grownBy w9 v.ownBlock → K (a.put o.dst (.slice A' (L.length + 1) c')) w9) :
    if Region.wanted o (yielded ops a.tmps) = true then Oper.wp Try.prog o a (wr.alloc (triO t)) K Q else E := by
  obtain ⟨i0, hi, hz0, hz1, hz2⟩ := info_parts Try.infoTri
  have b := (Below.refl _ wr).alloc (Nat.le_refl _) (triO t)
  have q := h.up b
  refine step_append_lies _ hgd s x 22 ho Z 51 i0 (.agg #[.int .i64 0, .int .i64 0, .int .i64 0]) 3 24 Try.underlying22 hi hz0 hz1 hz2 rfl (by decide) v L.length (ints (flat3 L)) hs q.own ⟨wr.heap.size, 0, none⟩ 1 1 [.int .i64 t.1, .int .i64 t.2.1, .int .i64 t.2.2] hx rfl (tri_cells wr t) (ones3 _ _ _) (by decide) (by unfold maxLen; omega) (by omega) q.zw _ rfl ?_
  intro g9 cap9 w9 own9 gr9 _ _
  obtain ⟨h1, h2, _, _⟩ := h.app (t := t) b own9 gr9
  exact cont _ _ w9 h1 h2 gr9
/-- A triangle's block, made behind the row that is appended to, stays as it is. -/
theorem RSt.tri {w wr w5 w9 : World} {g r ob Z : Nat} {N M : Int} {A : Option Addr} {n c : Nat} {L : List Tr} {v : Value} (h : RSt w wr g r ob Z N M A n c L v) (_b : Below wr.heap.size wr w5) {tb i : Nat} (htb : wr.heap.size ≤ tb) {u : Value} (hu : w5.cell? ⟨tb, i, none⟩ = some u) (t : Tr) (gr : (w5.alloc (triO t)).grownBy w9 v.ownBlock) : w9.cell? ⟨tb, i, none⟩ = some u := by
  have hs := World.block_lt_of_cell? w5 _ hu
  have e := gr.block tb (by rw [World.size_alloc]; exact Nat.lt_succ_of_lt hs) (fun e => by have := (h.own.lt tb e.symm).2; omega)
  have e2 := ((Below.refl _ w5).alloc (Nat.le_refl _) (triO t)).cell (p := ⟨tb, i, none⟩) hs
  simp only [World.cell?] at *
  rw [e, e2, hu]
/-- What is told at the end, of a base below. -/
theorem RSt.ret0 {w0 w wr : World} {g r ob Z : Nat} {N M : Int} {A : Option Addr} {n c k : Nat} {L : List Tr} {A' : Option Addr} {c' : Nat} (h : RSt w wr g r ob Z N M A n c L (.slice A' k c')) (hk : L.length = k) (b0 : Below w0.heap.size w0 w) (hwr : w0.heap.size ≤ r) :
    ((wr.setCell ⟨r, 0, none⟩ (.int .i64 M)).setCell ⟨r, 1, none⟩ (.slice A' k c')).heap[r]? = some (.cells #[.int .i64 M, .slice A' k c'] 24 (0, 0)) ∧
    NewS w0 ((wr.setCell ⟨r, 0, none⟩ (.int .i64 M)).setCell ⟨r, 1, none⟩ (.slice A' k c')) M L (.agg #[.int .i64 M, .slice A' k c']) := by
  subst hk
  refine ⟨set2 h.res, _, _, rfl, ?_, below_set2 (b0.trans (h.below.mono b0.size)) hwr _ _⟩
  have o1 := ownK_set h.own h.res (by decide) 0 (.int .i64 M)
  have o2 := ownK_set o1 (heap_set h.res 0 (.int .i64 M)) (by decide) 1 (.slice A' L.length c')
  exact ownK_base o2 (Nat.le_trans b0.size h.wz)
def RPartTold (w : World) (n : Nat) (vs : List Int) (l : List Tr) (cs : List Int) (e : Ending) (w' : World) : Prop :=
  (¬ allIn (n : Int) cs ∧ ErrP w 2 e w') ∨ (allIn (n : Int) cs ∧ ¬ cs.Nodup ∧ ErrP w 9 e w') ∨ (allIn (n : Int) cs ∧ cs.Nodup ∧ OkP w vs (partL l vs cs) e w')

set_option maxHeartbeats 4000000 in
set_option maxRecDepth 100000 in
theorem rpart_arg (w : World) (N : Int) (A B : Option Addr) (n c m d : Nat) (l : List Tr) (h : T3 w A n l) (hn : n ≤ 1000000) (hf : ¬ Fit N l) :
    Calls Try.prog 25 #[.agg #[.int .i64 N, .slice A n c], .slice B m d] w (ErrP w 1) := by
  have HL := Lib.hid h
  have HF := Lib.hid hf
  have K := Lib.hid (fun (w' : World) (h : T3 w' A n l) => rfits_any w' N A n c l h (by omega))
  clear h hf
  go_enter Try.func25, Try.ntmps25
  go_wp2_with fail
  obtain ⟨y, hy⟩ : ∃ y, y = (w.alloc (.cells #[.int .i64 N, .slice A n c] 24)).alloc (.cells #[.int .i64 0, .slice none 0 0] 24) := ⟨_, rfl⟩
  have T := Lib.hid (two_boxes w N A n c y hy)
  simp only [← hy]
  clear hy
  obtain ⟨g, hg⟩ : ∃ g, w.heap.size = g := ⟨_, rfl⟩
  have HG := Lib.hid hg
  simp only [hg]
  rw [hg] at T
  clear hg
  refine (K.out _ (HL.out.below (by rw [HG.out]; exact T.out.1))).mono ?_
  rintro e w1 ⟨rfl, b1⟩
  have hd := decide_eq_false HF.out
  simp only [hd]
  have R := T.out.2.2.below b1
  have z0 := R.c0
  have z1 := R.c1
  have f0 := frozen_in R 0
  have f1 := frozen_in R 1
  have HR := Lib.hid R
  have B1 := Lib.hid (T.out.1.trans (b1.mono (by have := T.out.1.size; have := HG.out; omega)))
  clear b1 R hd
  go_wp2_with fail
  refine bodyPost_ret (results_row3 rfl _ _ (g + 1) 24 _ (0, 0) _ rfl (errS_row HR.out) Try.underlying24 rfl (by kernel_rfl)) rfl ⟨rfl, ?_⟩
  rw [HG.out]
  exact below_set2 B1.out (by omega) _ _

set_option maxHeartbeats 16000000 in
set_option maxRecDepth 100000 in
theorem rpart_any (w : World) (N : Nat) (A B : Option Addr) (n c m d : Nat) (l : List Tr) (cs : List Int) (h : T3 w A n l) (ht : Reads w B m (ints cs)) (hn : n ≤ 1000) (hm : m ≤ 1000) (hf : Fit N l) :
    Calls Try.prog 25 #[.agg #[.int .i64 (N : Int), .slice A n c], .slice B m d] w (RPartTold w n (vertsUp l cs N) l cs) := by
  have HL := Lib.hid h
  have HT := Lib.hid ht
  have HF := Lib.hid hf
  have K := Lib.hid (fun (w' : World) (h : T3 w' A n l) => rfits_any w' (N : Int) A n c l h (by omega))
  have hN := hf.2.1
  obtain ⟨i0, hi0, hz0, hz1, hz2⟩ := info_parts Try.infoInt
  have HII := Lib.hid hi0
  have HZZ := Lib.hid (And.intro hz0 (And.intro hz1 hz2))
  clear hi0 hz0 hz1 hz2
  clear h hf ht
  go_enter Try.func25, Try.ntmps25
  go_wp2_with fail
  obtain ⟨y, hy⟩ : ∃ y, y = (w.alloc (.cells #[.int .i64 (N : Int), .slice A n c] 24)).alloc (.cells #[.int .i64 0, .slice none 0 0] 24) := ⟨_, rfl⟩
  have T := Lib.hid (two_boxes w N A n c y hy)
  simp only [← hy]
  clear hy
  obtain ⟨g, hg⟩ : ∃ g, w.heap.size = g := ⟨_, rfl⟩
  have HG := Lib.hid hg
  simp only [hg]
  rw [hg] at T
  clear hg
  refine (K.out _ (HL.out.below (by rw [HG.out]; exact T.out.1))).mono ?_
  rintro e w1 ⟨rfl, b1⟩
  have hd := decide_eq_true HF.out
  simp only [hd]
  have B1 := Lib.hid (show Below w.heap.size w w1 by rw [HG.out]; exact T.out.1.trans (b1.mono (by have := T.out.1.size; have := HG.out; omega)))
  have BX := Lib.hid (T.out.2.1.below b1)
  have HR := Lib.hid (T.out.2.2.below b1)
  clear b1 hd
  go_wp2_with fail
  go_loopw [7] (PA w1 n cs m) (fun i _ => m - (intOf i).toNat)
  case atStart => exact ⟨0, Nat.zero_le _, rfl, Below.refl _ _, fun j hj => absurd hj (by omega)⟩
  case round =>
    obtain ⟨k, hk, rfl, hb, hin⟩ := hrel
    have HB := Lib.hid hb
    have HI := Lib.hid hin
    clear hb hin
    by_cases hlt : k < m
    · have b1 : (k : Int) < m := by omega
      obtain ⟨ad, rfl, c0⟩ := (HT.out.below (B1.out.trans (HB.out.mono B1.out.size))).int k hlt
      obtain ⟨C, hC⟩ : ∃ C, cs.getD k 0 = C := ⟨_, rfl⟩
      have HC := Lib.hid hC
      have hmem := getDi_mem (show k < cs.length by rw [HT.out.len]; exact hlt)
      rw [hC] at c0 hmem
      have HMM := Lib.hid hmem
      clear hC hmem
      have e1 := (BX.out.below HB.out).c1
      by_cases h0 : C < 0
      · have hd0 : decide (C < 0) = true := decide_eq_true h0
        have H0 := Lib.hid h0
        clear h0
        go_wp2_with fail
        go_quiet (fail)
        have RQ := Lib.hid ((HR.out.below HB.out).below (Reading.below (w' := wr.drewN nq) ⟨nq, rfl⟩))
        have BQ := Lib.hid ((B1.out.trans (HB.out.mono B1.out.size)).trans (Reading.below (w' := wr.drewN nq) ⟨nq, rfl⟩))
        generalize wr.drewN nq = wq at *
        have z0 := RQ.out.c0
        have z1 := RQ.out.c1
        have f0 := frozen_in RQ.out 0
        have f1 := frozen_in RQ.out 1
        go_wp2_with fail
        refine bodyPost_ret (results_row3 rfl _ _ (g + 1) 24 _ (0, 0) _ rfl (errS_row RQ.out) Try.underlying24 rfl (by kernel_rfl)) rfl (.inl ⟨fun hc => ?_, rfl, below_set2 BQ.out (by have := HG.out; omega) _ _⟩)
        have := (hc _ HMM.out).1
        have := H0.out
        omega
      · have hd0 : decide (C < 0) = false := decide_eq_false h0
        by_cases h1 : (n : Int) ≤ C
        · have hd1 : decide ((n : Int) ≤ C) = true := decide_eq_true h1
          have H0 := Lib.hid h1
          clear h0 h1
          go_wp2_with fail
          go_quiet (fail)
          have RQ := Lib.hid ((HR.out.below HB.out).below (Reading.below (w' := wr.drewN nq) ⟨nq, rfl⟩))
          have BQ := Lib.hid ((B1.out.trans (HB.out.mono B1.out.size)).trans (Reading.below (w' := wr.drewN nq) ⟨nq, rfl⟩))
          generalize wr.drewN nq = wq at *
          have z0 := RQ.out.c0
          have z1 := RQ.out.c1
          have f0 := frozen_in RQ.out 0
          have f1 := frozen_in RQ.out 1
          go_wp2_with fail
          refine bodyPost_ret (results_row3 rfl _ _ (g + 1) 24 _ (0, 0) _ rfl (errS_row RQ.out) Try.underlying24 rfl (by kernel_rfl)) rfl (.inl ⟨fun hc => ?_, rfl, below_set2 BQ.out (by have := HG.out; omega) _ _⟩)
          have := (hc _ HMM.out).2
          have := H0.out
          omega
        · have hd1 : decide ((n : Int) ≤ C) = false := decide_eq_false h1
          have H0 := Lib.hid (show inN (n : Int) C from ⟨by omega, by omega⟩)
          clear h0 h1
          go_wp2_with fail
          go_quiet (fail)
          have BQ := Lib.hid (HB.out.trans (Reading.below (w' := wr.drewN nq) ⟨nq, rfl⟩))
          generalize wr.drewN nq = wq at *
          go_wp2_with fail
          refine ⟨⟨k + 1, by omega, by go_num, BQ.out, fun j hj => ?_⟩, by simp [intOf]; omega⟩
          rcases Nat.lt_or_ge j k with h3 | h3
          · exact HI.out j h3
          · obtain rfl : j = k := by omega
            rw [HC.out]; exact H0.out
    · obtain rfl : k = m := by omega
      have b1 : ¬ (k : Int) < k := by omega
      have HIN := Lib.hid (show allIn (n : Int) cs from fun x hx => by
        obtain ⟨i, hi, rfl⟩ := memi_getD hx
        exact HI.out i (by rw [← HT.out.len]; exact hi))
      have KP := Lib.hid (fun W (h : Reads W B k (ints cs)) x => rplace_any W B k d cs x h (by omega))
      go_wp2_with fail
      go_loopw [8] (PB w1 cs k) (fun i _ => k - (intOf i).toNat)
      case atStart => exact ⟨0, Nat.zero_le _, rfl, HB.out, fun j hj => absurd hj (by omega)⟩
      case round =>
        obtain ⟨j, hj, rfl, hb, hpl⟩ := hrel
        have HB2 := Lib.hid hb
        have HP2 := Lib.hid hpl
        clear hb hpl
        have HTW := Lib.hid (HT.out.below (B1.out.trans (HB2.out.mono B1.out.size)))
        by_cases hlt2 : j < k
        · have b2 : (j : Int) < k := by omega
          obtain ⟨ad, rfl, c0⟩ := HTW.out.int j hlt2
          obtain ⟨C, hC⟩ : ∃ C, cs.getD j 0 = C := ⟨_, rfl⟩
          have HC := Lib.hid hC
          rw [hC] at c0
          clear hC
          go_wp2_with fail
          refine (KP.out wr HTW.out C).mono ?_
          rintro e w2 ⟨rfl, hw2⟩
          obtain ⟨p, hp⟩ : ∃ p, placeOf cs C = p := ⟨_, rfl⟩
          have HPL := Lib.hid hp
          simp only [hp]
          clear hp
          have HB3 := Lib.hid (show Below w1.heap.size w1 w2 by rw [hw2]; exact HB2.out)
          clear hw2
          by_cases hpj : p = (j : Int)
          · have f2 : (p == (j : Int)) = true := by simpa using hpj
            have HPJ := Lib.hid hpj
            clear hpj
            go_wp2_with fail
            refine ⟨⟨j + 1, by omega, by go_num, HB3.out, fun i hi => ?_⟩, by simp [intOf]; omega⟩
            rcases Nat.lt_or_ge i j with h3 | h3
            · exact HP2.out i h3
            · obtain rfl : i = j := by omega
              rw [HC.out, HPL.out]; exact HPJ.out
          · have f2 : (p == (j : Int)) = false := by simpa using hpj
            have HPJ := Lib.hid hpj
            clear hpj
            have RQ := Lib.hid (HR.out.below HB3.out)
            have z0 := RQ.out.c0
            have z1 := RQ.out.c1
            have f0 := frozen_in RQ.out 0
            have f1 := frozen_in RQ.out 1
            go_wp2_with fail
            refine bodyPost_ret (results_row3 rfl _ _ (g + 1) 24 _ (0, 0) _ rfl (errS_row RQ.out) Try.underlying24 rfl (by kernel_rfl)) rfl (.inr (.inl ⟨HIN.out, fun hc => HPJ.out ?_, rfl, below_set2 (B1.out.trans (HB3.out.mono B1.out.size)) (by have := HG.out; omega) _ _⟩))
            have hjl : j < cs.length := by rw [HT.out.len]; exact hlt2
            rw [← HPL.out, ← HC.out, place_in (getDi_mem hjl), idxOf_getD hc hjl]
        · obtain rfl : j = k := by omega
          have b2 : ¬ (j : Int) < j := by omega
          have HND := Lib.hid (nodup_place (fun i hi => HP2.out i (by rw [← HT.out.len]; exact hi)))
          go_wp2_with fail
          go_loopw [9, 10] (V3At w1 N l cs) (fun _ i _ => N - (intOf i).toNat)
          case atStart => exact ⟨0, Nat.zero_le _, rfl, HB2.out, World.ownsRow_nil wr w1.heap.size 3 1⟩
          case round =>
            obtain ⟨k', hk', rfl, hb3, ho⟩ := hrel
            have H3 := Lib.hid (And.intro hb3 ho)
            obtain ⟨Av, cv, rfl⟩ := ownK_form ho
            clear hb3 ho
            have e0 := (BX.out.below H3.out.1).c0
            by_cases hlt3 : k' < N
            · have b3 : (k' : Int) < N := by omega
              go_wp2_with fail
              go_loopw [9, 11] (PD w1 l cs j k') (fun _ i _ => j - (intOf i).toNat)
              case atStart => exact ⟨0, Nat.zero_le _, rfl, H3.out.1, H3.out.2, by simp [usedOf]⟩
              case round =>
                obtain ⟨t, htm, rfl, hb4, ho4, hno⟩ := hrel
                have H4 := Lib.hid (And.intro hb4 ho4)
                have HNO := Lib.hid hno
                obtain ⟨Aw, cw, rfl⟩ := ownK_form ho4
                clear hb4 ho4 hno
                have HBW := Lib.hid (B1.out.trans (H4.out.1.mono B1.out.size))
                by_cases hlt4 : t < j
                · have b4 : (t : Int) < j := by omega
                  obtain ⟨ad, rfl, c0⟩ := (HT.out.below HBW.out).int t hlt4
                  have hmem := getDi_mem (show t < cs.length by rw [HT.out.len]; exact hlt4)
                  have hin := HIN.out _ hmem
                  obtain ⟨a, ha⟩ : ∃ a : Nat, (cs.getD t 0).toNat = a := ⟨_, rfl⟩
                  have hCa : cs.getD t 0 = (a : Int) := by have := hin.1; omega
                  have han : a < n := by have := hin.2; omega
                  rw [hCa] at c0
                  have HCA := Lib.hid hCa
                  clear hmem hin ha hCa
                  have b5 : (a : Int) < n := by omega
                  obtain ⟨b, off, rfl, hat⟩ := (HL.out.below HBW.out).2 (by omega)
                  obtain ⟨d0, d1, d2⟩ := hat a han
                  clear hat
                  obtain ⟨x, hx⟩ : ∃ x, l.getD a z3 = x := ⟨_, rfl⟩
                  have HX := Lib.hid hx
                  rw [hx] at d0 d1 d2
                  clear hx
                  obtain ⟨x0, x1, x2⟩ := x
                  have e1 := (BX.out.below H4.out.1).c1
                  have HH := Lib.hid (fun (W : World) (b8 : Below wr.heap.size wr W) => (⟨(b8.cell (World.block_lt_of_cell? wr _ e1)).trans e1, (b8.cell (World.block_lt_of_cell? wr _ c0)).trans c0, (b8.cell (World.block_lt_of_cell? wr _ d0)).trans d0, (b8.cell (World.block_lt_of_cell? wr _ d1)).trans d1, (b8.cell (World.block_lt_of_cell? wr _ d2)).trans d2⟩ : W.cell? ⟨g, 1, none⟩ = some (.slice (some ⟨b, off, none⟩) n c) ∧ W.cell? (ad.add t) = some (.int .i64 (a : Int)) ∧ W.cell? ⟨b, off + a * 3, none⟩ = some (.int .i64 x0) ∧ W.cell? ⟨b, off + a * 3 + 1, none⟩ = some (.int .i64 x1) ∧ W.cell? ⟨b, off + a * 3 + 2, none⟩ = some (.int .i64 x2)))
                  have hd0 := HH.out wr.drew (Reading.below ⟨1, rfl⟩)
                  have BA := Lib.hid (fun o => (Reading.below (w' := wr.drew) ⟨1, rfl⟩).trans ((Below.refl _ wr.drew).alloc (Nat.le_refl _) o))
                  have BB := Lib.hid (fun o => ((Below.refl _ wr).alloc (Nat.le_refl _) o).trans (Reading.below (w' := (wr.alloc o).drew) ⟨1, rfl⟩))
                  have HMEM := Lib.hid (getDi_mem (show t < cs.length by rw [HT.out.len]; exact hlt4))
                  have HTK := Lib.hid (take_succ_getD cs t (show t < cs.length by rw [HT.out.len]; exact hlt4))
                  clear c0 d0 d1 d2 e1
                  go_wp2_with fail
                  refine wp_region_noPanic ?_
                  refine wp_region_held_drew (S := fun w' => w'.cell? ⟨g, 1, none⟩ = some (.slice (some ⟨b, off, none⟩) n c) ∧ w'.cell? (ad.add t) = some (.int .i64 (a : Int)) ∧ w'.cell? ⟨b, off + a * 3, none⟩ = some (.int .i64 x0) ∧ w'.cell? ⟨b, off + a * 3 + 1, none⟩ = some (.int .i64 x1) ∧ w'.cell? ⟨b, off + a * 3 + 2, none⟩ = some (.int .i64 x2)) (by kernel_rfl) hd0 (fun _ => ?_)
                  refine wpAnyH_take (i := 0) (v := ?v0x1) rfl (by kernel_rfl) (by kernel_rfl) (by kernel_rfl) (fun _ _ _ h => h) (Or.inl ⟨by rfl, ?y0x1⟩) hd0 ?_
                  case y0x1 => (intro w hSw; (try dsimp only at hSw); go_simp; try with_reducible rfl)
                  simp only [Act.put, List.setIfInBounds_toArray, List.set_cons_zero, List.set_cons_succ, List.getElem_toArray, List.getElem_cons_zero]
                  refine wpAnyH_take (i := 1) (v := ?v1x2) rfl (by kernel_rfl) (by kernel_rfl) (by kernel_rfl) (fun _ _ _ h => h) (Or.inl ⟨by rfl, ?y1x2⟩) hd0 ?_
                  case y1x2 => (intro w hSw; (try dsimp only at hSw); go_simp; try with_reducible rfl)
                  simp only [Act.put, List.setIfInBounds_toArray, List.set_cons_zero, List.set_cons_succ, List.getElem_toArray, List.getElem_cons_zero, List.getElem_cons_succ]
                  refine wpAnyH_take (i := 2) (v := ?v2x3) rfl (by kernel_rfl) (by kernel_rfl) (by kernel_rfl) (fun _ _ _ h => h) (Or.inl ⟨by rfl, ?y2x3⟩) hd0 ?_
                  case y2x3 => (intro w hSw; (try dsimp only at hSw); go_simp; try with_reducible rfl)
                  simp only [Act.put, List.setIfInBounds_toArray, List.set_cons_zero, List.set_cons_succ, List.getElem_toArray, List.getElem_cons_zero, List.getElem_cons_succ]
                  refine wpAnyH_take (i := 3) (v := ?v3x4) rfl (by kernel_rfl) (by kernel_rfl) (by kernel_rfl) (fun _ _ _ h => h) (Or.inl ⟨by rfl, ?y3x4⟩) hd0 ?_
                  case y3x4 => (intro w hSw; (try dsimp only at hSw); go_simp; try with_reducible rfl)
                  simp only [Act.put, List.setIfInBounds_toArray, List.set_cons_zero, List.set_cons_succ, List.getElem_toArray, List.getElem_cons_zero, List.getElem_cons_succ]
                  refine wpAnyH_take (i := 4) (v := ?v4x5) rfl (by kernel_rfl) (by kernel_rfl) (by kernel_rfl) (fun _ _ _ h => h) (Or.inl ⟨by rfl, ?y4x5⟩) hd0 ?_
                  case y4x5 => (intro w hSw; (try dsimp only at hSw); go_simp; try with_reducible rfl)
                  simp only [Act.put, List.setIfInBounds_toArray, List.set_cons_zero, List.set_cons_succ, List.getElem_toArray, List.getElem_cons_zero, List.getElem_cons_succ]
                  refine wpAnyH_take (i := 5) (v := ?v5x6) rfl (by kernel_rfl) (by kernel_rfl) (by kernel_rfl) (fun _ _ _ h => h) (Or.inl ⟨by rfl, ?y5x6⟩) hd0 ?_
                  case y5x6 => (intro w hSw; (try dsimp only at hSw); go_simp; try with_reducible rfl)
                  simp only [Act.put, List.setIfInBounds_toArray, List.set_cons_zero, List.set_cons_succ, List.getElem_toArray, List.getElem_cons_zero, List.getElem_cons_succ]
                  refine wpAnyH_take (i := 6) (v := ?v6x7) rfl (by kernel_rfl) (by kernel_rfl) (by kernel_rfl) (fun _ _ _ h => h) (Or.inl ⟨by rfl, ?y6x7⟩) hd0 ?_
                  case y6x7 => (intro w hSw; (try dsimp only at hSw); go_simp; try with_reducible rfl)
                  simp only [Act.put, List.setIfInBounds_toArray, List.set_cons_zero, List.set_cons_succ, List.getElem_toArray, List.getElem_cons_zero, List.getElem_cons_succ]
                  refine wpAnyH_take (i := 7) (v := ?v7x8) rfl (by kernel_rfl) (by kernel_rfl) (by kernel_rfl) (fun _ _ _ h => h) (Or.inl ⟨by rfl, ?y7x8⟩) hd0 ?_
                  case y7x8 => (intro w hSw; (try dsimp only at hSw); go_simp; try with_reducible rfl)
                  simp only [Act.put, List.setIfInBounds_toArray, List.set_cons_zero, List.set_cons_succ, List.getElem_toArray, List.getElem_cons_zero, List.getElem_cons_succ]
                  refine wpAnyH_ready (rs := [8]) (by kernel_rfl) (by simp) ?_
                  refine AllReadyH.cons rfl (fun K hK => ?_) AllReadyH.nil
                  go_simp
                  refine hK.out _ _ (HH.out _ (BA.out _)) (fun _ => ?_)
                  clear hK K
                  try simp only [Act.put, List.setIfInBounds_toArray, List.set_cons_zero, List.set_cons_succ, List.getElem_toArray, List.getElem_cons_zero, List.getElem_cons_succ]
                  refine wpAnyH_ready (rs := [9]) (by kernel_rfl) (by simp) ?_
                  refine AllReadyH.cons rfl (fun K hK => ?_) AllReadyH.nil
                  go_simp
                  refine hK.out _ _ (HH.out _ (BB.out _)) (fun _ => ?_)
                  clear hK K
                  try simp only [Act.put, List.setIfInBounds_toArray, List.set_cons_zero, List.set_cons_succ, List.getElem_toArray, List.getElem_cons_zero, List.getElem_cons_succ]
                  refine wpAnyH_done (by kernel_rfl) ?_ _
                  refine NoPanic.normal ?_
                  clear hd0
                  obtain ⟨w5, hw5⟩ : ∃ w5, (wr.alloc (.cells #[.int .i64 x0, .int .i64 x1, .int .i64 x2] 51)).drew = w5 := ⟨_, rfl⟩
                  have B5 := BB.out (.cells #[.int .i64 x0, .int .i64 x1, .int .i64 x2] 51)
                  have hb5 : (wr.alloc (.cells #[.int .i64 x0, .int .i64 x1, .int .i64 x2] 51)).drew.heap[wr.heap.size]? = some (.cells #[.int .i64 x0, .int .i64 x1, .int .i64 x2] 51 (0, 0)) := heap_alloc_new wr _
                  rw [hw5] at B5 hb5
                  simp only [hw5]
                  clear hw5
                  have B5 := Lib.hid B5
                  obtain ⟨tb, htb⟩ : ∃ tb, wr.heap.size = tb := ⟨_, rfl⟩
                  simp only [htb]
                  rw [htb] at hb5
                  clear htb
                  have q0 : w5.cell? ⟨tb, 0, none⟩ = some (.int .i64 x0) := by rw [cell_in hb5]; rfl
                  have q1 : w5.cell? ⟨tb, 1, none⟩ = some (.int .i64 x1) := by rw [cell_in hb5]; rfl
                  have q2 : w5.cell? ⟨tb, 2, none⟩ = some (.int .i64 x2) := by rw [cell_in hb5]; rfl
                  clear hb5
                  by_cases heq : x0 = (k' : Int)
                  · have f0 : (x0 == (k' : Int)) = true := by simpa using heq
                    have HEQ := Lib.hid heq
                    have E := Lib.hid (vertsUp_yes l cs k' (by rw [List.contains_iff_mem]; refine used_of_mem HMEM.out _ ?_; rw [HCA.out, show ((a : Nat) : Int).toNat = a from rfl, HX.out]; simp [triL, HEQ.out]))
                    clear heq
                    obtain ⟨L, hL⟩ : ∃ L, (vertsUp l cs k').length = L := ⟨_, rfl⟩
                    have hLk := vertsUp_le l cs k'
                    have O := ownK_up H4.out.2 B5.out
                    rw [hL] at O hLk
                    have HL2 := Lib.hid hL
                    have O9 := Lib.hid (ownK_up O ((Below.refl _ w5).alloc (Nat.le_refl _) (.cells #[.int .i64 (k' : Int)] 3)))
                    have B9 := Lib.hid (up1 (up2 H4.out.1 B5.out) (.cells #[.int .i64 (k' : Int)] 3))
                    have R9 := Lib.hid (Reads.of_block (xs := ints [(k' : Int)]) (heap_alloc_new w5 (.cells #[.int .i64 (k' : Int)] 3)))
                    simp only [hL]
                    clear O hL
                    go_wp2_with (at_builtin; refine wpList_append_reads rfl (.tmp 93) (.tmp 95) 29 rfl _ 3 i0 (.int .i64 0) 8 Try.underlying29 HII.out HZZ.out rfl (.slice Aw L cw) L (ints (vertsUp l cs k')) rfl O9.out (some ⟨w5.heap.size, 0, none⟩) 1 1 (ints [(k' : Int)]) rfl R9.out (fun e => (nomatch e)) (ints_one _) ?b1 ?b2 ?b3 ?_)
                    case b1 => unfold maxLen; omega
                    case b2 => omega
                    case b3 => exact B9.out.size
                    intro v' w9 own9 gr9
                    have Z := Lib.hid (And.intro own9 (own_grown_below B9.out gr9 B9.out.size (fun q hq => ownK_lt O9.out q hq)))
                    clear own9 gr9
                    go_wp2_with fail
                    refine ⟨⟨k' + 1, by omega, by go_num, Z.out.2, ?_⟩, by simp [intOf]; omega⟩
                    rw [E.out, ints_append, List.length_append, HL2.out]
                    exact Z.out.1
                  have f0 : (x0 == (k' : Int)) = false := by simpa using heq
                  have NE0 := Lib.hid heq
                  clear heq
                  by_cases heq : x1 = (k' : Int)
                  · have f1 : (x1 == (k' : Int)) = true := by simpa using heq
                    have HEQ := Lib.hid heq
                    have E := Lib.hid (vertsUp_yes l cs k' (by rw [List.contains_iff_mem]; refine used_of_mem HMEM.out _ ?_; rw [HCA.out, show ((a : Nat) : Int).toNat = a from rfl, HX.out]; simp [triL, HEQ.out]))
                    clear heq
                    obtain ⟨L, hL⟩ : ∃ L, (vertsUp l cs k').length = L := ⟨_, rfl⟩
                    have hLk := vertsUp_le l cs k'
                    have O := ownK_up H4.out.2 B5.out
                    rw [hL] at O hLk
                    have HL2 := Lib.hid hL
                    have O9 := Lib.hid (ownK_up O ((Below.refl _ w5).alloc (Nat.le_refl _) (.cells #[.int .i64 (k' : Int)] 3)))
                    have B9 := Lib.hid (up1 (up2 H4.out.1 B5.out) (.cells #[.int .i64 (k' : Int)] 3))
                    have R9 := Lib.hid (Reads.of_block (xs := ints [(k' : Int)]) (heap_alloc_new w5 (.cells #[.int .i64 (k' : Int)] 3)))
                    simp only [hL]
                    clear O hL
                    go_wp2_with (at_builtin; refine wpList_append_reads rfl (.tmp 93) (.tmp 95) 29 rfl _ 3 i0 (.int .i64 0) 8 Try.underlying29 HII.out HZZ.out rfl (.slice Aw L cw) L (ints (vertsUp l cs k')) rfl O9.out (some ⟨w5.heap.size, 0, none⟩) 1 1 (ints [(k' : Int)]) rfl R9.out (fun e => (nomatch e)) (ints_one _) ?b1 ?b2 ?b3 ?_)
                    case b1 => unfold maxLen; omega
                    case b2 => omega
                    case b3 => exact B9.out.size
                    intro v' w9 own9 gr9
                    have Z := Lib.hid (And.intro own9 (own_grown_below B9.out gr9 B9.out.size (fun q hq => ownK_lt O9.out q hq)))
                    clear own9 gr9
                    go_wp2_with fail
                    refine ⟨⟨k' + 1, by omega, by go_num, Z.out.2, ?_⟩, by simp [intOf]; omega⟩
                    rw [E.out, ints_append, List.length_append, HL2.out]
                    exact Z.out.1
                  have f1 : (x1 == (k' : Int)) = false := by simpa using heq
                  have NE1 := Lib.hid heq
                  clear heq
                  by_cases heq : x2 = (k' : Int)
                  · have f2 : (x2 == (k' : Int)) = true := by simpa using heq
                    have HEQ := Lib.hid heq
                    have E := Lib.hid (vertsUp_yes l cs k' (by rw [List.contains_iff_mem]; refine used_of_mem HMEM.out _ ?_; rw [HCA.out, show ((a : Nat) : Int).toNat = a from rfl, HX.out]; simp [triL, HEQ.out]))
                    clear heq
                    obtain ⟨L, hL⟩ : ∃ L, (vertsUp l cs k').length = L := ⟨_, rfl⟩
                    have hLk := vertsUp_le l cs k'
                    have O := ownK_up H4.out.2 B5.out
                    rw [hL] at O hLk
                    have HL2 := Lib.hid hL
                    have O9 := Lib.hid (ownK_up O ((Below.refl _ w5).alloc (Nat.le_refl _) (.cells #[.int .i64 (k' : Int)] 3)))
                    have B9 := Lib.hid (up1 (up2 H4.out.1 B5.out) (.cells #[.int .i64 (k' : Int)] 3))
                    have R9 := Lib.hid (Reads.of_block (xs := ints [(k' : Int)]) (heap_alloc_new w5 (.cells #[.int .i64 (k' : Int)] 3)))
                    simp only [hL]
                    clear O hL
                    go_wp2_with (at_builtin; refine wpList_append_reads rfl (.tmp 93) (.tmp 95) 29 rfl _ 3 i0 (.int .i64 0) 8 Try.underlying29 HII.out HZZ.out rfl (.slice Aw L cw) L (ints (vertsUp l cs k')) rfl O9.out (some ⟨w5.heap.size, 0, none⟩) 1 1 (ints [(k' : Int)]) rfl R9.out (fun e => (nomatch e)) (ints_one _) ?b1 ?b2 ?b3 ?_)
                    case b1 => unfold maxLen; omega
                    case b2 => omega
                    case b3 => exact B9.out.size
                    intro v' w9 own9 gr9
                    have Z := Lib.hid (And.intro own9 (own_grown_below B9.out gr9 B9.out.size (fun q hq => ownK_lt O9.out q hq)))
                    clear own9 gr9
                    go_wp2_with fail
                    refine ⟨⟨k' + 1, by omega, by go_num, Z.out.2, ?_⟩, by simp [intOf]; omega⟩
                    rw [E.out, ints_append, List.length_append, HL2.out]
                    exact Z.out.1
                  have f2 : (x2 == (k' : Int)) = false := by simpa using heq
                  have NE2 := Lib.hid heq
                  clear heq
                  go_wp2_with fail
                  refine ⟨⟨t + 1, by omega, by go_num, up2 H4.out.1 B5.out, ownK_up H4.out.2 B5.out, ?_⟩, by simp [intOf]; omega⟩
                  rw [HTK.out, usedOf_snoc, HCA.out, show ((a : Nat) : Int).toNat = a from rfl, HX.out, List.mem_append]
                  rintro (h9 | h9)
                  · exact HNO.out h9
                  · simp only [triL, List.mem_cons, List.not_mem_nil, or_false] at h9
                    rcases h9 with h9 | h9 | h9
                    · exact NE0.out h9.symm
                    · exact NE1.out h9.symm
                    · exact NE2.out h9.symm
                · obtain rfl : t = j := by omega
                  have b4 : ¬ (t : Int) < t := by omega
                  have E := Lib.hid (vertsUp_no l cs k' (by
                    have h9 := HNO.out
                    rw [List.take_of_length_le (by rw [HT.out.len]; exact Nat.le_refl _)] at h9
                    simpa using h9))
                  go_wp2_with fail
                  refine ⟨⟨k' + 1, by omega, by go_num, H4.out.1, ?_⟩, by simp [intOf]; omega⟩
                  rw [E.out]
                  exact H4.out.2
            · obtain rfl : k' = N := by omega
              have b3 : ¬ (k' : Int) < k' := by omega
              obtain ⟨X, rfl⟩ : ∃ X, X = wr := ⟨wr, rfl⟩
              obtain ⟨vs, hvs⟩ : ∃ vs, vertsUp l cs k' = vs := ⟨_, rfl⟩
              have HVS := Lib.hid hvs
              have hvk := vertsUp_le l cs k'
              have H9 := H3.out
              rw [hvs] at H9 hvk
              simp only [hvs]
              clear hvs
              obtain ⟨Lv, hLv⟩ : ∃ Lv, vs.length = Lv := ⟨_, rfl⟩
              have HLV := Lib.hid hLv
              rw [hLv] at H9 hvk
              simp only [hLv]
              clear hLv
              have H9 := Lib.hid H9
              have BX9 := BX.out.below H9.out.1
              have S0 := Lib.hid (RSt.first (M := (Lv : Int)) (Below.refl _ X) BX9 (HR.out.below H9.out.1) rfl)
              clear BX9
              go_wp2_with fail
              obtain ⟨ob, hob⟩ : ∃ ob, X.heap.size = ob := ⟨_, rfl⟩
              obtain ⟨w3, hw3⟩ : ∃ w3, X.alloc (.cells #[.int .i64 (Lv : Int), .slice none 0 0] 24) = w3 := ⟨_, rfl⟩
              rw [hw3, hob] at S0
              have HOB := Lib.hid hob
              simp only [hw3, hob]
              clear hw3 hob
              go_loopw [14] (RAt X g (g + 1) ob (ob + 1) (k' : Int) (Lv : Int) A n c (fun i => idxT vs (l.getD (cs.getD i 0).toNat z3)) j) (fun i _ => j - (intOf i).toNat)
              case atStart => exact ⟨0, _, Nat.zero_le _, rfl, S0.out⟩
              case round =>
                obtain ⟨t, v, htm, rfl, hst⟩ := hrel
                obtain ⟨Ao, co, rfl⟩ := ownK_form hst.own
                have HS := Lib.hid hst
                have HBW := Lib.hid ((B1.out.trans (H9.out.1.mono B1.out.size)).trans (hst.below.mono (B1.out.trans (H9.out.1.mono B1.out.size)).size))
                have o1 : wr.cell? ⟨ob, 1, none⟩ = some (.slice Ao ((List.range t).map (fun i => idxT vs (l.getD (cs.getD i 0).toNat z3))).length co) := by rw [cell_in hst.ob']; rfl
                have o0 : wr.cell? ⟨ob, 0, none⟩ = some (.int .i64 (Lv : Int)) := by rw [cell_in hst.ob']; rfl
                rw [List.length_map, List.length_range] at o1
                have e1 := hst.bx.c1
                clear hst
                by_cases hlt4 : t < j
                · have b4 : (t : Int) < j := by omega
                  obtain ⟨ad, rfl, c0⟩ := (HT.out.below HBW.out).int t hlt4
                  have hmem := getDi_mem (show t < cs.length by rw [HT.out.len]; exact hlt4)
                  have hin := HIN.out _ hmem
                  obtain ⟨a, ha⟩ : ∃ a : Nat, (cs.getD t 0).toNat = a := ⟨_, rfl⟩
                  have hCa : cs.getD t 0 = (a : Int) := by have := hin.1; omega
                  have han : a < n := by have := hin.2; omega
                  rw [hCa] at c0
                  have HCA := Lib.hid hCa
                  have HMEM := Lib.hid hmem
                  clear hmem hin ha hCa
                  have b5 : (a : Int) < n := by omega
                  obtain ⟨b, off, rfl, hat⟩ := (HL.out.below HBW.out).2 (by omega)
                  obtain ⟨d0, d1, d2⟩ := hat a han
                  clear hat
                  obtain ⟨x, hx⟩ : ∃ x, l.getD a z3 = x := ⟨_, rfl⟩
                  have HX := Lib.hid hx
                  have hok := HF.out.2.2.2 _ (getD3_mem (show a < l.length by rw [HL.out.1]; exact han))
                  rw [hx] at d0 d1 d2 hok
                  clear hx
                  obtain ⟨x0, x1, x2⟩ := x
                  have hus := used_of_mem (l := l) HMEM.out
                  rw [HCA.out, show ((a : Nat) : Int).toNat = a from rfl, HX.out] at hus
                  have vm : ∀ v : Int, inN (k' : Int) v → v ∈ triL (x0, x1, x2) → v ∈ vs := fun v h1 h2 => by rw [← HVS.out]; exact (vertsUp_mem _ _ _ _).2 ⟨h1.1, h1.2, hus v h2⟩
                  have v0 := place_in (vm x0 hok.1 (by simp [triL]))
                  have v1 := place_in (vm x1 hok.2.1 (by simp [triL]))
                  have v2 := place_in (vm x2 hok.2.2.1 (by simp [triL]))
                  obtain ⟨p0, hp0⟩ : ∃ p : Int, placeOf vs x0 = p := ⟨_, rfl⟩
                  obtain ⟨p1, hp1⟩ : ∃ p : Int, placeOf vs x1 = p := ⟨_, rfl⟩
                  obtain ⟨p2, hp2⟩ : ∃ p : Int, placeOf vs x2 = p := ⟨_, rfl⟩
                  have HPP := Lib.hid (And.intro hp0 (And.intro hp1 hp2))
                  have HID := Lib.hid (show idxT vs (x0, x1, x2) = (p0, p1, p2) by unfold idxT; rw [← hp0, ← hp1, ← hp2, v0, v1, v2])
                  clear hok hus vm v0 v1 v2 hp0 hp1 hp2
                  have HH := Lib.hid (fun (W : World) (b8 : Below wr.heap.size wr W) => (⟨(b8.cell (World.block_lt_of_cell? wr _ e1)).trans e1, (b8.cell (World.block_lt_of_cell? wr _ c0)).trans c0, (b8.cell (World.block_lt_of_cell? wr _ d0)).trans d0, (b8.cell (World.block_lt_of_cell? wr _ d1)).trans d1, (b8.cell (World.block_lt_of_cell? wr _ d2)).trans d2⟩ : W.cell? ⟨g, 1, none⟩ = some (.slice (some ⟨b, off, none⟩) n c) ∧ W.cell? (ad.add t) = some (.int .i64 (a : Int)) ∧ W.cell? ⟨b, off + a * 3, none⟩ = some (.int .i64 x0) ∧ W.cell? ⟨b, off + a * 3 + 1, none⟩ = some (.int .i64 x1) ∧ W.cell? ⟨b, off + a * 3 + 2, none⟩ = some (.int .i64 x2)))
                  have hd0 := HH.out wr.drew (Reading.below ⟨1, rfl⟩)
                  have BA := Lib.hid (fun o => (Reading.below (w' := wr.drew) ⟨1, rfl⟩).trans ((Below.refl _ wr.drew).alloc (Nat.le_refl _) o))
                  have BB := Lib.hid (fun o => ((Below.refl _ wr).alloc (Nat.le_refl _) o).trans (Reading.below (w' := (wr.alloc o).drew) ⟨1, rfl⟩))
                  have hlen : ((List.range t).map (fun i => idxT vs (l.getD (cs.getD i 0).toNat z3))).length = t := by simp
                  obtain ⟨Lk, hLk⟩ : ∃ Lk, (List.range t).map (fun i => idxT vs (l.getD (cs.getD i 0).toNat z3)) = Lk := ⟨_, rfl⟩
                  have hL1 : (List.range (t + 1)).map (fun i => idxT vs (l.getD (cs.getD i 0).toNat z3)) = Lk ++ [(p0, p1, p2)] := by rw [List.range_succ, List.map_append, hLk, List.map_singleton, HCA.out, show ((a : Nat) : Int).toNat = a from rfl, HX.out, HID.out]
                  have HD := HS.out
                  rw [hLk] at HD hlen
                  rw [hlen] at HD
                  have HL1 := Lib.hid (And.intro hL1 hlen)
                  have HD0 := Lib.hid HD
                  clear hLk hL1 HD hlen
                  have O1 := Lib.hid o1
                  clear c0 d0 d1 d2 e1 o0 o1
                  go_wp2_with fail
                  refine wp_region_noPanic ?_
                  refine wp_region_held_drew (S := fun w' => w'.cell? ⟨g, 1, none⟩ = some (.slice (some ⟨b, off, none⟩) n c) ∧ w'.cell? (ad.add t) = some (.int .i64 (a : Int)) ∧ w'.cell? ⟨b, off + a * 3, none⟩ = some (.int .i64 x0) ∧ w'.cell? ⟨b, off + a * 3 + 1, none⟩ = some (.int .i64 x1) ∧ w'.cell? ⟨b, off + a * 3 + 2, none⟩ = some (.int .i64 x2)) (by kernel_rfl) hd0 (fun _ => ?_)
                  refine wpAnyH_take (i := 0) (v := ?v0x9) rfl (by kernel_rfl) (by kernel_rfl) (by kernel_rfl) (fun _ _ _ h => h) (Or.inl ⟨by rfl, ?y0x9⟩) hd0 ?_
                  case y0x9 => (intro w hSw; (try dsimp only at hSw); go_simp; try with_reducible rfl)
                  simp only [Act.put, List.setIfInBounds_toArray, List.set_cons_zero, List.set_cons_succ, List.getElem_toArray, List.getElem_cons_zero]
                  refine wpAnyH_take (i := 1) (v := ?v1x10) rfl (by kernel_rfl) (by kernel_rfl) (by kernel_rfl) (fun _ _ _ h => h) (Or.inl ⟨by rfl, ?y1x10⟩) hd0 ?_
                  case y1x10 => (intro w hSw; (try dsimp only at hSw); go_simp; try with_reducible rfl)
                  simp only [Act.put, List.setIfInBounds_toArray, List.set_cons_zero, List.set_cons_succ, List.getElem_toArray, List.getElem_cons_zero, List.getElem_cons_succ]
                  refine wpAnyH_take (i := 2) (v := ?v2x11) rfl (by kernel_rfl) (by kernel_rfl) (by kernel_rfl) (fun _ _ _ h => h) (Or.inl ⟨by rfl, ?y2x11⟩) hd0 ?_
                  case y2x11 => (intro w hSw; (try dsimp only at hSw); go_simp; try with_reducible rfl)
                  simp only [Act.put, List.setIfInBounds_toArray, List.set_cons_zero, List.set_cons_succ, List.getElem_toArray, List.getElem_cons_zero, List.getElem_cons_succ]
                  refine wpAnyH_take (i := 3) (v := ?v3x12) rfl (by kernel_rfl) (by kernel_rfl) (by kernel_rfl) (fun _ _ _ h => h) (Or.inl ⟨by rfl, ?y3x12⟩) hd0 ?_
                  case y3x12 => (intro w hSw; (try dsimp only at hSw); go_simp; try with_reducible rfl)
                  simp only [Act.put, List.setIfInBounds_toArray, List.set_cons_zero, List.set_cons_succ, List.getElem_toArray, List.getElem_cons_zero, List.getElem_cons_succ]
                  refine wpAnyH_take (i := 4) (v := ?v4x13) rfl (by kernel_rfl) (by kernel_rfl) (by kernel_rfl) (fun _ _ _ h => h) (Or.inl ⟨by rfl, ?y4x13⟩) hd0 ?_
                  case y4x13 => (intro w hSw; (try dsimp only at hSw); go_simp; try with_reducible rfl)
                  simp only [Act.put, List.setIfInBounds_toArray, List.set_cons_zero, List.set_cons_succ, List.getElem_toArray, List.getElem_cons_zero, List.getElem_cons_succ]
                  refine wpAnyH_take (i := 5) (v := ?v5x14) rfl (by kernel_rfl) (by kernel_rfl) (by kernel_rfl) (fun _ _ _ h => h) (Or.inl ⟨by rfl, ?y5x14⟩) hd0 ?_
                  case y5x14 => (intro w hSw; (try dsimp only at hSw); go_simp; try with_reducible rfl)
                  simp only [Act.put, List.setIfInBounds_toArray, List.set_cons_zero, List.set_cons_succ, List.getElem_toArray, List.getElem_cons_zero, List.getElem_cons_succ]
                  refine wpAnyH_take (i := 6) (v := ?v6x15) rfl (by kernel_rfl) (by kernel_rfl) (by kernel_rfl) (fun _ _ _ h => h) (Or.inl ⟨by rfl, ?y6x15⟩) hd0 ?_
                  case y6x15 => (intro w hSw; (try dsimp only at hSw); go_simp; try with_reducible rfl)
                  simp only [Act.put, List.setIfInBounds_toArray, List.set_cons_zero, List.set_cons_succ, List.getElem_toArray, List.getElem_cons_zero, List.getElem_cons_succ]
                  refine wpAnyH_take (i := 7) (v := ?v7x16) rfl (by kernel_rfl) (by kernel_rfl) (by kernel_rfl) (fun _ _ _ h => h) (Or.inl ⟨by rfl, ?y7x16⟩) hd0 ?_
                  case y7x16 => (intro w hSw; (try dsimp only at hSw); go_simp; try with_reducible rfl)
                  simp only [Act.put, List.setIfInBounds_toArray, List.set_cons_zero, List.set_cons_succ, List.getElem_toArray, List.getElem_cons_zero, List.getElem_cons_succ]
                  refine wpAnyH_ready (rs := [8]) (by kernel_rfl) (by simp) ?_
                  refine AllReadyH.cons rfl (fun K hK => ?_) AllReadyH.nil
                  go_simp
                  refine hK.out _ _ (HH.out _ (BA.out _)) (fun _ => ?_)
                  clear hK K
                  try simp only [Act.put, List.setIfInBounds_toArray, List.set_cons_zero, List.set_cons_succ, List.getElem_toArray, List.getElem_cons_zero, List.getElem_cons_succ]
                  refine wpAnyH_ready (rs := [9]) (by kernel_rfl) (by simp) ?_
                  refine AllReadyH.cons rfl (fun K hK => ?_) AllReadyH.nil
                  go_simp
                  refine hK.out _ _ (HH.out _ (BB.out _)) (fun _ => ?_)
                  clear hK K
                  try simp only [Act.put, List.setIfInBounds_toArray, List.set_cons_zero, List.set_cons_succ, List.getElem_toArray, List.getElem_cons_zero, List.getElem_cons_succ]
                  refine wpAnyH_done (by kernel_rfl) ?_ _
                  refine NoPanic.normal ?_
                  clear hd0
                  obtain ⟨w5, hw5⟩ : ∃ w5, (wr.alloc (.cells #[.int .i64 x0, .int .i64 x1, .int .i64 x2] 51)).drew = w5 := ⟨_, rfl⟩
                  have B5 := BB.out (.cells #[.int .i64 x0, .int .i64 x1, .int .i64 x2] 51)
                  have hb5 : (wr.alloc (.cells #[.int .i64 x0, .int .i64 x1, .int .i64 x2] 51)).drew.heap[wr.heap.size]? = some (.cells #[.int .i64 x0, .int .i64 x1, .int .i64 x2] 51 (0, 0)) := heap_alloc_new wr _
                  rw [hw5] at B5 hb5
                  simp only [hw5]
                  clear hw5
                  have B6 := Lib.hid (B5.trans ((Reading.below (w' := w5.drew) ⟨1, rfl⟩).mono B5.size))
                  obtain ⟨tb, htb⟩ : ∃ tb, wr.heap.size = tb := ⟨_, rfl⟩
                  simp only [htb]
                  rw [htb] at hb5
                  have HTB := Lib.hid htb
                  clear htb
                  have q0 : w5.drew.cell? ⟨tb, 0, none⟩ = some (.int .i64 x0) := by show w5.cell? _ = _; rw [cell_in hb5]; rfl
                  have q1 : w5.drew.cell? ⟨tb, 1, none⟩ = some (.int .i64 x1) := by show w5.cell? _ = _; rw [cell_in hb5]; rfl
                  have q2 : w5.drew.cell? ⟨tb, 2, none⟩ = some (.int .i64 x2) := by show w5.cell? _ = _; rw [cell_in hb5]; rfl
                  have HQ := Lib.hid (And.intro q0 (And.intro q1 q2))
                  have N1 : tb ≠ ob := by have := heap_lt HS.out.ob'; have := HTB.out; omega
                  have he0 := HQ.out
                  clear hb5 B5 q0 q1 q2
                  have HDD := Lib.hid (HD0.out.up B6.out)
                  have OV := ownK_up H9.out.2 (HS.out.below.trans (B6.out.mono HS.out.below.size))
                  obtain ⟨Ax, cx, eAx, _, RV⟩ := Reads.of_own OV
                  injection eAx with eA1 eA2 eA3
                  subst eA1 eA3
                  have KP0 := Lib.hid (rplace_any w5.drew Av Lv cv vs x0 RV (by omega))
                  have KP1 := Lib.hid (rplace_any w5.drew Av Lv cv vs x1 RV (by omega))
                  have KP2 := Lib.hid (rplace_any w5.drew Av Lv cv vs x2 RV (by omega))
                  rw [HPP.out.1] at KP0
                  rw [HPP.out.2.1] at KP1
                  rw [HPP.out.2.2] at KP2
                  clear OV RV
                  have d4 : w5.drew.cell? ⟨ob, 1, none⟩ = some (.slice Ao t co) := (B6.out.cell (p := ⟨ob, 1, none⟩) (World.block_lt_of_cell? wr _ O1.out)).trans O1.out
                  have d5 : (w5.alloc (.cells #[.int .i64 p0, .int .i64 p1, .int .i64 p2] 51)).cell? ⟨ob, 1, none⟩ = some (.slice Ao t co) := (((Below.refl _ w5.drew).alloc (Nat.le_refl _) _).cell (World.block_lt_of_cell? w5.drew _ d4)).trans d4
                  have ba := Below.alloc (Below.refl _ w5.drew) (Nat.le_refl _) (triO (p0, p1, p2))
                  have he9 := And.intro ((ba.cell (World.block_lt_of_cell? w5.drew _ HQ.out.1)).trans HQ.out.1) (And.intro ((ba.cell (World.block_lt_of_cell? w5.drew _ HQ.out.2.1)).trans HQ.out.2.1) ((ba.cell (World.block_lt_of_cell? w5.drew _ HQ.out.2.2)).trans HQ.out.2.2))
                  clear ba
                  go_wp2_with fail
                  refine wp_region_noPanic ?_
                  refine wp_region_held_drew (S := fun w' => w'.cell? ⟨tb, 0, none⟩ = some (.int .i64 x0) ∧ w'.cell? ⟨tb, 1, none⟩ = some (.int .i64 x1) ∧ w'.cell? ⟨tb, 2, none⟩ = some (.int .i64 x2)) (by kernel_rfl) he0 (fun _ => ?_)
                  refine wpAnyH_take (i := 0) (v := ?v0x17) rfl (by kernel_rfl) (by kernel_rfl) (by kernel_rfl) (fun _ _ _ h => h) (Or.inl ⟨by rfl, ?y0x17⟩) he0 ?_
                  case y0x17 => (intro w hSw; (try dsimp only at hSw); go_simp; try with_reducible rfl)
                  simp only [Act.put, List.setIfInBounds_toArray, List.set_cons_zero, List.set_cons_succ, List.getElem_toArray, List.getElem_cons_zero]
                  refine wpAnyH_take (i := 2) (v := ?v2x18) rfl (by kernel_rfl) (by kernel_rfl) (by kernel_rfl) (fun _ _ _ h => h) (Or.inl ⟨by rfl, ?y2x18⟩) he0 ?_
                  case y2x18 => (intro w hSw; (try dsimp only at hSw); go_simp; try with_reducible rfl)
                  simp only [Act.put, List.setIfInBounds_toArray, List.set_cons_zero, List.set_cons_succ, List.getElem_toArray, List.getElem_cons_zero, List.getElem_cons_succ]
                  refine wpAnyH_take (i := 3) (v := ?v3x19) rfl (by kernel_rfl) (by kernel_rfl) (by kernel_rfl) (fun _ _ _ h => h) (Or.inl ⟨by rfl, ?y3x19⟩) he0 ?_
                  case y3x19 => (intro w hSw; (try dsimp only at hSw); go_simp; try with_reducible rfl)
                  simp only [Act.put, List.setIfInBounds_toArray, List.set_cons_zero, List.set_cons_succ, List.getElem_toArray, List.getElem_cons_zero, List.getElem_cons_succ]
                  refine wpAnyH_take (i := 4) (v := ?v4x20) rfl (by kernel_rfl) (by kernel_rfl) (by kernel_rfl) (fun _ _ _ h => h) (Or.inl ⟨by rfl, ?y4x20⟩) he0 ?_
                  case y4x20 => (intro w hSw; (try dsimp only at hSw); go_simp; try with_reducible rfl)
                  simp only [Act.put, List.setIfInBounds_toArray, List.set_cons_zero, List.set_cons_succ, List.getElem_toArray, List.getElem_cons_zero, List.getElem_cons_succ]
                  refine wpAnyH_take (i := 6) (v := ?v6x21) rfl (by kernel_rfl) (by kernel_rfl) (by kernel_rfl) (fun _ _ _ h => h) (Or.inl ⟨by rfl, ?y6x21⟩) he0 ?_
                  case y6x21 => (intro w hSw; (try dsimp only at hSw); go_simp; try with_reducible rfl)
                  simp only [Act.put, List.setIfInBounds_toArray, List.set_cons_zero, List.set_cons_succ, List.getElem_toArray, List.getElem_cons_zero, List.getElem_cons_succ]
                  refine wpAnyH_take (i := 7) (v := ?v7x22) rfl (by kernel_rfl) (by kernel_rfl) (by kernel_rfl) (fun _ _ _ h => h) (Or.inl ⟨by rfl, ?y7x22⟩) he0 ?_
                  case y7x22 => (intro w hSw; (try dsimp only at hSw); go_simp; try with_reducible rfl)
                  simp only [Act.put, List.setIfInBounds_toArray, List.set_cons_zero, List.set_cons_succ, List.getElem_toArray, List.getElem_cons_zero, List.getElem_cons_succ]
                  refine wpAnyH_take (i := 8) (v := ?v8x23) rfl (by kernel_rfl) (by kernel_rfl) (by kernel_rfl) (fun _ _ _ h => h) (Or.inl ⟨by rfl, ?y8x23⟩) he0 ?_
                  case y8x23 => (intro w hSw; (try dsimp only at hSw); go_simp; try with_reducible rfl)
                  simp only [Act.put, List.setIfInBounds_toArray, List.set_cons_zero, List.set_cons_succ, List.getElem_toArray, List.getElem_cons_zero, List.getElem_cons_succ]
                  refine wpAnyH_take (i := 10) (v := ?v10x24) rfl (by kernel_rfl) (by kernel_rfl) (by kernel_rfl) (fun _ _ _ h => h) (Or.inl ⟨by rfl, ?y10x24⟩) he0 ?_
                  case y10x24 => (intro w hSw; (try dsimp only at hSw); go_simp; try with_reducible rfl)
                  simp only [Act.put, List.setIfInBounds_toArray, List.set_cons_zero, List.set_cons_succ, List.getElem_toArray, List.getElem_cons_zero, List.getElem_cons_succ]
                  refine wpAnyH_take (i := 11) (v := ?v11x25) rfl (by kernel_rfl) (by kernel_rfl) (by kernel_rfl) (fun _ _ _ h => h) (Or.inl ⟨by rfl, ?y11x25⟩) he0 ?_
                  case y11x25 => (intro w hSw; (try dsimp only at hSw); go_simp; try with_reducible rfl)
                  simp only [Act.put, List.setIfInBounds_toArray, List.set_cons_zero, List.set_cons_succ, List.getElem_toArray, List.getElem_cons_zero, List.getElem_cons_succ]
                  refine wpAnyH_take (i := 12) (v := ?v12x26) rfl (by kernel_rfl) (by kernel_rfl) (by kernel_rfl) (fun _ _ _ h => h) (Or.inl ⟨by rfl, ?y12x26⟩) he0 ?_
                  case y12x26 => (intro w hSw; (try dsimp only at hSw); go_simp; try with_reducible rfl)
                  simp only [Act.put, List.setIfInBounds_toArray, List.set_cons_zero, List.set_cons_succ, List.getElem_toArray, List.getElem_cons_zero, List.getElem_cons_succ]
                  refine wpAnyH_ready (rs := [1, 5]) (by kernel_rfl) (by simp) ?_
                  refine AllReadyH.cons rfl (fun K hK => ?_) (AllReadyH.cons rfl (fun K hK => ?_) AllReadyH.nil)
                  · skip
                    go_simp
                    refine hK.out _ _ he0 (fun _ => ?_)
                    clear hK K
                    try simp only [Act.put, List.setIfInBounds_toArray, List.set_cons_zero, List.set_cons_succ, List.getElem_toArray, List.getElem_cons_zero, List.getElem_cons_succ]
                    refine wpAnyH_ready (rs := [5]) (by kernel_rfl) (by simp) ?_
                    refine AllReadyH.cons rfl (fun K hK => ?_) AllReadyH.nil
                    rw [if_pos (by rfl)]
                    go_wp2_with fail
                    refine KP0.out.mono ?_
                    rintro e w6 ⟨rfl, rfl⟩
                    go_wp2_with fail
                    refine hK.out _ _ he0 (fun _ => ?_)
                    clear hK K
                    try simp only [Act.put, List.setIfInBounds_toArray, List.set_cons_zero, List.set_cons_succ, List.getElem_toArray, List.getElem_cons_zero, List.getElem_cons_succ]
                    refine wpAnyH_ready (rs := [9]) (by kernel_rfl) (by simp) ?_
                    refine AllReadyH.cons rfl (fun K hK => ?_) AllReadyH.nil
                    rw [if_pos (by rfl)]
                    go_wp2_with fail
                    refine KP1.out.mono ?_
                    rintro e w6 ⟨rfl, rfl⟩
                    go_wp2_with fail
                    refine hK.out _ _ he0 (fun _ => ?_)
                    clear hK K
                    try simp only [Act.put, List.setIfInBounds_toArray, List.set_cons_zero, List.set_cons_succ, List.getElem_toArray, List.getElem_cons_zero, List.getElem_cons_succ]
                    refine wpAnyH_ready (rs := [13]) (by kernel_rfl) (by simp) ?_
                    refine AllReadyH.cons rfl (fun K hK => ?_) AllReadyH.nil
                    rw [if_pos (by rfl)]
                    go_wp2_with fail
                    refine KP2.out.mono ?_
                    rintro e w6 ⟨rfl, rfl⟩
                    go_wp2_with fail
                    refine hK.out _ _ he0 (fun _ => ?_)
                    clear hK K
                    try simp only [Act.put, List.setIfInBounds_toArray, List.set_cons_zero, List.set_cons_succ, List.getElem_toArray, List.getElem_cons_zero, List.getElem_cons_succ]
                    refine wpAnyH_take (i := 14) (v := ?v14x27) rfl (by kernel_rfl) (by kernel_rfl) (by kernel_rfl) (fun _ _ _ h => h) (Or.inl ⟨by rfl, ?y14x27⟩) he0 ?_
                    case y14x27 => (intro w hSw; (try dsimp only at hSw); go_simp; try with_reducible rfl)
                    simp only [Act.put, List.setIfInBounds_toArray, List.set_cons_zero, List.set_cons_succ, List.getElem_toArray, List.getElem_cons_zero, List.getElem_cons_succ]
                    refine wpAnyH_ready (rs := [15]) (by kernel_rfl) (by simp) ?_
                    refine AllReadyH.cons rfl (fun K hK => ?_) AllReadyH.nil
                    go_simp
                    refine hK.out _ _ he9 (fun _ => ?_)
                    clear hK K
                    try simp only [Act.put, List.setIfInBounds_toArray, List.set_cons_zero, List.set_cons_succ, List.getElem_toArray, List.getElem_cons_zero, List.getElem_cons_succ]
                    refine wpAnyH_ready (rs := [16]) (by kernel_rfl) (by simp) ?_
                    refine AllReadyH.cons rfl (fun K hK => ?_) AllReadyH.nil
                    refine HDD.out.stepG (p0, p1, p2) (by rfl) (.tmp 115) (.tmp 129) (by rfl) (by go_simp) (by go_simp) (by have := HL1.out.2; omega) ?_
                    intro A9 c9 w9 st9 o9 gr9
                    have s9 := And.intro (HD0.out.tri B6.out (by have := HTB.out; omega) HQ.out.1 (p0, p1, p2) gr9) (And.intro (HD0.out.tri B6.out (by have := HTB.out; omega) HQ.out.2.1 (p0, p1, p2) gr9) (HD0.out.tri B6.out (by have := HTB.out; omega) HQ.out.2.2 (p0, p1, p2) gr9))
                    have p9 : w9.cell? ⟨ob, 1, none⟩ = some (.slice Ao t co) := by rw [cell_in o9]; rfl
                    have f9 := frozen_in o9 1
                    have sf := fun v => And.intro ((far1 N1 1 v).trans s9.1) (And.intro ((far1 N1 1 v).trans s9.2.1) ((far1 N1 1 v).trans s9.2.2))
                    have ST := Lib.hid st9
                    clear st9 o9 gr9
                    refine hK.out _ _ s9 (fun _ => ?_)
                    clear hK K
                    try simp only [Act.put, List.setIfInBounds_toArray, List.set_cons_zero, List.set_cons_succ, List.getElem_toArray, List.getElem_cons_zero, List.getElem_cons_succ]
                    refine wpAnyH_take (i := 17) (v := ?v17x28) rfl (by kernel_rfl) (by kernel_rfl) (by kernel_rfl) (fun _ _ _ h => h) (Or.inl ⟨by rfl, ?y17x28⟩) s9 ?_
                    case y17x28 => (intro w hSw; (try dsimp only at hSw); go_simp; try with_reducible rfl)
                    simp only [Act.put, List.setIfInBounds_toArray, List.set_cons_zero, List.set_cons_succ, List.getElem_toArray, List.getElem_cons_zero, List.getElem_cons_succ]
                    refine wpAnyH_ready (rs := [18]) (by kernel_rfl) (by simp) ?_
                    refine AllReadyH.cons rfl (fun K hK => ?_) AllReadyH.nil
                    go_simp
                    refine hK.out _ _ (sf _) (fun _ => ?_)
                    clear hK K
                    try simp only [Act.put, List.setIfInBounds_toArray, List.set_cons_zero, List.set_cons_succ, List.getElem_toArray, List.getElem_cons_zero, List.getElem_cons_succ]
                    refine wpAnyH_done (by kernel_rfl) ?_ _
                    refine NoPanic.normal ?_
                    go_wp2_with fail
                    refine ⟨⟨t + 1, .slice A9 (Lk.length + 1) c9, by omega, by go_num, ?_⟩, by simp [intOf]; omega⟩
                    rw [HL1.out.1]
                    exact ST.out
                  · skip
                    rw [if_pos (by rfl)]
                    go_wp2_with fail
                    refine KP0.out.mono ?_
                    rintro e w6 ⟨rfl, rfl⟩
                    go_wp2_with fail
                    refine hK.out _ _ he0 (fun _ => ?_)
                    clear hK K
                    try simp only [Act.put, List.setIfInBounds_toArray, List.set_cons_zero, List.set_cons_succ, List.getElem_toArray, List.getElem_cons_zero, List.getElem_cons_succ]
                    refine wpAnyH_ready (rs := [1, 9]) (by kernel_rfl) (by simp) ?_
                    refine AllReadyH.cons rfl (fun K hK => ?_) (AllReadyH.cons rfl (fun K hK => ?_) AllReadyH.nil)
                    · skip
                      go_simp
                      refine hK.out _ _ he0 (fun _ => ?_)
                      clear hK K
                      try simp only [Act.put, List.setIfInBounds_toArray, List.set_cons_zero, List.set_cons_succ, List.getElem_toArray, List.getElem_cons_zero, List.getElem_cons_succ]
                      refine wpAnyH_ready (rs := [9]) (by kernel_rfl) (by simp) ?_
                      refine AllReadyH.cons rfl (fun K hK => ?_) AllReadyH.nil
                      rw [if_pos (by rfl)]
                      go_wp2_with fail
                      refine KP1.out.mono ?_
                      rintro e w6 ⟨rfl, rfl⟩
                      go_wp2_with fail
                      refine hK.out _ _ he0 (fun _ => ?_)
                      clear hK K
                      try simp only [Act.put, List.setIfInBounds_toArray, List.set_cons_zero, List.set_cons_succ, List.getElem_toArray, List.getElem_cons_zero, List.getElem_cons_succ]
                      refine wpAnyH_ready (rs := [13]) (by kernel_rfl) (by simp) ?_
                      refine AllReadyH.cons rfl (fun K hK => ?_) AllReadyH.nil
                      rw [if_pos (by rfl)]
                      go_wp2_with fail
                      refine KP2.out.mono ?_
                      rintro e w6 ⟨rfl, rfl⟩
                      go_wp2_with fail
                      refine hK.out _ _ he0 (fun _ => ?_)
                      clear hK K
                      try simp only [Act.put, List.setIfInBounds_toArray, List.set_cons_zero, List.set_cons_succ, List.getElem_toArray, List.getElem_cons_zero, List.getElem_cons_succ]
                      refine wpAnyH_take (i := 14) (v := ?v14x29) rfl (by kernel_rfl) (by kernel_rfl) (by kernel_rfl) (fun _ _ _ h => h) (Or.inl ⟨by rfl, ?y14x29⟩) he0 ?_
                      case y14x29 => (intro w hSw; (try dsimp only at hSw); go_simp; try with_reducible rfl)
                      simp only [Act.put, List.setIfInBounds_toArray, List.set_cons_zero, List.set_cons_succ, List.getElem_toArray, List.getElem_cons_zero, List.getElem_cons_succ]
                      refine wpAnyH_ready (rs := [15]) (by kernel_rfl) (by simp) ?_
                      refine AllReadyH.cons rfl (fun K hK => ?_) AllReadyH.nil
                      go_simp
                      refine hK.out _ _ he9 (fun _ => ?_)
                      clear hK K
                      try simp only [Act.put, List.setIfInBounds_toArray, List.set_cons_zero, List.set_cons_succ, List.getElem_toArray, List.getElem_cons_zero, List.getElem_cons_succ]
                      refine wpAnyH_ready (rs := [16]) (by kernel_rfl) (by simp) ?_
                      refine AllReadyH.cons rfl (fun K hK => ?_) AllReadyH.nil
                      refine HDD.out.stepG (p0, p1, p2) (by rfl) (.tmp 115) (.tmp 129) (by rfl) (by go_simp) (by go_simp) (by have := HL1.out.2; omega) ?_
                      intro A9 c9 w9 st9 o9 gr9
                      have s9 := And.intro (HD0.out.tri B6.out (by have := HTB.out; omega) HQ.out.1 (p0, p1, p2) gr9) (And.intro (HD0.out.tri B6.out (by have := HTB.out; omega) HQ.out.2.1 (p0, p1, p2) gr9) (HD0.out.tri B6.out (by have := HTB.out; omega) HQ.out.2.2 (p0, p1, p2) gr9))
                      have p9 : w9.cell? ⟨ob, 1, none⟩ = some (.slice Ao t co) := by rw [cell_in o9]; rfl
                      have f9 := frozen_in o9 1
                      have sf := fun v => And.intro ((far1 N1 1 v).trans s9.1) (And.intro ((far1 N1 1 v).trans s9.2.1) ((far1 N1 1 v).trans s9.2.2))
                      have ST := Lib.hid st9
                      clear st9 o9 gr9
                      refine hK.out _ _ s9 (fun _ => ?_)
                      clear hK K
                      try simp only [Act.put, List.setIfInBounds_toArray, List.set_cons_zero, List.set_cons_succ, List.getElem_toArray, List.getElem_cons_zero, List.getElem_cons_succ]
                      refine wpAnyH_take (i := 17) (v := ?v17x30) rfl (by kernel_rfl) (by kernel_rfl) (by kernel_rfl) (fun _ _ _ h => h) (Or.inl ⟨by rfl, ?y17x30⟩) s9 ?_
                      case y17x30 => (intro w hSw; (try dsimp only at hSw); go_simp; try with_reducible rfl)
                      simp only [Act.put, List.setIfInBounds_toArray, List.set_cons_zero, List.set_cons_succ, List.getElem_toArray, List.getElem_cons_zero, List.getElem_cons_succ]
                      refine wpAnyH_ready (rs := [18]) (by kernel_rfl) (by simp) ?_
                      refine AllReadyH.cons rfl (fun K hK => ?_) AllReadyH.nil
                      go_simp
                      refine hK.out _ _ (sf _) (fun _ => ?_)
                      clear hK K
                      try simp only [Act.put, List.setIfInBounds_toArray, List.set_cons_zero, List.set_cons_succ, List.getElem_toArray, List.getElem_cons_zero, List.getElem_cons_succ]
                      refine wpAnyH_done (by kernel_rfl) ?_ _
                      refine NoPanic.normal ?_
                      go_wp2_with fail
                      refine ⟨⟨t + 1, .slice A9 (Lk.length + 1) c9, by omega, by go_num, ?_⟩, by simp [intOf]; omega⟩
                      rw [HL1.out.1]
                      exact ST.out
                    · skip
                      rw [if_pos (by rfl)]
                      go_wp2_with fail
                      refine KP1.out.mono ?_
                      rintro e w6 ⟨rfl, rfl⟩
                      go_wp2_with fail
                      refine hK.out _ _ he0 (fun _ => ?_)
                      clear hK K
                      try simp only [Act.put, List.setIfInBounds_toArray, List.set_cons_zero, List.set_cons_succ, List.getElem_toArray, List.getElem_cons_zero, List.getElem_cons_succ]
                      refine wpAnyH_ready (rs := [1, 13]) (by kernel_rfl) (by simp) ?_
                      refine AllReadyH.cons rfl (fun K hK => ?_) (AllReadyH.cons rfl (fun K hK => ?_) AllReadyH.nil)
                      · skip
                        go_simp
                        refine hK.out _ _ he0 (fun _ => ?_)
                        clear hK K
                        try simp only [Act.put, List.setIfInBounds_toArray, List.set_cons_zero, List.set_cons_succ, List.getElem_toArray, List.getElem_cons_zero, List.getElem_cons_succ]
                        refine wpAnyH_ready (rs := [13]) (by kernel_rfl) (by simp) ?_
                        refine AllReadyH.cons rfl (fun K hK => ?_) AllReadyH.nil
                        rw [if_pos (by rfl)]
                        go_wp2_with fail
                        refine KP2.out.mono ?_
                        rintro e w6 ⟨rfl, rfl⟩
                        go_wp2_with fail
                        refine hK.out _ _ he0 (fun _ => ?_)
                        clear hK K
                        try simp only [Act.put, List.setIfInBounds_toArray, List.set_cons_zero, List.set_cons_succ, List.getElem_toArray, List.getElem_cons_zero, List.getElem_cons_succ]
                        refine wpAnyH_take (i := 14) (v := ?v14x31) rfl (by kernel_rfl) (by kernel_rfl) (by kernel_rfl) (fun _ _ _ h => h) (Or.inl ⟨by rfl, ?y14x31⟩) he0 ?_
                        case y14x31 => (intro w hSw; (try dsimp only at hSw); go_simp; try with_reducible rfl)
                        simp only [Act.put, List.setIfInBounds_toArray, List.set_cons_zero, List.set_cons_succ, List.getElem_toArray, List.getElem_cons_zero, List.getElem_cons_succ]
                        refine wpAnyH_ready (rs := [15]) (by kernel_rfl) (by simp) ?_
                        refine AllReadyH.cons rfl (fun K hK => ?_) AllReadyH.nil
                        go_simp
                        refine hK.out _ _ he9 (fun _ => ?_)
                        clear hK K
                        try simp only [Act.put, List.setIfInBounds_toArray, List.set_cons_zero, List.set_cons_succ, List.getElem_toArray, List.getElem_cons_zero, List.getElem_cons_succ]
                        refine wpAnyH_ready (rs := [16]) (by kernel_rfl) (by simp) ?_
                        refine AllReadyH.cons rfl (fun K hK => ?_) AllReadyH.nil
                        refine HDD.out.stepG (p0, p1, p2) (by rfl) (.tmp 115) (.tmp 129) (by rfl) (by go_simp) (by go_simp) (by have := HL1.out.2; omega) ?_
                        intro A9 c9 w9 st9 o9 gr9
                        have s9 := And.intro (HD0.out.tri B6.out (by have := HTB.out; omega) HQ.out.1 (p0, p1, p2) gr9) (And.intro (HD0.out.tri B6.out (by have := HTB.out; omega) HQ.out.2.1 (p0, p1, p2) gr9) (HD0.out.tri B6.out (by have := HTB.out; omega) HQ.out.2.2 (p0, p1, p2) gr9))
                        have p9 : w9.cell? ⟨ob, 1, none⟩ = some (.slice Ao t co) := by rw [cell_in o9]; rfl
                        have f9 := frozen_in o9 1
                        have sf := fun v => And.intro ((far1 N1 1 v).trans s9.1) (And.intro ((far1 N1 1 v).trans s9.2.1) ((far1 N1 1 v).trans s9.2.2))
                        have ST := Lib.hid st9
                        clear st9 o9 gr9
                        refine hK.out _ _ s9 (fun _ => ?_)
                        clear hK K
                        try simp only [Act.put, List.setIfInBounds_toArray, List.set_cons_zero, List.set_cons_succ, List.getElem_toArray, List.getElem_cons_zero, List.getElem_cons_succ]
                        refine wpAnyH_take (i := 17) (v := ?v17x32) rfl (by kernel_rfl) (by kernel_rfl) (by kernel_rfl) (fun _ _ _ h => h) (Or.inl ⟨by rfl, ?y17x32⟩) s9 ?_
                        case y17x32 => (intro w hSw; (try dsimp only at hSw); go_simp; try with_reducible rfl)
                        simp only [Act.put, List.setIfInBounds_toArray, List.set_cons_zero, List.set_cons_succ, List.getElem_toArray, List.getElem_cons_zero, List.getElem_cons_succ]
                        refine wpAnyH_ready (rs := [18]) (by kernel_rfl) (by simp) ?_
                        refine AllReadyH.cons rfl (fun K hK => ?_) AllReadyH.nil
                        go_simp
                        refine hK.out _ _ (sf _) (fun _ => ?_)
                        clear hK K
                        try simp only [Act.put, List.setIfInBounds_toArray, List.set_cons_zero, List.set_cons_succ, List.getElem_toArray, List.getElem_cons_zero, List.getElem_cons_succ]
                        refine wpAnyH_done (by kernel_rfl) ?_ _
                        refine NoPanic.normal ?_
                        go_wp2_with fail
                        refine ⟨⟨t + 1, .slice A9 (Lk.length + 1) c9, by omega, by go_num, ?_⟩, by simp [intOf]; omega⟩
                        rw [HL1.out.1]
                        exact ST.out
                      · skip
                        rw [if_pos (by rfl)]
                        go_wp2_with fail
                        refine KP2.out.mono ?_
                        rintro e w6 ⟨rfl, rfl⟩
                        go_wp2_with fail
                        refine hK.out _ _ he0 (fun _ => ?_)
                        clear hK K
                        try simp only [Act.put, List.setIfInBounds_toArray, List.set_cons_zero, List.set_cons_succ, List.getElem_toArray, List.getElem_cons_zero, List.getElem_cons_succ]
                        refine wpAnyH_take (i := 14) (v := ?v14x33) rfl (by kernel_rfl) (by kernel_rfl) (by kernel_rfl) (fun _ _ _ h => h) (Or.inl ⟨by rfl, ?y14x33⟩) he0 ?_
                        case y14x33 => (intro w hSw; (try dsimp only at hSw); go_simp; try with_reducible rfl)
                        simp only [Act.put, List.setIfInBounds_toArray, List.set_cons_zero, List.set_cons_succ, List.getElem_toArray, List.getElem_cons_zero, List.getElem_cons_succ]
                        refine wpAnyH_ready (rs := [1, 15]) (by kernel_rfl) (by simp) ?_
                        refine AllReadyH.cons rfl (fun K hK => ?_) (AllReadyH.cons rfl (fun K hK => ?_) AllReadyH.nil)
                        · skip
                          go_simp
                          refine hK.out _ _ he0 (fun _ => ?_)
                          clear hK K
                          try simp only [Act.put, List.setIfInBounds_toArray, List.set_cons_zero, List.set_cons_succ, List.getElem_toArray, List.getElem_cons_zero, List.getElem_cons_succ]
                          refine wpAnyH_ready (rs := [15]) (by kernel_rfl) (by simp) ?_
                          refine AllReadyH.cons rfl (fun K hK => ?_) AllReadyH.nil
                          go_simp
                          refine hK.out _ _ he9 (fun _ => ?_)
                          clear hK K
                          try simp only [Act.put, List.setIfInBounds_toArray, List.set_cons_zero, List.set_cons_succ, List.getElem_toArray, List.getElem_cons_zero, List.getElem_cons_succ]
                          refine wpAnyH_ready (rs := [16]) (by kernel_rfl) (by simp) ?_
                          refine AllReadyH.cons rfl (fun K hK => ?_) AllReadyH.nil
                          refine HDD.out.stepG (p0, p1, p2) (by rfl) (.tmp 115) (.tmp 129) (by rfl) (by go_simp) (by go_simp) (by have := HL1.out.2; omega) ?_
                          intro A9 c9 w9 st9 o9 gr9
                          have s9 := And.intro (HD0.out.tri B6.out (by have := HTB.out; omega) HQ.out.1 (p0, p1, p2) gr9) (And.intro (HD0.out.tri B6.out (by have := HTB.out; omega) HQ.out.2.1 (p0, p1, p2) gr9) (HD0.out.tri B6.out (by have := HTB.out; omega) HQ.out.2.2 (p0, p1, p2) gr9))
                          have p9 : w9.cell? ⟨ob, 1, none⟩ = some (.slice Ao t co) := by rw [cell_in o9]; rfl
                          have f9 := frozen_in o9 1
                          have sf := fun v => And.intro ((far1 N1 1 v).trans s9.1) (And.intro ((far1 N1 1 v).trans s9.2.1) ((far1 N1 1 v).trans s9.2.2))
                          have ST := Lib.hid st9
                          clear st9 o9 gr9
                          refine hK.out _ _ s9 (fun _ => ?_)
                          clear hK K
                          try simp only [Act.put, List.setIfInBounds_toArray, List.set_cons_zero, List.set_cons_succ, List.getElem_toArray, List.getElem_cons_zero, List.getElem_cons_succ]
                          refine wpAnyH_take (i := 17) (v := ?v17x34) rfl (by kernel_rfl) (by kernel_rfl) (by kernel_rfl) (fun _ _ _ h => h) (Or.inl ⟨by rfl, ?y17x34⟩) s9 ?_
                          case y17x34 => (intro w hSw; (try dsimp only at hSw); go_simp; try with_reducible rfl)
                          simp only [Act.put, List.setIfInBounds_toArray, List.set_cons_zero, List.set_cons_succ, List.getElem_toArray, List.getElem_cons_zero, List.getElem_cons_succ]
                          refine wpAnyH_ready (rs := [18]) (by kernel_rfl) (by simp) ?_
                          refine AllReadyH.cons rfl (fun K hK => ?_) AllReadyH.nil
                          go_simp
                          refine hK.out _ _ (sf _) (fun _ => ?_)
                          clear hK K
                          try simp only [Act.put, List.setIfInBounds_toArray, List.set_cons_zero, List.set_cons_succ, List.getElem_toArray, List.getElem_cons_zero, List.getElem_cons_succ]
                          refine wpAnyH_done (by kernel_rfl) ?_ _
                          refine NoPanic.normal ?_
                          go_wp2_with fail
                          refine ⟨⟨t + 1, .slice A9 (Lk.length + 1) c9, by omega, by go_num, ?_⟩, by simp [intOf]; omega⟩
                          rw [HL1.out.1]
                          exact ST.out
                        · skip
                          go_simp
                          refine hK.out _ _ he9 (fun _ => ?_)
                          clear hK K
                          try simp only [Act.put, List.setIfInBounds_toArray, List.set_cons_zero, List.set_cons_succ, List.getElem_toArray, List.getElem_cons_zero, List.getElem_cons_succ]
                          refine wpAnyH_ready (rs := [1]) (by kernel_rfl) (by simp) ?_
                          refine AllReadyH.cons rfl (fun K hK => ?_) AllReadyH.nil
                          go_simp
                          refine hK.out _ _ he9 (fun _ => ?_)
                          clear hK K
                          try simp only [Act.put, List.setIfInBounds_toArray, List.set_cons_zero, List.set_cons_succ, List.getElem_toArray, List.getElem_cons_zero, List.getElem_cons_succ]
                          refine wpAnyH_ready (rs := [16]) (by kernel_rfl) (by simp) ?_
                          refine AllReadyH.cons rfl (fun K hK => ?_) AllReadyH.nil
                          refine HDD.out.stepG (p0, p1, p2) (by rfl) (.tmp 115) (.tmp 129) (by rfl) (by go_simp) (by go_simp) (by have := HL1.out.2; omega) ?_
                          intro A9 c9 w9 st9 o9 gr9
                          have s9 := And.intro (HD0.out.tri B6.out (by have := HTB.out; omega) HQ.out.1 (p0, p1, p2) gr9) (And.intro (HD0.out.tri B6.out (by have := HTB.out; omega) HQ.out.2.1 (p0, p1, p2) gr9) (HD0.out.tri B6.out (by have := HTB.out; omega) HQ.out.2.2 (p0, p1, p2) gr9))
                          have p9 : w9.cell? ⟨ob, 1, none⟩ = some (.slice Ao t co) := by rw [cell_in o9]; rfl
                          have f9 := frozen_in o9 1
                          have sf := fun v => And.intro ((far1 N1 1 v).trans s9.1) (And.intro ((far1 N1 1 v).trans s9.2.1) ((far1 N1 1 v).trans s9.2.2))
                          have ST := Lib.hid st9
                          clear st9 o9 gr9
                          refine hK.out _ _ s9 (fun _ => ?_)
                          clear hK K
                          try simp only [Act.put, List.setIfInBounds_toArray, List.set_cons_zero, List.set_cons_succ, List.getElem_toArray, List.getElem_cons_zero, List.getElem_cons_succ]
                          refine wpAnyH_take (i := 17) (v := ?v17x35) rfl (by kernel_rfl) (by kernel_rfl) (by kernel_rfl) (fun _ _ _ h => h) (Or.inl ⟨by rfl, ?y17x35⟩) s9 ?_
                          case y17x35 => (intro w hSw; (try dsimp only at hSw); go_simp; try with_reducible rfl)
                          simp only [Act.put, List.setIfInBounds_toArray, List.set_cons_zero, List.set_cons_succ, List.getElem_toArray, List.getElem_cons_zero, List.getElem_cons_succ]
                          refine wpAnyH_ready (rs := [18]) (by kernel_rfl) (by simp) ?_
                          refine AllReadyH.cons rfl (fun K hK => ?_) AllReadyH.nil
                          go_simp
                          refine hK.out _ _ (sf _) (fun _ => ?_)
                          clear hK K
                          try simp only [Act.put, List.setIfInBounds_toArray, List.set_cons_zero, List.set_cons_succ, List.getElem_toArray, List.getElem_cons_zero, List.getElem_cons_succ]
                          refine wpAnyH_done (by kernel_rfl) ?_ _
                          refine NoPanic.normal ?_
                          go_wp2_with fail
                          refine ⟨⟨t + 1, .slice A9 (Lk.length + 1) c9, by omega, by go_num, ?_⟩, by simp [intOf]; omega⟩
                          rw [HL1.out.1]
                          exact ST.out
                · obtain rfl : t = j := by omega
                  have b4 : ¬ (t : Int) < t := by omega
                  have e2 := HS.out.res.c0
                  have e3 := HS.out.res.c1
                  have z0 := frozen_in HS.out.res 0
                  have z1 := frozen_in HS.out.res 1
                  have hlen : ((List.range t).map (fun i => idxT vs (l.getD (cs.getD i 0).toNat z3))).length = t := by simp
                  have HS2 := HS.out
                  rw [hlen] at HS2
                  have HRR := Lib.hid HS2
                  clear HS2 hlen
                  go_wp2_with fail
                  obtain ⟨hrow, hnew⟩ := HRR.out.ret0 (by simp) (B1.out.trans (H9.out.1.mono B1.out.size)) (by have := HG.out; omega)
                  have ov := ownK_up H9.out.2 HRR.out.below
                  have ov1 := ownK_set ov HRR.out.res (by decide) 0 (.int .i64 (Lv : Int))
                  have ov2 := ownK_set ov1 (heap_set HRR.out.res 0 (.int .i64 (Lv : Int))) (by decide) 1 (.slice Ao t co)
                  have ov3 := ownK_base ov2 B1.out.size
                  rw [HVS.out]
                  have hLv := HLV.out
                  subst hLv
                  refine bodyPost_ret (results_row3 rfl _ _ (g + 1) 24 _ (0, 0) _ rfl hrow Try.underlying24 rfl (by kernel_rfl)) rfl (.inr (.inr ⟨HIN.out, HND.out, _, _, _, rfl, ?_, ov3⟩))
                  rw [range_mapi cs (fun x => idxT vs (l.getD x.toNat z3)) HT.out.len] at hnew
                  exact hnew
end Go.Proofs.Ytfdoemebongdbaa
