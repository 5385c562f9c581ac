/- Layer 8: the vertices of some triangles. -/
import Derived.Test.YtfdoemebongdbaaSouOwn
namespace Go.Proofs.Ytfdoemebongdbaa
open Go.RowKit

def triL (t : Tr) : List Int := [t.1, t.2.1, t.2.2]
/-- All vertices of these triangles, one behind the other. -/
def usedOf (l : List Tr) (ts : List Int) : List Int := ts.flatMap fun t => triL (l.getD t.toNat z3)
/-- The numbers below N that are among them, ascending. -/
def vertsUp (l : List Tr) (ts : List Int) (k : Nat) : List Int := ((List.range k).map fun (i : Nat) => (i : Int)).filter fun v => (usedOf l ts).contains v
theorem usedOf_snoc (l : List Tr) (ts : List Int) (t : Int) : usedOf l (ts ++ [t]) = usedOf l ts ++ triL (l.getD t.toNat z3) := by simp [usedOf]
theorem vertsUp_yes (l : List Tr) (ts : List Int) (k : Nat) (h : (usedOf l ts).contains (k : Int) = true) : vertsUp l ts (k + 1) = vertsUp l ts k ++ [(k : Int)] := by
  unfold vertsUp
  rw [List.range_succ, List.map_append, List.filter_append]
  simp at h
  simp [h]
theorem vertsUp_no (l : List Tr) (ts : List Int) (k : Nat) (h : (usedOf l ts).contains (k : Int) = false) : vertsUp l ts (k + 1) = vertsUp l ts k := by
  unfold vertsUp
  rw [List.range_succ, List.map_append, List.filter_append]
  simp at h
  simp [h]

structure VSt (w wr : World) (g q M : Nat) (A : Option Addr) (n c : Nat) (S : List Int) : Prop where
  below : Below w.heap.size w wr
  bx : Bx wr g M A n c
  row : RowB wr q (marks M S)
  gq : g ≠ q
  wq : w.heap.size ≤ q
theorem VSt.set {w wr : World} {g q M : Nat} {A : Option Addr} {n c : Nat} {S : List Int} (h : VSt w wr g q M A n c S) (x : Nat) : VSt w (wr.setCell ⟨q, x, none⟩ (.bool true)) g q M A n c (S ++ [(x : Int)]) :=
  ⟨h.below.setCell (p := ⟨q, x, none⟩) h.wq _, heap_far h.bx h.gq _, by rw [← marks_set]; exact h.row.set x true, h.gq, h.wq⟩
def V1At (w : World) (g q M : Nat) (A : Option Addr) (n c : Nat) (l : List Tr) (ts : List Int) (m : Nat) (i : Value) (wr : World) : Prop := ∃ k : Nat, k ≤ m ∧ i = .int .i64 (k : Int) ∧ VSt w wr g q M A n c (usedOf l (ts.take k))
def V2At (w : World) (g q M : Nat) (A : Option Addr) (n c : Nat) (S : List Int) (t : Tr) (i : Value) (wr : World) : Prop := ∃ j : Nat, j ≤ 3 ∧ i = .int .i64 (j : Int) ∧ VSt w wr g q M A n c (S ++ (triL t).take j)
def V3At (w3 : World) (M : Nat) (l : List Tr) (ts : List Int) (v : Value) (i : Value) (wr : World) : Prop := ∃ k : Nat, k ≤ M ∧ i = .int .i64 (k : Int) ∧ Below w3.heap.size w3 wr ∧ wr.ownsRow w3.heap.size 3 1 v (vertsUp l ts k).length (ints (vertsUp l ts k))
def VertTold (w : World) (vs : List Int) (e : Ending) (w' : World) : Prop := ∃ v, e = .returned v ∧ w'.ownsRow w.heap.size 3 1 v vs.length (ints vs) ∧ Below w.heap.size w w'
theorem vertsUp_le (l : List Tr) (ts : List Int) (k : Nat) : (vertsUp l ts k).length ≤ k := by
  unfold vertsUp
  refine Nat.le_trans (List.length_filter_le _ _) ?_
  simp

set_option maxHeartbeats 8000000 in
set_option maxRecDepth 100000 in
theorem sverts_any (w : World) (M : Nat) (A B : Option Addr) (n c m d : Nat) (l : List Tr) (ts : List Int) (h : T3 w A n l) (ht : Reads w B m (ints ts)) (hm : m ≤ 1000000) (hf : Fit M l) (hp : allIn n ts) :
    Calls Try.prog 38 #[.agg #[.int .i64 (M : Int), .slice A n c], .slice B m d] w (VertTold w (vertsUp l ts M)) := by
  have HL := Lib.hid h
  have HT := Lib.hid ht
  have HF := Lib.hid hf
  have HP := Lib.hid hp
  have hN1 : M ≤ 4096 := by have := hf.2.1; omega
  have hmk := fun W => makeB M (by omega) W
  obtain ⟨i0, hi, hz0, hz1, hz2⟩ := info_parts Try.infoInt
  have HI := Lib.hid hi
  have HZ := Lib.hid (And.intro hz0 (And.intro hz1 hz2))
  clear h ht hf hp hi hz0 hz1 hz2
  go_enter Try.func38, Try.ntmps38
  go_wp2_with fail
  have S0 := Lib.hid (RowB.made (w.alloc (.cells #[.int .i64 (M : Int), .slice A n c] 24)) M)
  have S1 := Lib.hid ((Bx.made w M A n c).below ((Below.refl _ _).alloc (Nat.le_refl _) (zerB M)))
  have S2 := Lib.hid (up1 (up1 (Below.refl _ w) (.cells #[.int .i64 (M : Int), .slice A n c] 24)) (zerB M))
  rw [World.size_alloc] at S0
  obtain ⟨w2, hw2⟩ : ∃ w2, ((w.alloc (.cells #[.int .i64 (M : Int), .slice A n c] 24)).alloc (zerB M)) = w2 := ⟨_, rfl⟩
  obtain ⟨g, hg⟩ : ∃ g, w.heap.size = g := ⟨_, rfl⟩
  have HG := Lib.hid hg
  rw [hw2] at S0 S1 S2
  rw [hg] at S0 S1
  simp only [hw2, hg]
  clear hw2 hg
  go_loopw [17] (V1At w g (g + 1) M A n c l ts m) (fun i _ => m - (intOf i).toNat)
  case atStart => exact ⟨0, Nat.zero_le _, rfl, S2.out, S1.out, by simpa [usedOf] using S0.out, by omega, by rw [HG.out]; omega⟩
  case round =>
    obtain ⟨k, hk, rfl, hv⟩ := hrel
    have HV := Lib.hid hv
    clear hv
    by_cases hlt : k < m
    · have b1 : (k : Int) < m := by omega
      have hkl : k < ts.length := by rw [HT.out.len]; exact hlt
      obtain ⟨ad, rfl, c0⟩ := (HT.out.below HV.out.below).int k hlt
      have hx := HP.out _ (getDi_mem hkl)
      obtain ⟨a, haa⟩ : ∃ a : Nat, ts.getD k 0 = (a : Int) := ⟨(ts.getD k 0).toNat, by have := hx.1; omega⟩
      have E := take_succ_getD ts k hkl
      rw [haa] at c0 hx E
      have HE := Lib.hid E
      have b2 : (a : Int) < n := hx.2
      have han : a < n := by omega
      clear hx haa E hkl
      obtain ⟨b, off, rfl, hat⟩ := (HL.out.below HV.out.below).2 (by omega)
      obtain ⟨d0, d1, d2⟩ := hat a han
      clear hat
      have hok := HF.out.2.2.2 _ (getD3_mem (show a < l.length by rw [HL.out.1]; exact han))
      obtain ⟨x, hx⟩ : ∃ x, l.getD a z3 = x := ⟨_, rfl⟩
      have HX := Lib.hid hx
      rw [hx] at d0 d1 d2 hok
      clear hx
      obtain ⟨x0, x1, x2⟩ := x
      have o0 := hok.1
      have o1 := hok.2.1
      have o2 := hok.2.2.1
      simp only [inN] at o0 o1 o2
      clear hok
      obtain ⟨y0, rfl⟩ : ∃ y : Nat, x0 = (y : Int) := ⟨x0.toNat, by omega⟩
      obtain ⟨y1, rfl⟩ : ∃ y : Nat, x1 = (y : Int) := ⟨x1.toNat, by omega⟩
      obtain ⟨y2, rfl⟩ : ∃ y : Nat, x2 = (y : Int) := ⟨x2.toNat, by omega⟩
      have o0 := o0.2
      have o1 := o1.2
      have o2 := o2.2
      have e1 := HV.out.bx.c1
      go_wp2_with fail
      clear e1 c0 d0 d1 d2
      have ix0 : ∀ W, (Instr.index 51 (.agg #[.int .i64 (y0 : Int), .int .i64 (y1 : Int), .int .i64 (y2 : Int)]) (.int .i64 0)).run Try.prog W = .ok (.int .i64 (y0 : Int)) W := fun _ => by kernel_rfl
      have ix1 : ∀ W, (Instr.index 51 (.agg #[.int .i64 (y0 : Int), .int .i64 (y1 : Int), .int .i64 (y2 : Int)]) (.int .i64 1)).run Try.prog W = .ok (.int .i64 (y1 : Int)) W := fun _ => by kernel_rfl
      have ix2 : ∀ W, (Instr.index 51 (.agg #[.int .i64 (y0 : Int), .int .i64 (y1 : Int), .int .i64 (y2 : Int)]) (.int .i64 2)).run Try.prog W = .ok (.int .i64 (y2 : Int)) W := fun _ => by kernel_rfl
      go_loopw [26] (V2At w g (g + 1) M (some ⟨b, off, none⟩) n c (usedOf l (ts.take k)) ((y0 : Int), (y1 : Int), (y2 : Int))) (fun i _ => 3 - (intOf i).toNat)
      case atStart => exact ⟨0, by omega, rfl, by simpa using HV.out⟩
      case round =>
        obtain ⟨j, hj, rfl, hv⟩ := hrel
        rcases (show j = 0 ∨ j = 1 ∨ j = 2 ∨ j = 3 by omega) with rfl | rfl | rfl | rfl
        · have r0 := hv.row.cell y0 (by rw [marks_len]; omega)
          have f0 := hv.row.frozen y0
          have HW := Lib.hid (hv.set y0)
          clear hv
          go_wp2_with fail
          refine ⟨⟨0 + 1, by omega, by go_num, ?_⟩, by simp [intOf]⟩
          simpa [triL, List.append_assoc] using HW.out
        · have r0 := hv.row.cell y1 (by rw [marks_len]; omega)
          have f0 := hv.row.frozen y1
          have HW := Lib.hid (hv.set y1)
          clear hv
          go_wp2_with fail
          refine ⟨⟨1 + 1, by omega, by go_num, ?_⟩, by simp [intOf]⟩
          simpa [triL, List.append_assoc] using HW.out
        · have r0 := hv.row.cell y2 (by rw [marks_len]; omega)
          have f0 := hv.row.frozen y2
          have HW := Lib.hid (hv.set y2)
          clear hv
          go_wp2_with fail
          refine ⟨⟨2 + 1, by omega, by go_num, ?_⟩, by simp [intOf]⟩
          simpa [triL, List.append_assoc] using HW.out
        · have HW := Lib.hid hv
          clear hv
          go_wp2_with fail
          refine ⟨⟨k + 1, by omega, by go_num, ?_⟩, by simp [intOf]; omega⟩
          rw [HE.out, usedOf_snoc, show ((a : Nat) : Int).toNat = a from rfl, HX.out]
          exact HW.out
    · obtain rfl : k = m := by omega
      have b1 : ¬ (k : Int) < k := by omega
      have HV1 := HV.out
      rw [List.take_of_length_le (by rw [HT.out.len]; exact Nat.le_refl _)] at HV1
      have HU := Lib.hid HV1
      clear HV1
      go_wp2_with fail
      go_loopw [10, 36] (V3At wr M l ts) (fun _ i _ => M - (intOf i).toNat)
      case atStart => exact ⟨0, Nat.zero_le _, rfl, Below.refl _ _, World.ownsRow_nil wr wr.heap.size 3 1⟩
      case round =>
        obtain ⟨k', hk', rfl, hb3, ho⟩ := hrel
        have H3 := Lib.hid (And.intro hb3 ho)
        obtain ⟨Av, cv, rfl⟩ := ownK_form ho
        clear hb3 ho
        by_cases hlt' : k' < M
        · have b3 : (k' : Int) < M := by omega
          have r0 := (HU.out.row.below H3.out.1).cell k' (by rw [marks_len]; exact hlt')
          rw [marks_at _ _ _ hlt'] at r0
          cases hc : (usedOf l ts).contains (k' : Int)
          · rw [hc] at r0
            have E := Lib.hid (vertsUp_no l ts k' hc)
            clear hc
            go_wp2_with fail
            refine ⟨⟨k' + 1, by omega, by go_num, H3.out.1, ?_⟩, by simp [intOf]; omega⟩
            rw [E.out]
            exact H3.out.2
          · rw [hc] at r0
            have E := Lib.hid (vertsUp_yes l ts k' hc)
            clear hc
            obtain ⟨L, hL⟩ : ∃ L, (vertsUp l ts k').length = L := ⟨_, rfl⟩
            have hLk := vertsUp_le l ts k'
            have O := H3.out.2
            rw [hL] at O hLk
            have HL2 := Lib.hid hL
            have O9 := Lib.hid (ownK_up O ((Below.refl _ wr).alloc (Nat.le_refl _) (.cells #[.int .i64 (k' : Int)] 3)))
            have B9 := Lib.hid (up1 H3.out.1 (.cells #[.int .i64 (k' : Int)] 3))
            have R9 := Lib.hid (Reads.of_block (xs := ints [(k' : Int)]) (heap_alloc_new wr (.cells #[.int .i64 (k' : Int)] 3)))
            simp only [hL]
            clear O hL
            go_wp2_with (at_builtin; refine wpList_append_reads rfl (.tmp 43) (.tmp 45) 29 rfl _ 3 i0 (.int .i64 0) 8 Try.underlying29 HI.out HZ.out rfl (.slice Av L cv) L (ints (vertsUp l ts k')) rfl O9.out (some ⟨wr.heap.size, 0, none⟩) 1 1 (ints [(k' : Int)]) rfl R9.out (fun e => (nomatch e)) (ints_one _) ?b1 ?b2 ?b3 ?_)
            case b1 => unfold maxLen; omega
            case b2 => omega
            case b3 => exact B9.out.size
            intro v' w9 own9 gr9
            have Z := Lib.hid (And.intro own9 (own_grown_below B9.out gr9 B9.out.size (fun q hq => ownK_lt O9.out q hq)))
            clear own9 gr9
            go_wp2_with fail
            refine ⟨⟨k' + 1, by omega, by go_num, Z.out.2, ?_⟩, by simp [intOf]; omega⟩
            rw [E.out, ints_append, List.length_append, HL2.out]
            exact Z.out.1
        · obtain rfl : k' = M := by omega
          have b3 : ¬ (k' : Int) < k' := by omega
          go_wp2_with fail
          go_ret
          exact ⟨_, rfl, ownK_base H3.out.2 HU.out.below.size, HU.out.below.trans (H3.out.1.mono HU.out.below.size)⟩
end Go.Proofs.Ytfdoemebongdbaa
