/- Layer 9: the examiner of the kind Lonely. -/
import Derived.Test.YtelbmjbjpgcdaaaCeSeen
import Derived.Test.YtelbmjbjpgcdaaaCerMore
import Derived.Deep.RegionHeld3
import Derived.Deep.DeepCutAuto
namespace Go.Proofs.Ytelbmjbjpgcdaaa
open Go.RowKit

/-- The vertex k of a triangle. -/
def vx (x : Tr) (k : Nat) : Int := if k = 0 then x.1 else if k = 1 then x.2.1 else x.2.2
theorem index9 (x0 x1 x2 : Int) (m : Nat) (hm : m < 3) (W : World) : (Instr.index 41 (.agg #[.int .i64 x0, .int .i64 x1, .int .i64 x2]) (.int .i64 (m : Int))).run Try.prog W = .ok (.int .i64 (vx (x0, x1, x2) m)) W := by
  match m, hm with
  | 0, _ => exact show (Instr.index 41 (.agg #[.int .i64 x0, .int .i64 x1, .int .i64 x2]) (.int .i64 0)).run Try.prog W = .ok (.int .i64 x0) W by kernel_rfl
  | 1, _ => exact show (Instr.index 41 (.agg #[.int .i64 x0, .int .i64 x1, .int .i64 x2]) (.int .i64 1)).run Try.prog W = .ok (.int .i64 x1) W by kernel_rfl
  | 2, _ => exact show (Instr.index 41 (.agg #[.int .i64 x0, .int .i64 x1, .int .i64 x2]) (.int .i64 2)).run Try.prog W = .ok (.int .i64 x2) W by kernel_rfl
theorem vx_in {N : Int} {x : Tr} (h : inN N x.1 ∧ inN N x.2.1 ∧ inN N x.2.2) (m : Nat) : inN N (vx x m) := by
  unfold vx
  split
  · exact h.1
  · split
    · exact h.2.1
    · exact h.2.2
theorem vx_has {x : Tr} {v : Int} : hasV x v ↔ ∃ m, m < 3 ∧ vx x m = v := by
  constructor
  · rintro (h | h | h)
    · exact ⟨0, by omega, h⟩
    · exact ⟨1, by omega, h⟩
    · exact ⟨2, by omega, h⟩
  · rintro ⟨m, hm, h⟩
    match m, hm with
    | 0, _ => exact .inl h
    | 1, _ => exact .inr (.inl h)
    | 2, _ => exact .inr (.inr h)
def bls (l : List Bool) : List Value := l.map Value.bool
theorem bls_at (l : List Bool) (k : Nat) (h : k < l.length) : (bls l)[k]? = some (.bool (l.getD k false)) := by
  simp [bls, List.getElem?_eq_getElem h]
theorem bls_set (l : List Bool) (k : Nat) (b : Bool) : bls (l.set k b) = (bls l).set k (.bool b) := by simp [bls, List.map_set]
/-- A row of bools in a block of its own. -/
def BoolRow (w : World) (q : Nat) (l : List Bool) : Prop := w.heap[q]? = some (.cells (bls l).toArray 4 (0, 0))
theorem BoolRow.cell {w : World} {q : Nat} {l : List Bool} (h : BoolRow w q l) (k : Nat) (hk : k < l.length) : w.cell? ⟨q, k, none⟩ = some (.bool (l.getD k false)) := by
  rw [cell_in h, List.getElem?_toArray, bls_at l k hk]
theorem BoolRow.set {w : World} {q : Nat} {l : List Bool} (h : BoolRow w q l) (k : Nat) (b : Bool) : BoolRow (w.setCell ⟨q, k, none⟩ (.bool b)) q (l.set k b) := by
  unfold BoolRow
  rw [heap_set h k _, bls_set]
  simp
theorem Try.infoBool : (Try.prog.info? 4).map (fun i => (i.zero, i.size, i.bytes)) = some (some (.bool false), 1, 1) := by kernel_rfl
theorem makeB9 (n : Nat) (hn : n ≤ 1000000) (W : World) : (Instr.makeSlice 62 (.int .i64 (n : Int)) (.int .i64 (n : Int))).run Try.prog W = .ok (.slice (some ⟨W.heap.size, 0, none⟩) n n) (W.alloc (.cells (bls (List.replicate n false)).toArray 4)) := by
  obtain ⟨i0, hi, hz0, hz1, hz2⟩ := info_parts Try.infoBool
  have := run_make (P := Try.prog) W 62 4 i0 _ Try.underlying62 hi hz0 .i64 .i64 (n : Int) (n : Int) (by omega) (by omega) (by rw [hz2]; omega) (by omega)
  rw [this, hz1]
  have e : madeCells (Value.bool false).cells ((n : Int).toNat * 1) = (bls (List.replicate n false)).toArray := by
    apply Array.toList_inj.1
    rw [Nat.mul_one]
    show (madeCells #[Value.bool false] n).toList = _
    rw [toList_madeCells_one]; simp [bls]
  rw [e]
  rfl
/-- Which vertices have been met. -/
structure Used (tl : List Tr) (N k m : Nat) (ul : List Bool) : Prop where
  len : ul.length = N
  iff : ∀ v, v < N → (ul.getD v false = true ↔ (∃ a, a < k ∧ hasV (tl.getD a z3) (v : Int)) ∨ ∃ j, j < m ∧ vx (tl.getD k z3) j = (v : Int))
theorem Used.start (tl : List Tr) (N : Nat) : Used tl N 0 0 (List.replicate N false) :=
  ⟨List.length_replicate, fun v hv => by
    rw [List.getD_eq_getElem?_getD, List.getElem?_replicate, if_pos hv]
    constructor
    · intro h; cases h
    · rintro (⟨a, ha, _⟩ | ⟨j, hj, _⟩) <;> omega⟩
theorem Used.set {tl : List Tr} {N k m : Nat} {ul : List Bool} (h : Used tl N k m ul) {v : Nat} (hv : v < N) (hx : vx (tl.getD k z3) m = (v : Int)) : Used tl N k (m + 1) (ul.set v true) := by
  refine ⟨by rw [List.length_set]; exact h.len, fun u hu => ?_⟩
  have gd : (ul.set v true).getD u false = if v = u then true else ul.getD u false := by
    rw [List.getD_eq_getElem?_getD, List.getElem?_set, List.getD_eq_getElem?_getD]
    by_cases e : v = u
    · rw [if_pos e, if_pos e, if_pos (by rw [h.len]; exact hv)]; rfl
    · rw [if_neg e, if_neg e]
  rw [gd]
  by_cases e : v = u
  · subst e
    rw [if_pos rfl]
    exact ⟨fun _ => .inr ⟨m, by omega, hx⟩, fun _ => rfl⟩
  · rw [if_neg e, h.iff u hu]
    constructor
    · rintro (h1 | ⟨j, hj, h1⟩)
      · exact .inl h1
      · exact .inr ⟨j, by omega, h1⟩
    · rintro (h1 | ⟨j, hj, h1⟩)
      · exact .inl h1
      · by_cases hjm : j = m
        · subst hjm; omega
        · exact .inr ⟨j, by omega, h1⟩
theorem Used.next {tl : List Tr} {N k : Nat} {ul : List Bool} (h : Used tl N k 3 ul) : Used tl N (k + 1) 0 ul := by
  refine ⟨h.len, fun u hu => (h.iff u hu).trans ?_⟩
  constructor
  · rintro (⟨a, ha, h1⟩ | ⟨j, hj, h1⟩)
    · exact .inl ⟨a, by omega, h1⟩
    · exact .inl ⟨k, by omega, vx_has.2 ⟨j, hj, h1⟩⟩
  · rintro (⟨a, ha, h1⟩ | ⟨j, hj, _⟩)
    · by_cases hak : a = k
      · subst hak
        obtain ⟨j, hj, h2⟩ := vx_has.1 h1
        exact .inr ⟨j, hj, h2⟩
      · exact .inl ⟨a, by omega, h1⟩
    · omega
theorem Used.told {tl : List Tr} {N : Nat} {ul : List Bool} (h : Used tl N tl.length 0 ul) {v : Nat} (hv : v < N) : lonely tl (v : Int) = !ul.getD v false := by
  have h1 := h.iff v hv
  cases hq : ul.getD v false with
  | true =>
    rcases h1.1 hq with ⟨a, ha, h2⟩ | ⟨j, hj, _⟩
    · exact lonely_false.2 ⟨_, getD3_mem ha, h2⟩
    · omega
  | false =>
    cases hl : lonely tl (v : Int) with
    | true => rfl
    | false =>
      obtain ⟨t, ht, h2⟩ := lonely_false.1 hl
      obtain ⟨a, ha, rfl⟩ := mem3_getD ht
      rw [h1.2 (.inl ⟨a, ha, h2⟩)] at hq
      cases hq
/-- Vertex by vertex: what is told of the first a. -/
def vertP (kd : Int) (q : Int → Bool) (a : Nat) : List Wt := vertW kd q (a : Int)
theorem vertP_yes {kd : Int} {q : Int → Bool} {a : Nat} (h : q (a : Int) = true) : vertP kd q (a + 1) = vertP kd q a ++ [(kd, (a : Int), 0)] := by unfold vertP; rw [vertW_succ, if_pos h]
theorem vertP_no {kd : Int} {q : Int → Bool} {a : Nat} (h : q (a : Int) = false) : vertP kd q (a + 1) = vertP kd q a := by unfold vertP; rw [vertW_succ, if_neg (by rw [h]; decide), List.append_nil]
theorem vertP_pre (kd : Int) (q : Int → Bool) {a b : Nat} (h : a ≤ b) : vertP kd q a <+: vertP kd q b := by
  induction h with
  | refl => exact List.prefix_refl _
  | step h ih =>
    refine ih.trans ?_
    unfold vertP
    rw [vertW_succ]
    exact List.prefix_append _ _
/-- The state while vertices are met. -/
structure LoSt (S : Nat → Prop) (Inv : List Wt → World → Prop) (go : List Wt → Bool) (w wr : World) (ub : Nat) (ul : List Bool) (l : List Wt) : Prop where
  tri : TriSt S Inv go l w wr
  row : BoolRow wr ub ul
  b1 : w.heap.size ≤ ub
section
variable {f : FuncId} {caps : List Value} {ws : List Wt} {go : List Wt → Bool} {S : Nat → Prop} {Inv : List Wt → World → Prop} {w wr w' : World} {ub : Nat} {ul : List Bool} {l : List Wt}
theorem LoSt.below (H : Taker f caps ws go S Inv) (h : LoSt S Inv go w wr ub ul l) (hb : Below wr.heap.size wr w') : LoSt S Inv go w w' ub ul l :=
  ⟨h.tri.below H hb, (hb.block ub (heap_lt h.row)).trans h.row, h.b1⟩
theorem LoSt.mark (H : Taker f caps ws go S Inv) (hS : ∀ b, S b → b < w.heap.size) (h : LoSt S Inv go w wr ub ul l) (v : Nat) : LoSt S Inv go w (wr.setCell ⟨ub, v, none⟩ (.bool true)) ub (ul.set v true) l := by
  have hb1 := h.b1
  exact ⟨h.tri.set H ⟨ub, v, none⟩ _ hb1 (fun hs => by have := hS _ hs; have : ub < w.heap.size := this; omega), h.row.set v true, h.b1⟩
theorem LoSt.gone (hS : ∀ b, S b → b < w.heap.size) (h : LoSt S Inv go w wr ub ul l) {l' : List Wt} (hg : TriSt S Inv go l' w w') (hc : Chg S wr w') : LoSt S Inv go w w' ub ul l' := by
  have hb1 := h.b1
  exact ⟨hg, (hc.far ub (heap_lt h.row) fun hs => by have := hS _ hs; omega).trans h.row, h.b1⟩
end
def LoOut (S : Nat → Prop) (Inv : List Wt → World → Prop) (go : List Wt → Bool) (w : World) (ub N n : Nat) (tl : List Tr) (i : Value) (wr : World) : Prop := ∃ k : Nat, k ≤ n ∧ i = .int .i64 (k : Int) ∧ ∃ ul, LoSt S Inv go w wr ub ul [] ∧ Used tl N k 0 ul
def LoIn (S : Nat → Prop) (Inv : List Wt → World → Prop) (go : List Wt → Bool) (w : World) (ub N k : Nat) (tl : List Tr) (j : Value) (wr : World) : Prop := ∃ m : Nat, m ≤ 3 ∧ j = .int .i64 (m : Int) ∧ ∃ ul, LoSt S Inv go w wr ub ul [] ∧ Used tl N k m ul
def LoV (S : Nat → Prop) (Inv : List Wt → World → Prop) (go : List Wt → Bool) (w : World) (ub N : Nat) (ul : List Bool) (q : Int → Bool) (i : Value) (wr : World) : Prop := ∃ v : Nat, v ≤ N ∧ i = .int .i64 (v : Int) ∧ LoSt S Inv go w wr ub ul (vertP 5 q v)

set_option maxHeartbeats 8000000 in
set_option maxRecDepth 100000 in
theorem clonely_any {f : FuncId} {caps : List Value} {ws : List Wt} {go : List Wt → Bool} {S : Nat → Prop} {Inv : List Wt → World → Prop} (H : Taker f caps ws go S Inv) (w : World) (g N : Nat) (A : Option Addr) (n c : Nat) (mo : Option Nat) (tl : List Tr) (hs : Seen S g (N : Int) A n c mo tl w) (hi : Inv [] w)
    (hws : ws = vertW 5 (lonely tl) (N : Int)) (hn : n ≤ 8192) (hN : N ≤ 4096) (hin : ∀ t ∈ tl, inN N t.1 ∧ inN N t.2.1 ∧ inN N t.2.2) : Calls Try.prog 40 #[.pointer (some ⟨g, 0, none⟩), .func (.func f) #[] caps.toArray] w (Ended ws go S Inv w) := by
  have HL := Lib.hid hs.t3.1
  have HW := Lib.hid (show ws = vertP 5 (lonely tl) N from hws)
  have c0 := hs.c0
  have hen := H.enter
  have hSS := H.lt _ _ hi
  have hmk := fun W => makeB9 N (by omega) W
  obtain ⟨ub, hub⟩ : ∃ ub, w.heap.size = ub := ⟨_, rfl⟩
  obtain ⟨w1, hw1⟩ : ∃ w1, w.alloc (.cells (bls (List.replicate N false)).toArray 4) = w1 := ⟨_, rfl⟩
  have b1 : Below w.heap.size w w1 := by rw [← hw1]; exact (Below.refl _ w).alloc (Nat.le_refl _) _
  have st : LoSt S Inv go w w1 ub (List.replicate N false) [] := ⟨(TriSt.mk hi (AllGo.nil go) (Chg.refl S w)).below H b1, by rw [← hw1, ← hub]; exact heap_alloc_new w _, by omega⟩
  have c1 := (hs.chg (.of_below (S := S) b1)).c1
  have ST := Lib.hid st
  have HS := Lib.hid hs
  have HSS := Lib.hid hSS
  have HIN := Lib.hid hin
  clear hs hi hws hSS hin b1 st
  go_enter Try.func40, Try.ntmps40
  go_wp2_with fail
  clear hw1 hub hmk c1 c0
  go_loopw [23] (LoOut S Inv go w ub N n tl) (fun i _ => n - (intOf i).toNat)
  case atStart => exact ⟨0, Nat.zero_le _, rfl, _, ST.out, Used.start tl N⟩
  case round =>
    obtain ⟨k, hk, rfl, ul, hst, hus⟩ := hrel
    have HR := Lib.hid (And.intro hst hus)
    clear hst hus
    by_cases hlt : k < n
    case neg =>
      obtain rfl : k = n := by omega
      have b1 : ¬ (k : Int) < k := by omega
      have hlen := HR.out.2.len
      have HU := Lib.hid (show ∀ v, v < N → lonely tl (v : Int) = !ul.getD v false from fun v hv => (show Used tl N tl.length 0 ul by rw [HL.out]; exact HR.out.2).told hv)
      go_wp2_with fail
      go_loopw [38] (LoV S Inv go w ub N ul (lonely tl)) (fun i _ => N - (intOf i).toNat)
      case atStart => exact ⟨0, Nat.zero_le _, rfl, HR.out.1⟩
      case round =>
        obtain ⟨v, hv, rfl, hst⟩ := hrel
        by_cases hvN : v < N
        case neg =>
          obtain rfl : v = N := by omega
          have b2 : ¬ (v : Int) < v := by omega
          have HV := Lib.hid hst
          clear hst
          go_wp2
          refine bodyPost_ret (results_none rfl _ _ _) rfl ?_
          exact ⟨rfl, _, .inl ⟨HW.out.symm, HV.out.tri.all⟩, HV.out.tri.inv, HV.out.tri.chg⟩
        have b2 : (v : Int) < N := by omega
        have y0 := hst.row.cell v (by rw [hlen]; exact hvN)
        have hlo := HU.out v hvN
        obtain ⟨y, hy⟩ : ∃ y, ul.getD v false = y := ⟨_, rfl⟩
        rw [hy] at y0 hlo
        have HV := Lib.hid hst
        clear hst hy hlen
        cases y
        · have e1 := vertP_yes (kd := 5) (q := lonely tl) (a := v) (by rw [hlo]; rfl)
          have hc := HV.out.tri.hand H e1 (by rw [HW.out]; exact vertP_pre _ _ (by omega))
          obtain ⟨bb, hb⟩ : ∃ bb, go (vertP 5 (lonely tl) (v + 1)) = bb := ⟨_, rfl⟩
          rw [hb] at hc
          have HC := Lib.hid hc
          clear hc hb e1 hlo
          go_wp2_with fail
          refine HC.out.mono ?_
          rintro e w9 ⟨rfl, hy, hn, hstep⟩
          have HY := Lib.hid (And.intro hy (And.intro hn hstep))
          clear hy hn hstep
          cases bb
          · go_wp2_with fail
            refine bodyPost_ret (results_none rfl _ _ _) rfl ?_
            exact ⟨rfl, HY.out.2.1 (by trivial)⟩
          · go_wp2_with fail
            exact ⟨⟨v + 1, by omega, by go_num, HV.out.gone HSS.out (HY.out.1 (by trivial)) HY.out.2.2⟩, by simp [intOf]; omega⟩
        · have EP := Lib.hid (vertP_no (kd := 5) (q := lonely tl) (a := v) (by rw [hlo]; rfl))
          clear hlo
          go_wp2_with fail
          refine ⟨⟨v + 1, by omega, by go_num, ?_⟩, by simp [intOf]; omega⟩
          rw [EP.out]
          exact HV.out
    have b1 : (k : Int) < n := by omega
    obtain ⟨bA, off, rfl, hat⟩ := (HS.out.chg HR.out.1.tri.chg).t3.2 (by omega)
    obtain ⟨c0, c1, c2⟩ := hat k hlt
    clear hat
    obtain ⟨x, hx⟩ : ∃ x, tl.getD k z3 = x := ⟨_, rfl⟩
    rw [hx] at c0 c1 c2
    have hinx := HIN.out _ (show x ∈ tl by rw [← hx]; exact getD3_mem (by rw [HL.out]; exact hlt))
    have HX := Lib.hid (And.intro hx hinx)
    clear hx hinx
    obtain ⟨x0, x1, x2⟩ := x
    obtain ⟨w2, hw2⟩ : ∃ w2, wr.alloc (.cells #[.int .i64 x0, .int .i64 x1, .int .i64 x2] 41) = w2 := ⟨_, rfl⟩
    have b2 : Below wr.heap.size wr w2 := by rw [← hw2]; exact (Below.refl _ wr).alloc (Nat.le_refl _) _
    obtain ⟨q, hq⟩ : ∃ q, wr.heap.size = q := ⟨_, rfl⟩
    have q0 : w2.heap[q]? = some (.cells #[.int .i64 x0, .int .i64 x1, .int .i64 x2] 41 (0, 0)) := by rw [← hw2, ← hq]; exact heap_alloc_new wr _
    have q1 := cell_in q0 0
    have q2 := cell_in q0 1
    have q3 := cell_in q0 2
    simp only [List.getElem?_toArray, List.getElem?_cons_zero, List.getElem?_cons_succ] at q1 q2 q3
    have T2 := Lib.hid (And.intro (HR.out.1.below H b2) HR.out.2)
    clear b2 q0
    go_wp2_with fail
    clear hw2 hq q1 q2 q3 c0 c1 c2
    go_loopw [28] (LoIn S Inv go w ub N k tl) (fun i _ => 3 - (intOf i).toNat)
    case atStart => exact ⟨0, by omega, rfl, _, T2.out⟩
    case round =>
      obtain ⟨m, hm, rfl, ul2, hst2, hus2⟩ := hrel
      by_cases hm3 : m < 3
      case neg =>
        obtain rfl : m = 3 := by omega
        have HM := Lib.hid (And.intro hst2 hus2)
        clear hst2 hus2
        go_wp2_with fail
        exact ⟨⟨k + 1, by omega, by go_num, _, HM.out.1, HM.out.2.next⟩, by simp [intOf]; omega⟩
      have m1 : (m : Int) < 3 := by omega
      have hix := fun W => index9 x0 x1 x2 m hm3 W
      have hvi := vx_in (x := (x0, x1, x2)) HX.out.2 m
      obtain ⟨v, hv⟩ : ∃ v : Nat, vx (x0, x1, x2) m = (v : Int) := ⟨(vx (x0, x1, x2) m).toNat, by have := hvi.1; omega⟩
      rw [hv] at hix hvi
      have hvN : v < N := by have := hvi.2; omega
      have m2 : (v : Int) < N := by omega
      have m3 : 0 ≤ (v : Int) := by omega
      have y0 := hst2.row.cell v (by rw [hus2.len]; exact hvN)
      have y1 := frozen_in hst2.row v
      have HM := Lib.hid (And.intro (hst2.mark H HSS.out v) (hus2.set hvN (by rw [HX.out.1]; exact hv)))
      clear hst2 hus2 hv hvi
      go_wp2_with fail
      exact ⟨⟨m + 1, by omega, by go_num, _, HM.out⟩, by simp [intOf]; omega⟩
end Go.Proofs.Ytelbmjbjpgcdaaa
