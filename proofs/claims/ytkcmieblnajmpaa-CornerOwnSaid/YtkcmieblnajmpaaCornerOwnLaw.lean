/- CornerOwn: what is handed in, and what is told, is one's own; of no table nothing is told. No condition. -/
import Derived.Test.YtkcmieblnajmpaaGN
import Derived.Test.YtkcmieblnajmpaaGM
import Derived.Deep.RegionHeld3
import Derived.Deep.DeepCutAuto
namespace Go.Proofs.Ytkcmieblnajmpaa.cornerOwn
open Go.RowKit Go.ChangeShapes Go.WideShapes Go.ChangeAt

abbrev zbox : Obj := .cells #[.int .i64 0, .slice none 0 0] 24
/-- An empty soup's block, known whole. -/
def Zb (W : World) (q : Nat) : Prop := W.heap[q]? = some (.cells #[.int .i64 0, .slice none 0 0] 24 (0, 0))
theorem Zb.up {W Y : World} {q : Nat} (h : Zb W q) (b : Below W.heap.size W Y) : Zb Y q := (b.block q (heap_lt h)).trans h
theorem Zb.facts {W : World} {q : Nat} (h : Zb W q) : W.frozen? ⟨q, 0, none⟩ = false ∧ W.frozen? ⟨q, 1, none⟩ = false ∧ W.cell? ⟨q, 0, none⟩ = some (.int .i64 0) ∧ W.cell? ⟨q, 1, none⟩ = some (.slice none 0 0) := ⟨frozen_in h 0, frozen_in h 1, by rw [cell_in h]; rfl, by rw [cell_in h]; rfl⟩
theorem own_box {W : World} {B n q : Nat} {v : Value} {xs : List Value} {cs : Array Value} (h : W.ownsRow B 56 3 v n xs) (hq : W.heap[q]? = some (.cells cs 24 (0, 0))) (a b : Value) : ((W.setCell ⟨q, 0, none⟩ a).setCell ⟨q, 1, none⟩ b).ownsRow B 56 3 v n xs :=
  ownK9_set (ownK9_set h hq (by decide) 0 a) (heap_set hq 0 a) (by decide) 1 b
theorem below_st {B q i : Nat} {w x : World} (h : Below B w x) (hq : B ≤ q) (v : Value) : Below B w (x.setCell ⟨q, i, none⟩ v) := h.setCell (p := ⟨q, i, none⟩) hq v
/-- A soup in a box and a row of its own. -/
structure One (w W : World) (gb : Nat) (K : Int) (v : Value) (nb : Nat) (lb : List Tr) : Prop where
  below : Below w.heap.size w W
  bx : W.heap[gb]? = some (.cells #[.int .i64 K, v] 24 (0, 0))
  ot : W.ownsRow w.heap.size 56 3 v nb (ints (flat3 lb))
  wo : w.heap.size ≤ gb
/-- append of a whole list to an empty row of its own, at a step of a region that draws its order. -/
theorem step_copy {w W : World} {q n c : Nat} {A : Option Addr} {l : List Tr} (b0 : Below w.heap.size w W) (hq : W.heap[q]? = some (.cells #[] 56 (0, 0))) (hqb : w.heap.size ≤ q) (ht : T3 W A n l) (hn : n ≤ 1000000) {ops : Array Oper} {o : Oper} {a : Act} {K : Act → World → Prop} {Q : Exit → Act → World → Prop} {E : Prop} (hgd : o.guard = none) (s x : Operand)
    (ho : o.op = .call { callee := .builtin .append, args := #[s, x], argTypes := #[22, 22] }) (hs : a.eval s = .slice (some ⟨q, 0, none⟩) 0 0) (hx : a.eval x = .slice A n c)
    (cont : ∀ A' c' w9, Below w.heap.size w w9 → w9.ownsRow w.heap.size 56 3 (.slice A' n c') n (ints (flat3 l)) → (∀ b, Zb W b → Zb w9 b) → K (a.put o.dst (.slice A' n c')) w9) :
    if Region.wanted o (yielded ops a.tmps) = true then Oper.wp Try.prog o a W K Q else E := by
  have o3 : W.ownsRow w.heap.size 56 3 (.slice (some ⟨q, 0, none⟩) 0 0) 0 (ints (flat3 [])) := ⟨rfl, .inr ⟨q, 0, _, rfl, hqb, hq, Nat.le_refl _, by decide, rfl, rfl⟩⟩
  by_cases h0 : n = 0
  · subst h0
    have hl : l = [] := List.eq_nil_of_length_eq_zero ht.1
    subst hl
    have hw : Region.wanted o (yielded ops a.tmps) = true := by simp [Region.wanted, hgd]
    rw [if_pos hw]
    have hr := run_append_zero W o.type q c A
    unfold Oper.wp execOp
    simp only [ho, resolve, invoke, builtin, Sem.run_bind, Sem.run_pure, Result.andThen_ok, List.map_toArray, List.map_cons, List.map_nil, hs, hx, hr]
    exact cont _ 0 W b0 o3 (fun _ h => h)
  · obtain ⟨i0, hi, hz0, hz1, hz2⟩ := info_parts Try.infoTri
    obtain ⟨bA, off, rfl, _⟩ := ht.2 (by have := ht.1; omega)
    refine step_append_lies _ hgd s x 22 ho w.heap.size 56 i0 (.agg #[.int .i64 0, .int .i64 0, .int .i64 0]) 3 24 Try.underlying22 hi hz0 hz1 hz2 rfl (by decide) (.slice (some ⟨q, 0, none⟩) 0 0) 0 (ints (flat3 [])) hs o3 ⟨bA, off, none⟩ n c (ints (flat3 l)) hx (by rw [length_ints, length_flat3]; have := ht.1; omega) ht.flat (ints_one9 _) (by omega) (by unfold maxLen; omega) (by omega) b0.size _ rfl ?_
    intro g9 cap9 w9 own9 gr9 _ _
    have own' : w9.ownsRow w.heap.size 56 3 (.slice (some ⟨g9, 0, none⟩) n cap9) n (ints (flat3 l)) := by
      have := own9
      rw [Nat.zero_add] at this
      exact this
    have b9 : Below w.heap.size w w9 := own_grown_below b0 gr9 b0.size (fun k hk => (o3.lt k hk).1)
    have hc := cont (some ⟨g9, 0, none⟩) cap9 w9 b9 own' (fun b hb => (gr9.block b (heap_lt hb) (fun e => by
      have e : some b = some q := e
      injection e with e
      subst e
      have hb' : W.heap[b]? = some (.cells #[.int .i64 0, .slice none 0 0] 24 (0, 0)) := hb
      rw [hq] at hb'
      injection hb' with hh
      injection hh with _ hh _
      exact absurd hh (by decide))).trans hb)
    rw [Nat.zero_add]
    exact hc
def OwC (w : World) (K : Int) (n : Nat) (l : List Tr) (t : Value) (W : World) : Prop := ∃ gb Ab cb, t = .pointer (some ⟨gb, 0, none⟩) ∧ One w W gb K (.slice Ab n cb) n l

/-- A row of triangles that is written over: it lies between Z and Y. -/
def Rw (W : World) (Z Y n : Nat) (A : Option Addr) : Prop := 0 < n → ∃ q cur, A = some ⟨q, 0, none⟩ ∧ Z ≤ q ∧ q < Y ∧ W.heap[q]? = some (.cells cur 56 (0, 0)) ∧ n * 3 ≤ cur.size
theorem Rw.of_own {W : World} {B n c : Nat} {A : Option Addr} {xs : List Value} (h : W.ownsRow B 56 3 (.slice A n c) n xs) : Rw W B W.heap.size n A := by
  intro hn
  rcases h.2 with ⟨_, h2⟩ | ⟨q, cap, cur, h1, hq, hh, hc, hm, hs, ht⟩
  · omega
  · injection h1 with h1 _ _
    exact ⟨q, cur, h1, hq, heap_lt hh, hh, by rw [hs]; exact Nat.mul_le_mul_right 3 hc⟩
theorem Rw.up {W W' : World} {Z Y n : Nat} {A : Option Addr} (h : Rw W Z Y n A) (b : Below W.heap.size W W') : Rw W' Z Y n A := fun hn => by
  obtain ⟨q, cur, h1, h2, h3, h4, h5⟩ := h hn
  exact ⟨q, cur, h1, h2, h3, (b.block q (heap_lt h4)).trans h4, h5⟩
abbrev wipe (W : World) (q i : Nat) : World := ((W.setCell ⟨q, i * 3, none⟩ (.int .i64 0)).setCell ⟨q, i * 3 + 1, none⟩ (.int .i64 0)).setCell ⟨q, i * 3 + 2, none⟩ (.int .i64 0)
theorem wipe_far {W : World} {q i k : Nat} {o : Obj} (h : W.heap[k]? = some o) (hk : k ≠ q) : (wipe W q i).heap[k]? = some o := heap_far (heap_far (heap_far h (p := ⟨q, i * 3, none⟩) hk _) (p := ⟨q, i * 3 + 1, none⟩) hk _) (p := ⟨q, i * 3 + 2, none⟩) hk _
theorem wipe_chg (W : World) (q i : Nat) : Chg (fun x => x = q) W (wipe W q i) := ((Chg.of_set (S := fun x => x = q) W ⟨q, i * 3, none⟩ _ rfl).set _ _ rfl).set _ _ rfl
theorem wipe_below {B q i : Nat} {w W : World} (h : Below B w W) (hq : B ≤ q) : Below B w (wipe W q i) := below_st (below_st (below_st h hq _) hq _) hq _
theorem Rw.cells {W : World} {Z Y n i : Nat} {A : Option Addr} (h : Rw W Z Y n A) (hi : i < n) : ∃ q cur v0 v1 v2, A = some ⟨q, 0, none⟩ ∧ Z ≤ q ∧ q < Y ∧ W.heap[q]? = some (.cells cur 56 (0, 0)) ∧ Rw (wipe W q i) Z Y n A ∧
    (W.cell? ⟨q, i * 3, none⟩ = some v0 ∧ W.frozen? ⟨q, i * 3, none⟩ = false) ∧ (W.cell? ⟨q, i * 3 + 1, none⟩ = some v1 ∧ W.frozen? ⟨q, i * 3 + 1, none⟩ = false) ∧ (W.cell? ⟨q, i * 3 + 2, none⟩ = some v2 ∧ W.frozen? ⟨q, i * 3 + 2, none⟩ = false) := by
  obtain ⟨q, cur, h1, h2, h3, h4, h5⟩ := h (by omega)
  have l0 : i * 3 < cur.size := by omega
  have l1 : i * 3 + 1 < cur.size := by omega
  have l2 : i * 3 + 2 < cur.size := by omega
  refine ⟨q, cur, cur[i * 3], cur[i * 3 + 1], cur[i * 3 + 2], h1, h2, h3, h4, fun _ => ⟨q, _, h1, h2, h3, heap_set (heap_set (heap_set h4 (i * 3) (.int .i64 0)) (i * 3 + 1) (.int .i64 0)) (i * 3 + 2) (.int .i64 0), by simpa using h5⟩, ⟨?_, frozen_in h4 _⟩, ⟨?_, frozen_in h4 _⟩, ⟨?_, frozen_in h4 _⟩⟩
  · rw [cell_in h4]; exact Array.getElem?_eq_getElem l0
  · rw [cell_in h4]; exact Array.getElem?_eq_getElem l1
  · rw [cell_in h4]; exact Array.getElem?_eq_getElem l2
/-- What was handed in, being written over behind the table's back. -/
structure Ow1 (w wr : World) (gb g : Nat) (N : Int) (Ab : Option Addr) (n cb : Nat) (l : List Tr) (Z Y : Nat) : Prop where
  below : Below w.heap.size w wr
  bx : wr.heap[gb]? = some (.cells #[.int .i64 N, .slice Ab n cb] 24 (0, 0))
  rw : Rw wr Z Y n Ab
  tab : KTab wr Y g N l
  wz : w.heap.size ≤ Z
theorem Ow1.up {w wr wr' : World} {gb g : Nat} {N : Int} {Ab : Option Addr} {n cb : Nat} {l : List Tr} {Z Y : Nat} (h : Ow1 w wr gb g N Ab n cb l Z Y) (b : Below wr.heap.size wr wr') : Ow1 w wr' gb g N Ab n cb l Z Y :=
  ⟨up2 h.below b, (b.block gb (heap_lt h.bx)).trans h.bx, h.rw.up b, h.tab.below b, h.wz⟩
theorem ne_box {W : World} {gb q : Nat} {cs cur : Array Value} (h : W.heap[gb]? = some (.cells cs 24 (0, 0))) (hq : W.heap[q]? = some (.cells cur 56 (0, 0))) : gb ≠ q := fun e => by
  rw [e, hq] at h
  injection h with h
  injection h with _ h _
  exact absurd h (by decide)
def OwRnd (w : World) (gb g : Nat) (N : Int) (Ab : Option Addr) (n cb : Nat) (l : List Tr) (Z Y : Nat) (i : Value) (wr : World) : Prop := ∃ k : Nat, k ≤ n ∧ i = .int .i64 (k : Int) ∧ Ow1 w wr gb g N Ab n cb l Z Y
/-- What was told, being written over. -/
structure Ow2 (w wr : World) (gt : Nat) (N : Int) (A' : Option Addr) (n c' : Nat) (Y : Nat) : Prop where
  below : Below w.heap.size w wr
  bx : wr.heap[gt]? = some (.cells #[.int .i64 N, .slice A' n c'] 24 (0, 0))
  rw : Rw wr w.heap.size Y n A'
def OwRn2 (w : World) (gt : Nat) (N : Int) (A' : Option Addr) (n c' : Nat) (Y : Nat) (i : Value) (wr : World) : Prop := ∃ k : Nat, k ≤ n ∧ i = .int .i64 (k : Int) ∧ Ow2 w wr gt N A' n c' Y
set_option maxHeartbeats 16000000 in
set_option maxRecDepth 100000 in
theorem walk (N : Int) (A : Option Addr) (n c : Nat) (l : List Tr) (x e0 e1 : Int) (w : World) (_ : -9223372036854775808 ≤ N) (_ : N ≤ 9223372036854775807) (h : T3 w A n l) (_ : -9223372036854775808 ≤ x) (_ : x ≤ 9223372036854775807) (_ : -9223372036854775808 ≤ e0 ∧ e0 ≤ 9223372036854775807) (_ : -9223372036854775808 ≤ e1 ∧ e1 ≤ 9223372036854775807) :
    Calls Try.prog 10 #[.agg #[.int .i64 N, .slice A n c], .int .i64 x, .agg #[.int .i64 e0, .int .i64 e1]] w (BoolTold10 w true) := by
  obtain rfl := h.1
  obtain ⟨p, hp⟩ := isPin_exists l
  have HP := Lib.hid hp
  have HL := Lib.hid h
  have KA := Lib.hid awake10_true
  obtain ⟨w0, hw0⟩ : ∃ w0, w.alloc (.cells #[.int .i64 N, .slice A l.length c] 24) = w0 := ⟨_, rfl⟩
  obtain ⟨g0, hg0⟩ : ∃ g0, w.heap.size = g0 := ⟨_, rfl⟩
  have b0 : Below w.heap.size w w0 := by rw [← hw0]; exact (Below.refl _ w).alloc (Nat.le_refl _) _
  have x0 : Bx w0 g0 N A l.length c := by rw [← hw0, ← hg0]; exact Bx.made w N A l.length c
  obtain ⟨w1, hw1⟩ : ∃ w1, w0.alloc (.cells #[.int .i64 e0, .int .i64 e1] 41) = w1 := ⟨_, rfl⟩
  obtain ⟨ge, hge⟩ : ∃ ge, w0.heap.size = ge := ⟨_, rfl⟩
  have b1 : Below w0.heap.size w0 w1 := by rw [← hw1]; exact (Below.refl _ w0).alloc (Nat.le_refl _) _
  have y1 : w1.heap[ge]? = some (.cells #[.int .i64 e0, .int .i64 e1] 41 (0, 0)) := by rw [← hw1, ← hge]; exact heap_alloc_new w0 _
  have B1 := Lib.hid (And.intro (up2 b0 b1) (And.intro (x0.below b1) y1))
  have KS0 := Lib.hid ksoup_nil
  clear b0 x0 b1 y1 h hp
  go_enter Try.func10, Try.ntmps10
  go_wp2_with fail
  refine (KA.out _).mono ?_
  rintro e w2 ⟨rfl, b2⟩
  go_wp2_with fail
  refine (KS0.out _).mono ?_
  rintro e w3 ⟨rfl, b3⟩
  obtain ⟨w4, hw4⟩ : ∃ w4, w3.alloc (.cells #[.int .i64 0, .slice none 0 0] 24) = w4 := ⟨_, rfl⟩
  have b4 : Below w3.heap.size w3 w4 := by rw [← hw4]; exact (Below.refl _ w3).alloc (Nat.le_refl _) _
  have b14 := up2 (up2 b2 b3) b4
  have HW4 := Lib.hid hw4
  have B4 := Lib.hid (And.intro (up2 B1.out.1 b14) (And.intro (B1.out.2.1.below b14) ((b14.block ge (heap_lt B1.out.2.2)).trans B1.out.2.2)))
  clear b2 b3 b4 b14 hw4
  have KT := Lib.hid ktris_nil
  have KU := Lib.hid kverts_nil
  have KV := Lib.hid kvertex_nil
  have KX := Lib.hid knext_nil
  have KPv := Lib.hid kprev_nil
  have KO := Lib.hid kopp_nil
  have KE := Lib.hid kedge_nil
  have KF := Lib.hid kfacing_nil
  have KC := Lib.hid kcorner_nil
  have nq := fun W => neq2 W (-1) (-1) (-1) (-1)
  have gq := fun W op u v xs ys => run_eqGuard_agg (P := Try.prog) W op 41 u v xs ys Try.eqGuardType41
  go_wp2_with fail
  simp only [HW4.out]
  refine (KT.out _).mono ?_
  rintro e w9 ⟨rfl, rfl⟩
  go_wp2_with fail
  refine (KU.out _).mono ?_
  rintro e w9 ⟨rfl, rfl⟩
  go_wp2_with fail
  refine (KV.out _ _).mono ?_
  rintro e w9 ⟨rfl, rfl⟩
  go_wp2_with fail
  refine (KX.out _ _).mono ?_
  rintro e w9 ⟨rfl, rfl⟩
  go_wp2_with fail
  refine (KPv.out _ _).mono ?_
  rintro e w9 ⟨rfl, rfl⟩
  go_wp2_with fail
  refine (KO.out _ _).mono ?_
  rintro e w9 ⟨rfl, rfl⟩
  go_wp2_with fail
  refine (KE.out _ _).mono ?_
  rintro e w5 ⟨rfl, b5⟩
  have B5 := Lib.hid (And.intro (up2 B4.out.1 b5) (And.intro (B4.out.2.1.below b5) ((b5.block ge (heap_lt B4.out.2.2)).trans B4.out.2.2)))
  have c0 : w5.cell? ⟨ge, 0, none⟩ = some (.int .i64 e0) := by rw [cell_in B5.out.2.2]; rfl
  have c1 : w5.cell? ⟨ge, 1, none⟩ = some (.int .i64 e1) := by rw [cell_in B5.out.2.2]; rfl
  clear b5
  go_wp2_with fail
  refine (KF.out _ _ _).mono ?_
  rintro e w6 ⟨rfl, b6⟩
  have B6 := Lib.hid (And.intro (up2 B5.out.1 b6) (B5.out.2.1.below b6))
  have s0 := B6.out.2.c0
  have s1 := B6.out.2.c1
  clear b6 c0 c1 nq gq
  go_wp2_with fail
  refine (KC.out _ _).mono ?_
  rintro e w9 ⟨rfl, rfl⟩
  have KG := Lib.hid (great10_any w9 N A l.length c)
  by_cases hg : GreatS l.length N
  · rw [show great01 l.length N = 1 by unfold great01; rw [if_pos hg]] at KG
    clear hg
    go_wp2_with fail
    refine KG.out.mono ?_
    rintro e w7 ⟨rfl, b7⟩
    have B7 := Lib.hid (up2 B6.out.1 b7)
    clear b7
    go_wp2_with fail
    go_ret
    exact ⟨rfl, B7.out⟩
  rw [show great01 l.length N = 0 by unfold great01; rw [if_neg hg]] at KG
  have hn40 : l.length ≤ 40 := Nat.le_of_not_lt fun h => hg (.inl (by omega))
  clear hg
  go_wp2_with fail
  refine KG.out.mono ?_
  rintro e w7 ⟨rfl, b7⟩
  have B7 := Lib.hid (And.intro (up2 B6.out.1 b7) (B6.out.2.below b7))
  have HH := Lib.hid (fun W (b : Below w7.heap.size w7 W) => (show W.cell? ⟨g0, 0, none⟩ = some (.int .i64 N) ∧ W.cell? ⟨g0, 1, none⟩ = some (.slice A l.length c) from ⟨(B7.out.2.below b).c0, (B7.out.2.below b).c1⟩))
  have hd := HH.out w7.drew (Reading.below ⟨1, rfl⟩)
  clear b7 s0 s1
  go_upto_region 10 with fail
  go_cut [9] (OwC w7 N l.length l)
  case first =>
    go_wp2_with fail
    refine wp_region_noPanic ?_
    refine wp_region_held_drew (S := fun w' => w'.cell? ⟨g0, 0, none⟩ = some (.int .i64 N) ∧ w'.cell? ⟨g0, 1, none⟩ = some (.slice A l.length c)) (by kernel_rfl) hd (fun _ => ?_)
    refine wpAnyH_take (i := 0) (v := ?v0x1) rfl (by kernel_rfl) (by kernel_rfl) (by kernel_rfl) (fun _ _ _ h => h) (Or.inl ⟨by rfl, ?y0x1⟩) hd ?_
    case y0x1 => (intro w hSw; (try dsimp only at hSw); go_simp; try with_reducible rfl)
    simp only [Act.put, List.setIfInBounds_toArray, List.set_cons_zero, List.set_cons_succ, List.getElem_toArray, List.getElem_cons_zero]
    refine wpAnyH_take (i := 1) (v := ?v1x2) rfl (by kernel_rfl) (by kernel_rfl) (by kernel_rfl) (fun _ _ _ h => h) (Or.inl ⟨by rfl, ?y1x2⟩) hd ?_
    case y1x2 => (intro w hSw; (try dsimp only at hSw); go_simp; try with_reducible rfl)
    simp only [Act.put, List.setIfInBounds_toArray, List.set_cons_zero, List.set_cons_succ, List.getElem_toArray, List.getElem_cons_zero, List.getElem_cons_succ]
    refine wpAnyH_take (i := 3) (v := ?v3x3) rfl (by kernel_rfl) (by kernel_rfl) (by kernel_rfl) (fun _ _ _ h => h) (Or.inl ⟨by rfl, ?y3x3⟩) hd ?_
    case y3x3 => (intro w hSw; (try dsimp only at hSw); go_simp; try with_reducible rfl)
    simp only [Act.put, List.setIfInBounds_toArray, List.set_cons_zero, List.set_cons_succ, List.getElem_toArray, List.getElem_cons_zero, List.getElem_cons_succ]
    refine wpAnyH_take (i := 4) (v := ?v4x4) rfl (by kernel_rfl) (by kernel_rfl) (by kernel_rfl) (fun _ _ _ h => h) (Or.inl ⟨by rfl, ?y4x4⟩) hd ?_
    case y4x4 => (intro w hSw; (try dsimp only at hSw); go_simp; try with_reducible rfl)
    simp only [Act.put, List.setIfInBounds_toArray, List.set_cons_zero, List.set_cons_succ, List.getElem_toArray, List.getElem_cons_zero, List.getElem_cons_succ]
    obtain ⟨u0, hu0⟩ : ∃ x, w7.drew = x := ⟨_, rfl⟩
    have bw : Below w7.heap.size w7 u0 := by rw [← hu0]; exact Reading.below ⟨1, rfl⟩
    simp only [hu0]
    clear hu0
    refine wpAnyH_ready (rs := [2, 7]) (by kernel_rfl) (by simp) ?_
    refine AllReadyH.cons rfl (fun K hK => ?_) (AllReadyH.cons rfl (fun K hK => ?_) AllReadyH.nil)
    · go_simp
      refine hK.out _ _ (HH.out _ (up1 bw _)) (fun _ => ?_)
      clear hK K
      try simp only [Act.put, List.setIfInBounds_toArray, List.set_cons_zero, List.set_cons_succ, List.getElem_toArray, List.getElem_cons_zero, List.getElem_cons_succ]
      obtain ⟨u1, hn⟩ : ∃ x, u0.alloc (.cells #[] 56) = x := ⟨_, rfl⟩
      obtain ⟨q, hg⟩ : ∃ x, u0.heap.size = x := ⟨_, rfl⟩
      have qe : u1.heap[q]? = some (.cells #[] 56 (0, 0)) := by rw [← hn, ← hg]; exact heap_alloc_new u0 _
      have bq : w7.heap.size ≤ q := by rw [← hg]; exact bw.size
      have bn : Below u0.heap.size u0 u1 := by rw [← hn]; exact (Below.refl _ u0).alloc (Nat.le_refl _) _
      have bw := up2 bw bn
      simp only [hn, hg]
      clear hn hg bn
      refine wpAnyH_ready (rs := [5, 7]) (by kernel_rfl) (by simp) ?_
      refine AllReadyH.cons rfl (fun K hK => ?_) (AllReadyH.cons rfl (fun K hK => ?_) AllReadyH.nil)
      · refine step_copy (c := c) bw qe bq (HL.out.below (up2 B7.out.1 bw)) (by omega) (by rfl) (.tmp 86) (.tmp 88) (by rfl) (by go_simp) (by go_simp) ?_
        intro A1 c1 u2 b9 o1 far
        refine hK.out _ _ (HH.out _ b9) (fun _ => ?_)
        clear hK K
        try simp only [Act.put, List.setIfInBounds_toArray, List.set_cons_zero, List.set_cons_succ, List.getElem_toArray, List.getElem_cons_zero, List.getElem_cons_succ]
        have bw := b9
        clear b9 far qe
        refine wpAnyH_take (i := 6) (v := ?v6x5) rfl (by kernel_rfl) (by kernel_rfl) (by kernel_rfl) (fun _ _ _ h => h) (Or.inl ⟨by rfl, ?y6x5⟩) (HH.out _ bw) ?_
        case y6x5 => (intro w hSw; (try dsimp only at hSw); go_simp; try with_reducible rfl)
        simp only [Act.put, List.setIfInBounds_toArray, List.set_cons_zero, List.set_cons_succ, List.getElem_toArray, List.getElem_cons_zero, List.getElem_cons_succ]
        refine wpAnyH_ready (rs := [7]) (by kernel_rfl) (by simp) ?_
        refine AllReadyH.cons rfl (fun K hK => ?_) AllReadyH.nil
        go_simp
        refine hK.out _ _ (HH.out _ (up1 bw _)) (fun _ => ?_)
        clear hK K
        try simp only [Act.put, List.setIfInBounds_toArray, List.set_cons_zero, List.set_cons_succ, List.getElem_toArray, List.getElem_cons_zero, List.getElem_cons_succ]
        obtain ⟨u3, hn⟩ : ∃ x, u2.alloc zbox = x := ⟨_, rfl⟩
        obtain ⟨gb, hg⟩ : ∃ x, u2.heap.size = x := ⟨_, rfl⟩
        have z1 : Zb u3 gb := by rw [← hn, ← hg]; exact heap_alloc_new u2 _
        have bgb : w7.heap.size ≤ gb := by rw [← hg]; exact bw.size
        have bn : Below u2.heap.size u2 u3 := by rw [← hn]; exact (Below.refl _ u2).alloc (Nat.le_refl _) _
        have o1 := ownK_up o1 bn
        have bw := up2 bw bn
        simp only [hn, hg]
        clear hn hg bn
        obtain ⟨f1, f2, f3, f4⟩ := z1.facts
        have D1 := Lib.hid (⟨below_set2 bw bgb _ _, set2 z1, own_box o1 z1 _ _, bgb⟩ : One w7 ((u3.setCell ⟨gb, 0, none⟩ (.int .i64 N)).setCell ⟨gb, 1, none⟩ (.slice A1 l.length c1)) gb N (.slice A1 l.length c1) l.length l)
        clear o1 z1
        refine wpAnyH_ready (rs := [8]) (by kernel_rfl) (by simp) ?_
        refine AllReadyH.cons rfl (fun K hK => ?_) AllReadyH.nil
        go_simp
        refine hK.out _ _ (HH.out _ (below_st (below_st bw bgb _) bgb _)) (fun _ => ?_)
        clear hK K
        try simp only [Act.put, List.setIfInBounds_toArray, List.set_cons_zero, List.set_cons_succ, List.getElem_toArray, List.getElem_cons_zero, List.getElem_cons_succ]
        refine wpAnyH_done (by kernel_rfl) ?_ _
        refine NoPanic.normal ?_
        go_wp2_with fail
        go_meet
        exact ⟨gb, A1, c1, rfl, D1.out⟩
      · go_simp
        refine hK.out _ _ (HH.out _ (up1 bw _)) (fun _ => ?_)
        clear hK K
        try simp only [Act.put, List.setIfInBounds_toArray, List.set_cons_zero, List.set_cons_succ, List.getElem_toArray, List.getElem_cons_zero, List.getElem_cons_succ]
        obtain ⟨u2, hn⟩ : ∃ x, u1.alloc zbox = x := ⟨_, rfl⟩
        obtain ⟨gb, hg⟩ : ∃ x, u1.heap.size = x := ⟨_, rfl⟩
        have z1 : Zb u2 gb := by rw [← hn, ← hg]; exact heap_alloc_new u1 _
        have bgb : w7.heap.size ≤ gb := by rw [← hg]; exact bw.size
        have bn : Below u1.heap.size u1 u2 := by rw [← hn]; exact (Below.refl _ u1).alloc (Nat.le_refl _) _
        have qe := (bn.block q (heap_lt qe)).trans qe
        have bw := up2 bw bn
        simp only [hn, hg]
        clear hn hg bn
        refine wpAnyH_ready (rs := [5]) (by kernel_rfl) (by simp) ?_
        refine AllReadyH.cons rfl (fun K hK => ?_) AllReadyH.nil
        refine step_copy (c := c) bw qe bq (HL.out.below (up2 B7.out.1 bw)) (by omega) (by rfl) (.tmp 86) (.tmp 88) (by rfl) (by go_simp) (by go_simp) ?_
        intro A1 c1 u3 b9 o1 far
        refine hK.out _ _ (HH.out _ b9) (fun _ => ?_)
        clear hK K
        try simp only [Act.put, List.setIfInBounds_toArray, List.set_cons_zero, List.set_cons_succ, List.getElem_toArray, List.getElem_cons_zero, List.getElem_cons_succ]
        have z1 := far _ z1
        have bw := b9
        clear b9 far qe
        refine wpAnyH_take (i := 6) (v := ?v6x6) rfl (by kernel_rfl) (by kernel_rfl) (by kernel_rfl) (fun _ _ _ h => h) (Or.inl ⟨by rfl, ?y6x6⟩) (HH.out _ bw) ?_
        case y6x6 => (intro w hSw; (try dsimp only at hSw); go_simp; try with_reducible rfl)
        simp only [Act.put, List.setIfInBounds_toArray, List.set_cons_zero, List.set_cons_succ, List.getElem_toArray, List.getElem_cons_zero, List.getElem_cons_succ]
        obtain ⟨f1, f2, f3, f4⟩ := z1.facts
        have D1 := Lib.hid (⟨below_set2 bw bgb _ _, set2 z1, own_box o1 z1 _ _, bgb⟩ : One w7 ((u3.setCell ⟨gb, 0, none⟩ (.int .i64 N)).setCell ⟨gb, 1, none⟩ (.slice A1 l.length c1)) gb N (.slice A1 l.length c1) l.length l)
        clear o1 z1
        refine wpAnyH_ready (rs := [8]) (by kernel_rfl) (by simp) ?_
        refine AllReadyH.cons rfl (fun K hK => ?_) AllReadyH.nil
        go_simp
        refine hK.out _ _ (HH.out _ (below_st (below_st bw bgb _) bgb _)) (fun _ => ?_)
        clear hK K
        try simp only [Act.put, List.setIfInBounds_toArray, List.set_cons_zero, List.set_cons_succ, List.getElem_toArray, List.getElem_cons_zero, List.getElem_cons_succ]
        refine wpAnyH_done (by kernel_rfl) ?_ _
        refine NoPanic.normal ?_
        go_wp2_with fail
        go_meet
        exact ⟨gb, A1, c1, rfl, D1.out⟩
    · go_simp
      refine hK.out _ _ (HH.out _ (up1 bw _)) (fun _ => ?_)
      clear hK K
      try simp only [Act.put, List.setIfInBounds_toArray, List.set_cons_zero, List.set_cons_succ, List.getElem_toArray, List.getElem_cons_zero, List.getElem_cons_succ]
      obtain ⟨u1, hn⟩ : ∃ x, u0.alloc zbox = x := ⟨_, rfl⟩
      obtain ⟨gb, hg⟩ : ∃ x, u0.heap.size = x := ⟨_, rfl⟩
      have z1 : Zb u1 gb := by rw [← hn, ← hg]; exact heap_alloc_new u0 _
      have bgb : w7.heap.size ≤ gb := by rw [← hg]; exact bw.size
      have bn : Below u0.heap.size u0 u1 := by rw [← hn]; exact (Below.refl _ u0).alloc (Nat.le_refl _) _
      have bw := up2 bw bn
      simp only [hn, hg]
      clear hn hg bn
      refine wpAnyH_ready (rs := [2]) (by kernel_rfl) (by simp) ?_
      refine AllReadyH.cons rfl (fun K hK => ?_) AllReadyH.nil
      go_simp
      refine hK.out _ _ (HH.out _ (up1 bw _)) (fun _ => ?_)
      clear hK K
      try simp only [Act.put, List.setIfInBounds_toArray, List.set_cons_zero, List.set_cons_succ, List.getElem_toArray, List.getElem_cons_zero, List.getElem_cons_succ]
      obtain ⟨u2, hn⟩ : ∃ x, u1.alloc (.cells #[] 56) = x := ⟨_, rfl⟩
      obtain ⟨q, hg⟩ : ∃ x, u1.heap.size = x := ⟨_, rfl⟩
      have qe : u2.heap[q]? = some (.cells #[] 56 (0, 0)) := by rw [← hn, ← hg]; exact heap_alloc_new u1 _
      have bq : w7.heap.size ≤ q := by rw [← hg]; exact bw.size
      have bn : Below u1.heap.size u1 u2 := by rw [← hn]; exact (Below.refl _ u1).alloc (Nat.le_refl _) _
      have z1 := z1.up bn
      have bw := up2 bw bn
      simp only [hn, hg]
      clear hn hg bn
      refine wpAnyH_ready (rs := [5]) (by kernel_rfl) (by simp) ?_
      refine AllReadyH.cons rfl (fun K hK => ?_) AllReadyH.nil
      refine step_copy (c := c) bw qe bq (HL.out.below (up2 B7.out.1 bw)) (by omega) (by rfl) (.tmp 86) (.tmp 88) (by rfl) (by go_simp) (by go_simp) ?_
      intro A1 c1 u3 b9 o1 far
      refine hK.out _ _ (HH.out _ b9) (fun _ => ?_)
      clear hK K
      try simp only [Act.put, List.setIfInBounds_toArray, List.set_cons_zero, List.set_cons_succ, List.getElem_toArray, List.getElem_cons_zero, List.getElem_cons_succ]
      have z1 := far _ z1
      have bw := b9
      clear b9 far qe
      refine wpAnyH_take (i := 6) (v := ?v6x7) rfl (by kernel_rfl) (by kernel_rfl) (by kernel_rfl) (fun _ _ _ h => h) (Or.inl ⟨by rfl, ?y6x7⟩) (HH.out _ bw) ?_
      case y6x7 => (intro w hSw; (try dsimp only at hSw); go_simp; try with_reducible rfl)
      simp only [Act.put, List.setIfInBounds_toArray, List.set_cons_zero, List.set_cons_succ, List.getElem_toArray, List.getElem_cons_zero, List.getElem_cons_succ]
      obtain ⟨f1, f2, f3, f4⟩ := z1.facts
      have D1 := Lib.hid (⟨below_set2 bw bgb _ _, set2 z1, own_box o1 z1 _ _, bgb⟩ : One w7 ((u3.setCell ⟨gb, 0, none⟩ (.int .i64 N)).setCell ⟨gb, 1, none⟩ (.slice A1 l.length c1)) gb N (.slice A1 l.length c1) l.length l)
      clear o1 z1
      refine wpAnyH_ready (rs := [8]) (by kernel_rfl) (by simp) ?_
      refine AllReadyH.cons rfl (fun K hK => ?_) AllReadyH.nil
      go_simp
      refine hK.out _ _ (HH.out _ (below_st (below_st bw bgb _) bgb _)) (fun _ => ?_)
      clear hK K
      try simp only [Act.put, List.setIfInBounds_toArray, List.set_cons_zero, List.set_cons_succ, List.getElem_toArray, List.getElem_cons_zero, List.getElem_cons_succ]
      refine wpAnyH_done (by kernel_rfl) ?_ _
      refine NoPanic.normal ?_
      go_wp2_with fail
      go_meet
      exact ⟨gb, A1, c1, rfl, D1.out⟩
  case rest =>
    obtain ⟨gb, Ab, cb, rfl, on⟩ := hcut
    have O0 := Lib.hid on
    have c0 : wc.cell? ⟨gb, 0, none⟩ = some (.int .i64 N) := by rw [cell_in on.bx]; rfl
    have c1 : wc.cell? ⟨gb, 1, none⟩ = some (.slice Ab l.length cb) := by rw [cell_in on.bx]; rfl
    have KN := Lib.hid (knew_any wc N Ab l.length cb l p (T3.of_own on.ot) HP.out (by omega))
    clear on hd
    go_wp2_with fail
    refine KN.out.mono ?_
    rintro e w8 ⟨b8, ⟨_, rfl⟩ | ⟨_, g, rfl, tab⟩⟩
    · have B8 := Lib.hid (up2 (up2 B7.out.1 O0.out.below) b8)
      clear b8
      obtain ⟨y, hy⟩ : ∃ y, (wits p N l).headD (0, 0, 0) = y := ⟨_, rfl⟩
      simp only [hy, wv]
      clear hy
      go_wp2_with fail
      go_ret
      exact ⟨rfl, up1 B8.out _⟩
    obtain ⟨w9, hw9⟩ : ∃ w9, w8.alloc (.cells #[.int .i64 0, .int .i64 0, .int .i64 0] 29) = w9 := ⟨_, rfl⟩
    have b9 : Below w8.heap.size w8 w9 := by rw [← hw9]; exact (Below.refl _ w8).alloc (Nat.le_refl _) _
    have b89 := up2 b8 b9
    have bx9 := (b89.block gb (heap_lt O0.out.bx)).trans O0.out.bx
    have S9 := Lib.hid (⟨up2 O0.out.below b89, bx9, (Rw.of_own O0.out.ot).up b89, tab.below b9, Nat.le_refl _⟩ : Ow1 w7 w9 gb g N Ab l.length cb l w7.heap.size wc.heap.size)
    have c1' : (w8.alloc (.cells #[.int .i64 0, .int .i64 0, .int .i64 0] 29)).cell? ⟨gb, 1, none⟩ = some (.slice Ab l.length cb) := by rw [hw9, cell_in bx9]; rfl
    have HW9 := Lib.hid hw9
    clear b8 b9 b89 bx9 tab hw9 c0 c1
    simp only [wv]
    go_wp2_with fail
    simp only [HW9.out]
    clear c1'
    go_loopw [101] (OwRnd w7 gb g N Ab l.length cb l w7.heap.size wc.heap.size) (fun i _ => l.length - (intOf i).toNat)
    case atStart => exact ⟨0, Nat.zero_le _, rfl, S9.out⟩
    case round =>
      obtain ⟨k, hk, rfl, on⟩ := hrel
      have ON := Lib.hid on
      clear on
      by_cases hlt : k < l.length
      case pos =>
        have b1 : (k : Int) < l.length := by omega
        have b2 : 0 ≤ (k : Int) := by omega
        have c1 : wr.cell? ⟨gb, 1, none⟩ = some (.slice Ab l.length cb) := by rw [cell_in ON.out.bx]; rfl
        obtain ⟨q, cur, v0, v1, v2, rfl, hz, hy, hq, hrw, ⟨r0, f0⟩, ⟨r1, f1⟩, r2, f2⟩ := ON.out.rw.cells hlt
        have F := Lib.hid (⟨wipe_below ON.out.below (by have := ON.out.wz; omega), wipe_far ON.out.bx (ne_box ON.out.bx hq), hrw, ON.out.tab.chg (wipe_chg wr q k) (fun b hb => by rw [show b = q from hb]; exact hy), ON.out.wz⟩ : Ow1 w7 (wipe wr q k) gb g N (some ⟨q, 0, none⟩) l.length cb l w7.heap.size wc.heap.size)
        clear hz hy hq hrw
        go_wp2_with fail
        exact ⟨⟨k + 1, by omega, by go_num, F.out⟩, by simp [intOf]; omega⟩
      case neg =>
      obtain rfl : k = l.length := by omega
      have b1 : ¬ ((l.length : Nat) : Int) < (l.length : Int) := by omega
      obtain ⟨wq, hwq⟩ : ∃ wq, wr = wq := ⟨_, rfl⟩
      rw [hwq] at ON
      simp only [hwq]
      clear hwq
      have KS := Lib.hid ON.out.tab.soup
      go_wp2_with fail
      refine KS.out.mono ?_
      rintro e w10 ⟨_, rfl, A', c', rfl, own10, b10⟩
      obtain ⟨w11, hw11⟩ : ∃ w11, w10.alloc (.cells #[.int .i64 N, .slice A' l.length c'] 24) = w11 := ⟨_, rfl⟩
      obtain ⟨gt, hgt⟩ : ∃ gt, w10.heap.size = gt := ⟨_, rfl⟩
      have b11 : Below w10.heap.size w10 w11 := by rw [← hw11]; exact (Below.refl _ w10).alloc (Nat.le_refl _) _
      have x11 : w11.heap[gt]? = some (.cells #[.int .i64 N, .slice A' l.length c'] 24 (0, 0)) := by rw [← hw11, ← hgt]; exact heap_alloc_new w10 _
      have c1 : w11.cell? ⟨gt, 1, none⟩ = some (.slice A' l.length c') := by rw [cell_in x11]; rfl
      have S11 := Lib.hid (⟨up2 b10 b11, x11, (Rw.of_own own10).up b11⟩ : Ow2 wq w11 gt N A' l.length c' w10.heap.size)
      clear own10 b10 b11 x11
      go_wp2_with fail
      clear hw11 hgt c1
      go_loopw [115] (OwRn2 wq gt N A' l.length c' w10.heap.size) (fun i _ => l.length - (intOf i).toNat)
      case atStart => exact ⟨0, Nat.zero_le _, rfl, S11.out⟩
      case round =>
        obtain ⟨k, hk, rfl, on⟩ := hrel
        have O2 := Lib.hid on
        clear on
        by_cases hlt : k < l.length
        case pos =>
          have b2 : (k : Int) < l.length := by omega
          have b3 : 0 ≤ (k : Int) := by omega
          have c1 : wr.cell? ⟨gt, 1, none⟩ = some (.slice A' l.length c') := by rw [cell_in O2.out.bx]; rfl
          obtain ⟨q, cur, v0, v1, v2, rfl, hz, hy, hq, hrw, ⟨r0, f0⟩, ⟨r1, f1⟩, r2, f2⟩ := O2.out.rw.cells hlt
          have F := Lib.hid (⟨wipe_below O2.out.below hz, wipe_far O2.out.bx (ne_box O2.out.bx hq), hrw⟩ : Ow2 wq (wipe wr q k) gt N (some ⟨q, 0, none⟩) l.length c' w10.heap.size)
          clear hz hy hq hrw
          go_wp2_with fail
          exact ⟨⟨k + 1, by omega, by go_num, F.out⟩, by simp [intOf]; omega⟩
        case neg =>
        obtain rfl : k = l.length := by omega
        have b2 : ¬ ((l.length : Nat) : Int) < (l.length : Int) := by omega
        have BQ7 := Lib.hid (up2 ON.out.below O2.out.below)
        have BQ := Lib.hid (up2 B7.out.1 BQ7.out)
        have TQ := Lib.hid (ON.out.tab.below O2.out.below)
        have HS := Lib.hid (fun W (b : Below wr.heap.size wr W) => (show W.cell? ⟨g0, 0, none⟩ = some (.int .i64 N) ∧ W.cell? ⟨g0, 1, none⟩ = some (.slice A l.length c) from
          ⟨(B7.out.2.below (up2 BQ7.out b)).c0, (B7.out.2.below (up2 BQ7.out b)).c1⟩))
        have KS2 := Lib.hid (fun W (b : Below wr.heap.size wr W) => (TQ.out.below b).soup)
        have RSm := Lib.hid (fun W A9 c9 (b : Below wr.heap.size wr W) (h : T3 W A9 l.length l) => (show Calls Try.prog 15 #[.agg #[.int .i64 N, .slice A9 l.length c9], .agg #[.int .i64 N, .slice A l.length c]] W (BoolTold10 W true) from by
          have := r10same_any W N N A9 A l.length c9 l.length c l l h (HL.out.below (up2 BQ.out b)) (by omega)
          rwa [decide_eq_true (show SameS N N l l from ⟨rfl, rfl⟩)] at this))
        have bd : Below wr.heap.size wr wr.drew := Reading.below ⟨1, rfl⟩
        have hd := HS.out wr.drew bd
        go_wp2_with fail
        refine wp_region_noPanic ?_
        refine wp_region_held_drew (S := fun w' => w'.cell? ⟨g0, 0, none⟩ = some (.int .i64 N) ∧ w'.cell? ⟨g0, 1, none⟩ = some (.slice A l.length c)) (by kernel_rfl) hd (fun _ => ?_)
        refine wpAnyH_take (i := 0) (v := ?v0z1) rfl (by kernel_rfl) (by kernel_rfl) (by kernel_rfl) (fun _ _ _ h => h) (Or.inl ⟨by rfl, ?y0z1⟩) hd ?_
        case y0z1 => (intro w hSw; (try dsimp only at hSw); go_simp; try with_reducible rfl)
        simp only [Act.put, List.setIfInBounds_toArray, List.set_cons_zero, List.set_cons_succ, List.getElem_toArray, List.getElem_cons_zero]
        refine wpAnyH_take (i := 2) (v := ?v2z2) rfl (by kernel_rfl) (by kernel_rfl) (by kernel_rfl) (fun _ _ _ h => h) (Or.inl ⟨by rfl, ?y2z2⟩) hd ?_
        case y2z2 => (intro w hSw; (try dsimp only at hSw); go_simp; try with_reducible rfl)
        simp only [Act.put, List.setIfInBounds_toArray, List.set_cons_zero, List.set_cons_succ, List.getElem_toArray, List.getElem_cons_zero, List.getElem_cons_succ]
        refine wpAnyH_ready (rs := [1]) (by kernel_rfl) (by simp) ?_
        refine AllReadyH.cons rfl (fun K hK => ?_) AllReadyH.nil
        rw [if_pos (by rfl)]
        go_wp2_with fail
        refine (KS2.out _ bd).mono ?_
        rintro e vv1 ⟨vs, rfl, A9, c9, rfl, own9, b9⟩
        have dd1 := up2 bd b9
        have RS := Lib.hid (RSm.out _ A9 c9 dd1 (T3.of_own own9))
        clear own9
        clear b9
        go_wp2_with fail
        refine hK.out _ _ (HS.out _ dd1) (fun _ => ?_)
        clear hK K
        try simp only [Act.put, List.setIfInBounds_toArray, List.set_cons_zero, List.set_cons_succ, List.getElem_toArray, List.getElem_cons_zero, List.getElem_cons_succ]
        refine wpAnyH_ready (rs := [3]) (by kernel_rfl) (by simp) ?_
        refine AllReadyH.cons rfl (fun K hK => ?_) AllReadyH.nil
        rw [if_pos (by rfl)]
        go_wp2_with fail
        refine (RS.out).mono ?_
        rintro e vv2 ⟨rfl, b9⟩
        have dd2 := up2 dd1 b9
        clear b9
        go_wp2_with fail
        refine hK.out _ _ (HS.out _ dd2) (fun _ => ?_)
        clear hK K
        try simp only [Act.put, List.setIfInBounds_toArray, List.set_cons_zero, List.set_cons_succ, List.getElem_toArray, List.getElem_cons_zero, List.getElem_cons_succ]
        refine wpAnyH_take (i := 4) (v := ?v4z3) rfl (by kernel_rfl) (by kernel_rfl) (by kernel_rfl) (fun _ _ _ h => h) (Or.inl ⟨by rfl, ?y4z3⟩) (HS.out _ dd2) ?_
        case y4z3 => (intro w hSw; (try dsimp only at hSw); go_simp; try with_reducible rfl)
        simp only [Act.put, List.setIfInBounds_toArray, List.set_cons_zero, List.set_cons_succ, List.getElem_toArray, List.getElem_cons_zero, List.getElem_cons_succ]
        refine wpAnyH_done (by kernel_rfl) ?_ _
        refine NoPanic.normal ?_
        go_wp2_with fail
        go_ret
        exact ⟨rfl, up2 BQ.out dd2⟩
set_option maxRecDepth 100000 in
theorem lifted (os : Os) (started : os.Started) (H : Type) (enc : TypeId × Value → H) :
    ReturnsInHanded {} Try.checked os 10 .any (Rows.cornerOwnSpec.pre6 enc Try.prog Try.f10 Rows.cornerOwnRow.domain false) (Rows.cornerOwnSpec.post enc Try.prog Try.f10 false true false false) := by
  refine returnsInHanded_of_change (C := Try.checked) own_knob started (by kernel_rfl) Try.func10
    (ChangeSpec.witness6 (enc := enc) (C := Try.checked) false ⟨#[], #[.agg #[.int .i64 0, .slice none 0 0], .int .i64 0, .agg #[.int .i64 0, .int .i64 0]], []⟩ 8 (by kernel_rfl) (by kernel_rfl) (by kernel_rfl) (by kernel_rfl)) ?_
  intro W base args ds gs before hval0 hW hcnd _
  have hval : ∀ (j : Nat) t v, Try.f10.params[j]? = some t → args[j]? = some v → Value.okWide Try.prog W .any base t v := hval0
  have hW' := hW
  obtain ⟨p, q, hA0, hV, rfl, hfz, hnd⟩ := hW
  have hA : DataW.TrodAll enc Try.prog W 0 (fun _ => true) true Try.f10.params.toList args.toList ds p := hA0
  rw [Try.params10] at hA hval
  obtain ⟨v0, vs0, d0, ds0, p0, q0, hargs, rfl, rfl, h0, r0⟩ := trodAll_cons hA
  obtain ⟨v1, vs1, d1, ds1, p1, q1, rfl, rfl, rfl, h1, r1⟩ := trodAll_cons r0
  obtain ⟨v2, vs2, d2, ds2, p2, q2, rfl, rfl, rfl, h2, r2⟩ := trodAll_cons r1
  obtain ⟨rfl, rfl, rfl⟩ := trodAll_nil r2
  obtain rfl : args = #[v0, v1, v2] := by cases args; simp_all
  obtain ⟨rfl, rfl⟩ := trodVars_none hV
  have lt0 : ∀ x ∈ p0, x.block < W.heap.size := by obtain ⟨m, hm⟩ := h0; exact DataW.trod_lt m _ _ _ hm
  obtain ⟨N0, a0, len0, cap0, xs0, rfl, hN0, hr0⟩ := arg_soup (hval 0 24 v0 rfl rfl) h0
  obtain ⟨a1, rfl, rfl, rfl, w1⟩ := open_int Try.underlying3 (hval 1 3 v1 rfl rfl) h1
  have bd1 := bounds_i64 w1
  have lt2 : ∀ x ∈ p2, x.block < W.heap.size := by obtain ⟨m, hm⟩ := h2; exact DataW.trod_lt m _ _ _ hm
  obtain ⟨ea2, eb2, rfl, he2⟩ := arg_edge (hval 2 41 v2 rfl rfl) h2
  clear hA0 hval0
  refine (walk N0 a0 len0 cap0 xs0 a1 ea2 eb2 W hN0.1 hN0.2 hr0 (by omega) (by omega) he2.1 he2.2).mono fun e W' ⟨he, bel⟩ => ?_
  subst he
  exact ⟨_, rfl, _, _, _, [], _, [], hW', trodAll_mk1 (shut_bool Try.underlying4 _), (trodAll_cons_mk (Below.trod laid_out (by kernel_rfl) (of_decide_eq_true (by kernel_rfl)) h0 bel lt0) (trodAll_cons_mk (shut_int Try.underlying3 w1) (trodAll_cons_mk (Below.trod laid_out (by kernel_rfl) (of_decide_eq_true (by kernel_rfl)) h2 bel lt2) trodAll_mk0))), rfl, bel.frame _, fun h => by cases h⟩

theorem over : Rows.cornerOwnRow.holds Try.pinned (OpenSpec.ofChange Rows.cornerOwnSpec) :=
  OpenClaim.holds_of_wide 10 Try.f10 rfl rfl rfl rfl rfl rfl rfl ⟨rfl, rfl, rfl, rfl, rfl⟩ rfl rfl rfl rfl rfl (by kernel_rfl) Try.func10 (by kernel_rfl)
    (of_decide_eq_true (by kernel_rfl)) (by unfold Func.isWrapper; first | (rw [if_pos (by decide +kernel)]; kernel_rfl) | (rw [if_neg (by decide +kernel)]; exact ⟨rfl, rfl⟩))
    (fun os started H enc _ => lifted os started H enc)

theorem proved : Rows.CornerOwnSaid := over
end Go.Proofs.Ytkcmieblnajmpaa.cornerOwn
