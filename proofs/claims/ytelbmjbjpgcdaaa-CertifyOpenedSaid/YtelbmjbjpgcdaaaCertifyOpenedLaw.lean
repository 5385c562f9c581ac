/- CertifyOpened: a closed surface without one triangle is a surface; with one turned round it isn't. No condition. -/
import Derived.Test.YtelbmjbjpgcdaaaCrAwk
import Derived.Test.YtelbmjbjpgcdaaaCerMore
import Derived.Test.YtelbmjbjpgcdaaaCerTurn
import Derived.Test.YtelbmjbjpgcdaaaCrEdge
import Derived.Test.YtelbmjbjpgcdaaaArgSoup
import Derived.Deep.RegionHeld3
import Derived.Deep.DeepCutAuto
import Derived.StillTailTactics
namespace Go.Proofs.Ytelbmjbjpgcdaaa.certifyOpened
open Go.RowKit Go.ChangeShapes Go.WideShapes Go.ChangeAt

theorem ownK9_up {W W' : World} {B n s : Nat} {t : TypeId} {v : Value} {xs : List Value} (h : W.ownsRow B t s v n xs) (b : Below W.heap.size W W') : W'.ownsRow B t s v n xs := by
  refine ⟨h.1, ?_⟩
  rcases h.2 with h2 | ⟨q, cap, cur, h1, hq, hh, hr⟩
  · exact .inl h2
  · exact .inr ⟨q, cap, cur, h1, hq, (b.block q (heap_lt hh)).trans hh, hr⟩
/-- A soup whose triangles are put together by append, in a box and a row of its own. -/
structure One (w W : World) (gb : Nat) (K : Int) (v : Value) (nb : Nat) (lb : List Tr) : Prop where
  below : Below w.heap.size w W
  bx : W.heap[gb]? = some (.cells #[.int .i64 K, v] 24 (0, 0))
  ot : W.ownsRow w.heap.size 41 3 v nb (ints (flat3 lb))
  wo : w.heap.size ≤ gb
theorem One.up {w W W' : World} {gb : Nat} {K : Int} {v : Value} {nb : Nat} {lb : List Tr} (h : One w W gb K v nb lb) (b : Below W.heap.size W W') : One w W' gb K v nb lb :=
  ⟨up2 h.below b, (b.block gb (heap_lt h.bx)).trans h.bx, ownK9_up h.ot b, h.wo⟩
/-- An owned row whose address is known. -/
theorem own_set3 {W : World} {B q n c k : Nat} {L : List Tr} (h : W.ownsRow B 41 3 (.slice (some ⟨q, 0, none⟩) n c) n (ints (flat3 L))) (hk : k < n) (x : Tr) :
    (((W.setCell ⟨q, k * 3, none⟩ (.int .i64 x.1)).setCell ⟨q, k * 3 + 1, none⟩ (.int .i64 x.2.1)).setCell ⟨q, k * 3 + 2, none⟩ (.int .i64 x.2.2)).ownsRow B 41 3 (.slice (some ⟨q, 0, none⟩) n c) n (ints (flat3 (L.set k x))) := by
  have hl : L.length = n := by have := h.1; rw [length_ints, length_flat3] at this; omega
  rcases h.2 with ⟨h1, _⟩ | ⟨q', cap, cur, h1, hq, hh, hc, hm, hs, ht⟩
  · cases h1
  · injection h1 with h1 _ h3
    injection h1 with h1
    injection h1 with h1
    subst h1 h3
    refine ⟨by rw [length_ints, length_flat3, List.length_set, hl]; omega, .inr ⟨q, c, _, rfl, hq, heap_set (heap_set (heap_set hh _ _) _ _) _ _, hc, hm, by simp only [Array.size_setIfInBounds]; exact hs, ?_⟩⟩
    rw [flat3_set L k x (by omega), ints_set, ints_set, ints_set, ← ht]
    simp only [Array.toList_setIfInBounds, List.take_set]
theorem own_cells9 {W : World} {B q n c k : Nat} {L : List Tr} (h : W.ownsRow B 41 3 (.slice (some ⟨q, 0, none⟩) n c) n (ints (flat3 L))) (hk : k < n) :
    ∃ v0 v1 v2, (W.cell? ⟨q, k * 3, none⟩ = some v0 ∧ W.frozen? ⟨q, k * 3, none⟩ = false) ∧ (W.cell? ⟨q, k * 3 + 1, none⟩ = some v1 ∧ W.frozen? ⟨q, k * 3 + 1, none⟩ = false) ∧ (W.cell? ⟨q, k * 3 + 2, none⟩ = some v2 ∧ W.frozen? ⟨q, k * 3 + 2, none⟩ = false) := by
  rcases h.2 with ⟨h1, _⟩ | ⟨q', cap, cur, h1, hq, hh, hc, hm, hs, ht⟩
  · cases h1
  · injection h1 with h1 _ h3
    injection h1 with h1
    injection h1 with h1
    subst h1 h3
    have cell : ∀ i, i < cur.size → ∃ v, W.cell? ⟨q, i, none⟩ = some v := fun i hi => ⟨_, by rw [cell_in hh]; exact Array.getElem?_eq_getElem hi⟩
    obtain ⟨v0, a0⟩ := cell (k * 3) (by omega)
    obtain ⟨v1, a1⟩ := cell (k * 3 + 1) (by omega)
    obtain ⟨v2, a2⟩ := cell (k * 3 + 2) (by omega)
    exact ⟨v0, v1, v2, ⟨a0, frozen_in hh _⟩, ⟨a1, frozen_in hh _⟩, ⟨a2, frozen_in hh _⟩⟩
theorem own_at9 {W : World} {B n c : Nat} {A : Option Addr} {xs : List Value} (h : W.ownsRow B 41 3 (.slice A n c) n xs) (hn : 0 < n) : ∃ q, A = some ⟨q, 0, none⟩ ∧ B ≤ q ∧ ∃ cs, W.heap[q]? = some (.cells cs 41 (0, 0)) := by
  rcases h.2 with ⟨_, h1⟩ | ⟨q', cap, cur, h1, hq, hh, hc, hm, hs, ht⟩
  · omega
  · injection h1 with h1 _ h3
    exact ⟨q', h1, hq, _, hh⟩
theorem One.set3 {w W : World} {gt q n c k : Nat} {N : Int} {lt : List Tr} (h : One w W gt N (.slice (some ⟨q, 0, none⟩) n c) n lt) (hk : k < n) (x : Tr) :
    One w (((W.setCell ⟨q, k * 3, none⟩ (.int .i64 x.1)).setCell ⟨q, k * 3 + 1, none⟩ (.int .i64 x.2.1)).setCell ⟨q, k * 3 + 2, none⟩ (.int .i64 x.2.2)) gt N (.slice (some ⟨q, 0, none⟩) n c) n (lt.set k x) := by
  obtain ⟨q', e, hq, cs, hh⟩ := own_at9 h.ot (by omega)
  injection e with e
  injection e with e
  subst e
  have nt : gt ≠ q := fun e => by
    subst e
    have hb := h.bx
    rw [hb] at hh
    injection hh with hh
    injection hh with _ hh _
    exact absurd hh (by decide)
  refine ⟨?_, heap_far (heap_far (heap_far h.bx nt _) nt _) nt _, own_set3 h.ot hk x, h.wo⟩
  exact ((h.below.setCell (p := ⟨q, k * 3, none⟩) hq _).setCell (p := ⟨q, k * 3 + 1, none⟩) hq _).setCell (p := ⟨q, k * 3 + 2, none⟩) hq _
theorem flat3_split (l : List Tr) (k : Nat) : flat3 l = flat3 (l.take k) ++ flat3 (l.drop k) := by rw [← flat3_append, List.take_append_drop]
theorem run_append_none (W : World) (ty : TypeId) (q k c c' : Nat) (A : Option Addr) (hk : k ≤ c) : (Builtin.append_ #[22, 22] ty #[.slice (some ⟨q, 0, none⟩) k c, .slice A 0 c']).run Try.prog W = .ok (.slice (some ⟨q, 0, none⟩) k c) W := by
  obtain ⟨i0, hi, hz0, hz1, hz2⟩ := info_parts Try.infoTri
  cases A <;> simp [Builtin.append_, run_underlying Try.underlying22, sizeOf, typeInfo, hi, Builtin.lenOf, Builtin.firstCells, loadCells, loadCellsFrom, storeCells, hk]
/-- append(t[:k], t[k+1:]...) of a row of its own: the triangle k is left out. -/
theorem One.leave {w W : World} {gb q n c k : Nat} {K : Int} {lb : List Tr} (h : One w W gb K (.slice (some ⟨q, 0, none⟩) n c) n lb) (hk : k < n) (hn : n ≤ 1000000) {ops : Array Oper} {rest : List Oper} {o : Oper} {a : Act} {Q : Exit → Act → World → Prop} (hgd : o.guard = none) (s x : Operand)
    (ho : o.op = .call { callee := .builtin .append, args := #[s, x], argTypes := #[22, 22] }) (hs : a.eval s = .slice (some ⟨q, 0, none⟩) k c) (A' : Option Addr) (m c' : Nat) (hx : a.eval x = .slice A' m c') (hm : m = n - (k + 1)) (hA : 0 < m → A' = some ⟨q, (k + 1) * 3, none⟩)
    (cont : ∀ A9 c9 w9, Below w.heap.size w w9 → w9.heap[gb]? = some (.cells #[.int .i64 K, .slice (some ⟨q, 0, none⟩) n c] 24 (0, 0)) → One w (w9.setCell ⟨gb, 1, none⟩ (.slice A9 (n - 1) c9)) gb K (.slice A9 (n - 1) c9) (n - 1) (lb.take k ++ lb.drop (k + 1)) → wpList Try.prog ops Q rest (a.put o.dst (.slice A9 (n - 1) c9)) w9) :
    wpList Try.prog ops Q (o :: rest) a W := by
  have hl : lb.length = n := by have := h.ot.1; rw [length_ints, length_flat3] at this; omega
  have pre : W.ownsRow w.heap.size 41 3 (.slice (some ⟨q, 0, none⟩) k c) k (ints (flat3 (lb.take k))) ∧ k ≤ c := by
    rcases h.ot.2 with ⟨h1, _⟩ | ⟨q', cap, cur, h1, hq, hh, hc, hm, hs, ht⟩
    · cases h1
    · injection h1 with h1 _ h3
      injection h1 with h1
      injection h1 with h1
      subst h1 h3
      refine ⟨⟨by rw [length_ints, length_flat3, List.length_take]; omega, .inr ⟨q, c, cur, rfl, hq, hh, by omega, hm, hs, ?_⟩⟩, by omega⟩
      have e : (cur.toList.take (n * 3)).take (k * 3) = cur.toList.take (k * 3) := by rw [List.take_take, Nat.min_eq_left (by omega)]
      rw [← e, ht, flat3_split lb k, ints_append, List.take_append_of_le_length (by rw [length_ints, length_flat3, List.length_take]; omega), List.take_of_length_le (by rw [length_ints, length_flat3, List.length_take]; omega)]
  by_cases h0 : m = 0
  · subst h0
    have hkn : k = n - 1 := by omega
    have hd : lb.drop (k + 1) = [] := List.drop_eq_nil_of_le (by omega)
    have b1 : One w (W.setCell ⟨gb, 1, none⟩ (.slice (some ⟨q, 0, none⟩) k c)) gb K (.slice (some ⟨q, 0, none⟩) k c) k (lb.take k ++ lb.drop (k + 1)) := by
      rw [hd, List.append_nil]
      exact ⟨h.below.setCell (p := ⟨gb, 1, none⟩) h.wo _, by simpa using heap_set h.bx 1 (.slice (some ⟨q, 0, none⟩) k c), ownK9_set pre.1 h.bx (by decide) 1 _, h.wo⟩
    refine wpList_plain hgd fun _ hK => ?_
    have hr := run_append_none W o.type q k c c' A' pre.2
    unfold Oper.wp execOp
    simp only [ho, resolve, invoke, builtin, Sem.run_bind, Sem.run_pure, Result.andThen_ok, List.map_toArray, List.map_cons, List.map_nil, hs, hx, hr]
    have := cont (some ⟨q, 0, none⟩) c W h.below h.bx (by rw [← hkn]; exact b1)
    rw [← hkn] at this
    exact hK _ _ this
  · have hA' := hA (by omega)
    subst hA'
    obtain ⟨i0, hi, hz0, hz1, hz2⟩ := info_parts Try.infoTri
    have hnews : ∀ j u, (ints (flat3 (lb.drop (k + 1))))[j]? = some u → W.cell? ((⟨q, (k + 1) * 3, none⟩ : Addr).add j) = some u := fun j u hj => by
      have hlt : j < (ints (flat3 (lb.drop (k + 1)))).length := by
        rcases Nat.lt_or_ge j (ints (flat3 (lb.drop (k + 1)))).length with h1 | h1
        · exact h1
        · rw [List.getElem?_eq_none h1] at hj; cases hj
      rw [length_ints, length_flat3, List.length_drop] at hlt
      have hadd : (⟨q, (k + 1) * 3, none⟩ : Addr).add j = ⟨q, (k + 1) * 3 + j, none⟩ := by simp [Addr.add]
      rw [hadd, h.ot.cellAt ((k + 1) * 3 + j) (by omega), flat3_split lb (k + 1), ints_append, List.getElem?_append_right (by rw [length_ints, length_flat3, List.length_take]; omega)]
      rw [show (k + 1) * 3 + j - (ints (flat3 (lb.take (k + 1)))).length = j by rw [length_ints, length_flat3, List.length_take]; omega]
      exact hj
    refine wpList_append_lies _ hgd s x 22 ho w.heap.size 41 i0 (.agg #[.int .i64 0, .int .i64 0, .int .i64 0]) 3 24 Try.underlying22 hi hz0 hz1 hz2 rfl (by decide) (.slice (some ⟨q, 0, none⟩) k c) k (ints (flat3 (lb.take k))) hs pre.1 ⟨q, (k + 1) * 3, none⟩ m c' (ints (flat3 (lb.drop (k + 1)))) hx (by rw [length_ints, length_flat3, List.length_drop]; omega) hnews (ints_one9 _) (by omega) (by unfold maxLen; omega) (by omega) h.below.size _ rfl ?_
    intro g9 cap9 w9 own9 gr9 _ _
    have hkm : k + m = n - 1 := by omega
    rw [hkm] at own9 ⊢
    have o9 : w9.heap[gb]? = some (.cells #[.int .i64 K, .slice (some ⟨q, 0, none⟩) n c] 24 (0, 0)) := by
      refine (gr9.block gb (heap_lt h.bx) (fun e => ?_)).trans h.bx
      have e : some gb = some q := e
      injection e with e
      subst e
      obtain ⟨q', e, _, cs, hh⟩ := own_at9 h.ot (by omega)
      injection e with e
      injection e with e
      subst e
      have hb := h.bx
      rw [hb] at hh
      injection hh with hh
      injection hh with _ hh _
      exact absurd hh (by decide)
    have b9 : Below w.heap.size w w9 := own_grown_below h.below gr9 h.below.size (fun k' hk' => (pre.1.lt k' hk').1)
    refine cont _ _ w9 b9 o9 ⟨b9.setCell (p := ⟨gb, 1, none⟩) h.wo _, by simpa using heap_set o9 1 (.slice (some ⟨g9, 0, none⟩) (n - 1) cap9), ?_, h.wo⟩
    rw [flat3_append, ints_append]
    exact ownK9_set own9 o9 (by decide) 1 _
def tv9 (t : Tr) (r : Nat) : Int := if r = 0 then t.1 else if r = 1 then t.2.1 else t.2.2
/-- Has edge r of t the other way round beside it? -/
def bkE (l : List Tr) (t : Tr) (r : Nat) : Prop := ∃ u ∈ l, hasE u (tv9 t ((r + 1) % 3)) (tv9 t r)
theorem closed_of {l : List Tr} (h : ∀ j, j < l.length → ∀ r, r < 3 → bkE l (l.getD j z3) r) : Closed l := by
  intro t ht a b hab
  obtain ⟨j, hj, e⟩ := List.getElem_of_mem ht
  have e2 : l.getD j z3 = t := by rw [← e]; simp [List.getD_eq_getElem?_getD, hj]
  have h' := h j hj
  rw [e2] at h'
  rcases hab with ⟨h1, h2⟩ | ⟨h1, h2⟩ | ⟨h1, h2⟩
  · subst h1 h2
    exact h' 0 (by omega)
  · subst h1 h2
    exact h' 1 (by omega)
  · subst h1 h2
    exact h' 2 (by omega)
theorem back_of {w x y : World} (_ : Below w.heap.size w x) (k : Below x.heap.size x y) : Below x.heap.size x y := k
def CloTold (w : World) (l : List Tr) (e : Ending) (w' : World) : Prop := ∃ b, e = .returned (.bool b) ∧ (b = true → Closed l) ∧ Below w.heap.size w w'
def Cl1 (w : World) (n : Nat) (l : List Tr) (i : Value) (wr : World) : Prop := ∃ k : Nat, k ≤ n ∧ i = .int .i64 (k : Int) ∧ Below w.heap.size w wr ∧ ∀ j, j < k → ∀ r, r < 3 → bkE l (l.getD j z3) r
def Cl2 (w : World) (l : List Tr) (x : Tr) (i : Value) (wr : World) : Prop := ∃ r : Nat, r ≤ 3 ∧ i = .int .i64 (r : Int) ∧ Below w.heap.size w wr ∧ ∀ r', r' < r → bkE l x r'
def Cl3 (w : World) (n : Nat) (l : List Tr) (x : Tr) (r : Nat) (b i : Value) (wr : World) : Prop := ∃ (j : Nat) (b' : Bool), j ≤ n ∧ i = .int .i64 (j : Int) ∧ b = .bool b' ∧ (b' = true → bkE l x r) ∧ Below w.heap.size w wr
set_option maxHeartbeats 16000000 in
set_option maxRecDepth 100000 in
theorem closed9_any (w : World) (N : Int) (A : Option Addr) (n c : Nat) (l : List Tr) (ht : T3 w A n l) (hn : n ≤ 1000000) : Calls Try.prog 21 #[.agg #[.int .i64 N, .slice A n c]] w (CloTold w l) := by
  have HL := Lib.hid ht
  obtain ⟨w1, hw1⟩ : ∃ w1, w.alloc (.cells #[.int .i64 N, .slice A n c] 24) = w1 := ⟨_, rfl⟩
  obtain ⟨g, hg⟩ : ∃ g, w.heap.size = g := ⟨_, rfl⟩
  have x1 : Bx w1 g N A n c := by rw [← hw1, ← hg]; exact Bx.made w N A n c
  have B1 := Lib.hid (show Below w.heap.size w w1 by rw [← hw1]; exact (Below.refl _ w).alloc (Nat.le_refl _) _)
  have X1 := Lib.hid x1
  have e1 := x1.c1
  clear x1 ht
  go_enter Try.func21, Try.ntmps21
  go_wp2_with fail
  clear hw1 hg
  go_loopw [12] (Cl1 w1 n l) (fun i _ => n - (intOf i).toNat)
  case atStart => exact ⟨0, Nat.zero_le _, rfl, Below.refl _ _, fun j hj => absurd hj (by omega)⟩
  case round =>
    obtain ⟨k, hk, rfl, hb, hr⟩ := hrel
    have HB := Lib.hid hb
    have HR := Lib.hid hr
    clear hb hr e1
    by_cases hlt : k < n
    · have b1 : (k : Int) < n := by omega
      obtain ⟨bA, off, rfl, hat⟩ := (HL.out.below (up2 B1.out HB.out)).2 (by omega)
      obtain ⟨c0, c1, c2⟩ := hat k hlt
      obtain ⟨x, hx⟩ : ∃ x, l.getD k z3 = x := ⟨_, rfl⟩
      rw [hx] at c0 c1 c2
      have HX := Lib.hid hx
      obtain ⟨x0, x1, x2⟩ := x
      clear hat hx
      obtain ⟨w2, hw2⟩ : ∃ w2, wr.alloc (.cells #[.int .i64 x0, .int .i64 x1, .int .i64 x2] 41) = w2 := ⟨_, rfl⟩
      have b2 : Below wr.heap.size wr w2 := by rw [← hw2]; exact (Below.refl _ wr).alloc (Nat.le_refl _) _
      obtain ⟨qx, hqx⟩ : ∃ qx, wr.heap.size = qx := ⟨_, rfl⟩
      have q0 : w2.heap[qx]? = some (.cells #[.int .i64 x0, .int .i64 x1, .int .i64 x2] 41 (0, 0)) := by rw [← hw2, ← hqx]; exact heap_alloc_new wr _
      have Q2 := Lib.hid q0
      have B2 := Lib.hid b2
      clear q0 b2
      go_wp2_with fail
      clear hw2 hqx c0 c1 c2
      go_loopw [16] (Cl2 w2 l (x0, x1, x2)) (fun i _ => 3 - (intOf i).toNat)
      case atStart => exact ⟨0, by omega, rfl, Below.refl _ _, fun j hj => absurd hj (by omega)⟩
      case round =>
        obtain ⟨r, hr, rfl, hb2, hr2⟩ := hrel
        have HB2 := Lib.hid hb2
        have HR2 := Lib.hid hr2
        clear hb2 hr2
        rcases (show r = 0 ∨ r = 1 ∨ r = 2 ∨ r = 3 by omega) with hr3 | hr3 | hr3 | hr3
        · have hri : ((r : Nat) : Int) = 0 := by omega
          rw [hri]
          have HRR := Lib.hid hr3
          clear hri hr3 hr
          have wr1 : IntKind.i64.wrap 1 = 1 := by decide
          have wr2 : IntKind.i64.wrap 2 = 2 := by decide
          have wr3 : IntKind.i64.wrap 3 = 3 := by decide
          have tm1 : Int.tmod 1 3 = 1 := by decide
          have tm2 : Int.tmod 2 3 = 2 := by decide
          have tm3 : Int.tmod 3 3 = 0 := by decide
          have e1 := (X1.out.below (up2 (up2 HB.out B2.out) HB2.out)).c1
          go_wp2_with fail
          go_loopw [6, 22] (Cl3 w2 n l (x0, x1, x2) 0) (fun _ i _ => n - (intOf i).toNat)
          case atStart => exact ⟨0, false, Nat.zero_le _, rfl, rfl, (fun h => nomatch h), HB2.out⟩
          case round =>
            obtain ⟨j, b', hj, rfl, rfl, hbk, hb3⟩ := hrel
            have HB3 := Lib.hid hb3
            have HBK := Lib.hid hbk
            clear hb3 hbk e1
            by_cases hjn : j < n
            · have b3 : (j : Int) < n := by omega
              obtain ⟨_, _, he, hat⟩ := (HL.out.below (up2 B1.out (up2 (up2 HB.out B2.out) HB3.out))).2 (by omega)
              injection he with he
              injection he with he1 he2
              subst he1 he2
              obtain ⟨c0, c1, c2⟩ := hat j hjn
              obtain ⟨u, hu⟩ : ∃ u, l.getD j z3 = u := ⟨_, rfl⟩
              have hmem : u ∈ l := by rw [← hu]; exact getD3_mem (by rw [HL.out.1]; exact hjn)
              rw [hu] at c0 c1 c2
              obtain ⟨u0, u1, u2⟩ := u
              obtain ⟨w4, hw4⟩ : ∃ w4, wr.alloc (.cells #[.int .i64 u0, .int .i64 u1, .int .i64 u2] 41) = w4 := ⟨_, rfl⟩
              have b4 : Below wr.heap.size wr w4 := by rw [← hw4]; exact (Below.refl _ wr).alloc (Nat.le_refl _) _
              obtain ⟨qu, hqu⟩ : ∃ qu, wr.heap.size = qu := ⟨_, rfl⟩
              have q0 : w4.heap[qu]? = some (.cells #[.int .i64 u0, .int .i64 u1, .int .i64 u2] 41 (0, 0)) := by rw [← hw4, ← hqu]; exact heap_alloc_new wr _
              have HB4 := Lib.hid (up2 HB3.out b4)
              have HM := Lib.hid hmem
              have HU := Lib.hid (fun W (b : Below w4.heap.size w4 W) => (show W.cell? ⟨qx, 0, none⟩ = some (.int .i64 x0) ∧ W.cell? ⟨qx, 1, none⟩ = some (.int .i64 x1) ∧ W.cell? ⟨qx, 2, none⟩ = some (.int .i64 x2) ∧ W.cell? ⟨qu, 0, none⟩ = some (.int .i64 u0) ∧ W.cell? ⟨qu, 1, none⟩ = some (.int .i64 u1) ∧ W.cell? ⟨qu, 2, none⟩ = some (.int .i64 u2) from by
                have h1 := ((up2 HB4.out b).block qx (heap_lt Q2.out)).trans Q2.out
                have h2 := (b.block qu (heap_lt q0)).trans q0
                exact ⟨by rw [cell_in h1]; rfl, by rw [cell_in h1]; rfl, by rw [cell_in h1]; rfl, by rw [cell_in h2]; rfl, by rw [cell_in h2]; rfl, by rw [cell_in h2]; rfl⟩))
              obtain ⟨e0, he0⟩ : ∃ e0, decide (hasE (u0, u1, u2) x1 x0) = e0 := ⟨_, rfl⟩
              have ke := fun W => r9edge_any W u0 u1 u2 x1 x0
              unfold DecTold at ke
              simp only [he0] at ke
              have KE := Lib.hid ke
              have HE := Lib.hid (show e0 = true → bkE l (x0, x1, x2) 0 from fun h => ⟨_, HM.out, of_decide_eq_true (he0.trans h)⟩)
              have hd := HU.out w4.drew (Reading.below ⟨1, rfl⟩)
              have bd : Below w4.heap.size w4 w4.drew := Reading.below ⟨1, rfl⟩
              clear hat hu hmem b4 q0 he0 ke
              cases b'
              · go_wp2_with fail
                refine wp_region_noPanic ?_
                refine wp_region_held_drew (S := fun w' => w'.cell? ⟨qx, 0, none⟩ = some (.int .i64 x0) ∧ w'.cell? ⟨qx, 1, none⟩ = some (.int .i64 x1) ∧ w'.cell? ⟨qx, 2, none⟩ = some (.int .i64 x2) ∧ w'.cell? ⟨qu, 0, none⟩ = some (.int .i64 u0) ∧ w'.cell? ⟨qu, 1, none⟩ = some (.int .i64 u1) ∧ w'.cell? ⟨qu, 2, none⟩ = some (.int .i64 u2)) (by kernel_rfl) hd (fun _ => ?_)
                refine wpAnyH_take (i := 0) (v := ?v0z1) rfl (by kernel_rfl) (by kernel_rfl) (by kernel_rfl) (fun _ _ _ h => h) (Or.inl ⟨by rfl, ?y0z1⟩) hd ?_
                case y0z1 => (intro w hSw; (try dsimp only at hSw); go_simp; try with_reducible rfl)
                simp only [Act.put, List.setIfInBounds_toArray, List.set_cons_zero, List.set_cons_succ, List.getElem_toArray, List.getElem_cons_zero]
                refine wpAnyH_take (i := 1) (v := ?v1z2) rfl (by kernel_rfl) (by kernel_rfl) (by kernel_rfl) (fun _ _ _ h => h) (Or.inl ⟨by rfl, ?y1z2⟩) hd ?_
                case y1z2 => (intro w hSw; (try dsimp only at hSw); go_simp; try with_reducible rfl)
                simp only [Act.put, List.setIfInBounds_toArray, List.set_cons_zero, List.set_cons_succ, List.getElem_toArray, List.getElem_cons_zero, List.getElem_cons_succ]
                refine wpAnyH_take (i := 2) (v := ?v2z3) rfl (by kernel_rfl) (by kernel_rfl) (by kernel_rfl) (fun _ _ _ h => h) (Or.inl ⟨by kernel_rfl, ?y2z3⟩) hd ?_
                case y2z3 => (intro w hSw; (try dsimp only at hSw); go_simp; try with_reducible rfl)
                simp only [Act.put, List.setIfInBounds_toArray, List.set_cons_zero, List.set_cons_succ, List.getElem_toArray, List.getElem_cons_zero, List.getElem_cons_succ]
                refine wpAnyH_take (i := 3) (v := ?v3z4) rfl (by kernel_rfl) (by kernel_rfl) (by kernel_rfl) (fun _ _ _ h => h) (Or.inl ⟨by kernel_rfl, ?y3z4⟩) hd ?_
                case y3z4 => (intro w hSw; (try dsimp only at hSw); go_simp; try with_reducible rfl)
                simp only [Act.put, List.setIfInBounds_toArray, List.set_cons_zero, List.set_cons_succ, List.getElem_toArray, List.getElem_cons_zero, List.getElem_cons_succ]
                refine wpAnyH_take (i := 4) (v := ?v4z5) rfl (by kernel_rfl) (by kernel_rfl) (by kernel_rfl) (fun _ _ _ h => h) (Or.inl ⟨by kernel_rfl, ?y4z5⟩) hd ?_
                case y4z5 => (intro w hSw; (try dsimp only at hSw); go_simp; try with_reducible rfl)
                simp only [Act.put, List.setIfInBounds_toArray, List.set_cons_zero, List.set_cons_succ, List.getElem_toArray, List.getElem_cons_zero, List.getElem_cons_succ]
                refine wpAnyH_take (i := 5) (v := ?v5z6) rfl (by kernel_rfl) (by kernel_rfl) (by kernel_rfl) (fun _ _ _ h => h) (Or.inl ⟨by kernel_rfl, ?y5z6⟩) hd ?_
                case y5z6 => (intro w hSw; (try dsimp only at hSw); go_simp; try with_reducible rfl)
                simp only [Act.put, List.setIfInBounds_toArray, List.set_cons_zero, List.set_cons_succ, List.getElem_toArray, List.getElem_cons_zero, List.getElem_cons_succ]
                refine wpAnyH_take (i := 6) (v := ?v6z7) rfl (by kernel_rfl) (by kernel_rfl) (by kernel_rfl) (fun _ _ _ h => h) (Or.inl ⟨by kernel_rfl, ?y6z7⟩) hd ?_
                case y6z7 => (intro w hSw; (try dsimp only at hSw); go_simp; try with_reducible rfl)
                simp only [Act.put, List.setIfInBounds_toArray, List.set_cons_zero, List.set_cons_succ, List.getElem_toArray, List.getElem_cons_zero, List.getElem_cons_succ]
                refine wpAnyH_take (i := 7) (v := ?v7z8) rfl (by kernel_rfl) (by kernel_rfl) (by kernel_rfl) (fun _ _ _ h => h) (Or.inl ⟨by kernel_rfl, ?y7z8⟩) hd ?_
                case y7z8 => (intro w hSw; (try dsimp only at hSw); go_simp; try with_reducible rfl)
                simp only [Act.put, List.setIfInBounds_toArray, List.set_cons_zero, List.set_cons_succ, List.getElem_toArray, List.getElem_cons_zero, List.getElem_cons_succ]
                refine wpAnyH_take (i := 8) (v := ?v8z9) rfl (by kernel_rfl) (by kernel_rfl) (by kernel_rfl) (fun _ _ _ h => h) (Or.inl ⟨by kernel_rfl, ?y8z9⟩) hd ?_
                case y8z9 => (intro w hSw; (try dsimp only at hSw); go_simp; try with_reducible rfl)
                simp only [Act.put, List.setIfInBounds_toArray, List.set_cons_zero, List.set_cons_succ, List.getElem_toArray, List.getElem_cons_zero, List.getElem_cons_succ]
                refine wpAnyH_take (i := 9) (v := ?v9z10) rfl (by kernel_rfl) (by kernel_rfl) (by kernel_rfl) (fun _ _ _ h => h) (Or.inl ⟨by kernel_rfl, ?y9z10⟩) hd ?_
                case y9z10 => (intro w hSw; (try dsimp only at hSw); go_simp; try with_reducible rfl)
                simp only [Act.put, List.setIfInBounds_toArray, List.set_cons_zero, List.set_cons_succ, List.getElem_toArray, List.getElem_cons_zero, List.getElem_cons_succ]
                refine wpAnyH_take (i := 10) (v := ?v10z11) rfl (by kernel_rfl) (by kernel_rfl) (by kernel_rfl) (fun _ _ _ h => h) (Or.inl ⟨by kernel_rfl, ?y10z11⟩) hd ?_
                case y10z11 => (intro w hSw; (try dsimp only at hSw); go_simp; try with_reducible rfl)
                simp only [Act.put, List.setIfInBounds_toArray, List.set_cons_zero, List.set_cons_succ, List.getElem_toArray, List.getElem_cons_zero, List.getElem_cons_succ]
                refine wpAnyH_ready (rs := [11]) (by kernel_rfl) (by simp) ?_
                refine AllReadyH.cons rfl (fun K hK => ?_) AllReadyH.nil
                rw [if_pos (by kernel_rfl)]
                go_wp2_with fail
                refine (KE.out _).mono ?_
                rintro e v1 ⟨rfl, b9⟩
                have d1 := up2 bd b9
                clear b9
                go_wp2_with fail
                refine hK.out _ _ (HU.out _ d1) (fun _ => ?_)
                clear hK K
                try simp only [Act.put, List.setIfInBounds_toArray, List.set_cons_zero, List.set_cons_succ, List.getElem_toArray, List.getElem_cons_zero, List.getElem_cons_succ]
                refine wpAnyH_take (i := 12) (v := ?v12z12) rfl (by kernel_rfl) (by kernel_rfl) (by kernel_rfl) (fun _ _ _ h => h) (Or.inl ⟨by rfl, ?y12z12⟩) (HU.out _ d1) ?_
                case y12z12 => (intro w hSw; (try dsimp only at hSw); go_simp; try with_reducible rfl)
                simp only [Act.put, List.setIfInBounds_toArray, List.set_cons_zero, List.set_cons_succ, List.getElem_toArray, List.getElem_cons_zero, List.getElem_cons_succ]
                refine wpAnyH_take (i := 13) (v := ?v13z13) rfl (by kernel_rfl) (by kernel_rfl) (by kernel_rfl) (fun _ _ _ h => h) (Or.inl ⟨by rfl, ?y13z13⟩) (HU.out _ d1) ?_
                case y13z13 => (intro w hSw; (try dsimp only at hSw); go_simp; try with_reducible rfl)
                simp only [Act.put, List.setIfInBounds_toArray, List.set_cons_zero, List.set_cons_succ, List.getElem_toArray, List.getElem_cons_zero, List.getElem_cons_succ]
                refine wpAnyH_done (by kernel_rfl) ?_ _
                refine NoPanic.normal ?_
                go_wp2_with fail
                exact ⟨⟨j + 1, e0, by omega, by go_num, (by cases e0 <;> rfl), HE.out, up2 HB4.out d1⟩, by simp [intOf]; omega⟩
              · go_wp2_with fail
                refine wp_region_noPanic ?_
                refine wp_region_held_drew (S := fun w' => w'.cell? ⟨qx, 0, none⟩ = some (.int .i64 x0) ∧ w'.cell? ⟨qx, 1, none⟩ = some (.int .i64 x1) ∧ w'.cell? ⟨qx, 2, none⟩ = some (.int .i64 x2) ∧ w'.cell? ⟨qu, 0, none⟩ = some (.int .i64 u0) ∧ w'.cell? ⟨qu, 1, none⟩ = some (.int .i64 u1) ∧ w'.cell? ⟨qu, 2, none⟩ = some (.int .i64 u2)) (by kernel_rfl) hd (fun _ => ?_)
                refine wpAnyH_take (i := 0) (v := ?v0z14) rfl (by kernel_rfl) (by kernel_rfl) (by kernel_rfl) (fun _ _ _ h => h) (Or.inl ⟨by rfl, ?y0z14⟩) hd ?_
                case y0z14 => (intro w hSw; (try dsimp only at hSw); go_simp; try with_reducible rfl)
                simp only [Act.put, List.setIfInBounds_toArray, List.set_cons_zero, List.set_cons_succ, List.getElem_toArray, List.getElem_cons_zero]
                refine wpAnyH_take (i := 1) (v := ?v1z15) rfl (by kernel_rfl) (by kernel_rfl) (by kernel_rfl) (fun _ _ _ h => h) (Or.inl ⟨by rfl, ?y1z15⟩) hd ?_
                case y1z15 => (intro w hSw; (try dsimp only at hSw); go_simp; try with_reducible rfl)
                simp only [Act.put, List.setIfInBounds_toArray, List.set_cons_zero, List.set_cons_succ, List.getElem_toArray, List.getElem_cons_zero, List.getElem_cons_succ]
                refine wpAnyH_take (i := 2) (v := undef) rfl (by kernel_rfl) (by kernel_rfl) (by kernel_rfl) (fun _ _ _ h => h) (Or.inr ⟨by kernel_rfl, rfl⟩) hd ?_
                simp only [Act.put, List.setIfInBounds_toArray, List.set_cons_zero, List.set_cons_succ, List.getElem_toArray, List.getElem_cons_zero, List.getElem_cons_succ]
                refine wpAnyH_take (i := 3) (v := undef) rfl (by kernel_rfl) (by kernel_rfl) (by kernel_rfl) (fun _ _ _ h => h) (Or.inr ⟨by kernel_rfl, rfl⟩) hd ?_
                simp only [Act.put, List.setIfInBounds_toArray, List.set_cons_zero, List.set_cons_succ, List.getElem_toArray, List.getElem_cons_zero, List.getElem_cons_succ]
                refine wpAnyH_take (i := 4) (v := undef) rfl (by kernel_rfl) (by kernel_rfl) (by kernel_rfl) (fun _ _ _ h => h) (Or.inr ⟨by kernel_rfl, rfl⟩) hd ?_
                simp only [Act.put, List.setIfInBounds_toArray, List.set_cons_zero, List.set_cons_succ, List.getElem_toArray, List.getElem_cons_zero, List.getElem_cons_succ]
                refine wpAnyH_take (i := 5) (v := undef) rfl (by kernel_rfl) (by kernel_rfl) (by kernel_rfl) (fun _ _ _ h => h) (Or.inr ⟨by kernel_rfl, rfl⟩) hd ?_
                simp only [Act.put, List.setIfInBounds_toArray, List.set_cons_zero, List.set_cons_succ, List.getElem_toArray, List.getElem_cons_zero, List.getElem_cons_succ]
                refine wpAnyH_take (i := 6) (v := undef) rfl (by kernel_rfl) (by kernel_rfl) (by kernel_rfl) (fun _ _ _ h => h) (Or.inr ⟨by kernel_rfl, rfl⟩) hd ?_
                simp only [Act.put, List.setIfInBounds_toArray, List.set_cons_zero, List.set_cons_succ, List.getElem_toArray, List.getElem_cons_zero, List.getElem_cons_succ]
                refine wpAnyH_take (i := 7) (v := undef) rfl (by kernel_rfl) (by kernel_rfl) (by kernel_rfl) (fun _ _ _ h => h) (Or.inr ⟨by kernel_rfl, rfl⟩) hd ?_
                simp only [Act.put, List.setIfInBounds_toArray, List.set_cons_zero, List.set_cons_succ, List.getElem_toArray, List.getElem_cons_zero, List.getElem_cons_succ]
                refine wpAnyH_take (i := 8) (v := undef) rfl (by kernel_rfl) (by kernel_rfl) (by kernel_rfl) (fun _ _ _ h => h) (Or.inr ⟨by kernel_rfl, rfl⟩) hd ?_
                simp only [Act.put, List.setIfInBounds_toArray, List.set_cons_zero, List.set_cons_succ, List.getElem_toArray, List.getElem_cons_zero, List.getElem_cons_succ]
                refine wpAnyH_take (i := 9) (v := undef) rfl (by kernel_rfl) (by kernel_rfl) (by kernel_rfl) (fun _ _ _ h => h) (Or.inr ⟨by kernel_rfl, rfl⟩) hd ?_
                simp only [Act.put, List.setIfInBounds_toArray, List.set_cons_zero, List.set_cons_succ, List.getElem_toArray, List.getElem_cons_zero, List.getElem_cons_succ]
                refine wpAnyH_take (i := 10) (v := undef) rfl (by kernel_rfl) (by kernel_rfl) (by kernel_rfl) (fun _ _ _ h => h) (Or.inr ⟨by kernel_rfl, rfl⟩) hd ?_
                simp only [Act.put, List.setIfInBounds_toArray, List.set_cons_zero, List.set_cons_succ, List.getElem_toArray, List.getElem_cons_zero, List.getElem_cons_succ]
                refine wpAnyH_take (i := 11) (v := undef) rfl (by kernel_rfl) (by kernel_rfl) (by kernel_rfl) (fun _ _ _ h => h) (Or.inr ⟨by kernel_rfl, rfl⟩) hd ?_
                simp only [Act.put, List.setIfInBounds_toArray, List.set_cons_zero, List.set_cons_succ, List.getElem_toArray, List.getElem_cons_zero, List.getElem_cons_succ]
                refine wpAnyH_take (i := 12) (v := ?v12z26) rfl (by kernel_rfl) (by kernel_rfl) (by kernel_rfl) (fun _ _ _ h => h) (Or.inl ⟨by rfl, ?y12z26⟩) hd ?_
                case y12z26 => (intro w hSw; (try dsimp only at hSw); go_simp; try with_reducible rfl)
                simp only [Act.put, List.setIfInBounds_toArray, List.set_cons_zero, List.set_cons_succ, List.getElem_toArray, List.getElem_cons_zero, List.getElem_cons_succ]
                refine wpAnyH_take (i := 13) (v := ?v13z27) rfl (by kernel_rfl) (by kernel_rfl) (by kernel_rfl) (fun _ _ _ h => h) (Or.inl ⟨by rfl, ?y13z27⟩) hd ?_
                case y13z27 => (intro w hSw; (try dsimp only at hSw); go_simp; try with_reducible rfl)
                simp only [Act.put, List.setIfInBounds_toArray, List.set_cons_zero, List.set_cons_succ, List.getElem_toArray, List.getElem_cons_zero, List.getElem_cons_succ]
                refine wpAnyH_done (by kernel_rfl) ?_ _
                refine NoPanic.normal ?_
                go_wp2_with fail
                exact ⟨⟨j + 1, true, by omega, by go_num, rfl, (fun _ => HBK.out trivial), up2 HB4.out bd⟩, by simp [intOf]; omega⟩
            · obtain rfl : j = n := by omega
              have b3 : ¬ (j : Int) < j := by omega
              cases b'
              · go_wp2_with fail
                go_ret
                exact ⟨false, rfl, (fun h => nomatch h), up2 B1.out (up2 (up2 HB.out B2.out) HB3.out)⟩
              · go_wp2_with fail
                have hrr := HRR.out
                subst hrr
                refine ⟨⟨0 + 1, by omega, rfl, HB3.out, fun r' h => ?_⟩, by simp [intOf]⟩
                rcases (show r' < 0 ∨ r' = 0 by omega) with h' | rfl
                · exact HR2.out r' h'
                · exact HBK.out rfl
        · have hri : ((r : Nat) : Int) = 1 := by omega
          rw [hri]
          have HRR := Lib.hid hr3
          clear hri hr3 hr
          have wr1 : IntKind.i64.wrap 1 = 1 := by decide
          have wr2 : IntKind.i64.wrap 2 = 2 := by decide
          have wr3 : IntKind.i64.wrap 3 = 3 := by decide
          have tm1 : Int.tmod 1 3 = 1 := by decide
          have tm2 : Int.tmod 2 3 = 2 := by decide
          have tm3 : Int.tmod 3 3 = 0 := by decide
          have e1 := (X1.out.below (up2 (up2 HB.out B2.out) HB2.out)).c1
          go_wp2_with fail
          go_loopw [6, 22] (Cl3 w2 n l (x0, x1, x2) 1) (fun _ i _ => n - (intOf i).toNat)
          case atStart => exact ⟨0, false, Nat.zero_le _, rfl, rfl, (fun h => nomatch h), HB2.out⟩
          case round =>
            obtain ⟨j, b', hj, rfl, rfl, hbk, hb3⟩ := hrel
            have HB3 := Lib.hid hb3
            have HBK := Lib.hid hbk
            clear hb3 hbk e1
            by_cases hjn : j < n
            · have b3 : (j : Int) < n := by omega
              obtain ⟨_, _, he, hat⟩ := (HL.out.below (up2 B1.out (up2 (up2 HB.out B2.out) HB3.out))).2 (by omega)
              injection he with he
              injection he with he1 he2
              subst he1 he2
              obtain ⟨c0, c1, c2⟩ := hat j hjn
              obtain ⟨u, hu⟩ : ∃ u, l.getD j z3 = u := ⟨_, rfl⟩
              have hmem : u ∈ l := by rw [← hu]; exact getD3_mem (by rw [HL.out.1]; exact hjn)
              rw [hu] at c0 c1 c2
              obtain ⟨u0, u1, u2⟩ := u
              obtain ⟨w4, hw4⟩ : ∃ w4, wr.alloc (.cells #[.int .i64 u0, .int .i64 u1, .int .i64 u2] 41) = w4 := ⟨_, rfl⟩
              have b4 : Below wr.heap.size wr w4 := by rw [← hw4]; exact (Below.refl _ wr).alloc (Nat.le_refl _) _
              obtain ⟨qu, hqu⟩ : ∃ qu, wr.heap.size = qu := ⟨_, rfl⟩
              have q0 : w4.heap[qu]? = some (.cells #[.int .i64 u0, .int .i64 u1, .int .i64 u2] 41 (0, 0)) := by rw [← hw4, ← hqu]; exact heap_alloc_new wr _
              have HB4 := Lib.hid (up2 HB3.out b4)
              have HM := Lib.hid hmem
              have HU := Lib.hid (fun W (b : Below w4.heap.size w4 W) => (show W.cell? ⟨qx, 0, none⟩ = some (.int .i64 x0) ∧ W.cell? ⟨qx, 1, none⟩ = some (.int .i64 x1) ∧ W.cell? ⟨qx, 2, none⟩ = some (.int .i64 x2) ∧ W.cell? ⟨qu, 0, none⟩ = some (.int .i64 u0) ∧ W.cell? ⟨qu, 1, none⟩ = some (.int .i64 u1) ∧ W.cell? ⟨qu, 2, none⟩ = some (.int .i64 u2) from by
                have h1 := ((up2 HB4.out b).block qx (heap_lt Q2.out)).trans Q2.out
                have h2 := (b.block qu (heap_lt q0)).trans q0
                exact ⟨by rw [cell_in h1]; rfl, by rw [cell_in h1]; rfl, by rw [cell_in h1]; rfl, by rw [cell_in h2]; rfl, by rw [cell_in h2]; rfl, by rw [cell_in h2]; rfl⟩))
              obtain ⟨e0, he0⟩ : ∃ e0, decide (hasE (u0, u1, u2) x2 x1) = e0 := ⟨_, rfl⟩
              have ke := fun W => r9edge_any W u0 u1 u2 x2 x1
              unfold DecTold at ke
              simp only [he0] at ke
              have KE := Lib.hid ke
              have HE := Lib.hid (show e0 = true → bkE l (x0, x1, x2) 1 from fun h => ⟨_, HM.out, of_decide_eq_true (he0.trans h)⟩)
              have hd := HU.out w4.drew (Reading.below ⟨1, rfl⟩)
              have bd : Below w4.heap.size w4 w4.drew := Reading.below ⟨1, rfl⟩
              clear hat hu hmem b4 q0 he0 ke
              cases b'
              · go_wp2_with fail
                refine wp_region_noPanic ?_
                refine wp_region_held_drew (S := fun w' => w'.cell? ⟨qx, 0, none⟩ = some (.int .i64 x0) ∧ w'.cell? ⟨qx, 1, none⟩ = some (.int .i64 x1) ∧ w'.cell? ⟨qx, 2, none⟩ = some (.int .i64 x2) ∧ w'.cell? ⟨qu, 0, none⟩ = some (.int .i64 u0) ∧ w'.cell? ⟨qu, 1, none⟩ = some (.int .i64 u1) ∧ w'.cell? ⟨qu, 2, none⟩ = some (.int .i64 u2)) (by kernel_rfl) hd (fun _ => ?_)
                refine wpAnyH_take (i := 0) (v := ?v0z28) rfl (by kernel_rfl) (by kernel_rfl) (by kernel_rfl) (fun _ _ _ h => h) (Or.inl ⟨by rfl, ?y0z28⟩) hd ?_
                case y0z28 => (intro w hSw; (try dsimp only at hSw); go_simp; try with_reducible rfl)
                simp only [Act.put, List.setIfInBounds_toArray, List.set_cons_zero, List.set_cons_succ, List.getElem_toArray, List.getElem_cons_zero]
                refine wpAnyH_take (i := 1) (v := ?v1z29) rfl (by kernel_rfl) (by kernel_rfl) (by kernel_rfl) (fun _ _ _ h => h) (Or.inl ⟨by rfl, ?y1z29⟩) hd ?_
                case y1z29 => (intro w hSw; (try dsimp only at hSw); go_simp; try with_reducible rfl)
                simp only [Act.put, List.setIfInBounds_toArray, List.set_cons_zero, List.set_cons_succ, List.getElem_toArray, List.getElem_cons_zero, List.getElem_cons_succ]
                refine wpAnyH_take (i := 2) (v := ?v2z30) rfl (by kernel_rfl) (by kernel_rfl) (by kernel_rfl) (fun _ _ _ h => h) (Or.inl ⟨by kernel_rfl, ?y2z30⟩) hd ?_
                case y2z30 => (intro w hSw; (try dsimp only at hSw); go_simp; try with_reducible rfl)
                simp only [Act.put, List.setIfInBounds_toArray, List.set_cons_zero, List.set_cons_succ, List.getElem_toArray, List.getElem_cons_zero, List.getElem_cons_succ]
                refine wpAnyH_take (i := 3) (v := ?v3z31) rfl (by kernel_rfl) (by kernel_rfl) (by kernel_rfl) (fun _ _ _ h => h) (Or.inl ⟨by kernel_rfl, ?y3z31⟩) hd ?_
                case y3z31 => (intro w hSw; (try dsimp only at hSw); go_simp; try with_reducible rfl)
                simp only [Act.put, List.setIfInBounds_toArray, List.set_cons_zero, List.set_cons_succ, List.getElem_toArray, List.getElem_cons_zero, List.getElem_cons_succ]
                refine wpAnyH_take (i := 4) (v := ?v4z32) rfl (by kernel_rfl) (by kernel_rfl) (by kernel_rfl) (fun _ _ _ h => h) (Or.inl ⟨by kernel_rfl, ?y4z32⟩) hd ?_
                case y4z32 => (intro w hSw; (try dsimp only at hSw); go_simp; try with_reducible rfl)
                simp only [Act.put, List.setIfInBounds_toArray, List.set_cons_zero, List.set_cons_succ, List.getElem_toArray, List.getElem_cons_zero, List.getElem_cons_succ]
                refine wpAnyH_take (i := 5) (v := ?v5z33) rfl (by kernel_rfl) (by kernel_rfl) (by kernel_rfl) (fun _ _ _ h => h) (Or.inl ⟨by kernel_rfl, ?y5z33⟩) hd ?_
                case y5z33 => (intro w hSw; (try dsimp only at hSw); go_simp; try with_reducible rfl)
                simp only [Act.put, List.setIfInBounds_toArray, List.set_cons_zero, List.set_cons_succ, List.getElem_toArray, List.getElem_cons_zero, List.getElem_cons_succ]
                refine wpAnyH_take (i := 6) (v := ?v6z34) rfl (by kernel_rfl) (by kernel_rfl) (by kernel_rfl) (fun _ _ _ h => h) (Or.inl ⟨by kernel_rfl, ?y6z34⟩) hd ?_
                case y6z34 => (intro w hSw; (try dsimp only at hSw); go_simp; try with_reducible rfl)
                simp only [Act.put, List.setIfInBounds_toArray, List.set_cons_zero, List.set_cons_succ, List.getElem_toArray, List.getElem_cons_zero, List.getElem_cons_succ]
                refine wpAnyH_take (i := 7) (v := ?v7z35) rfl (by kernel_rfl) (by kernel_rfl) (by kernel_rfl) (fun _ _ _ h => h) (Or.inl ⟨by kernel_rfl, ?y7z35⟩) hd ?_
                case y7z35 => (intro w hSw; (try dsimp only at hSw); go_simp; try with_reducible rfl)
                simp only [Act.put, List.setIfInBounds_toArray, List.set_cons_zero, List.set_cons_succ, List.getElem_toArray, List.getElem_cons_zero, List.getElem_cons_succ]
                refine wpAnyH_take (i := 8) (v := ?v8z36) rfl (by kernel_rfl) (by kernel_rfl) (by kernel_rfl) (fun _ _ _ h => h) (Or.inl ⟨by kernel_rfl, ?y8z36⟩) hd ?_
                case y8z36 => (intro w hSw; (try dsimp only at hSw); go_simp; try with_reducible rfl)
                simp only [Act.put, List.setIfInBounds_toArray, List.set_cons_zero, List.set_cons_succ, List.getElem_toArray, List.getElem_cons_zero, List.getElem_cons_succ]
                refine wpAnyH_take (i := 9) (v := ?v9z37) rfl (by kernel_rfl) (by kernel_rfl) (by kernel_rfl) (fun _ _ _ h => h) (Or.inl ⟨by kernel_rfl, ?y9z37⟩) hd ?_
                case y9z37 => (intro w hSw; (try dsimp only at hSw); go_simp; try with_reducible rfl)
                simp only [Act.put, List.setIfInBounds_toArray, List.set_cons_zero, List.set_cons_succ, List.getElem_toArray, List.getElem_cons_zero, List.getElem_cons_succ]
                refine wpAnyH_take (i := 10) (v := ?v10z38) rfl (by kernel_rfl) (by kernel_rfl) (by kernel_rfl) (fun _ _ _ h => h) (Or.inl ⟨by kernel_rfl, ?y10z38⟩) hd ?_
                case y10z38 => (intro w hSw; (try dsimp only at hSw); go_simp; try with_reducible rfl)
                simp only [Act.put, List.setIfInBounds_toArray, List.set_cons_zero, List.set_cons_succ, List.getElem_toArray, List.getElem_cons_zero, List.getElem_cons_succ]
                refine wpAnyH_ready (rs := [11]) (by kernel_rfl) (by simp) ?_
                refine AllReadyH.cons rfl (fun K hK => ?_) AllReadyH.nil
                rw [if_pos (by kernel_rfl)]
                go_wp2_with fail
                refine (KE.out _).mono ?_
                rintro e v1 ⟨rfl, b9⟩
                have d1 := up2 bd b9
                clear b9
                go_wp2_with fail
                refine hK.out _ _ (HU.out _ d1) (fun _ => ?_)
                clear hK K
                try simp only [Act.put, List.setIfInBounds_toArray, List.set_cons_zero, List.set_cons_succ, List.getElem_toArray, List.getElem_cons_zero, List.getElem_cons_succ]
                refine wpAnyH_take (i := 12) (v := ?v12z39) rfl (by kernel_rfl) (by kernel_rfl) (by kernel_rfl) (fun _ _ _ h => h) (Or.inl ⟨by rfl, ?y12z39⟩) (HU.out _ d1) ?_
                case y12z39 => (intro w hSw; (try dsimp only at hSw); go_simp; try with_reducible rfl)
                simp only [Act.put, List.setIfInBounds_toArray, List.set_cons_zero, List.set_cons_succ, List.getElem_toArray, List.getElem_cons_zero, List.getElem_cons_succ]
                refine wpAnyH_take (i := 13) (v := ?v13z40) rfl (by kernel_rfl) (by kernel_rfl) (by kernel_rfl) (fun _ _ _ h => h) (Or.inl ⟨by rfl, ?y13z40⟩) (HU.out _ d1) ?_
                case y13z40 => (intro w hSw; (try dsimp only at hSw); go_simp; try with_reducible rfl)
                simp only [Act.put, List.setIfInBounds_toArray, List.set_cons_zero, List.set_cons_succ, List.getElem_toArray, List.getElem_cons_zero, List.getElem_cons_succ]
                refine wpAnyH_done (by kernel_rfl) ?_ _
                refine NoPanic.normal ?_
                go_wp2_with fail
                exact ⟨⟨j + 1, e0, by omega, by go_num, (by cases e0 <;> rfl), HE.out, up2 HB4.out d1⟩, by simp [intOf]; omega⟩
              · go_wp2_with fail
                refine wp_region_noPanic ?_
                refine wp_region_held_drew (S := fun w' => w'.cell? ⟨qx, 0, none⟩ = some (.int .i64 x0) ∧ w'.cell? ⟨qx, 1, none⟩ = some (.int .i64 x1) ∧ w'.cell? ⟨qx, 2, none⟩ = some (.int .i64 x2) ∧ w'.cell? ⟨qu, 0, none⟩ = some (.int .i64 u0) ∧ w'.cell? ⟨qu, 1, none⟩ = some (.int .i64 u1) ∧ w'.cell? ⟨qu, 2, none⟩ = some (.int .i64 u2)) (by kernel_rfl) hd (fun _ => ?_)
                refine wpAnyH_take (i := 0) (v := ?v0z41) rfl (by kernel_rfl) (by kernel_rfl) (by kernel_rfl) (fun _ _ _ h => h) (Or.inl ⟨by rfl, ?y0z41⟩) hd ?_
                case y0z41 => (intro w hSw; (try dsimp only at hSw); go_simp; try with_reducible rfl)
                simp only [Act.put, List.setIfInBounds_toArray, List.set_cons_zero, List.set_cons_succ, List.getElem_toArray, List.getElem_cons_zero]
                refine wpAnyH_take (i := 1) (v := ?v1z42) rfl (by kernel_rfl) (by kernel_rfl) (by kernel_rfl) (fun _ _ _ h => h) (Or.inl ⟨by rfl, ?y1z42⟩) hd ?_
                case y1z42 => (intro w hSw; (try dsimp only at hSw); go_simp; try with_reducible rfl)
                simp only [Act.put, List.setIfInBounds_toArray, List.set_cons_zero, List.set_cons_succ, List.getElem_toArray, List.getElem_cons_zero, List.getElem_cons_succ]
                refine wpAnyH_take (i := 2) (v := undef) rfl (by kernel_rfl) (by kernel_rfl) (by kernel_rfl) (fun _ _ _ h => h) (Or.inr ⟨by kernel_rfl, rfl⟩) hd ?_
                simp only [Act.put, List.setIfInBounds_toArray, List.set_cons_zero, List.set_cons_succ, List.getElem_toArray, List.getElem_cons_zero, List.getElem_cons_succ]
                refine wpAnyH_take (i := 3) (v := undef) rfl (by kernel_rfl) (by kernel_rfl) (by kernel_rfl) (fun _ _ _ h => h) (Or.inr ⟨by kernel_rfl, rfl⟩) hd ?_
                simp only [Act.put, List.setIfInBounds_toArray, List.set_cons_zero, List.set_cons_succ, List.getElem_toArray, List.getElem_cons_zero, List.getElem_cons_succ]
                refine wpAnyH_take (i := 4) (v := undef) rfl (by kernel_rfl) (by kernel_rfl) (by kernel_rfl) (fun _ _ _ h => h) (Or.inr ⟨by kernel_rfl, rfl⟩) hd ?_
                simp only [Act.put, List.setIfInBounds_toArray, List.set_cons_zero, List.set_cons_succ, List.getElem_toArray, List.getElem_cons_zero, List.getElem_cons_succ]
                refine wpAnyH_take (i := 5) (v := undef) rfl (by kernel_rfl) (by kernel_rfl) (by kernel_rfl) (fun _ _ _ h => h) (Or.inr ⟨by kernel_rfl, rfl⟩) hd ?_
                simp only [Act.put, List.setIfInBounds_toArray, List.set_cons_zero, List.set_cons_succ, List.getElem_toArray, List.getElem_cons_zero, List.getElem_cons_succ]
                refine wpAnyH_take (i := 6) (v := undef) rfl (by kernel_rfl) (by kernel_rfl) (by kernel_rfl) (fun _ _ _ h => h) (Or.inr ⟨by kernel_rfl, rfl⟩) hd ?_
                simp only [Act.put, List.setIfInBounds_toArray, List.set_cons_zero, List.set_cons_succ, List.getElem_toArray, List.getElem_cons_zero, List.getElem_cons_succ]
                refine wpAnyH_take (i := 7) (v := undef) rfl (by kernel_rfl) (by kernel_rfl) (by kernel_rfl) (fun _ _ _ h => h) (Or.inr ⟨by kernel_rfl, rfl⟩) hd ?_
                simp only [Act.put, List.setIfInBounds_toArray, List.set_cons_zero, List.set_cons_succ, List.getElem_toArray, List.getElem_cons_zero, List.getElem_cons_succ]
                refine wpAnyH_take (i := 8) (v := undef) rfl (by kernel_rfl) (by kernel_rfl) (by kernel_rfl) (fun _ _ _ h => h) (Or.inr ⟨by kernel_rfl, rfl⟩) hd ?_
                simp only [Act.put, List.setIfInBounds_toArray, List.set_cons_zero, List.set_cons_succ, List.getElem_toArray, List.getElem_cons_zero, List.getElem_cons_succ]
                refine wpAnyH_take (i := 9) (v := undef) rfl (by kernel_rfl) (by kernel_rfl) (by kernel_rfl) (fun _ _ _ h => h) (Or.inr ⟨by kernel_rfl, rfl⟩) hd ?_
                simp only [Act.put, List.setIfInBounds_toArray, List.set_cons_zero, List.set_cons_succ, List.getElem_toArray, List.getElem_cons_zero, List.getElem_cons_succ]
                refine wpAnyH_take (i := 10) (v := undef) rfl (by kernel_rfl) (by kernel_rfl) (by kernel_rfl) (fun _ _ _ h => h) (Or.inr ⟨by kernel_rfl, rfl⟩) hd ?_
                simp only [Act.put, List.setIfInBounds_toArray, List.set_cons_zero, List.set_cons_succ, List.getElem_toArray, List.getElem_cons_zero, List.getElem_cons_succ]
                refine wpAnyH_take (i := 11) (v := undef) rfl (by kernel_rfl) (by kernel_rfl) (by kernel_rfl) (fun _ _ _ h => h) (Or.inr ⟨by kernel_rfl, rfl⟩) hd ?_
                simp only [Act.put, List.setIfInBounds_toArray, List.set_cons_zero, List.set_cons_succ, List.getElem_toArray, List.getElem_cons_zero, List.getElem_cons_succ]
                refine wpAnyH_take (i := 12) (v := ?v12z53) rfl (by kernel_rfl) (by kernel_rfl) (by kernel_rfl) (fun _ _ _ h => h) (Or.inl ⟨by rfl, ?y12z53⟩) hd ?_
                case y12z53 => (intro w hSw; (try dsimp only at hSw); go_simp; try with_reducible rfl)
                simp only [Act.put, List.setIfInBounds_toArray, List.set_cons_zero, List.set_cons_succ, List.getElem_toArray, List.getElem_cons_zero, List.getElem_cons_succ]
                refine wpAnyH_take (i := 13) (v := ?v13z54) rfl (by kernel_rfl) (by kernel_rfl) (by kernel_rfl) (fun _ _ _ h => h) (Or.inl ⟨by rfl, ?y13z54⟩) hd ?_
                case y13z54 => (intro w hSw; (try dsimp only at hSw); go_simp; try with_reducible rfl)
                simp only [Act.put, List.setIfInBounds_toArray, List.set_cons_zero, List.set_cons_succ, List.getElem_toArray, List.getElem_cons_zero, List.getElem_cons_succ]
                refine wpAnyH_done (by kernel_rfl) ?_ _
                refine NoPanic.normal ?_
                go_wp2_with fail
                exact ⟨⟨j + 1, true, by omega, by go_num, rfl, (fun _ => HBK.out trivial), up2 HB4.out bd⟩, by simp [intOf]; omega⟩
            · obtain rfl : j = n := by omega
              have b3 : ¬ (j : Int) < j := by omega
              cases b'
              · go_wp2_with fail
                go_ret
                exact ⟨false, rfl, (fun h => nomatch h), up2 B1.out (up2 (up2 HB.out B2.out) HB3.out)⟩
              · go_wp2_with fail
                have hrr := HRR.out
                subst hrr
                refine ⟨⟨1 + 1, by omega, rfl, HB3.out, fun r' h => ?_⟩, by simp [intOf]⟩
                rcases (show r' < 1 ∨ r' = 1 by omega) with h' | rfl
                · exact HR2.out r' h'
                · exact HBK.out rfl
        · have hri : ((r : Nat) : Int) = 2 := by omega
          rw [hri]
          have HRR := Lib.hid hr3
          clear hri hr3 hr
          have wr1 : IntKind.i64.wrap 1 = 1 := by decide
          have wr2 : IntKind.i64.wrap 2 = 2 := by decide
          have wr3 : IntKind.i64.wrap 3 = 3 := by decide
          have tm1 : Int.tmod 1 3 = 1 := by decide
          have tm2 : Int.tmod 2 3 = 2 := by decide
          have tm3 : Int.tmod 3 3 = 0 := by decide
          have e1 := (X1.out.below (up2 (up2 HB.out B2.out) HB2.out)).c1
          go_wp2_with fail
          go_loopw [6, 22] (Cl3 w2 n l (x0, x1, x2) 2) (fun _ i _ => n - (intOf i).toNat)
          case atStart => exact ⟨0, false, Nat.zero_le _, rfl, rfl, (fun h => nomatch h), HB2.out⟩
          case round =>
            obtain ⟨j, b', hj, rfl, rfl, hbk, hb3⟩ := hrel
            have HB3 := Lib.hid hb3
            have HBK := Lib.hid hbk
            clear hb3 hbk e1
            by_cases hjn : j < n
            · have b3 : (j : Int) < n := by omega
              obtain ⟨_, _, he, hat⟩ := (HL.out.below (up2 B1.out (up2 (up2 HB.out B2.out) HB3.out))).2 (by omega)
              injection he with he
              injection he with he1 he2
              subst he1 he2
              obtain ⟨c0, c1, c2⟩ := hat j hjn
              obtain ⟨u, hu⟩ : ∃ u, l.getD j z3 = u := ⟨_, rfl⟩
              have hmem : u ∈ l := by rw [← hu]; exact getD3_mem (by rw [HL.out.1]; exact hjn)
              rw [hu] at c0 c1 c2
              obtain ⟨u0, u1, u2⟩ := u
              obtain ⟨w4, hw4⟩ : ∃ w4, wr.alloc (.cells #[.int .i64 u0, .int .i64 u1, .int .i64 u2] 41) = w4 := ⟨_, rfl⟩
              have b4 : Below wr.heap.size wr w4 := by rw [← hw4]; exact (Below.refl _ wr).alloc (Nat.le_refl _) _
              obtain ⟨qu, hqu⟩ : ∃ qu, wr.heap.size = qu := ⟨_, rfl⟩
              have q0 : w4.heap[qu]? = some (.cells #[.int .i64 u0, .int .i64 u1, .int .i64 u2] 41 (0, 0)) := by rw [← hw4, ← hqu]; exact heap_alloc_new wr _
              have HB4 := Lib.hid (up2 HB3.out b4)
              have HM := Lib.hid hmem
              have HU := Lib.hid (fun W (b : Below w4.heap.size w4 W) => (show W.cell? ⟨qx, 0, none⟩ = some (.int .i64 x0) ∧ W.cell? ⟨qx, 1, none⟩ = some (.int .i64 x1) ∧ W.cell? ⟨qx, 2, none⟩ = some (.int .i64 x2) ∧ W.cell? ⟨qu, 0, none⟩ = some (.int .i64 u0) ∧ W.cell? ⟨qu, 1, none⟩ = some (.int .i64 u1) ∧ W.cell? ⟨qu, 2, none⟩ = some (.int .i64 u2) from by
                have h1 := ((up2 HB4.out b).block qx (heap_lt Q2.out)).trans Q2.out
                have h2 := (b.block qu (heap_lt q0)).trans q0
                exact ⟨by rw [cell_in h1]; rfl, by rw [cell_in h1]; rfl, by rw [cell_in h1]; rfl, by rw [cell_in h2]; rfl, by rw [cell_in h2]; rfl, by rw [cell_in h2]; rfl⟩))
              obtain ⟨e0, he0⟩ : ∃ e0, decide (hasE (u0, u1, u2) x0 x2) = e0 := ⟨_, rfl⟩
              have ke := fun W => r9edge_any W u0 u1 u2 x0 x2
              unfold DecTold at ke
              simp only [he0] at ke
              have KE := Lib.hid ke
              have HE := Lib.hid (show e0 = true → bkE l (x0, x1, x2) 2 from fun h => ⟨_, HM.out, of_decide_eq_true (he0.trans h)⟩)
              have hd := HU.out w4.drew (Reading.below ⟨1, rfl⟩)
              have bd : Below w4.heap.size w4 w4.drew := Reading.below ⟨1, rfl⟩
              clear hat hu hmem b4 q0 he0 ke
              cases b'
              · go_wp2_with fail
                refine wp_region_noPanic ?_
                refine wp_region_held_drew (S := fun w' => w'.cell? ⟨qx, 0, none⟩ = some (.int .i64 x0) ∧ w'.cell? ⟨qx, 1, none⟩ = some (.int .i64 x1) ∧ w'.cell? ⟨qx, 2, none⟩ = some (.int .i64 x2) ∧ w'.cell? ⟨qu, 0, none⟩ = some (.int .i64 u0) ∧ w'.cell? ⟨qu, 1, none⟩ = some (.int .i64 u1) ∧ w'.cell? ⟨qu, 2, none⟩ = some (.int .i64 u2)) (by kernel_rfl) hd (fun _ => ?_)
                refine wpAnyH_take (i := 0) (v := ?v0z55) rfl (by kernel_rfl) (by kernel_rfl) (by kernel_rfl) (fun _ _ _ h => h) (Or.inl ⟨by rfl, ?y0z55⟩) hd ?_
                case y0z55 => (intro w hSw; (try dsimp only at hSw); go_simp; try with_reducible rfl)
                simp only [Act.put, List.setIfInBounds_toArray, List.set_cons_zero, List.set_cons_succ, List.getElem_toArray, List.getElem_cons_zero]
                refine wpAnyH_take (i := 1) (v := ?v1z56) rfl (by kernel_rfl) (by kernel_rfl) (by kernel_rfl) (fun _ _ _ h => h) (Or.inl ⟨by rfl, ?y1z56⟩) hd ?_
                case y1z56 => (intro w hSw; (try dsimp only at hSw); go_simp; try with_reducible rfl)
                simp only [Act.put, List.setIfInBounds_toArray, List.set_cons_zero, List.set_cons_succ, List.getElem_toArray, List.getElem_cons_zero, List.getElem_cons_succ]
                refine wpAnyH_take (i := 2) (v := ?v2z57) rfl (by kernel_rfl) (by kernel_rfl) (by kernel_rfl) (fun _ _ _ h => h) (Or.inl ⟨by kernel_rfl, ?y2z57⟩) hd ?_
                case y2z57 => (intro w hSw; (try dsimp only at hSw); go_simp; try with_reducible rfl)
                simp only [Act.put, List.setIfInBounds_toArray, List.set_cons_zero, List.set_cons_succ, List.getElem_toArray, List.getElem_cons_zero, List.getElem_cons_succ]
                refine wpAnyH_take (i := 3) (v := ?v3z58) rfl (by kernel_rfl) (by kernel_rfl) (by kernel_rfl) (fun _ _ _ h => h) (Or.inl ⟨by kernel_rfl, ?y3z58⟩) hd ?_
                case y3z58 => (intro w hSw; (try dsimp only at hSw); go_simp; try with_reducible rfl)
                simp only [Act.put, List.setIfInBounds_toArray, List.set_cons_zero, List.set_cons_succ, List.getElem_toArray, List.getElem_cons_zero, List.getElem_cons_succ]
                refine wpAnyH_take (i := 4) (v := ?v4z59) rfl (by kernel_rfl) (by kernel_rfl) (by kernel_rfl) (fun _ _ _ h => h) (Or.inl ⟨by kernel_rfl, ?y4z59⟩) hd ?_
                case y4z59 => (intro w hSw; (try dsimp only at hSw); go_simp; try with_reducible rfl)
                simp only [Act.put, List.setIfInBounds_toArray, List.set_cons_zero, List.set_cons_succ, List.getElem_toArray, List.getElem_cons_zero, List.getElem_cons_succ]
                refine wpAnyH_take (i := 5) (v := ?v5z60) rfl (by kernel_rfl) (by kernel_rfl) (by kernel_rfl) (fun _ _ _ h => h) (Or.inl ⟨by kernel_rfl, ?y5z60⟩) hd ?_
                case y5z60 => (intro w hSw; (try dsimp only at hSw); go_simp; try with_reducible rfl)
                simp only [Act.put, List.setIfInBounds_toArray, List.set_cons_zero, List.set_cons_succ, List.getElem_toArray, List.getElem_cons_zero, List.getElem_cons_succ]
                refine wpAnyH_take (i := 6) (v := ?v6z61) rfl (by kernel_rfl) (by kernel_rfl) (by kernel_rfl) (fun _ _ _ h => h) (Or.inl ⟨by kernel_rfl, ?y6z61⟩) hd ?_
                case y6z61 => (intro w hSw; (try dsimp only at hSw); go_simp; try with_reducible rfl)
                simp only [Act.put, List.setIfInBounds_toArray, List.set_cons_zero, List.set_cons_succ, List.getElem_toArray, List.getElem_cons_zero, List.getElem_cons_succ]
                refine wpAnyH_take (i := 7) (v := ?v7z62) rfl (by kernel_rfl) (by kernel_rfl) (by kernel_rfl) (fun _ _ _ h => h) (Or.inl ⟨by kernel_rfl, ?y7z62⟩) hd ?_
                case y7z62 => (intro w hSw; (try dsimp only at hSw); go_simp; try with_reducible rfl)
                simp only [Act.put, List.setIfInBounds_toArray, List.set_cons_zero, List.set_cons_succ, List.getElem_toArray, List.getElem_cons_zero, List.getElem_cons_succ]
                refine wpAnyH_take (i := 8) (v := ?v8z63) rfl (by kernel_rfl) (by kernel_rfl) (by kernel_rfl) (fun _ _ _ h => h) (Or.inl ⟨by kernel_rfl, ?y8z63⟩) hd ?_
                case y8z63 => (intro w hSw; (try dsimp only at hSw); go_simp; try with_reducible rfl)
                simp only [Act.put, List.setIfInBounds_toArray, List.set_cons_zero, List.set_cons_succ, List.getElem_toArray, List.getElem_cons_zero, List.getElem_cons_succ]
                refine wpAnyH_take (i := 9) (v := ?v9z64) rfl (by kernel_rfl) (by kernel_rfl) (by kernel_rfl) (fun _ _ _ h => h) (Or.inl ⟨by kernel_rfl, ?y9z64⟩) hd ?_
                case y9z64 => (intro w hSw; (try dsimp only at hSw); go_simp; try with_reducible rfl)
                simp only [Act.put, List.setIfInBounds_toArray, List.set_cons_zero, List.set_cons_succ, List.getElem_toArray, List.getElem_cons_zero, List.getElem_cons_succ]
                refine wpAnyH_take (i := 10) (v := ?v10z65) rfl (by kernel_rfl) (by kernel_rfl) (by kernel_rfl) (fun _ _ _ h => h) (Or.inl ⟨by kernel_rfl, ?y10z65⟩) hd ?_
                case y10z65 => (intro w hSw; (try dsimp only at hSw); go_simp; try with_reducible rfl)
                simp only [Act.put, List.setIfInBounds_toArray, List.set_cons_zero, List.set_cons_succ, List.getElem_toArray, List.getElem_cons_zero, List.getElem_cons_succ]
                refine wpAnyH_ready (rs := [11]) (by kernel_rfl) (by simp) ?_
                refine AllReadyH.cons rfl (fun K hK => ?_) AllReadyH.nil
                rw [if_pos (by kernel_rfl)]
                go_wp2_with fail
                refine (KE.out _).mono ?_
                rintro e v1 ⟨rfl, b9⟩
                have d1 := up2 bd b9
                clear b9
                go_wp2_with fail
                refine hK.out _ _ (HU.out _ d1) (fun _ => ?_)
                clear hK K
                try simp only [Act.put, List.setIfInBounds_toArray, List.set_cons_zero, List.set_cons_succ, List.getElem_toArray, List.getElem_cons_zero, List.getElem_cons_succ]
                refine wpAnyH_take (i := 12) (v := ?v12z66) rfl (by kernel_rfl) (by kernel_rfl) (by kernel_rfl) (fun _ _ _ h => h) (Or.inl ⟨by rfl, ?y12z66⟩) (HU.out _ d1) ?_
                case y12z66 => (intro w hSw; (try dsimp only at hSw); go_simp; try with_reducible rfl)
                simp only [Act.put, List.setIfInBounds_toArray, List.set_cons_zero, List.set_cons_succ, List.getElem_toArray, List.getElem_cons_zero, List.getElem_cons_succ]
                refine wpAnyH_take (i := 13) (v := ?v13z67) rfl (by kernel_rfl) (by kernel_rfl) (by kernel_rfl) (fun _ _ _ h => h) (Or.inl ⟨by rfl, ?y13z67⟩) (HU.out _ d1) ?_
                case y13z67 => (intro w hSw; (try dsimp only at hSw); go_simp; try with_reducible rfl)
                simp only [Act.put, List.setIfInBounds_toArray, List.set_cons_zero, List.set_cons_succ, List.getElem_toArray, List.getElem_cons_zero, List.getElem_cons_succ]
                refine wpAnyH_done (by kernel_rfl) ?_ _
                refine NoPanic.normal ?_
                go_wp2_with fail
                exact ⟨⟨j + 1, e0, by omega, by go_num, (by cases e0 <;> rfl), HE.out, up2 HB4.out d1⟩, by simp [intOf]; omega⟩
              · go_wp2_with fail
                refine wp_region_noPanic ?_
                refine wp_region_held_drew (S := fun w' => w'.cell? ⟨qx, 0, none⟩ = some (.int .i64 x0) ∧ w'.cell? ⟨qx, 1, none⟩ = some (.int .i64 x1) ∧ w'.cell? ⟨qx, 2, none⟩ = some (.int .i64 x2) ∧ w'.cell? ⟨qu, 0, none⟩ = some (.int .i64 u0) ∧ w'.cell? ⟨qu, 1, none⟩ = some (.int .i64 u1) ∧ w'.cell? ⟨qu, 2, none⟩ = some (.int .i64 u2)) (by kernel_rfl) hd (fun _ => ?_)
                refine wpAnyH_take (i := 0) (v := ?v0z68) rfl (by kernel_rfl) (by kernel_rfl) (by kernel_rfl) (fun _ _ _ h => h) (Or.inl ⟨by rfl, ?y0z68⟩) hd ?_
                case y0z68 => (intro w hSw; (try dsimp only at hSw); go_simp; try with_reducible rfl)
                simp only [Act.put, List.setIfInBounds_toArray, List.set_cons_zero, List.set_cons_succ, List.getElem_toArray, List.getElem_cons_zero]
                refine wpAnyH_take (i := 1) (v := ?v1z69) rfl (by kernel_rfl) (by kernel_rfl) (by kernel_rfl) (fun _ _ _ h => h) (Or.inl ⟨by rfl, ?y1z69⟩) hd ?_
                case y1z69 => (intro w hSw; (try dsimp only at hSw); go_simp; try with_reducible rfl)
                simp only [Act.put, List.setIfInBounds_toArray, List.set_cons_zero, List.set_cons_succ, List.getElem_toArray, List.getElem_cons_zero, List.getElem_cons_succ]
                refine wpAnyH_take (i := 2) (v := undef) rfl (by kernel_rfl) (by kernel_rfl) (by kernel_rfl) (fun _ _ _ h => h) (Or.inr ⟨by kernel_rfl, rfl⟩) hd ?_
                simp only [Act.put, List.setIfInBounds_toArray, List.set_cons_zero, List.set_cons_succ, List.getElem_toArray, List.getElem_cons_zero, List.getElem_cons_succ]
                refine wpAnyH_take (i := 3) (v := undef) rfl (by kernel_rfl) (by kernel_rfl) (by kernel_rfl) (fun _ _ _ h => h) (Or.inr ⟨by kernel_rfl, rfl⟩) hd ?_
                simp only [Act.put, List.setIfInBounds_toArray, List.set_cons_zero, List.set_cons_succ, List.getElem_toArray, List.getElem_cons_zero, List.getElem_cons_succ]
                refine wpAnyH_take (i := 4) (v := undef) rfl (by kernel_rfl) (by kernel_rfl) (by kernel_rfl) (fun _ _ _ h => h) (Or.inr ⟨by kernel_rfl, rfl⟩) hd ?_
                simp only [Act.put, List.setIfInBounds_toArray, List.set_cons_zero, List.set_cons_succ, List.getElem_toArray, List.getElem_cons_zero, List.getElem_cons_succ]
                refine wpAnyH_take (i := 5) (v := undef) rfl (by kernel_rfl) (by kernel_rfl) (by kernel_rfl) (fun _ _ _ h => h) (Or.inr ⟨by kernel_rfl, rfl⟩) hd ?_
                simp only [Act.put, List.setIfInBounds_toArray, List.set_cons_zero, List.set_cons_succ, List.getElem_toArray, List.getElem_cons_zero, List.getElem_cons_succ]
                refine wpAnyH_take (i := 6) (v := undef) rfl (by kernel_rfl) (by kernel_rfl) (by kernel_rfl) (fun _ _ _ h => h) (Or.inr ⟨by kernel_rfl, rfl⟩) hd ?_
                simp only [Act.put, List.setIfInBounds_toArray, List.set_cons_zero, List.set_cons_succ, List.getElem_toArray, List.getElem_cons_zero, List.getElem_cons_succ]
                refine wpAnyH_take (i := 7) (v := undef) rfl (by kernel_rfl) (by kernel_rfl) (by kernel_rfl) (fun _ _ _ h => h) (Or.inr ⟨by kernel_rfl, rfl⟩) hd ?_
                simp only [Act.put, List.setIfInBounds_toArray, List.set_cons_zero, List.set_cons_succ, List.getElem_toArray, List.getElem_cons_zero, List.getElem_cons_succ]
                refine wpAnyH_take (i := 8) (v := undef) rfl (by kernel_rfl) (by kernel_rfl) (by kernel_rfl) (fun _ _ _ h => h) (Or.inr ⟨by kernel_rfl, rfl⟩) hd ?_
                simp only [Act.put, List.setIfInBounds_toArray, List.set_cons_zero, List.set_cons_succ, List.getElem_toArray, List.getElem_cons_zero, List.getElem_cons_succ]
                refine wpAnyH_take (i := 9) (v := undef) rfl (by kernel_rfl) (by kernel_rfl) (by kernel_rfl) (fun _ _ _ h => h) (Or.inr ⟨by kernel_rfl, rfl⟩) hd ?_
                simp only [Act.put, List.setIfInBounds_toArray, List.set_cons_zero, List.set_cons_succ, List.getElem_toArray, List.getElem_cons_zero, List.getElem_cons_succ]
                refine wpAnyH_take (i := 10) (v := undef) rfl (by kernel_rfl) (by kernel_rfl) (by kernel_rfl) (fun _ _ _ h => h) (Or.inr ⟨by kernel_rfl, rfl⟩) hd ?_
                simp only [Act.put, List.setIfInBounds_toArray, List.set_cons_zero, List.set_cons_succ, List.getElem_toArray, List.getElem_cons_zero, List.getElem_cons_succ]
                refine wpAnyH_take (i := 11) (v := undef) rfl (by kernel_rfl) (by kernel_rfl) (by kernel_rfl) (fun _ _ _ h => h) (Or.inr ⟨by kernel_rfl, rfl⟩) hd ?_
                simp only [Act.put, List.setIfInBounds_toArray, List.set_cons_zero, List.set_cons_succ, List.getElem_toArray, List.getElem_cons_zero, List.getElem_cons_succ]
                refine wpAnyH_take (i := 12) (v := ?v12z80) rfl (by kernel_rfl) (by kernel_rfl) (by kernel_rfl) (fun _ _ _ h => h) (Or.inl ⟨by rfl, ?y12z80⟩) hd ?_
                case y12z80 => (intro w hSw; (try dsimp only at hSw); go_simp; try with_reducible rfl)
                simp only [Act.put, List.setIfInBounds_toArray, List.set_cons_zero, List.set_cons_succ, List.getElem_toArray, List.getElem_cons_zero, List.getElem_cons_succ]
                refine wpAnyH_take (i := 13) (v := ?v13z81) rfl (by kernel_rfl) (by kernel_rfl) (by kernel_rfl) (fun _ _ _ h => h) (Or.inl ⟨by rfl, ?y13z81⟩) hd ?_
                case y13z81 => (intro w hSw; (try dsimp only at hSw); go_simp; try with_reducible rfl)
                simp only [Act.put, List.setIfInBounds_toArray, List.set_cons_zero, List.set_cons_succ, List.getElem_toArray, List.getElem_cons_zero, List.getElem_cons_succ]
                refine wpAnyH_done (by kernel_rfl) ?_ _
                refine NoPanic.normal ?_
                go_wp2_with fail
                exact ⟨⟨j + 1, true, by omega, by go_num, rfl, (fun _ => HBK.out trivial), up2 HB4.out bd⟩, by simp [intOf]; omega⟩
            · obtain rfl : j = n := by omega
              have b3 : ¬ (j : Int) < j := by omega
              cases b'
              · go_wp2_with fail
                go_ret
                exact ⟨false, rfl, (fun h => nomatch h), up2 B1.out (up2 (up2 HB.out B2.out) HB3.out)⟩
              · go_wp2_with fail
                have hrr := HRR.out
                subst hrr
                refine ⟨⟨2 + 1, by omega, rfl, HB3.out, fun r' h => ?_⟩, by simp [intOf]⟩
                rcases (show r' < 2 ∨ r' = 2 by omega) with h' | rfl
                · exact HR2.out r' h'
                · exact HBK.out rfl
        · have hri : ((r : Nat) : Int) = 3 := by omega
          rw [hri]
          have HRR := Lib.hid hr3
          clear hri hr3 hr
          go_wp2_with fail
          refine ⟨⟨k + 1, by omega, by go_num, up2 (up2 HB.out B2.out) HB2.out, fun j hj => ?_⟩, by simp [intOf]; omega⟩
          rcases (show j < k ∨ j = k by omega) with h' | rfl
          · exact HR.out j h'
          · rw [HX.out]
            have h3 := HRR.out
            subst h3
            exact HR2.out
    · obtain rfl : k = n := by omega
      have b1 : ¬ (k : Int) < k := by omega
      go_wp2
      go_ret
      exact ⟨true, rfl, fun _ => closed_of (by rw [HL.out.1]; exact HR.out), up2 B1.out HB.out⟩
set_option maxHeartbeats 16000000 in
set_option maxRecDepth 100000 in
theorem walk (N : Int) (A : Option Addr) (n c : Nat) (l : List Tr) (i : Int) (w : World) (_ : -9223372036854775808 ≤ N) (_ : N ≤ 9223372036854775807) (h : T3 w A n l) (hi0 : 0 ≤ i) (hi1 : i ≤ 255) :
    Calls Try.prog 8 #[.agg #[.int .i64 N, .slice A n c], .int .u8 i] w (BoolTold9 w true) := by
  obtain ⟨p, hp⟩ := isPin_exists l
  have HL := Lib.hid h
  have HP := Lib.hid hp
  have KA := Lib.hid awake9_true
  have KG := Lib.hid (fun W => great9_any W N A n c)
  have B0 := Lib.hid ((Below.refl _ w).alloc (Nat.le_refl _) (.cells #[.int .i64 N, .slice A n c] 24))
  have X0 := Lib.hid (Bx.made w N A n c)
  clear h hp
  go_enter Try.func8, Try.ntmps8
  go_wp2_with fail
  refine (KA.out _).mono ?_
  rintro e w1 ⟨rfl, b1⟩
  have B1 := Lib.hid (up2 B0.out b1)
  have X1 := Lib.hid (X0.out.below b1)
  clear b1
  obtain ⟨g, hg⟩ : ∃ g, w.heap.size = g := ⟨_, rfl⟩
  simp only [hg]
  rw [hg] at X1
  have HG := Lib.hid hg
  clear hg
  have e0 := X1.out.c0
  have e1 := X1.out.c1
  go_wp2_with fail
  refine (KG.out _).mono ?_
  rintro e w2 ⟨rfl, b2⟩
  have B2 := Lib.hid (up2 B1.out b2)
  have X2 := Lib.hid (X1.out.below b2)
  clear b2 e0 e1
  by_cases h40 : (40 : Int) < n ∨ 40 < N
  · simp only [decide_eq_true h40]
    clear h40
    go_wp2_with fail
    refine (KA.out _).mono ?_
    rintro e w3 ⟨rfl, b3⟩
    have B3 := Lib.hid (up2 B2.out b3)
    clear b3
    go_wp2_with fail
    go_ret
    exact ⟨rfl, B3.out⟩
  simp only [decide_eq_false h40]
  have hn : n ≤ 40 := by omega
  have n1 : N ≤ 40 := by omega
  have e0 := X2.out.c0
  have e1 := X2.out.c1
  by_cases h0 : n = 0
  · have hz : ((n : Int) == 0) = true := by simp [h0]
    go_wp2_with fail
    refine (KA.out _).mono ?_
    rintro e w3 ⟨rfl, b3⟩
    have B3 := Lib.hid (up2 B2.out b3)
    clear b3
    go_wp2_with fail
    go_ret
    exact ⟨rfl, B3.out⟩
  have hz : ((n : Int) == 0) = false := by rw [beq_eq_false_iff_ne]; omega
  have KI := Lib.hid (cis_any w2 N A n c l p (HL.out.below B2.out) HP.out (by omega))
  have HW := Lib.hid (surf_iff (N := N) HP.out)
  obtain ⟨ws, hws⟩ : ∃ ws, wits p N l = ws := ⟨_, rfl⟩
  rw [hws] at KI HW
  clear hws h40
  go_wp2_with fail
  refine KI.out.mono ?_
  rintro e w3 ⟨rfl, b3⟩
  have B3 := Lib.hid (up2 B2.out b3)
  have X3 := Lib.hid (X2.out.below b3)
  clear b3 e0 e1
  cases ws with
  | cons x r =>
    simp only [List.isEmpty_cons]
    go_wp2_with fail
    refine (KA.out _).mono ?_
    rintro e w4 ⟨rfl, b4⟩
    have B4 := Lib.hid (up2 B3.out b4)
    clear b4
    go_wp2_with fail
    go_ret
    exact ⟨rfl, B4.out⟩
  | nil =>
    simp only [List.isEmpty_nil]
    have HS := Lib.hid (HW.out.1 rfl)
    have KCL := Lib.hid (closed9_any w3 N A n c l (HL.out.below B3.out) (by omega))
    have e0 := X3.out.c0
    have e1 := X3.out.c1
    go_wp2_with fail
    refine KCL.out.mono ?_
    rintro e w4 ⟨bc, rfl, hbc, b4⟩
    have B4 := Lib.hid (up2 B3.out b4)
    have X4 := Lib.hid (X3.out.below b4)
    clear b4 e0 e1
    cases bc
    · clear hbc
      go_wp2_with fail
      refine (KA.out _).mono ?_
      rintro e w5 ⟨rfl, b5⟩
      have B5 := Lib.hid (up2 B4.out b5)
      clear b5
      go_wp2_with fail
      go_ret
      exact ⟨rfl, B5.out⟩
    have HCL := Lib.hid (hbc rfl)
    clear hbc
    have n0 : 0 ≤ N := HS.out.n0
    obtain ⟨k, hk, hkn⟩ : ∃ k : Nat, i % (n : Int) = (k : Int) ∧ k < n := ⟨(i % (n : Int)).toNat, by have := Int.emod_nonneg i (show (n : Int) ≠ 0 by omega); omega, by have := Int.emod_nonneg i (show (n : Int) ≠ 0 by omega); have := Int.emod_lt_of_pos i (show (0 : Int) < n by omega); omega⟩
    have hkt : Int.tmod i (n : Int) = (k : Int) := by rw [Int.tmod_eq_emod_of_nonneg hi0]; exact hk
    have hnz : ¬ (n : Int) = 0 := by omega
    have e0 := X4.out.c0
    have e1 := X4.out.c1
    have KO := Lib.hid (own9_any w4 N A n c l (HL.out.below B4.out) (by omega))
    go_wp2_with fail
    refine KO.out.mono ?_
    rintro e w5 ⟨_, rfl, A5, c5, rfl, o5, b5⟩
    rw [HL.out.1] at o5 ⊢
    obtain ⟨q5, rfl, hq5, _⟩ := own_at9 o5 (by omega)
    have hc5 : n ≤ c5 := by
      rcases o5.2 with ⟨h1, _⟩ | ⟨q', cap, cur, h1, _, _, hc, _⟩
      · cases h1
      · injection h1 with _ _ h3
        omega
    obtain ⟨w6, hw6⟩ : ∃ w6, w5.alloc (.cells #[.int .i64 N, .slice (some ⟨q5, 0, none⟩) n c5] 24) = w6 := ⟨_, rfl⟩
    obtain ⟨gt, hgt⟩ : ∃ k, w5.heap.size = k := ⟨_, rfl⟩
    have b6 : Below w5.heap.size w5 w6 := by rw [← hw6]; exact (Below.refl _ w5).alloc (Nat.le_refl _) _
    have OT := Lib.hid (⟨up2 b5 b6, by rw [← hw6, ← hgt]; exact heap_alloc_new w5 _, ownK9_up o5 b6, by rw [← hgt]; exact b5.size⟩ : One w4 w6 gt N (.slice (some ⟨q5, 0, none⟩) n c5) n l)
    have t6 : w6.cell? ⟨gt, 1, none⟩ = some (.slice (some ⟨q5, 0, none⟩) n c5) := by rw [cell_in OT.out.bx]; rfl
    have sw : IntKind.i64.wrap ((k : Int) + 1) = (k : Int) + 1 := IntWalk.i64_in _ (by omega)
    clear o5 b5 b6 e0 e1
    go_wp2_with fail
    clear hw6 hgt
    have hk1 : (k : Int) ≤ c5 := by omega
    have hk2 : (k : Int) + 1 ≤ n := by omega
    have hk3 : 0 ≤ (k : Int) + 1 := by omega
    have hk4 : ((k : Int) + 1).toNat = k + 1 := by omega
    have OD := Lib.hid (OT.out.up (Reading.below ⟨1, rfl⟩ : Below w6.heap.size w6 w6.drew))
    go_still_tail 9, (by kernel_rfl)
    change wpList _ _ _ _ _ w6.drew
    refine OD.out.leave hkn (by omega) (by rfl) (.tmp 43) (.tmp 48) (by rfl) (by rfl) _ _ _ (by rfl) rfl (fun h => if_neg (by omega)) ?_
    intro A9 c9 w9 b9 o9 d9
    generalize (if c5 = k + 1 then (some ⟨q5, 0, none⟩ : Option Addr) else some ⟨q5, (k + 1) * 3, none⟩) = ax
    have p9 : w9.cell? ⟨gt, 1, none⟩ = some (.slice (some ⟨q5, 0, none⟩) n c5) := by rw [cell_in o9]; rfl
    have f9 := frozen_in o9 1
    obtain ⟨w10, h10⟩ : ∃ x, w9.setCell ⟨gt, 1, none⟩ (.slice A9 (n - 1) c9) = x := ⟨_, rfl⟩
    rw [h10] at d9
    have D9 := Lib.hid d9
    have X10 := Lib.hid (X4.out.below d9.below)
    have e0 := X10.out.c0
    have e1 := X10.out.c1
    clear d9 o9 b9 t6 sw hk1 hk2 hk3 hk4 KO OD OT
    have KO := Lib.hid (own9_any w10 N A n c l (HL.out.below (up2 B4.out D9.out.below)) (by omega))
    go_wp2_with fail
    clear h10 p9 f9
    refine KO.out.mono ?_
    rintro e w11 ⟨_, rfl, A11, c11, rfl, o11, b11⟩
    rw [HL.out.1] at o11 ⊢
    obtain ⟨q11, rfl, hq11, _⟩ := own_at9 o11 (by omega)
    obtain ⟨w12, hw12⟩ : ∃ w12, w11.alloc (.cells #[.int .i64 N, .slice (some ⟨q11, 0, none⟩) n c11] 24) = w12 := ⟨_, rfl⟩
    obtain ⟨gu, hgu⟩ : ∃ k, w11.heap.size = k := ⟨_, rfl⟩
    have b12 : Below w11.heap.size w11 w12 := by rw [← hw12]; exact (Below.refl _ w11).alloc (Nat.le_refl _) _
    have OU := Lib.hid (⟨up2 b11 b12, by rw [← hw12, ← hgu]; exact heap_alloc_new w11 _, ownK9_up o11 b12, by rw [← hgu]; exact b11.size⟩ : One w10 w12 gu N (.slice (some ⟨q11, 0, none⟩) n c11) n l)
    have t12 : w12.cell? ⟨gu, 1, none⟩ = some (.slice (some ⟨q11, 0, none⟩) n c11) := by rw [cell_in OU.out.bx]; rfl
    obtain ⟨bA, off, rfl, _⟩ := HL.out.2 (by omega)
    obtain ⟨x, hx⟩ : ∃ x, l.getD k z3 = x := ⟨_, rfl⟩
    have HX := Lib.hid hx
    obtain ⟨x0, x1, x2⟩ := x
    obtain ⟨_, _, he, hat⟩ := (HL.out.below (up2 B4.out (up2 D9.out.below OU.out.below))).2 (by omega)
    injection he with he
    injection he with he1 he2
    subst he1 he2
    obtain ⟨r0, r1, r2⟩ := hat k hkn
    rw [hx] at r0 r1 r2
    have e0 := (X10.out.below OU.out.below).c0
    have e1 := (X10.out.below OU.out.below).c1
    obtain ⟨v0, v1, v2, ⟨y0, z0⟩, ⟨y1, z1⟩, ⟨y2, z2⟩⟩ := own_cells9 OU.out.ot hkn
    have hkn' : (k : Int) < n := by omega
    clear hat hx o11 b11 b12
    go_wp2_with fail
    clear hw12 hgu
    go_still_tail 23, (by kernel_rfl)
    change wpList _ _ _ _ _ w12.drew
    obtain ⟨w13, h13⟩ : ∃ x, (((w12.setCell ⟨q11, k * 3, none⟩ (.int .i64 x0)).setCell ⟨q11, k * 3 + 1, none⟩ (.int .i64 x2)).setCell ⟨q11, k * 3 + 2, none⟩ (.int .i64 x1)).drew = x := ⟨_, rfl⟩
    have OV := Lib.hid (show One w10 w13 gu N (.slice (some ⟨q11, 0, none⟩) n c11) n (l.set k (x0, x2, x1)) by rw [← h13]; exact (OU.out.set3 hkn (x0, x2, x1)).up (Reading.below ⟨1, rfl⟩))
    have hll := HL.out.1
    have hsp : l = l.take k ++ (x0, x1, x2) :: l.drop (k + 1) := by
      have hkl : k < l.length := by omega
      have e : l[k] = (x0, x1, x2) := by rw [← HX.out]; simp [List.getD_eq_getElem?_getD, hkl]
      rw [← e, List.getElem_cons_drop, List.take_append_drop]
    have hset : l.set k (x0, x2, x1) = l.take k ++ mirT (x0, x1, x2) :: l.drop (k + 1) := by
      rw [List.set_eq_take_append_cons_drop, if_pos (by omega)]
      rfl
    obtain ⟨p1, hp1⟩ := isPin_exists (l.take k ++ l.drop (k + 1))
    obtain ⟨p2, hp2⟩ := isPin_exists (l.set k (x0, x2, x1))
    have hS := HS.out
    have hC := HCL.out
    rw [hsp] at hS hC
    have hw1 : wits p1 N (l.take k ++ l.drop (k + 1)) = [] := (surf_iff hp1).2 (open_mid hS hC)
    have hw2 := turn_mid hS hC (⟨p2, by rw [← hset]; exact hp2, rfl⟩ : IsAll N (l.take k ++ mirT (x0, x1, x2) :: l.drop (k + 1)) _)
    rw [← hset] at hw2
    obtain ⟨hwl, y, rr, hwy, hy1, hy2⟩ := hw2
    rw [show (l.take k).length = k by rw [List.length_take]; omega] at hy2
    obtain ⟨a0, a1, a2⟩ := y
    obtain rfl : a0 = 3 := hy1
    have hy2 : a1 = (k : Int) ∨ a2 = (k : Int) := hy2
    have BV := Lib.hid (up2 B4.out (up2 D9.out.below OV.out.below))
    have K1 := Lib.hid (fun W (b : Below w13.heap.size w13 W) => (cis_any W N A9 (n - 1) c9 _ p1 ((T3.of_own D9.out.ot).below (up2 OV.out.below b)) hp1 (by omega)).mono (R' := BoolTold9 W true) (by rintro e w' ⟨rfl, b⟩; rw [hw1]; exact ⟨rfl, b⟩))
    have K2 := Lib.hid (fun W (b : Below w13.heap.size w13 W) => (ccheck_any W N (some ⟨q11, 0, none⟩) n c11 _ p2 ((T3.of_own OV.out.ot).below b) hp2 (by omega)).mono (R' := fun e w' => e = .returned (.agg #[.int .i64 3, .int .i64 a1, .int .i64 a2]) ∧ Below W.heap.size W w') (by rintro e w' ⟨rfl, b⟩; rw [hwy]; exact ⟨rfl, b⟩))
    have K3 := Lib.hid (fun W (b : Below w13.heap.size w13 W) => (call_any W N (some ⟨q11, 0, none⟩) n c11 _ p2 ((T3.of_own OV.out.ot).below b) hp2 (by omega)).mono (R' := fun e w' => ∃ q, e = .returned (.slice (some ⟨q, 0, none⟩) 3 3) ∧ Below W.heap.size W w') (by rintro e w' ⟨q, rfl, _, b, _⟩; rw [hwl]; exact ⟨q, rfl, b⟩))
    have HM := Lib.hid (fun W (b : Below w13.heap.size w13 W) => (show W.cell? ⟨gt, 0, none⟩ = some (.int .i64 N) ∧ W.cell? ⟨gt, 1, none⟩ = some (.slice A9 (n - 1) c9) ∧ W.cell? ⟨gu, 0, none⟩ = some (.int .i64 N) ∧ W.cell? ⟨gu, 1, none⟩ = some (.slice (some ⟨q11, 0, none⟩) n c11) from by
      have d := D9.out.up (up2 OV.out.below b)
      have o := OV.out.up b
      exact ⟨by rw [cell_in d.bx]; rfl, by rw [cell_in d.bx]; rfl, by rw [cell_in o.bx]; rfl, by rw [cell_in o.bx]; rfl⟩))
    have h0 := HM.out w13 (Below.refl _ _)
    clear hll hsp hset hp1 hp2 hS hC hw1 hwl hwy HX HL OU KO D9 OV
    go_wp2_with fail
    clear h13 y0 z0 y1 z1 y2 z2 h0 e0 e1 r0 r1 r2 t12
    refine (K2.out _ (Below.refl _ _)).mono ?_
    rintro e w14 ⟨rfl, b14⟩
    obtain ⟨w15, hw15⟩ : ∃ x, w14.alloc (.cells #[.int .i64 3, .int .i64 a1, .int .i64 a2] 35) = x := ⟨_, rfl⟩
    obtain ⟨gw, hgw⟩ : ∃ k, w14.heap.size = k := ⟨_, rfl⟩
    have b15 : Below w14.heap.size w14 w15 := by rw [← hw15]; exact (Below.refl _ w14).alloc (Nat.le_refl _) _
    have q15 : w15.heap[gw]? = some (.cells #[.int .i64 3, .int .i64 a1, .int .i64 a2] 35 (0, 0)) := by rw [← hw15, ← hgw]; exact heap_alloc_new w14 _
    have B15 := Lib.hid (up2 b14 b15)
    have Q15 := Lib.hid q15
    have h0 := HM.out w15 B15.out
    clear b14 b15 q15
    go_wp2_with fail
    clear hw15 hgw h0
    refine (K1.out _ B15.out).mono ?_
    rintro e w16 ⟨rfl, b16⟩
    have q16 := (b16.block gw (heap_lt Q15.out)).trans Q15.out
    have g0 := cell_in q16 0
    have g1 := cell_in q16 1
    have g2 := cell_in q16 2
    simp only [List.getElem?_toArray, List.getElem?_cons_zero, List.getElem?_cons_succ] at g0 g1 g2
    have B16 := Lib.hid (up2 B15.out b16)
    have h0 := HM.out w16 B16.out
    have BW := Lib.hid (up2 BV.out B16.out)
    clear b16 q16
    have K4 := Lib.hid (K3.out _ B16.out)
    by_cases ha : a1 = (k : Int)
    · have hb1 : (a1 == (k : Int)) = true := by simp [ha]
      clear ha hy2
      go_wp2_with fail
      refine K4.out.mono ?_
      rintro e w17 ⟨q, rfl, b17⟩
      have B17 := Lib.hid (up2 BW.out b17)
      clear b17
      go_wp2_with fail
      go_ret
      exact ⟨rfl, B17.out⟩
    · have hb1 : (a1 == (k : Int)) = false := by rw [beq_eq_false_iff_ne]; exact ha
      have hb2 : (a2 == (k : Int)) = true := by rcases hy2 with h | h; exact absurd h ha; simp [h]
      clear ha hy2
      go_wp2_with fail
      refine K4.out.mono ?_
      rintro e w17 ⟨q, rfl, b17⟩
      have B17 := Lib.hid (up2 BW.out b17)
      clear b17
      go_wp2_with fail
      go_ret
      exact ⟨rfl, B17.out⟩
set_option maxRecDepth 100000 in
theorem lifted (os : Os) (started : os.Started) (H : Type) (enc : TypeId × Value → H) :
    ReturnsInHanded {} Try.checked os 8 .any (Rows.certifyOpenedSpec.pre6 enc Try.prog Try.f8 Rows.certifyOpenedRow.domain false) (Rows.certifyOpenedSpec.post enc Try.prog Try.f8 false true false false) := by
  refine returnsInHanded_of_change (C := Try.checked) own_knob started (by kernel_rfl) Try.func8
    (ChangeSpec.witness6 (enc := enc) (C := Try.checked) false ⟨#[], #[.agg #[.int .i64 0, .slice none 0 0], .int .u8 0], []⟩ 8 (by kernel_rfl) (by kernel_rfl) (by kernel_rfl) (by kernel_rfl)) ?_
  intro W base args ds gs before hval0 hW hcnd _
  have hval : ∀ (j : Nat) t v, Try.f8.params[j]? = some t → args[j]? = some v → Value.okWide Try.prog W .any base t v := hval0
  have hW' := hW
  obtain ⟨p, q, hA0, hV, rfl, hfz, hnd⟩ := hW
  have hA : DataW.TrodAll enc Try.prog W 0 (fun _ => true) true Try.f8.params.toList args.toList ds p := hA0
  rw [Try.params8] at hA hval
  obtain ⟨v0, vs0, d0, ds0, p0, q0, hargs, rfl, rfl, h0, r0⟩ := trodAll_cons hA
  obtain ⟨v1, vs1, d1, ds1, p1, q1, rfl, rfl, rfl, h1, r1⟩ := trodAll_cons r0
  obtain ⟨rfl, rfl, rfl⟩ := trodAll_nil r1
  obtain rfl : args = #[v0, v1] := by cases args; simp_all
  obtain ⟨rfl, rfl⟩ := trodVars_none hV
  have lt0 : ∀ x ∈ p0, x.block < W.heap.size := by obtain ⟨m, hm⟩ := h0; exact DataW.trod_lt m _ _ _ hm
  obtain ⟨N0, a0, len0, cap0, xs0, rfl, hN0, hr0⟩ := arg_soup (hval 0 24 v0 rfl rfl) h0
  obtain ⟨a1, rfl, rfl, rfl, w1⟩ := open_int Try.underlying5 (hval 1 5 v1 rfl rfl) h1
  have bd1 := bounds_u8 w1
  clear hA0 hval0
  refine (walk N0 a0 len0 cap0 xs0 a1 W hN0.1 hN0.2 hr0 (by omega) (by omega)).mono fun e W' ⟨he, bel⟩ => ?_
  subst he
  exact ⟨_, rfl, _, _, _, [], _, [], hW', trodAll_mk1 (shut_bool Try.underlying4 _), (trodAll_cons_mk (Below.trod laid_out (by kernel_rfl) (of_decide_eq_true (by kernel_rfl)) h0 bel lt0) (trodAll_cons_mk (shut_int Try.underlying5 w1) trodAll_mk0)), rfl, bel.frame _, fun h => by cases h⟩

theorem over : Rows.certifyOpenedRow.holds Try.pinned (OpenSpec.ofChange Rows.certifyOpenedSpec) :=
  OpenClaim.holds_of_wide 8 Try.f8 rfl rfl rfl rfl rfl rfl rfl ⟨rfl, rfl, rfl, rfl, rfl⟩ rfl rfl rfl rfl rfl (by kernel_rfl) Try.func8 (by kernel_rfl)
    (of_decide_eq_true (by kernel_rfl)) (by unfold Func.isWrapper; first | (rw [if_pos (by decide +kernel)]; kernel_rfl) | (rw [if_neg (by decide +kernel)]; exact ⟨rfl, rfl⟩))
    (fun os started H enc _ => lifted os started H enc)

theorem proved : Rows.CertifyOpenedSaid := over
end Go.Proofs.Ytelbmjbjpgcdaaa.certifyOpened
