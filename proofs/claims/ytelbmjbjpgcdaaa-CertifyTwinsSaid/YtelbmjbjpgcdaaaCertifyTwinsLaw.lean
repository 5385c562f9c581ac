/- CertifyTwins: a surface with a triangle of it once more, as it is, is told; with its mirror, too. No condition. -/
import Derived.Test.YtelbmjbjpgcdaaaCrAwk
import Derived.Test.YtelbmjbjpgcdaaaCerMore
import Derived.Test.YtelbmjbjpgcdaaaArgSoup
import Derived.Deep.RegionHeld3
namespace Go.Proofs.Ytelbmjbjpgcdaaa.certifyTwins
open Go.RowKit Go.ChangeShapes Go.WideShapes Go.ChangeAt

abbrev zbox : Obj := .cells #[.int .i64 0, .slice none 0 0] 24
/-- An empty soup's block, known whole. -/
def Zb (W : World) (q : Nat) : Prop := W.heap[q]? = some (.cells #[.int .i64 0, .slice none 0 0] 24 (0, 0))
theorem Zb.up {W Y : World} {q : Nat} (h : Zb W q) (b : Below W.heap.size W Y) : Zb Y q := (b.block q (heap_lt h)).trans h
theorem Zb.facts {W : World} {q : Nat} (h : Zb W q) : W.frozen? ⟨q, 0, none⟩ = false ∧ W.frozen? ⟨q, 1, none⟩ = false ∧ W.cell? ⟨q, 0, none⟩ = some (.int .i64 0) ∧ W.cell? ⟨q, 1, none⟩ = some (.slice none 0 0) := ⟨frozen_in h 0, frozen_in h 1, by rw [cell_in h]; rfl, by rw [cell_in h]; rfl⟩
theorem ownK9_up {W W' : World} {B n s : Nat} {t : TypeId} {v : Value} {xs : List Value} (h : W.ownsRow B t s v n xs) (b : Below W.heap.size W W') : W'.ownsRow B t s v n xs := by
  refine ⟨h.1, ?_⟩
  rcases h.2 with h2 | ⟨q, cap, cur, h1, hq, hh, hr⟩
  · exact .inl h2
  · exact .inr ⟨q, cap, cur, h1, hq, (b.block q (heap_lt hh)).trans hh, hr⟩
theorem ap_of {W W' : World} {B n m s : Nat} {t : TypeId} {v v' : Value} {xs ys : List Value} (h : W.ownsRow B t s v n xs) (h' : W'.ownsRow W.heap.size t s v' m ys) : ∀ q, v.ownBlock = some q → v'.ownBlock ≠ some q := by
  intro q hq e
  have h1 := (h.lt q hq).2
  have h2 := (h'.lt q e).1
  omega
/-- Two lists in memory of their own, side by side, and two boxes for them. -/
structure Pre (w W : World) (gt gm : Nat) (vt : Value) (nt : Nat) (lt : List Tr) (vm : Value) (nm : Nat) (lm : List Tr) : Prop where
  below : Below w.heap.size w W
  zt : Zb W gt
  zm : Zb W gm
  ot : W.ownsRow w.heap.size 41 3 vt nt (ints (flat3 lt))
  om : W.ownsRow w.heap.size 41 3 vm nm (ints (flat3 lm))
  wt : w.heap.size ≤ gt
  wm : w.heap.size ≤ gm
  ne : gt ≠ gm
  ap : ∀ q, vt.ownBlock = some q → vm.ownBlock ≠ some q
structure Mid (w W : World) (gt gm : Nat) (N : Int) (vt : Value) (nt : Nat) (lt : List Tr) (vm : Value) (nm : Nat) (lm : List Tr) : Prop where
  below : Below w.heap.size w W
  bt : W.heap[gt]? = some (.cells #[.int .i64 N, vt] 24 (0, 0))
  zm : Zb W gm
  ot : W.ownsRow w.heap.size 41 3 vt nt (ints (flat3 lt))
  om : W.ownsRow w.heap.size 41 3 vm nm (ints (flat3 lm))
  wt : w.heap.size ≤ gt
  wm : w.heap.size ≤ gm
  ne : gt ≠ gm
  ap : ∀ q, vt.ownBlock = some q → vm.ownBlock ≠ some q
/-- Two soups in memory of their own. -/
structure Duo (w W : World) (gt gm : Nat) (N : Int) (vt : Value) (nt : Nat) (lt : List Tr) (vm : Value) (nm : Nat) (lm : List Tr) : Prop where
  below : Below w.heap.size w W
  bt : W.heap[gt]? = some (.cells #[.int .i64 N, vt] 24 (0, 0))
  bm : W.heap[gm]? = some (.cells #[.int .i64 N, vm] 24 (0, 0))
  ot : W.ownsRow w.heap.size 41 3 vt nt (ints (flat3 lt))
  om : W.ownsRow w.heap.size 41 3 vm nm (ints (flat3 lm))
  wt : w.heap.size ≤ gt
  wm : w.heap.size ≤ gm
  ne : gt ≠ gm
  ap : ∀ q, vt.ownBlock = some q → vm.ownBlock ≠ some q
theorem own_box {W : World} {B n q : Nat} {v : Value} {xs : List Value} {cs : Array Value} (h : W.ownsRow B 41 3 v n xs) (hq : W.heap[q]? = some (.cells cs 24 (0, 0))) (a b : Value) : ((W.setCell ⟨q, 0, none⟩ a).setCell ⟨q, 1, none⟩ b).ownsRow B 41 3 v n xs :=
  ownK9_set (ownK9_set h hq (by decide) 0 a) (heap_set hq 0 a) (by decide) 1 b
theorem Pre.mid {w W : World} {gt gm : Nat} {vt : Value} {nt : Nat} {lt : List Tr} {vm : Value} {nm : Nat} {lm : List Tr} (h : Pre w W gt gm vt nt lt vm nm lm) (N : Int) : Mid w ((W.setCell ⟨gt, 0, none⟩ (.int .i64 N)).setCell ⟨gt, 1, none⟩ vt) gt gm N vt nt lt vm nm lm :=
  ⟨below_set2 h.below h.wt _ _, set2 h.zt, heap_far (heap_far h.zm (Ne.symm h.ne) _) (Ne.symm h.ne) _, own_box h.ot h.zt _ _, own_box h.om h.zt _ _, h.wt, h.wm, h.ne, h.ap⟩
theorem Mid.fin {w W : World} {gt gm : Nat} {N : Int} {vt : Value} {nt : Nat} {lt : List Tr} {vm : Value} {nm : Nat} {lm : List Tr} (h : Mid w W gt gm N vt nt lt vm nm lm) : Duo w ((W.setCell ⟨gm, 0, none⟩ (.int .i64 N)).setCell ⟨gm, 1, none⟩ vm) gt gm N vt nt lt vm nm lm :=
  ⟨below_set2 h.below h.wm _ _, heap_far (heap_far h.bt h.ne _) h.ne _, set2 h.zm, own_box h.ot h.zm _ _, own_box h.om h.zm _ _, h.wt, h.wm, h.ne, h.ap⟩
theorem below_st {B q i : Nat} {w x : World} (h : Below B w x) (hq : B ≤ q) (v : Value) : Below B w (x.setCell ⟨q, i, none⟩ v) := h.setCell (p := ⟨q, i, none⟩) hq v
theorem Duo.symm {w W : World} {gt gm : Nat} {N : Int} {vt : Value} {nt : Nat} {lt : List Tr} {vm : Value} {nm : Nat} {lm : List Tr} (h : Duo w W gt gm N vt nt lt vm nm lm) : Duo w W gm gt N vm nm lm vt nt lt :=
  ⟨h.below, h.bm, h.bt, h.om, h.ot, h.wm, h.wt, Ne.symm h.ne, fun q hq e => h.ap q e hq⟩
theorem Duo.up {w W W' : World} {gt gm : Nat} {N : Int} {vt : Value} {nt : Nat} {lt : List Tr} {vm : Value} {nm : Nat} {lm : List Tr} (h : Duo w W gt gm N vt nt lt vm nm lm) (b : Below W.heap.size W W') : Duo w W' gt gm N vt nt lt vm nm lm :=
  ⟨up2 h.below b, (b.block gt (heap_lt h.bt)).trans h.bt, (b.block gm (heap_lt h.bm)).trans h.bm, ownK9_up h.ot b, ownK9_up h.om b, h.wt, h.wm, h.ne, h.ap⟩
theorem ones9 (a b c : Int) : ∀ u ∈ [Value.int .i64 a, .int .i64 b, .int .i64 c], u.oneCell' = true := by
  intro u hu
  simp at hu
  rcases hu with rfl | rfl | rfl <;> rfl
abbrev tri9 (t : Tr) : Obj := .cells #[.int .i64 t.1, .int .i64 t.2.1, .int .i64 t.2.2] 41
theorem tri_cells9 (w : World) (t : Tr) : ∀ j u, [Value.int .i64 t.1, .int .i64 t.2.1, .int .i64 t.2.2][j]? = some u → (w.alloc (tri9 t)).cell? ((⟨w.heap.size, 0, none⟩ : Addr).add j) = some u := by
  intro j u hj
  rw [add_zero_addr, cell_in (heap_alloc_new w (tri9 t)), List.getElem?_toArray]
  exact hj
/-- append of one triangle to one of them, at a step of a region that draws its order. -/
theorem Duo.step {w wr : World} {gt gm : Nat} {N : Int} {vt : Value} {nt : Nat} {lt : List Tr} {vm : Value} {nm : Nat} {lm : List Tr} (h : Duo w wr gt gm N vt nt lt vm nm lm) (t : Tr) {ops : Array Oper} {o : Oper} {a : Act} {K : Act → World → Prop} {Q : Exit → Act → World → Prop} {E : Prop} (hgd : o.guard = none) (s x : Operand)
    (ho : o.op = .call { callee := .builtin .append, args := #[s, x], argTypes := #[22, 22] }) (hs : a.eval s = vt) (hx : a.eval x = .slice (some ⟨wr.heap.size, 0, none⟩) 1 1) (hl : nt ≤ 1000000)
    (cont : ∀ A' c' w9, Below w.heap.size w w9 → w9.heap[gt]? = some (.cells #[.int .i64 N, vt] 24 (0, 0)) → Duo w (w9.setCell ⟨gt, 1, none⟩ (.slice A' (nt + 1) c')) gt gm N (.slice A' (nt + 1) c') (nt + 1) (lt ++ [t]) vm nm lm → K (a.put o.dst (.slice A' (nt + 1) c')) w9) :
    if Region.wanted o (yielded ops a.tmps) = true then Oper.wp Try.prog o a (wr.alloc (tri9 t)) K Q else E := by
  obtain ⟨i0, hi, hz0, hz1, hz2⟩ := info_parts Try.infoTri
  have b := (Below.refl _ wr).alloc (Nat.le_refl _) (tri9 t)
  have q := h.up b
  have hlen := q.ot.1
  refine step_append_lies _ hgd s x 22 ho w.heap.size 41 i0 (.agg #[.int .i64 0, .int .i64 0, .int .i64 0]) 3 24 Try.underlying22 hi hz0 hz1 hz2 rfl (by decide) vt nt (ints (flat3 lt)) hs q.ot ⟨wr.heap.size, 0, none⟩ 1 1 [.int .i64 t.1, .int .i64 t.2.1, .int .i64 t.2.2] hx rfl (tri_cells9 wr t) (ones9 _ _ _) (by decide) (by unfold maxLen; omega) (by omega) q.below.size _ rfl ?_
  intro g9 cap9 w9 own9 gr9 hg9 _
  have far : ∀ (b : Nat) (cs : Array Value), (wr.alloc (tri9 t)).heap[b]? = some (.cells cs 24 (0, 0)) → w9.heap[b]? = some (.cells cs 24 (0, 0)) := fun b cs hb => by
    refine (gr9.block b (heap_lt hb) (fun e => ?_)).trans hb
    rcases q.ot.2 with ⟨h1, h2⟩ | ⟨q', cap, cur, h1, hq, hh, hr⟩
    · rw [h1] at e; cases e
    · rw [h1] at e
      have e : some b = some q' := e
      injection e with e
      subst e
      rw [hb] at hh
      injection hh with hh
      injection hh with _ hh _
      exact absurd hh (by decide)
  have o9 := far gt _ q.bt
  have m9 := far gm _ q.bm
  have b9 : Below w.heap.size w w9 := own_grown_below q.below gr9 q.below.size (fun k hk => (q.ot.lt k hk).1)
  have om9 : w9.ownsRow w.heap.size 41 3 vm nm (ints (flat3 lm)) := by
    refine ⟨q.om.1, ?_⟩
    rcases q.om.2 with h2 | ⟨q', cap, cur, h1, hq, hh, hr⟩
    · exact .inl h2
    · exact .inr ⟨q', cap, cur, h1, hq, (gr9.block q' (heap_lt hh) (fun e => q.ap q' e.symm (by rw [h1]; rfl))).trans hh, hr⟩
  refine cont _ _ w9 b9 o9 ⟨b9.setCell (p := ⟨gt, 1, none⟩) h.wt _, by simpa using heap_set o9 1 (.slice (some ⟨g9, 0, none⟩) (nt + 1) cap9), heap_far m9 (Ne.symm h.ne) _, ?_, ownK9_set om9 o9 (by decide) 1 _, h.wt, h.wm, h.ne, fun k hk e => ?_⟩
  · rw [flat3_append, ints_append]
    exact ownK9_set own9 o9 (by decide) 1 _
  · have hk : some g9 = some k := hk
    injection hk with hk
    subst hk
    rcases hg9 with hg | hg
    · exact q.ap g9 hg e
    · have := (q.om.lt g9 e).2
      omega
theorem Duo.stepM {w wr : World} {gt gm : Nat} {N : Int} {vt : Value} {nt : Nat} {lt : List Tr} {vm : Value} {nm : Nat} {lm : List Tr} (h : Duo w wr gt gm N vt nt lt vm nm lm) (t : Tr) {ops : Array Oper} {o : Oper} {a : Act} {K : Act → World → Prop} {Q : Exit → Act → World → Prop} {E : Prop} (hgd : o.guard = none) (s x : Operand)
    (ho : o.op = .call { callee := .builtin .append, args := #[s, x], argTypes := #[22, 22] }) (hs : a.eval s = vm) (hx : a.eval x = .slice (some ⟨wr.heap.size, 0, none⟩) 1 1) (hl : nm ≤ 1000000)
    (cont : ∀ A' c' w9, Below w.heap.size w w9 → w9.heap[gm]? = some (.cells #[.int .i64 N, vm] 24 (0, 0)) → Duo w (w9.setCell ⟨gm, 1, none⟩ (.slice A' (nm + 1) c')) gt gm N vt nt lt (.slice A' (nm + 1) c') (nm + 1) (lm ++ [t]) → K (a.put o.dst (.slice A' (nm + 1) c')) w9) :
    if Region.wanted o (yielded ops a.tmps) = true then Oper.wp Try.prog o a (wr.alloc (tri9 t)) K Q else E :=
  h.symm.step t hgd s x ho hs hx hl (fun A' c' w9 b9 o9 d9 => cont A' c' w9 b9 o9 d9.symm)
abbrev zwit : Obj := .cells #[.int .i64 0, .int .i64 0, .int .i64 0] 35
/-- An empty witness' block, known whole. -/
def Zw (W : World) (q : Nat) : Prop := W.heap[q]? = some (.cells #[.int .i64 0, .int .i64 0, .int .i64 0] 35 (0, 0))
theorem Zw.up {W Y : World} {q : Nat} (h : Zw W q) (b : Below W.heap.size W Y) : Zw Y q := (b.block q (heap_lt h)).trans h
theorem Zw.facts {W : World} {q : Nat} (h : Zw W q) : W.frozen? ⟨q, 0, none⟩ = false ∧ W.frozen? ⟨q, 1, none⟩ = false ∧ W.frozen? ⟨q, 2, none⟩ = false := ⟨frozen_in h 0, frozen_in h 1, frozen_in h 2⟩
theorem Zw.cells {W : World} {q : Nat} (h : Zw W q) : W.cell? ⟨q, 0, none⟩ = some (.int .i64 0) ∧ W.cell? ⟨q, 1, none⟩ = some (.int .i64 0) ∧ W.cell? ⟨q, 2, none⟩ = some (.int .i64 0) := ⟨by rw [cell_in h]; rfl, by rw [cell_in h]; rfl, by rw [cell_in h]; rfl⟩
structure PreW (w W : World) (g1 g2 : Nat) : Prop where
  below : Below w.heap.size w W
  z1 : Zw W g1
  z2 : Zw W g2
  w1 : w.heap.size ≤ g1
  w2 : w.heap.size ≤ g2
  ne : g1 ≠ g2
structure MidW (w W : World) (g1 g2 : Nat) (a b c : Int) : Prop where
  below : Below w.heap.size w W
  h1 : W.heap[g1]? = some (.cells #[.int .i64 a, .int .i64 b, .int .i64 c] 35 (0, 0))
  z2 : Zw W g2
  w1 : w.heap.size ≤ g1
  w2 : w.heap.size ≤ g2
  ne : g1 ≠ g2
structure FinW (w W : World) (g1 g2 : Nat) (a b c x y z : Int) : Prop where
  below : Below w.heap.size w W
  h1 : W.heap[g1]? = some (.cells #[.int .i64 a, .int .i64 b, .int .i64 c] 35 (0, 0))
  h2 : W.heap[g2]? = some (.cells #[.int .i64 x, .int .i64 y, .int .i64 z] 35 (0, 0))
theorem PreW.mid {w W : World} {g1 g2 : Nat} (h : PreW w W g1 g2) (a b c : Int) : MidW w (((W.setCell ⟨g1, 0, none⟩ (.int .i64 a)).setCell ⟨g1, 1, none⟩ (.int .i64 b)).setCell ⟨g1, 2, none⟩ (.int .i64 c)) g1 g2 a b c :=
  ⟨below_set3 h.below h.w1 _ _ _, set3 h.z1, heap_far (heap_far (heap_far h.z2 (Ne.symm h.ne) _) (Ne.symm h.ne) _) (Ne.symm h.ne) _, h.w1, h.w2, h.ne⟩
theorem MidW.fin {w W : World} {g1 g2 : Nat} {a b c : Int} (h : MidW w W g1 g2 a b c) (x y z : Int) : FinW w (((W.setCell ⟨g2, 0, none⟩ (.int .i64 x)).setCell ⟨g2, 1, none⟩ (.int .i64 y)).setCell ⟨g2, 2, none⟩ (.int .i64 z)) g1 g2 a b c x y z :=
  ⟨below_set3 h.below h.w2 _ _ _, heap_far (heap_far (heap_far h.h1 h.ne _) h.ne _) h.ne _, set3 h.z2⟩
def Own2A (w : World) (N : Int) (gt gm nt : Nat) (lt : List Tr) (nm : Nat) (lm : List Tr) (t m : Value) (W : World) : Prop := ∃ At ct Am cm, t = .pointer (some ⟨gt, 0, none⟩) ∧ m = .pointer (some ⟨gm, 0, none⟩) ∧ Duo w W gt gm N (.slice At nt ct) nt lt (.slice Am nm cm) nm lm
def Chk2 (w : World) (a b c x y z : Int) (u v : Value) (W : World) : Prop := ∃ g1 g2, u = .pointer (some ⟨g1, 0, none⟩) ∧ v = .pointer (some ⟨g2, 0, none⟩) ∧ FinW w W g1 g2 a b c x y z
def Own2 (w : World) (N : Int) (n : Nat) (l : List Tr) (t m : Value) (W : World) : Prop := ∃ gt gm At ct Am cm, t = .pointer (some ⟨gt, 0, none⟩) ∧ m = .pointer (some ⟨gm, 0, none⟩) ∧ Duo w W gt gm N (.slice At n ct) n l (.slice Am n cm) n l
set_option maxHeartbeats 16000000 in
set_option maxRecDepth 100000 in
theorem walk (N : Int) (A : Option Addr) (n c : Nat) (l : List Tr) (i : Int) (w : World) (_ : -9223372036854775808 ≤ N) (_ : N ≤ 9223372036854775807) (h : T3 w A n l) (hi0 : 0 ≤ i) (hi1 : i ≤ 255) :
    Calls Try.prog 9 #[.agg #[.int .i64 N, .slice A n c], .int .u8 i] w (BoolTold9 w true) := by
  obtain ⟨p, hp⟩ := isPin_exists l
  have HL := Lib.hid h
  have HP := Lib.hid hp
  have KA := Lib.hid awake9_true
  have KG := Lib.hid (fun W => great9_any W N A n c)
  have B0 := Lib.hid ((Below.refl _ w).alloc (Nat.le_refl _) (.cells #[.int .i64 N, .slice A n c] 24))
  have X0 := Lib.hid (Bx.made w N A n c)
  clear h hp
  go_enter Try.func9, Try.ntmps9
  go_wp2_with fail
  refine (KA.out _).mono ?_
  rintro e w1 ⟨rfl, b1⟩
  have B1 := Lib.hid (up2 B0.out b1)
  have X1 := Lib.hid (X0.out.below b1)
  clear b1
  obtain ⟨g, hg⟩ : ∃ g, w.heap.size = g := ⟨_, rfl⟩
  simp only [hg]
  rw [hg] at X1
  have HG := Lib.hid hg
  clear hg
  have e0 := X1.out.c0
  have e1 := X1.out.c1
  go_wp2_with fail
  refine (KG.out _).mono ?_
  rintro e w2 ⟨rfl, b2⟩
  have B2 := Lib.hid (up2 B1.out b2)
  have X2 := Lib.hid (X1.out.below b2)
  clear b2 e0 e1
  by_cases h40 : (40 : Int) < n ∨ 40 < N
  · simp only [decide_eq_true h40]
    clear h40
    go_wp2_with fail
    refine (KA.out _).mono ?_
    rintro e w3 ⟨rfl, b3⟩
    have B3 := Lib.hid (up2 B2.out b3)
    clear b3
    go_wp2_with fail
    go_ret
    exact ⟨rfl, B3.out⟩
  simp only [decide_eq_false h40]
  have hn : n ≤ 40 := by omega
  have n1 : N ≤ 40 := by omega
  have e0 := X2.out.c0
  have e1 := X2.out.c1
  by_cases h0 : n = 0
  · have hz : ((n : Int) == 0) = true := by simp [h0]
    go_wp2_with fail
    refine (KA.out _).mono ?_
    rintro e w3 ⟨rfl, b3⟩
    have B3 := Lib.hid (up2 B2.out b3)
    clear b3
    go_wp2_with fail
    go_ret
    exact ⟨rfl, B3.out⟩
  have hz : ((n : Int) == 0) = false := by rw [beq_eq_false_iff_ne]; omega
  have KI := Lib.hid (cis_any w2 N A n c l p (HL.out.below B2.out) HP.out (by omega))
  have HW := Lib.hid (surf_iff (N := N) HP.out)
  obtain ⟨ws, hws⟩ : ∃ ws, wits p N l = ws := ⟨_, rfl⟩
  rw [hws] at KI HW
  clear hws h40
  go_wp2_with fail
  refine KI.out.mono ?_
  rintro e w3 ⟨rfl, b3⟩
  have B3 := Lib.hid (up2 B2.out b3)
  have X3 := Lib.hid (X2.out.below b3)
  clear b3 e0 e1
  cases ws with
  | cons x r =>
    simp only [List.isEmpty_cons]
    go_wp2_with fail
    refine (KA.out _).mono ?_
    rintro e w4 ⟨rfl, b4⟩
    have B4 := Lib.hid (up2 B3.out b4)
    clear b4
    go_wp2_with fail
    go_ret
    exact ⟨rfl, B4.out⟩
  | nil =>
    simp only [List.isEmpty_nil]
    have HS := Lib.hid (HW.out.1 rfl)
    have n0 : 0 ≤ N := HS.out.n0
    obtain ⟨k, hk, hkn⟩ : ∃ k : Nat, i % (n : Int) = (k : Int) ∧ k < n := ⟨(i % (n : Int)).toNat, by have := Int.emod_nonneg i (show (n : Int) ≠ 0 by omega); omega, by have := Int.emod_nonneg i (show (n : Int) ≠ 0 by omega); have := Int.emod_lt_of_pos i (show (0 : Int) < n by omega); omega⟩
    have hkt : Int.tmod i (n : Int) = (k : Int) := by rw [Int.tmod_eq_emod_of_nonneg hi0]; exact hk
    have hnz : ¬ (n : Int) = 0 := by omega
    have e0 := X3.out.c0
    have e1 := X3.out.c1
    go_wp2_with fail
    have KO := Lib.hid (fun W (b : Below w3.heap.size w3 W) => own9_any W N A n c l (HL.out.below (up2 B3.out b)) (by omega))
    have HH := Lib.hid (fun W (b : Below w3.heap.size w3 W) => (show W.cell? ⟨g, 0, none⟩ = some (.int .i64 N) ∧ W.cell? ⟨g, 1, none⟩ = some (.slice A n c) from ⟨(X3.out.below b).c0, (X3.out.below b).c1⟩))
    go_upto_region 5 with fail
    go_cut [6, 7] (Own2 w3 N n l)
    case first =>
      have hd := HH.out w3.drew (Reading.below ⟨1, rfl⟩)
      go_wp2_with fail
      refine wp_region_noPanic ?_
      refine wp_region_held_drew (S := fun w' => w'.cell? ⟨g, 0, none⟩ = some (.int .i64 N) ∧ w'.cell? ⟨g, 1, none⟩ = some (.slice A n c)) (by kernel_rfl) hd (fun _ => ?_)
      refine wpAnyH_take (i := 0) (v := ?v0x1) rfl (by kernel_rfl) (by kernel_rfl) (by kernel_rfl) (fun _ _ _ h => h) (Or.inl ⟨by rfl, ?y0x1⟩) hd ?_
      case y0x1 => (intro w hSw; (try dsimp only at hSw); go_simp; try with_reducible rfl)
      simp only [Act.put, List.setIfInBounds_toArray, List.set_cons_zero, List.set_cons_succ, List.getElem_toArray, List.getElem_cons_zero]
      refine wpAnyH_take (i := 2) (v := ?v2x2) rfl (by kernel_rfl) (by kernel_rfl) (by kernel_rfl) (fun _ _ _ h => h) (Or.inl ⟨by rfl, ?y2x2⟩) hd ?_
      case y2x2 => (intro w hSw; (try dsimp only at hSw); go_simp; try with_reducible rfl)
      simp only [Act.put, List.setIfInBounds_toArray, List.set_cons_zero, List.set_cons_succ, List.getElem_toArray, List.getElem_cons_zero, List.getElem_cons_succ]
      obtain ⟨u0, hu0⟩ : ∃ x, w3.drew = x := ⟨_, rfl⟩
      have bw : Below w3.heap.size w3 u0 := by rw [← hu0]; exact Reading.below ⟨1, rfl⟩
      simp only [hu0]
      clear hu0
      refine wpAnyH_ready (rs := [1, 4, 5]) (by kernel_rfl) (by simp) ?_
      refine AllReadyH.cons rfl (fun K hK => ?_) (AllReadyH.cons rfl (fun K hK => ?_) (AllReadyH.cons rfl (fun K hK => ?_) AllReadyH.nil))
      · rw [if_pos (by rfl)]
        go_wp2_with fail
        refine (KO.out _ bw).mono ?_
        rintro e u1 ⟨_, rfl, A1, c1, rfl, o1, b9⟩
        rw [HL.out.1] at o1 ⊢
        go_wp2_with fail
        refine hK.out _ _ (HH.out _ (up2 bw b9)) (fun _ => ?_)
        clear hK K
        try simp only [Act.put, List.setIfInBounds_toArray, List.set_cons_zero, List.set_cons_succ, List.getElem_toArray, List.getElem_cons_zero, List.getElem_cons_succ]
        have o1 := ownK9_base o1 bw.size
        have bw := up2 bw b9
        clear b9
        refine wpAnyH_ready (rs := [3, 4, 5]) (by kernel_rfl) (by simp) ?_
        refine AllReadyH.cons rfl (fun K hK => ?_) (AllReadyH.cons rfl (fun K hK => ?_) (AllReadyH.cons rfl (fun K hK => ?_) AllReadyH.nil))
        · rw [if_pos (by rfl)]
          go_wp2_with fail
          refine (KO.out _ bw).mono ?_
          rintro e u2 ⟨_, rfl, A2, c2, rfl, o2, b9⟩
          rw [HL.out.1] at o2 ⊢
          go_wp2_with fail
          refine hK.out _ _ (HH.out _ (up2 bw b9)) (fun _ => ?_)
          clear hK K
          try simp only [Act.put, List.setIfInBounds_toArray, List.set_cons_zero, List.set_cons_succ, List.getElem_toArray, List.getElem_cons_zero, List.getElem_cons_succ]
          have ap := ap_of o1 o2
          have o1 := ownK9_up o1 b9
          have o2 := ownK9_base o2 bw.size
          have bw := up2 bw b9
          clear b9
          refine wpAnyH_ready (rs := [4, 5]) (by kernel_rfl) (by simp) ?_
          refine AllReadyH.cons rfl (fun K hK => ?_) (AllReadyH.cons rfl (fun K hK => ?_) AllReadyH.nil)
          · go_simp
            refine hK.out _ _ (HH.out _ (up1 bw _)) (fun _ => ?_)
            clear hK K
            try simp only [Act.put, List.setIfInBounds_toArray, List.set_cons_zero, List.set_cons_succ, List.getElem_toArray, List.getElem_cons_zero, List.getElem_cons_succ]
            obtain ⟨u3, hn⟩ : ∃ x, u2.alloc zbox = x := ⟨_, rfl⟩
            obtain ⟨g1, hg⟩ : ∃ x, u2.heap.size = x := ⟨_, rfl⟩
            have z1 : Zb u3 g1 := by rw [← hn, ← hg]; exact heap_alloc_new u2 _
            have bg1 : w3.heap.size ≤ g1 := by rw [← hg]; exact bw.size
            have bn : Below u2.heap.size u2 u3 := by rw [← hn]; exact (Below.refl _ u2).alloc (Nat.le_refl _) _
            have o1 := ownK9_up o1 bn
            have o2 := ownK9_up o2 bn
            have bw := up2 bw bn
            simp only [hn, hg]
            clear hn hg bn
            refine wpAnyH_ready (rs := [5]) (by kernel_rfl) (by simp) ?_
            refine AllReadyH.cons rfl (fun K hK => ?_) AllReadyH.nil
            go_simp
            refine hK.out _ _ (HH.out _ (up1 bw _)) (fun _ => ?_)
            clear hK K
            try simp only [Act.put, List.setIfInBounds_toArray, List.set_cons_zero, List.set_cons_succ, List.getElem_toArray, List.getElem_cons_zero, List.getElem_cons_succ]
            obtain ⟨u4, hn⟩ : ∃ x, u3.alloc zbox = x := ⟨_, rfl⟩
            obtain ⟨g2, hg⟩ : ∃ x, u3.heap.size = x := ⟨_, rfl⟩
            have z2 : Zb u4 g2 := by rw [← hn, ← hg]; exact heap_alloc_new u3 _
            have bg2 : w3.heap.size ≤ g2 := by rw [← hg]; exact bw.size
            have bn : Below u3.heap.size u3 u4 := by rw [← hn]; exact (Below.refl _ u3).alloc (Nat.le_refl _) _
            have ne : g1 ≠ g2 := by have := heap_lt z1; omega
            have z1 := z1.up bn
            have o1 := ownK9_up o1 bn
            have o2 := ownK9_up o2 bn
            have bw := up2 bw bn
            simp only [hn, hg]
            clear hn hg bn
            have PR := Lib.hid (⟨bw, z1, z2, o1, o2, bg1, bg2, ne, ap⟩ : Pre w3 u4 g1 g2 (.slice A1 n c1) n l (.slice A2 n c2) n l)
            obtain ⟨f1, f2, f3, f4⟩ := z1.facts
            clear z1 z2 o1 o2 ap ne
            refine wpAnyH_ready (rs := [6]) (by kernel_rfl) (by simp) ?_
            refine AllReadyH.cons rfl (fun K hK => ?_) AllReadyH.nil
            go_simp
            refine hK.out _ _ (HH.out _ (below_st (below_st bw bg1 _) bg1 _)) (fun _ => ?_)
            clear hK K
            try simp only [Act.put, List.setIfInBounds_toArray, List.set_cons_zero, List.set_cons_succ, List.getElem_toArray, List.getElem_cons_zero, List.getElem_cons_succ]
            obtain ⟨wm, hwm⟩ : ∃ x, (u4.setCell ⟨g1, 0, none⟩ (.int .i64 N)).setCell ⟨g1, 1, none⟩ (.slice A1 n c1) = x := ⟨_, rfl⟩
            have PM := Lib.hid (PR.out.mid N)
            rw [hwm] at PM
            simp only [hwm]
            clear hwm f1 f2 f3 f4
            obtain ⟨f1, f2, f3, f4⟩ := PM.out.zm.facts
            refine wpAnyH_ready (rs := [7]) (by kernel_rfl) (by simp) ?_
            refine AllReadyH.cons rfl (fun K hK => ?_) AllReadyH.nil
            go_simp
            refine hK.out _ _ (HH.out _ (below_st (below_st PM.out.below bg2 _) bg2 _)) (fun _ => ?_)
            clear hK K
            try simp only [Act.put, List.setIfInBounds_toArray, List.set_cons_zero, List.set_cons_succ, List.getElem_toArray, List.getElem_cons_zero, List.getElem_cons_succ]
            have DU := Lib.hid (PM.out.fin)
            clear PM f1 f2 f3 f4
            refine wpAnyH_done (by kernel_rfl) ?_ _
            refine NoPanic.normal ?_
            go_wp2_with fail
            go_meet
            exact ⟨g1, g2, A1, c1, A2, c2, rfl, rfl, DU.out⟩
          · go_simp
            refine hK.out _ _ (HH.out _ (up1 bw _)) (fun _ => ?_)
            clear hK K
            try simp only [Act.put, List.setIfInBounds_toArray, List.set_cons_zero, List.set_cons_succ, List.getElem_toArray, List.getElem_cons_zero, List.getElem_cons_succ]
            obtain ⟨u3, hn⟩ : ∃ x, u2.alloc zbox = x := ⟨_, rfl⟩
            obtain ⟨g2, hg⟩ : ∃ x, u2.heap.size = x := ⟨_, rfl⟩
            have z2 : Zb u3 g2 := by rw [← hn, ← hg]; exact heap_alloc_new u2 _
            have bg2 : w3.heap.size ≤ g2 := by rw [← hg]; exact bw.size
            have bn : Below u2.heap.size u2 u3 := by rw [← hn]; exact (Below.refl _ u2).alloc (Nat.le_refl _) _
            have o1 := ownK9_up o1 bn
            have o2 := ownK9_up o2 bn
            have bw := up2 bw bn
            simp only [hn, hg]
            clear hn hg bn
            refine wpAnyH_ready (rs := [4]) (by kernel_rfl) (by simp) ?_
            refine AllReadyH.cons rfl (fun K hK => ?_) AllReadyH.nil
            go_simp
            refine hK.out _ _ (HH.out _ (up1 bw _)) (fun _ => ?_)
            clear hK K
            try simp only [Act.put, List.setIfInBounds_toArray, List.set_cons_zero, List.set_cons_succ, List.getElem_toArray, List.getElem_cons_zero, List.getElem_cons_succ]
            obtain ⟨u4, hn⟩ : ∃ x, u3.alloc zbox = x := ⟨_, rfl⟩
            obtain ⟨g1, hg⟩ : ∃ x, u3.heap.size = x := ⟨_, rfl⟩
            have z1 : Zb u4 g1 := by rw [← hn, ← hg]; exact heap_alloc_new u3 _
            have bg1 : w3.heap.size ≤ g1 := by rw [← hg]; exact bw.size
            have bn : Below u3.heap.size u3 u4 := by rw [← hn]; exact (Below.refl _ u3).alloc (Nat.le_refl _) _
            have ne : g1 ≠ g2 := by have := heap_lt z2; omega
            have z2 := z2.up bn
            have o1 := ownK9_up o1 bn
            have o2 := ownK9_up o2 bn
            have bw := up2 bw bn
            simp only [hn, hg]
            clear hn hg bn
            have PR := Lib.hid (⟨bw, z1, z2, o1, o2, bg1, bg2, ne, ap⟩ : Pre w3 u4 g1 g2 (.slice A1 n c1) n l (.slice A2 n c2) n l)
            obtain ⟨f1, f2, f3, f4⟩ := z1.facts
            clear z1 z2 o1 o2 ap ne
            refine wpAnyH_ready (rs := [6]) (by kernel_rfl) (by simp) ?_
            refine AllReadyH.cons rfl (fun K hK => ?_) AllReadyH.nil
            go_simp
            refine hK.out _ _ (HH.out _ (below_st (below_st bw bg1 _) bg1 _)) (fun _ => ?_)
            clear hK K
            try simp only [Act.put, List.setIfInBounds_toArray, List.set_cons_zero, List.set_cons_succ, List.getElem_toArray, List.getElem_cons_zero, List.getElem_cons_succ]
            obtain ⟨wm, hwm⟩ : ∃ x, (u4.setCell ⟨g1, 0, none⟩ (.int .i64 N)).setCell ⟨g1, 1, none⟩ (.slice A1 n c1) = x := ⟨_, rfl⟩
            have PM := Lib.hid (PR.out.mid N)
            rw [hwm] at PM
            simp only [hwm]
            clear hwm f1 f2 f3 f4
            obtain ⟨f1, f2, f3, f4⟩ := PM.out.zm.facts
            refine wpAnyH_ready (rs := [7]) (by kernel_rfl) (by simp) ?_
            refine AllReadyH.cons rfl (fun K hK => ?_) AllReadyH.nil
            go_simp
            refine hK.out _ _ (HH.out _ (below_st (below_st PM.out.below bg2 _) bg2 _)) (fun _ => ?_)
            clear hK K
            try simp only [Act.put, List.setIfInBounds_toArray, List.set_cons_zero, List.set_cons_succ, List.getElem_toArray, List.getElem_cons_zero, List.getElem_cons_succ]
            have DU := Lib.hid (PM.out.fin)
            clear PM f1 f2 f3 f4
            refine wpAnyH_done (by kernel_rfl) ?_ _
            refine NoPanic.normal ?_
            go_wp2_with fail
            go_meet
            exact ⟨g1, g2, A1, c1, A2, c2, rfl, rfl, DU.out⟩
        · go_simp
          refine hK.out _ _ (HH.out _ (up1 bw _)) (fun _ => ?_)
          clear hK K
          try simp only [Act.put, List.setIfInBounds_toArray, List.set_cons_zero, List.set_cons_succ, List.getElem_toArray, List.getElem_cons_zero, List.getElem_cons_succ]
          obtain ⟨u2, hn⟩ : ∃ x, u1.alloc zbox = x := ⟨_, rfl⟩
          obtain ⟨g1, hg⟩ : ∃ x, u1.heap.size = x := ⟨_, rfl⟩
          have z1 : Zb u2 g1 := by rw [← hn, ← hg]; exact heap_alloc_new u1 _
          have bg1 : w3.heap.size ≤ g1 := by rw [← hg]; exact bw.size
          have bn : Below u1.heap.size u1 u2 := by rw [← hn]; exact (Below.refl _ u1).alloc (Nat.le_refl _) _
          have o1 := ownK9_up o1 bn
          have bw := up2 bw bn
          simp only [hn, hg]
          clear hn hg bn
          refine wpAnyH_ready (rs := [3, 5]) (by kernel_rfl) (by simp) ?_
          refine AllReadyH.cons rfl (fun K hK => ?_) (AllReadyH.cons rfl (fun K hK => ?_) AllReadyH.nil)
          · rw [if_pos (by rfl)]
            go_wp2_with fail
            refine (KO.out _ bw).mono ?_
            rintro e u3 ⟨_, rfl, A2, c2, rfl, o2, b9⟩
            rw [HL.out.1] at o2 ⊢
            go_wp2_with fail
            refine hK.out _ _ (HH.out _ (up2 bw b9)) (fun _ => ?_)
            clear hK K
            try simp only [Act.put, List.setIfInBounds_toArray, List.set_cons_zero, List.set_cons_succ, List.getElem_toArray, List.getElem_cons_zero, List.getElem_cons_succ]
            have z1 := z1.up b9
            have ap := ap_of o1 o2
            have o1 := ownK9_up o1 b9
            have o2 := ownK9_base o2 bw.size
            have bw := up2 bw b9
            clear b9
            refine wpAnyH_ready (rs := [5]) (by kernel_rfl) (by simp) ?_
            refine AllReadyH.cons rfl (fun K hK => ?_) AllReadyH.nil
            go_simp
            refine hK.out _ _ (HH.out _ (up1 bw _)) (fun _ => ?_)
            clear hK K
            try simp only [Act.put, List.setIfInBounds_toArray, List.set_cons_zero, List.set_cons_succ, List.getElem_toArray, List.getElem_cons_zero, List.getElem_cons_succ]
            obtain ⟨u4, hn⟩ : ∃ x, u3.alloc zbox = x := ⟨_, rfl⟩
            obtain ⟨g2, hg⟩ : ∃ x, u3.heap.size = x := ⟨_, rfl⟩
            have z2 : Zb u4 g2 := by rw [← hn, ← hg]; exact heap_alloc_new u3 _
            have bg2 : w3.heap.size ≤ g2 := by rw [← hg]; exact bw.size
            have bn : Below u3.heap.size u3 u4 := by rw [← hn]; exact (Below.refl _ u3).alloc (Nat.le_refl _) _
            have ne : g1 ≠ g2 := by have := heap_lt z1; omega
            have z1 := z1.up bn
            have o1 := ownK9_up o1 bn
            have o2 := ownK9_up o2 bn
            have bw := up2 bw bn
            simp only [hn, hg]
            clear hn hg bn
            have PR := Lib.hid (⟨bw, z1, z2, o1, o2, bg1, bg2, ne, ap⟩ : Pre w3 u4 g1 g2 (.slice A1 n c1) n l (.slice A2 n c2) n l)
            obtain ⟨f1, f2, f3, f4⟩ := z1.facts
            clear z1 z2 o1 o2 ap ne
            refine wpAnyH_ready (rs := [6]) (by kernel_rfl) (by simp) ?_
            refine AllReadyH.cons rfl (fun K hK => ?_) AllReadyH.nil
            go_simp
            refine hK.out _ _ (HH.out _ (below_st (below_st bw bg1 _) bg1 _)) (fun _ => ?_)
            clear hK K
            try simp only [Act.put, List.setIfInBounds_toArray, List.set_cons_zero, List.set_cons_succ, List.getElem_toArray, List.getElem_cons_zero, List.getElem_cons_succ]
            obtain ⟨wm, hwm⟩ : ∃ x, (u4.setCell ⟨g1, 0, none⟩ (.int .i64 N)).setCell ⟨g1, 1, none⟩ (.slice A1 n c1) = x := ⟨_, rfl⟩
            have PM := Lib.hid (PR.out.mid N)
            rw [hwm] at PM
            simp only [hwm]
            clear hwm f1 f2 f3 f4
            obtain ⟨f1, f2, f3, f4⟩ := PM.out.zm.facts
            refine wpAnyH_ready (rs := [7]) (by kernel_rfl) (by simp) ?_
            refine AllReadyH.cons rfl (fun K hK => ?_) AllReadyH.nil
            go_simp
            refine hK.out _ _ (HH.out _ (below_st (below_st PM.out.below bg2 _) bg2 _)) (fun _ => ?_)
            clear hK K
            try simp only [Act.put, List.setIfInBounds_toArray, List.set_cons_zero, List.set_cons_succ, List.getElem_toArray, List.getElem_cons_zero, List.getElem_cons_succ]
            have DU := Lib.hid (PM.out.fin)
            clear PM f1 f2 f3 f4
            refine wpAnyH_done (by kernel_rfl) ?_ _
            refine NoPanic.normal ?_
            go_wp2_with fail
            go_meet
            exact ⟨g1, g2, A1, c1, A2, c2, rfl, rfl, DU.out⟩
          · go_simp
            refine hK.out _ _ (HH.out _ (up1 bw _)) (fun _ => ?_)
            clear hK K
            try simp only [Act.put, List.setIfInBounds_toArray, List.set_cons_zero, List.set_cons_succ, List.getElem_toArray, List.getElem_cons_zero, List.getElem_cons_succ]
            obtain ⟨u3, hn⟩ : ∃ x, u2.alloc zbox = x := ⟨_, rfl⟩
            obtain ⟨g2, hg⟩ : ∃ x, u2.heap.size = x := ⟨_, rfl⟩
            have z2 : Zb u3 g2 := by rw [← hn, ← hg]; exact heap_alloc_new u2 _
            have bg2 : w3.heap.size ≤ g2 := by rw [← hg]; exact bw.size
            have bn : Below u2.heap.size u2 u3 := by rw [← hn]; exact (Below.refl _ u2).alloc (Nat.le_refl _) _
            have ne : g1 ≠ g2 := by have := heap_lt z1; omega
            have z1 := z1.up bn
            have o1 := ownK9_up o1 bn
            have bw := up2 bw bn
            simp only [hn, hg]
            clear hn hg bn
            refine wpAnyH_ready (rs := [3]) (by kernel_rfl) (by simp) ?_
            refine AllReadyH.cons rfl (fun K hK => ?_) AllReadyH.nil
            rw [if_pos (by rfl)]
            go_wp2_with fail
            refine (KO.out _ bw).mono ?_
            rintro e u4 ⟨_, rfl, A2, c2, rfl, o2, b9⟩
            rw [HL.out.1] at o2 ⊢
            go_wp2_with fail
            refine hK.out _ _ (HH.out _ (up2 bw b9)) (fun _ => ?_)
            clear hK K
            try simp only [Act.put, List.setIfInBounds_toArray, List.set_cons_zero, List.set_cons_succ, List.getElem_toArray, List.getElem_cons_zero, List.getElem_cons_succ]
            have z1 := z1.up b9
            have z2 := z2.up b9
            have ap := ap_of o1 o2
            have o1 := ownK9_up o1 b9
            have o2 := ownK9_base o2 bw.size
            have bw := up2 bw b9
            clear b9
            have PR := Lib.hid (⟨bw, z1, z2, o1, o2, bg1, bg2, ne, ap⟩ : Pre w3 u4 g1 g2 (.slice A1 n c1) n l (.slice A2 n c2) n l)
            obtain ⟨f1, f2, f3, f4⟩ := z1.facts
            clear z1 z2 o1 o2 ap ne
            refine wpAnyH_ready (rs := [6]) (by kernel_rfl) (by simp) ?_
            refine AllReadyH.cons rfl (fun K hK => ?_) AllReadyH.nil
            go_simp
            refine hK.out _ _ (HH.out _ (below_st (below_st bw bg1 _) bg1 _)) (fun _ => ?_)
            clear hK K
            try simp only [Act.put, List.setIfInBounds_toArray, List.set_cons_zero, List.set_cons_succ, List.getElem_toArray, List.getElem_cons_zero, List.getElem_cons_succ]
            obtain ⟨wm, hwm⟩ : ∃ x, (u4.setCell ⟨g1, 0, none⟩ (.int .i64 N)).setCell ⟨g1, 1, none⟩ (.slice A1 n c1) = x := ⟨_, rfl⟩
            have PM := Lib.hid (PR.out.mid N)
            rw [hwm] at PM
            simp only [hwm]
            clear hwm f1 f2 f3 f4
            obtain ⟨f1, f2, f3, f4⟩ := PM.out.zm.facts
            refine wpAnyH_ready (rs := [7]) (by kernel_rfl) (by simp) ?_
            refine AllReadyH.cons rfl (fun K hK => ?_) AllReadyH.nil
            go_simp
            refine hK.out _ _ (HH.out _ (below_st (below_st PM.out.below bg2 _) bg2 _)) (fun _ => ?_)
            clear hK K
            try simp only [Act.put, List.setIfInBounds_toArray, List.set_cons_zero, List.set_cons_succ, List.getElem_toArray, List.getElem_cons_zero, List.getElem_cons_succ]
            have DU := Lib.hid (PM.out.fin)
            clear PM f1 f2 f3 f4
            refine wpAnyH_done (by kernel_rfl) ?_ _
            refine NoPanic.normal ?_
            go_wp2_with fail
            go_meet
            exact ⟨g1, g2, A1, c1, A2, c2, rfl, rfl, DU.out⟩
        · go_simp
          refine hK.out _ _ (HH.out _ (up1 bw _)) (fun _ => ?_)
          clear hK K
          try simp only [Act.put, List.setIfInBounds_toArray, List.set_cons_zero, List.set_cons_succ, List.getElem_toArray, List.getElem_cons_zero, List.getElem_cons_succ]
          obtain ⟨u2, hn⟩ : ∃ x, u1.alloc zbox = x := ⟨_, rfl⟩
          obtain ⟨g2, hg⟩ : ∃ x, u1.heap.size = x := ⟨_, rfl⟩
          have z2 : Zb u2 g2 := by rw [← hn, ← hg]; exact heap_alloc_new u1 _
          have bg2 : w3.heap.size ≤ g2 := by rw [← hg]; exact bw.size
          have bn : Below u1.heap.size u1 u2 := by rw [← hn]; exact (Below.refl _ u1).alloc (Nat.le_refl _) _
          have o1 := ownK9_up o1 bn
          have bw := up2 bw bn
          simp only [hn, hg]
          clear hn hg bn
          refine wpAnyH_ready (rs := [3, 4]) (by kernel_rfl) (by simp) ?_
          refine AllReadyH.cons rfl (fun K hK => ?_) (AllReadyH.cons rfl (fun K hK => ?_) AllReadyH.nil)
          · rw [if_pos (by rfl)]
            go_wp2_with fail
            refine (KO.out _ bw).mono ?_
            rintro e u3 ⟨_, rfl, A2, c2, rfl, o2, b9⟩
            rw [HL.out.1] at o2 ⊢
            go_wp2_with fail
            refine hK.out _ _ (HH.out _ (up2 bw b9)) (fun _ => ?_)
            clear hK K
            try simp only [Act.put, List.setIfInBounds_toArray, List.set_cons_zero, List.set_cons_succ, List.getElem_toArray, List.getElem_cons_zero, List.getElem_cons_succ]
            have z2 := z2.up b9
            have ap := ap_of o1 o2
            have o1 := ownK9_up o1 b9
            have o2 := ownK9_base o2 bw.size
            have bw := up2 bw b9
            clear b9
            refine wpAnyH_ready (rs := [4]) (by kernel_rfl) (by simp) ?_
            refine AllReadyH.cons rfl (fun K hK => ?_) AllReadyH.nil
            go_simp
            refine hK.out _ _ (HH.out _ (up1 bw _)) (fun _ => ?_)
            clear hK K
            try simp only [Act.put, List.setIfInBounds_toArray, List.set_cons_zero, List.set_cons_succ, List.getElem_toArray, List.getElem_cons_zero, List.getElem_cons_succ]
            obtain ⟨u4, hn⟩ : ∃ x, u3.alloc zbox = x := ⟨_, rfl⟩
            obtain ⟨g1, hg⟩ : ∃ x, u3.heap.size = x := ⟨_, rfl⟩
            have z1 : Zb u4 g1 := by rw [← hn, ← hg]; exact heap_alloc_new u3 _
            have bg1 : w3.heap.size ≤ g1 := by rw [← hg]; exact bw.size
            have bn : Below u3.heap.size u3 u4 := by rw [← hn]; exact (Below.refl _ u3).alloc (Nat.le_refl _) _
            have ne : g1 ≠ g2 := by have := heap_lt z2; omega
            have z2 := z2.up bn
            have o1 := ownK9_up o1 bn
            have o2 := ownK9_up o2 bn
            have bw := up2 bw bn
            simp only [hn, hg]
            clear hn hg bn
            have PR := Lib.hid (⟨bw, z1, z2, o1, o2, bg1, bg2, ne, ap⟩ : Pre w3 u4 g1 g2 (.slice A1 n c1) n l (.slice A2 n c2) n l)
            obtain ⟨f1, f2, f3, f4⟩ := z1.facts
            clear z1 z2 o1 o2 ap ne
            refine wpAnyH_ready (rs := [6]) (by kernel_rfl) (by simp) ?_
            refine AllReadyH.cons rfl (fun K hK => ?_) AllReadyH.nil
            go_simp
            refine hK.out _ _ (HH.out _ (below_st (below_st bw bg1 _) bg1 _)) (fun _ => ?_)
            clear hK K
            try simp only [Act.put, List.setIfInBounds_toArray, List.set_cons_zero, List.set_cons_succ, List.getElem_toArray, List.getElem_cons_zero, List.getElem_cons_succ]
            obtain ⟨wm, hwm⟩ : ∃ x, (u4.setCell ⟨g1, 0, none⟩ (.int .i64 N)).setCell ⟨g1, 1, none⟩ (.slice A1 n c1) = x := ⟨_, rfl⟩
            have PM := Lib.hid (PR.out.mid N)
            rw [hwm] at PM
            simp only [hwm]
            clear hwm f1 f2 f3 f4
            obtain ⟨f1, f2, f3, f4⟩ := PM.out.zm.facts
            refine wpAnyH_ready (rs := [7]) (by kernel_rfl) (by simp) ?_
            refine AllReadyH.cons rfl (fun K hK => ?_) AllReadyH.nil
            go_simp
            refine hK.out _ _ (HH.out _ (below_st (below_st PM.out.below bg2 _) bg2 _)) (fun _ => ?_)
            clear hK K
            try simp only [Act.put, List.setIfInBounds_toArray, List.set_cons_zero, List.set_cons_succ, List.getElem_toArray, List.getElem_cons_zero, List.getElem_cons_succ]
            have DU := Lib.hid (PM.out.fin)
            clear PM f1 f2 f3 f4
            refine wpAnyH_done (by kernel_rfl) ?_ _
            refine NoPanic.normal ?_
            go_wp2_with fail
            go_meet
            exact ⟨g1, g2, A1, c1, A2, c2, rfl, rfl, DU.out⟩
          · go_simp
            refine hK.out _ _ (HH.out _ (up1 bw _)) (fun _ => ?_)
            clear hK K
            try simp only [Act.put, List.setIfInBounds_toArray, List.set_cons_zero, List.set_cons_succ, List.getElem_toArray, List.getElem_cons_zero, List.getElem_cons_succ]
            obtain ⟨u3, hn⟩ : ∃ x, u2.alloc zbox = x := ⟨_, rfl⟩
            obtain ⟨g1, hg⟩ : ∃ x, u2.heap.size = x := ⟨_, rfl⟩
            have z1 : Zb u3 g1 := by rw [← hn, ← hg]; exact heap_alloc_new u2 _
            have bg1 : w3.heap.size ≤ g1 := by rw [← hg]; exact bw.size
            have bn : Below u2.heap.size u2 u3 := by rw [← hn]; exact (Below.refl _ u2).alloc (Nat.le_refl _) _
            have ne : g1 ≠ g2 := by have := heap_lt z2; omega
            have z2 := z2.up bn
            have o1 := ownK9_up o1 bn
            have bw := up2 bw bn
            simp only [hn, hg]
            clear hn hg bn
            refine wpAnyH_ready (rs := [3]) (by kernel_rfl) (by simp) ?_
            refine AllReadyH.cons rfl (fun K hK => ?_) AllReadyH.nil
            rw [if_pos (by rfl)]
            go_wp2_with fail
            refine (KO.out _ bw).mono ?_
            rintro e u4 ⟨_, rfl, A2, c2, rfl, o2, b9⟩
            rw [HL.out.1] at o2 ⊢
            go_wp2_with fail
            refine hK.out _ _ (HH.out _ (up2 bw b9)) (fun _ => ?_)
            clear hK K
            try simp only [Act.put, List.setIfInBounds_toArray, List.set_cons_zero, List.set_cons_succ, List.getElem_toArray, List.getElem_cons_zero, List.getElem_cons_succ]
            have z1 := z1.up b9
            have z2 := z2.up b9
            have ap := ap_of o1 o2
            have o1 := ownK9_up o1 b9
            have o2 := ownK9_base o2 bw.size
            have bw := up2 bw b9
            clear b9
            have PR := Lib.hid (⟨bw, z1, z2, o1, o2, bg1, bg2, ne, ap⟩ : Pre w3 u4 g1 g2 (.slice A1 n c1) n l (.slice A2 n c2) n l)
            obtain ⟨f1, f2, f3, f4⟩ := z1.facts
            clear z1 z2 o1 o2 ap ne
            refine wpAnyH_ready (rs := [6]) (by kernel_rfl) (by simp) ?_
            refine AllReadyH.cons rfl (fun K hK => ?_) AllReadyH.nil
            go_simp
            refine hK.out _ _ (HH.out _ (below_st (below_st bw bg1 _) bg1 _)) (fun _ => ?_)
            clear hK K
            try simp only [Act.put, List.setIfInBounds_toArray, List.set_cons_zero, List.set_cons_succ, List.getElem_toArray, List.getElem_cons_zero, List.getElem_cons_succ]
            obtain ⟨wm, hwm⟩ : ∃ x, (u4.setCell ⟨g1, 0, none⟩ (.int .i64 N)).setCell ⟨g1, 1, none⟩ (.slice A1 n c1) = x := ⟨_, rfl⟩
            have PM := Lib.hid (PR.out.mid N)
            rw [hwm] at PM
            simp only [hwm]
            clear hwm f1 f2 f3 f4
            obtain ⟨f1, f2, f3, f4⟩ := PM.out.zm.facts
            refine wpAnyH_ready (rs := [7]) (by kernel_rfl) (by simp) ?_
            refine AllReadyH.cons rfl (fun K hK => ?_) AllReadyH.nil
            go_simp
            refine hK.out _ _ (HH.out _ (below_st (below_st PM.out.below bg2 _) bg2 _)) (fun _ => ?_)
            clear hK K
            try simp only [Act.put, List.setIfInBounds_toArray, List.set_cons_zero, List.set_cons_succ, List.getElem_toArray, List.getElem_cons_zero, List.getElem_cons_succ]
            have DU := Lib.hid (PM.out.fin)
            clear PM f1 f2 f3 f4
            refine wpAnyH_done (by kernel_rfl) ?_ _
            refine NoPanic.normal ?_
            go_wp2_with fail
            go_meet
            exact ⟨g1, g2, A1, c1, A2, c2, rfl, rfl, DU.out⟩
      · go_simp
        refine hK.out _ _ (HH.out _ (up1 bw _)) (fun _ => ?_)
        clear hK K
        try simp only [Act.put, List.setIfInBounds_toArray, List.set_cons_zero, List.set_cons_succ, List.getElem_toArray, List.getElem_cons_zero, List.getElem_cons_succ]
        obtain ⟨u1, hn⟩ : ∃ x, u0.alloc zbox = x := ⟨_, rfl⟩
        obtain ⟨g1, hg⟩ : ∃ x, u0.heap.size = x := ⟨_, rfl⟩
        have z1 : Zb u1 g1 := by rw [← hn, ← hg]; exact heap_alloc_new u0 _
        have bg1 : w3.heap.size ≤ g1 := by rw [← hg]; exact bw.size
        have bn : Below u0.heap.size u0 u1 := by rw [← hn]; exact (Below.refl _ u0).alloc (Nat.le_refl _) _
        have bw := up2 bw bn
        simp only [hn, hg]
        clear hn hg bn
        refine wpAnyH_ready (rs := [1, 5]) (by kernel_rfl) (by simp) ?_
        refine AllReadyH.cons rfl (fun K hK => ?_) (AllReadyH.cons rfl (fun K hK => ?_) AllReadyH.nil)
        · rw [if_pos (by rfl)]
          go_wp2_with fail
          refine (KO.out _ bw).mono ?_
          rintro e u2 ⟨_, rfl, A1, c1, rfl, o1, b9⟩
          rw [HL.out.1] at o1 ⊢
          go_wp2_with fail
          refine hK.out _ _ (HH.out _ (up2 bw b9)) (fun _ => ?_)
          clear hK K
          try simp only [Act.put, List.setIfInBounds_toArray, List.set_cons_zero, List.set_cons_succ, List.getElem_toArray, List.getElem_cons_zero, List.getElem_cons_succ]
          have z1 := z1.up b9
          have o1 := ownK9_base o1 bw.size
          have bw := up2 bw b9
          clear b9
          refine wpAnyH_ready (rs := [3, 5]) (by kernel_rfl) (by simp) ?_
          refine AllReadyH.cons rfl (fun K hK => ?_) (AllReadyH.cons rfl (fun K hK => ?_) AllReadyH.nil)
          · rw [if_pos (by rfl)]
            go_wp2_with fail
            refine (KO.out _ bw).mono ?_
            rintro e u3 ⟨_, rfl, A2, c2, rfl, o2, b9⟩
            rw [HL.out.1] at o2 ⊢
            go_wp2_with fail
            refine hK.out _ _ (HH.out _ (up2 bw b9)) (fun _ => ?_)
            clear hK K
            try simp only [Act.put, List.setIfInBounds_toArray, List.set_cons_zero, List.set_cons_succ, List.getElem_toArray, List.getElem_cons_zero, List.getElem_cons_succ]
            have z1 := z1.up b9
            have ap := ap_of o1 o2
            have o1 := ownK9_up o1 b9
            have o2 := ownK9_base o2 bw.size
            have bw := up2 bw b9
            clear b9
            refine wpAnyH_ready (rs := [5]) (by kernel_rfl) (by simp) ?_
            refine AllReadyH.cons rfl (fun K hK => ?_) AllReadyH.nil
            go_simp
            refine hK.out _ _ (HH.out _ (up1 bw _)) (fun _ => ?_)
            clear hK K
            try simp only [Act.put, List.setIfInBounds_toArray, List.set_cons_zero, List.set_cons_succ, List.getElem_toArray, List.getElem_cons_zero, List.getElem_cons_succ]
            obtain ⟨u4, hn⟩ : ∃ x, u3.alloc zbox = x := ⟨_, rfl⟩
            obtain ⟨g2, hg⟩ : ∃ x, u3.heap.size = x := ⟨_, rfl⟩
            have z2 : Zb u4 g2 := by rw [← hn, ← hg]; exact heap_alloc_new u3 _
            have bg2 : w3.heap.size ≤ g2 := by rw [← hg]; exact bw.size
            have bn : Below u3.heap.size u3 u4 := by rw [← hn]; exact (Below.refl _ u3).alloc (Nat.le_refl _) _
            have ne : g1 ≠ g2 := by have := heap_lt z1; omega
            have z1 := z1.up bn
            have o1 := ownK9_up o1 bn
            have o2 := ownK9_up o2 bn
            have bw := up2 bw bn
            simp only [hn, hg]
            clear hn hg bn
            have PR := Lib.hid (⟨bw, z1, z2, o1, o2, bg1, bg2, ne, ap⟩ : Pre w3 u4 g1 g2 (.slice A1 n c1) n l (.slice A2 n c2) n l)
            obtain ⟨f1, f2, f3, f4⟩ := z1.facts
            clear z1 z2 o1 o2 ap ne
            refine wpAnyH_ready (rs := [6]) (by kernel_rfl) (by simp) ?_
            refine AllReadyH.cons rfl (fun K hK => ?_) AllReadyH.nil
            go_simp
            refine hK.out _ _ (HH.out _ (below_st (below_st bw bg1 _) bg1 _)) (fun _ => ?_)
            clear hK K
            try simp only [Act.put, List.setIfInBounds_toArray, List.set_cons_zero, List.set_cons_succ, List.getElem_toArray, List.getElem_cons_zero, List.getElem_cons_succ]
            obtain ⟨wm, hwm⟩ : ∃ x, (u4.setCell ⟨g1, 0, none⟩ (.int .i64 N)).setCell ⟨g1, 1, none⟩ (.slice A1 n c1) = x := ⟨_, rfl⟩
            have PM := Lib.hid (PR.out.mid N)
            rw [hwm] at PM
            simp only [hwm]
            clear hwm f1 f2 f3 f4
            obtain ⟨f1, f2, f3, f4⟩ := PM.out.zm.facts
            refine wpAnyH_ready (rs := [7]) (by kernel_rfl) (by simp) ?_
            refine AllReadyH.cons rfl (fun K hK => ?_) AllReadyH.nil
            go_simp
            refine hK.out _ _ (HH.out _ (below_st (below_st PM.out.below bg2 _) bg2 _)) (fun _ => ?_)
            clear hK K
            try simp only [Act.put, List.setIfInBounds_toArray, List.set_cons_zero, List.set_cons_succ, List.getElem_toArray, List.getElem_cons_zero, List.getElem_cons_succ]
            have DU := Lib.hid (PM.out.fin)
            clear PM f1 f2 f3 f4
            refine wpAnyH_done (by kernel_rfl) ?_ _
            refine NoPanic.normal ?_
            go_wp2_with fail
            go_meet
            exact ⟨g1, g2, A1, c1, A2, c2, rfl, rfl, DU.out⟩
          · go_simp
            refine hK.out _ _ (HH.out _ (up1 bw _)) (fun _ => ?_)
            clear hK K
            try simp only [Act.put, List.setIfInBounds_toArray, List.set_cons_zero, List.set_cons_succ, List.getElem_toArray, List.getElem_cons_zero, List.getElem_cons_succ]
            obtain ⟨u3, hn⟩ : ∃ x, u2.alloc zbox = x := ⟨_, rfl⟩
            obtain ⟨g2, hg⟩ : ∃ x, u2.heap.size = x := ⟨_, rfl⟩
            have z2 : Zb u3 g2 := by rw [← hn, ← hg]; exact heap_alloc_new u2 _
            have bg2 : w3.heap.size ≤ g2 := by rw [← hg]; exact bw.size
            have bn : Below u2.heap.size u2 u3 := by rw [← hn]; exact (Below.refl _ u2).alloc (Nat.le_refl _) _
            have ne : g1 ≠ g2 := by have := heap_lt z1; omega
            have z1 := z1.up bn
            have o1 := ownK9_up o1 bn
            have bw := up2 bw bn
            simp only [hn, hg]
            clear hn hg bn
            refine wpAnyH_ready (rs := [3]) (by kernel_rfl) (by simp) ?_
            refine AllReadyH.cons rfl (fun K hK => ?_) AllReadyH.nil
            rw [if_pos (by rfl)]
            go_wp2_with fail
            refine (KO.out _ bw).mono ?_
            rintro e u4 ⟨_, rfl, A2, c2, rfl, o2, b9⟩
            rw [HL.out.1] at o2 ⊢
            go_wp2_with fail
            refine hK.out _ _ (HH.out _ (up2 bw b9)) (fun _ => ?_)
            clear hK K
            try simp only [Act.put, List.setIfInBounds_toArray, List.set_cons_zero, List.set_cons_succ, List.getElem_toArray, List.getElem_cons_zero, List.getElem_cons_succ]
            have z1 := z1.up b9
            have z2 := z2.up b9
            have ap := ap_of o1 o2
            have o1 := ownK9_up o1 b9
            have o2 := ownK9_base o2 bw.size
            have bw := up2 bw b9
            clear b9
            have PR := Lib.hid (⟨bw, z1, z2, o1, o2, bg1, bg2, ne, ap⟩ : Pre w3 u4 g1 g2 (.slice A1 n c1) n l (.slice A2 n c2) n l)
            obtain ⟨f1, f2, f3, f4⟩ := z1.facts
            clear z1 z2 o1 o2 ap ne
            refine wpAnyH_ready (rs := [6]) (by kernel_rfl) (by simp) ?_
            refine AllReadyH.cons rfl (fun K hK => ?_) AllReadyH.nil
            go_simp
            refine hK.out _ _ (HH.out _ (below_st (below_st bw bg1 _) bg1 _)) (fun _ => ?_)
            clear hK K
            try simp only [Act.put, List.setIfInBounds_toArray, List.set_cons_zero, List.set_cons_succ, List.getElem_toArray, List.getElem_cons_zero, List.getElem_cons_succ]
            obtain ⟨wm, hwm⟩ : ∃ x, (u4.setCell ⟨g1, 0, none⟩ (.int .i64 N)).setCell ⟨g1, 1, none⟩ (.slice A1 n c1) = x := ⟨_, rfl⟩
            have PM := Lib.hid (PR.out.mid N)
            rw [hwm] at PM
            simp only [hwm]
            clear hwm f1 f2 f3 f4
            obtain ⟨f1, f2, f3, f4⟩ := PM.out.zm.facts
            refine wpAnyH_ready (rs := [7]) (by kernel_rfl) (by simp) ?_
            refine AllReadyH.cons rfl (fun K hK => ?_) AllReadyH.nil
            go_simp
            refine hK.out _ _ (HH.out _ (below_st (below_st PM.out.below bg2 _) bg2 _)) (fun _ => ?_)
            clear hK K
            try simp only [Act.put, List.setIfInBounds_toArray, List.set_cons_zero, List.set_cons_succ, List.getElem_toArray, List.getElem_cons_zero, List.getElem_cons_succ]
            have DU := Lib.hid (PM.out.fin)
            clear PM f1 f2 f3 f4
            refine wpAnyH_done (by kernel_rfl) ?_ _
            refine NoPanic.normal ?_
            go_wp2_with fail
            go_meet
            exact ⟨g1, g2, A1, c1, A2, c2, rfl, rfl, DU.out⟩
        · go_simp
          refine hK.out _ _ (HH.out _ (up1 bw _)) (fun _ => ?_)
          clear hK K
          try simp only [Act.put, List.setIfInBounds_toArray, List.set_cons_zero, List.set_cons_succ, List.getElem_toArray, List.getElem_cons_zero, List.getElem_cons_succ]
          obtain ⟨u2, hn⟩ : ∃ x, u1.alloc zbox = x := ⟨_, rfl⟩
          obtain ⟨g2, hg⟩ : ∃ x, u1.heap.size = x := ⟨_, rfl⟩
          have z2 : Zb u2 g2 := by rw [← hn, ← hg]; exact heap_alloc_new u1 _
          have bg2 : w3.heap.size ≤ g2 := by rw [← hg]; exact bw.size
          have bn : Below u1.heap.size u1 u2 := by rw [← hn]; exact (Below.refl _ u1).alloc (Nat.le_refl _) _
          have ne : g1 ≠ g2 := by have := heap_lt z1; omega
          have z1 := z1.up bn
          have bw := up2 bw bn
          simp only [hn, hg]
          clear hn hg bn
          refine wpAnyH_ready (rs := [1]) (by kernel_rfl) (by simp) ?_
          refine AllReadyH.cons rfl (fun K hK => ?_) AllReadyH.nil
          rw [if_pos (by rfl)]
          go_wp2_with fail
          refine (KO.out _ bw).mono ?_
          rintro e u3 ⟨_, rfl, A1, c1, rfl, o1, b9⟩
          rw [HL.out.1] at o1 ⊢
          go_wp2_with fail
          refine hK.out _ _ (HH.out _ (up2 bw b9)) (fun _ => ?_)
          clear hK K
          try simp only [Act.put, List.setIfInBounds_toArray, List.set_cons_zero, List.set_cons_succ, List.getElem_toArray, List.getElem_cons_zero, List.getElem_cons_succ]
          have z1 := z1.up b9
          have z2 := z2.up b9
          have o1 := ownK9_base o1 bw.size
          have bw := up2 bw b9
          clear b9
          refine wpAnyH_ready (rs := [3]) (by kernel_rfl) (by simp) ?_
          refine AllReadyH.cons rfl (fun K hK => ?_) AllReadyH.nil
          rw [if_pos (by rfl)]
          go_wp2_with fail
          refine (KO.out _ bw).mono ?_
          rintro e u4 ⟨_, rfl, A2, c2, rfl, o2, b9⟩
          rw [HL.out.1] at o2 ⊢
          go_wp2_with fail
          refine hK.out _ _ (HH.out _ (up2 bw b9)) (fun _ => ?_)
          clear hK K
          try simp only [Act.put, List.setIfInBounds_toArray, List.set_cons_zero, List.set_cons_succ, List.getElem_toArray, List.getElem_cons_zero, List.getElem_cons_succ]
          have z1 := z1.up b9
          have z2 := z2.up b9
          have ap := ap_of o1 o2
          have o1 := ownK9_up o1 b9
          have o2 := ownK9_base o2 bw.size
          have bw := up2 bw b9
          clear b9
          have PR := Lib.hid (⟨bw, z1, z2, o1, o2, bg1, bg2, ne, ap⟩ : Pre w3 u4 g1 g2 (.slice A1 n c1) n l (.slice A2 n c2) n l)
          obtain ⟨f1, f2, f3, f4⟩ := z1.facts
          clear z1 z2 o1 o2 ap ne
          refine wpAnyH_ready (rs := [6]) (by kernel_rfl) (by simp) ?_
          refine AllReadyH.cons rfl (fun K hK => ?_) AllReadyH.nil
          go_simp
          refine hK.out _ _ (HH.out _ (below_st (below_st bw bg1 _) bg1 _)) (fun _ => ?_)
          clear hK K
          try simp only [Act.put, List.setIfInBounds_toArray, List.set_cons_zero, List.set_cons_succ, List.getElem_toArray, List.getElem_cons_zero, List.getElem_cons_succ]
          obtain ⟨wm, hwm⟩ : ∃ x, (u4.setCell ⟨g1, 0, none⟩ (.int .i64 N)).setCell ⟨g1, 1, none⟩ (.slice A1 n c1) = x := ⟨_, rfl⟩
          have PM := Lib.hid (PR.out.mid N)
          rw [hwm] at PM
          simp only [hwm]
          clear hwm f1 f2 f3 f4
          obtain ⟨f1, f2, f3, f4⟩ := PM.out.zm.facts
          refine wpAnyH_ready (rs := [7]) (by kernel_rfl) (by simp) ?_
          refine AllReadyH.cons rfl (fun K hK => ?_) AllReadyH.nil
          go_simp
          refine hK.out _ _ (HH.out _ (below_st (below_st PM.out.below bg2 _) bg2 _)) (fun _ => ?_)
          clear hK K
          try simp only [Act.put, List.setIfInBounds_toArray, List.set_cons_zero, List.set_cons_succ, List.getElem_toArray, List.getElem_cons_zero, List.getElem_cons_succ]
          have DU := Lib.hid (PM.out.fin)
          clear PM f1 f2 f3 f4
          refine wpAnyH_done (by kernel_rfl) ?_ _
          refine NoPanic.normal ?_
          go_wp2_with fail
          go_meet
          exact ⟨g1, g2, A1, c1, A2, c2, rfl, rfl, DU.out⟩
      · go_simp
        refine hK.out _ _ (HH.out _ (up1 bw _)) (fun _ => ?_)
        clear hK K
        try simp only [Act.put, List.setIfInBounds_toArray, List.set_cons_zero, List.set_cons_succ, List.getElem_toArray, List.getElem_cons_zero, List.getElem_cons_succ]
        obtain ⟨u1, hn⟩ : ∃ x, u0.alloc zbox = x := ⟨_, rfl⟩
        obtain ⟨g2, hg⟩ : ∃ x, u0.heap.size = x := ⟨_, rfl⟩
        have z2 : Zb u1 g2 := by rw [← hn, ← hg]; exact heap_alloc_new u0 _
        have bg2 : w3.heap.size ≤ g2 := by rw [← hg]; exact bw.size
        have bn : Below u0.heap.size u0 u1 := by rw [← hn]; exact (Below.refl _ u0).alloc (Nat.le_refl _) _
        have bw := up2 bw bn
        simp only [hn, hg]
        clear hn hg bn
        refine wpAnyH_ready (rs := [1, 4]) (by kernel_rfl) (by simp) ?_
        refine AllReadyH.cons rfl (fun K hK => ?_) (AllReadyH.cons rfl (fun K hK => ?_) AllReadyH.nil)
        · rw [if_pos (by rfl)]
          go_wp2_with fail
          refine (KO.out _ bw).mono ?_
          rintro e u2 ⟨_, rfl, A1, c1, rfl, o1, b9⟩
          rw [HL.out.1] at o1 ⊢
          go_wp2_with fail
          refine hK.out _ _ (HH.out _ (up2 bw b9)) (fun _ => ?_)
          clear hK K
          try simp only [Act.put, List.setIfInBounds_toArray, List.set_cons_zero, List.set_cons_succ, List.getElem_toArray, List.getElem_cons_zero, List.getElem_cons_succ]
          have z2 := z2.up b9
          have o1 := ownK9_base o1 bw.size
          have bw := up2 bw b9
          clear b9
          refine wpAnyH_ready (rs := [3, 4]) (by kernel_rfl) (by simp) ?_
          refine AllReadyH.cons rfl (fun K hK => ?_) (AllReadyH.cons rfl (fun K hK => ?_) AllReadyH.nil)
          · rw [if_pos (by rfl)]
            go_wp2_with fail
            refine (KO.out _ bw).mono ?_
            rintro e u3 ⟨_, rfl, A2, c2, rfl, o2, b9⟩
            rw [HL.out.1] at o2 ⊢
            go_wp2_with fail
            refine hK.out _ _ (HH.out _ (up2 bw b9)) (fun _ => ?_)
            clear hK K
            try simp only [Act.put, List.setIfInBounds_toArray, List.set_cons_zero, List.set_cons_succ, List.getElem_toArray, List.getElem_cons_zero, List.getElem_cons_succ]
            have z2 := z2.up b9
            have ap := ap_of o1 o2
            have o1 := ownK9_up o1 b9
            have o2 := ownK9_base o2 bw.size
            have bw := up2 bw b9
            clear b9
            refine wpAnyH_ready (rs := [4]) (by kernel_rfl) (by simp) ?_
            refine AllReadyH.cons rfl (fun K hK => ?_) AllReadyH.nil
            go_simp
            refine hK.out _ _ (HH.out _ (up1 bw _)) (fun _ => ?_)
            clear hK K
            try simp only [Act.put, List.setIfInBounds_toArray, List.set_cons_zero, List.set_cons_succ, List.getElem_toArray, List.getElem_cons_zero, List.getElem_cons_succ]
            obtain ⟨u4, hn⟩ : ∃ x, u3.alloc zbox = x := ⟨_, rfl⟩
            obtain ⟨g1, hg⟩ : ∃ x, u3.heap.size = x := ⟨_, rfl⟩
            have z1 : Zb u4 g1 := by rw [← hn, ← hg]; exact heap_alloc_new u3 _
            have bg1 : w3.heap.size ≤ g1 := by rw [← hg]; exact bw.size
            have bn : Below u3.heap.size u3 u4 := by rw [← hn]; exact (Below.refl _ u3).alloc (Nat.le_refl _) _
            have ne : g1 ≠ g2 := by have := heap_lt z2; omega
            have z2 := z2.up bn
            have o1 := ownK9_up o1 bn
            have o2 := ownK9_up o2 bn
            have bw := up2 bw bn
            simp only [hn, hg]
            clear hn hg bn
            have PR := Lib.hid (⟨bw, z1, z2, o1, o2, bg1, bg2, ne, ap⟩ : Pre w3 u4 g1 g2 (.slice A1 n c1) n l (.slice A2 n c2) n l)
            obtain ⟨f1, f2, f3, f4⟩ := z1.facts
            clear z1 z2 o1 o2 ap ne
            refine wpAnyH_ready (rs := [6]) (by kernel_rfl) (by simp) ?_
            refine AllReadyH.cons rfl (fun K hK => ?_) AllReadyH.nil
            go_simp
            refine hK.out _ _ (HH.out _ (below_st (below_st bw bg1 _) bg1 _)) (fun _ => ?_)
            clear hK K
            try simp only [Act.put, List.setIfInBounds_toArray, List.set_cons_zero, List.set_cons_succ, List.getElem_toArray, List.getElem_cons_zero, List.getElem_cons_succ]
            obtain ⟨wm, hwm⟩ : ∃ x, (u4.setCell ⟨g1, 0, none⟩ (.int .i64 N)).setCell ⟨g1, 1, none⟩ (.slice A1 n c1) = x := ⟨_, rfl⟩
            have PM := Lib.hid (PR.out.mid N)
            rw [hwm] at PM
            simp only [hwm]
            clear hwm f1 f2 f3 f4
            obtain ⟨f1, f2, f3, f4⟩ := PM.out.zm.facts
            refine wpAnyH_ready (rs := [7]) (by kernel_rfl) (by simp) ?_
            refine AllReadyH.cons rfl (fun K hK => ?_) AllReadyH.nil
            go_simp
            refine hK.out _ _ (HH.out _ (below_st (below_st PM.out.below bg2 _) bg2 _)) (fun _ => ?_)
            clear hK K
            try simp only [Act.put, List.setIfInBounds_toArray, List.set_cons_zero, List.set_cons_succ, List.getElem_toArray, List.getElem_cons_zero, List.getElem_cons_succ]
            have DU := Lib.hid (PM.out.fin)
            clear PM f1 f2 f3 f4
            refine wpAnyH_done (by kernel_rfl) ?_ _
            refine NoPanic.normal ?_
            go_wp2_with fail
            go_meet
            exact ⟨g1, g2, A1, c1, A2, c2, rfl, rfl, DU.out⟩
          · go_simp
            refine hK.out _ _ (HH.out _ (up1 bw _)) (fun _ => ?_)
            clear hK K
            try simp only [Act.put, List.setIfInBounds_toArray, List.set_cons_zero, List.set_cons_succ, List.getElem_toArray, List.getElem_cons_zero, List.getElem_cons_succ]
            obtain ⟨u3, hn⟩ : ∃ x, u2.alloc zbox = x := ⟨_, rfl⟩
            obtain ⟨g1, hg⟩ : ∃ x, u2.heap.size = x := ⟨_, rfl⟩
            have z1 : Zb u3 g1 := by rw [← hn, ← hg]; exact heap_alloc_new u2 _
            have bg1 : w3.heap.size ≤ g1 := by rw [← hg]; exact bw.size
            have bn : Below u2.heap.size u2 u3 := by rw [← hn]; exact (Below.refl _ u2).alloc (Nat.le_refl _) _
            have ne : g1 ≠ g2 := by have := heap_lt z2; omega
            have z2 := z2.up bn
            have o1 := ownK9_up o1 bn
            have bw := up2 bw bn
            simp only [hn, hg]
            clear hn hg bn
            refine wpAnyH_ready (rs := [3]) (by kernel_rfl) (by simp) ?_
            refine AllReadyH.cons rfl (fun K hK => ?_) AllReadyH.nil
            rw [if_pos (by rfl)]
            go_wp2_with fail
            refine (KO.out _ bw).mono ?_
            rintro e u4 ⟨_, rfl, A2, c2, rfl, o2, b9⟩
            rw [HL.out.1] at o2 ⊢
            go_wp2_with fail
            refine hK.out _ _ (HH.out _ (up2 bw b9)) (fun _ => ?_)
            clear hK K
            try simp only [Act.put, List.setIfInBounds_toArray, List.set_cons_zero, List.set_cons_succ, List.getElem_toArray, List.getElem_cons_zero, List.getElem_cons_succ]
            have z1 := z1.up b9
            have z2 := z2.up b9
            have ap := ap_of o1 o2
            have o1 := ownK9_up o1 b9
            have o2 := ownK9_base o2 bw.size
            have bw := up2 bw b9
            clear b9
            have PR := Lib.hid (⟨bw, z1, z2, o1, o2, bg1, bg2, ne, ap⟩ : Pre w3 u4 g1 g2 (.slice A1 n c1) n l (.slice A2 n c2) n l)
            obtain ⟨f1, f2, f3, f4⟩ := z1.facts
            clear z1 z2 o1 o2 ap ne
            refine wpAnyH_ready (rs := [6]) (by kernel_rfl) (by simp) ?_
            refine AllReadyH.cons rfl (fun K hK => ?_) AllReadyH.nil
            go_simp
            refine hK.out _ _ (HH.out _ (below_st (below_st bw bg1 _) bg1 _)) (fun _ => ?_)
            clear hK K
            try simp only [Act.put, List.setIfInBounds_toArray, List.set_cons_zero, List.set_cons_succ, List.getElem_toArray, List.getElem_cons_zero, List.getElem_cons_succ]
            obtain ⟨wm, hwm⟩ : ∃ x, (u4.setCell ⟨g1, 0, none⟩ (.int .i64 N)).setCell ⟨g1, 1, none⟩ (.slice A1 n c1) = x := ⟨_, rfl⟩
            have PM := Lib.hid (PR.out.mid N)
            rw [hwm] at PM
            simp only [hwm]
            clear hwm f1 f2 f3 f4
            obtain ⟨f1, f2, f3, f4⟩ := PM.out.zm.facts
            refine wpAnyH_ready (rs := [7]) (by kernel_rfl) (by simp) ?_
            refine AllReadyH.cons rfl (fun K hK => ?_) AllReadyH.nil
            go_simp
            refine hK.out _ _ (HH.out _ (below_st (below_st PM.out.below bg2 _) bg2 _)) (fun _ => ?_)
            clear hK K
            try simp only [Act.put, List.setIfInBounds_toArray, List.set_cons_zero, List.set_cons_succ, List.getElem_toArray, List.getElem_cons_zero, List.getElem_cons_succ]
            have DU := Lib.hid (PM.out.fin)
            clear PM f1 f2 f3 f4
            refine wpAnyH_done (by kernel_rfl) ?_ _
            refine NoPanic.normal ?_
            go_wp2_with fail
            go_meet
            exact ⟨g1, g2, A1, c1, A2, c2, rfl, rfl, DU.out⟩
        · go_simp
          refine hK.out _ _ (HH.out _ (up1 bw _)) (fun _ => ?_)
          clear hK K
          try simp only [Act.put, List.setIfInBounds_toArray, List.set_cons_zero, List.set_cons_succ, List.getElem_toArray, List.getElem_cons_zero, List.getElem_cons_succ]
          obtain ⟨u2, hn⟩ : ∃ x, u1.alloc zbox = x := ⟨_, rfl⟩
          obtain ⟨g1, hg⟩ : ∃ x, u1.heap.size = x := ⟨_, rfl⟩
          have z1 : Zb u2 g1 := by rw [← hn, ← hg]; exact heap_alloc_new u1 _
          have bg1 : w3.heap.size ≤ g1 := by rw [← hg]; exact bw.size
          have bn : Below u1.heap.size u1 u2 := by rw [← hn]; exact (Below.refl _ u1).alloc (Nat.le_refl _) _
          have ne : g1 ≠ g2 := by have := heap_lt z2; omega
          have z2 := z2.up bn
          have bw := up2 bw bn
          simp only [hn, hg]
          clear hn hg bn
          refine wpAnyH_ready (rs := [1]) (by kernel_rfl) (by simp) ?_
          refine AllReadyH.cons rfl (fun K hK => ?_) AllReadyH.nil
          rw [if_pos (by rfl)]
          go_wp2_with fail
          refine (KO.out _ bw).mono ?_
          rintro e u3 ⟨_, rfl, A1, c1, rfl, o1, b9⟩
          rw [HL.out.1] at o1 ⊢
          go_wp2_with fail
          refine hK.out _ _ (HH.out _ (up2 bw b9)) (fun _ => ?_)
          clear hK K
          try simp only [Act.put, List.setIfInBounds_toArray, List.set_cons_zero, List.set_cons_succ, List.getElem_toArray, List.getElem_cons_zero, List.getElem_cons_succ]
          have z1 := z1.up b9
          have z2 := z2.up b9
          have o1 := ownK9_base o1 bw.size
          have bw := up2 bw b9
          clear b9
          refine wpAnyH_ready (rs := [3]) (by kernel_rfl) (by simp) ?_
          refine AllReadyH.cons rfl (fun K hK => ?_) AllReadyH.nil
          rw [if_pos (by rfl)]
          go_wp2_with fail
          refine (KO.out _ bw).mono ?_
          rintro e u4 ⟨_, rfl, A2, c2, rfl, o2, b9⟩
          rw [HL.out.1] at o2 ⊢
          go_wp2_with fail
          refine hK.out _ _ (HH.out _ (up2 bw b9)) (fun _ => ?_)
          clear hK K
          try simp only [Act.put, List.setIfInBounds_toArray, List.set_cons_zero, List.set_cons_succ, List.getElem_toArray, List.getElem_cons_zero, List.getElem_cons_succ]
          have z1 := z1.up b9
          have z2 := z2.up b9
          have ap := ap_of o1 o2
          have o1 := ownK9_up o1 b9
          have o2 := ownK9_base o2 bw.size
          have bw := up2 bw b9
          clear b9
          have PR := Lib.hid (⟨bw, z1, z2, o1, o2, bg1, bg2, ne, ap⟩ : Pre w3 u4 g1 g2 (.slice A1 n c1) n l (.slice A2 n c2) n l)
          obtain ⟨f1, f2, f3, f4⟩ := z1.facts
          clear z1 z2 o1 o2 ap ne
          refine wpAnyH_ready (rs := [6]) (by kernel_rfl) (by simp) ?_
          refine AllReadyH.cons rfl (fun K hK => ?_) AllReadyH.nil
          go_simp
          refine hK.out _ _ (HH.out _ (below_st (below_st bw bg1 _) bg1 _)) (fun _ => ?_)
          clear hK K
          try simp only [Act.put, List.setIfInBounds_toArray, List.set_cons_zero, List.set_cons_succ, List.getElem_toArray, List.getElem_cons_zero, List.getElem_cons_succ]
          obtain ⟨wm, hwm⟩ : ∃ x, (u4.setCell ⟨g1, 0, none⟩ (.int .i64 N)).setCell ⟨g1, 1, none⟩ (.slice A1 n c1) = x := ⟨_, rfl⟩
          have PM := Lib.hid (PR.out.mid N)
          rw [hwm] at PM
          simp only [hwm]
          clear hwm f1 f2 f3 f4
          obtain ⟨f1, f2, f3, f4⟩ := PM.out.zm.facts
          refine wpAnyH_ready (rs := [7]) (by kernel_rfl) (by simp) ?_
          refine AllReadyH.cons rfl (fun K hK => ?_) AllReadyH.nil
          go_simp
          refine hK.out _ _ (HH.out _ (below_st (below_st PM.out.below bg2 _) bg2 _)) (fun _ => ?_)
          clear hK K
          try simp only [Act.put, List.setIfInBounds_toArray, List.set_cons_zero, List.set_cons_succ, List.getElem_toArray, List.getElem_cons_zero, List.getElem_cons_succ]
          have DU := Lib.hid (PM.out.fin)
          clear PM f1 f2 f3 f4
          refine wpAnyH_done (by kernel_rfl) ?_ _
          refine NoPanic.normal ?_
          go_wp2_with fail
          go_meet
          exact ⟨g1, g2, A1, c1, A2, c2, rfl, rfl, DU.out⟩
    case rest =>
      obtain ⟨gt, gm, At, ct, Am, cm, rfl, rfl, du⟩ := hcut
      have D0 := Lib.hid du
      clear du e0 e1 KO HH KG
      obtain ⟨bA, off, rfl, _⟩ := HL.out.2 (by omega)
      obtain ⟨x, hx⟩ : ∃ x, l.getD k z3 = x := ⟨_, rfl⟩
      have HX := Lib.hid hx
      obtain ⟨x0, x1, x2⟩ := x
      have HC := Lib.hid (fun W (b : Below w3.heap.size w3 W) => (show W.cell? ⟨g, 0, none⟩ = some (.int .i64 N) ∧ W.cell? ⟨g, 1, none⟩ = some (.slice (some ⟨bA, off, none⟩) n c) ∧ W.cell? ⟨bA, off + k * 3, none⟩ = some (.int .i64 x0) ∧ W.cell? ⟨bA, off + k * 3 + 1, none⟩ = some (.int .i64 x1) ∧ W.cell? ⟨bA, off + k * 3 + 2, none⟩ = some (.int .i64 x2) from by
        obtain ⟨_, _, he, hat⟩ := (HL.out.below (up2 B3.out b)).2 (by omega)
        injection he with he
        injection he with he1 he2
        subst he1 he2
        obtain ⟨c0, c1, c2⟩ := hat k hkn
        rw [hx] at c0 c1 c2
        exact ⟨(X3.out.below b).c0, (X3.out.below b).c1, c0, c1, c2⟩))
      clear hx
      have hkn' : (k : Int) < n := by omega
      have DD := Lib.hid (D0.out.up (Reading.below ⟨1, rfl⟩ : Below wc.heap.size wc wc.drew))
      have hd5 := HC.out wc.drew DD.out.below
      have q1 : wc.drew.cell? ⟨gt, 1, none⟩ = some (.slice At n ct) := by rw [cell_in DD.out.bt]; rfl
      have q2 : (wc.alloc (.cells #[.int .i64 x0, .int .i64 x1, .int .i64 x2] 41)).cell? ⟨gt, 1, none⟩ = some (.slice At n ct) := by rw [cell_in (D0.out.up ((Below.refl _ wc).alloc (Nat.le_refl _) _)).bt]; rfl
      go_upto_region 6 with fail
      go_cut [6, 7] (Own2A w3 N gt gm (n + 1) (l ++ [(x0, x1, x2)]) n l)
      case first =>
        go_wp2_with fail
        refine wp_region_noPanic ?_
        refine wp_region_held_drew (S := fun w' => w'.cell? ⟨g, 0, none⟩ = some (.int .i64 N) ∧ w'.cell? ⟨g, 1, none⟩ = some (.slice (some ⟨bA, off, none⟩) n c) ∧ w'.cell? ⟨bA, off + k * 3, none⟩ = some (.int .i64 x0) ∧ w'.cell? ⟨bA, off + k * 3 + 1, none⟩ = some (.int .i64 x1) ∧ w'.cell? ⟨bA, off + k * 3 + 2, none⟩ = some (.int .i64 x2)) (by kernel_rfl) hd5 (fun _ => ?_)
        refine wpAnyH_take (i := 0) (v := ?v0x3) rfl (by kernel_rfl) (by kernel_rfl) (by kernel_rfl) (fun _ _ _ h => h) (Or.inl ⟨by rfl, ?y0x3⟩) hd5 ?_
        case y0x3 => (intro w hSw; (try dsimp only at hSw); go_simp; try with_reducible rfl)
        simp only [Act.put, List.setIfInBounds_toArray, List.set_cons_zero, List.set_cons_succ, List.getElem_toArray, List.getElem_cons_zero]
        refine wpAnyH_take (i := 2) (v := ?v2x4) rfl (by kernel_rfl) (by kernel_rfl) (by kernel_rfl) (fun _ _ _ h => h) (Or.inl ⟨by rfl, ?y2x4⟩) hd5 ?_
        case y2x4 => (intro w hSw; (try dsimp only at hSw); go_simp; try with_reducible rfl)
        simp only [Act.put, List.setIfInBounds_toArray, List.set_cons_zero, List.set_cons_succ, List.getElem_toArray, List.getElem_cons_zero, List.getElem_cons_succ]
        refine wpAnyH_take (i := 3) (v := ?v3x5) rfl (by kernel_rfl) (by kernel_rfl) (by kernel_rfl) (fun _ _ _ h => h) (Or.inl ⟨by rfl, ?y3x5⟩) hd5 ?_
        case y3x5 => (intro w hSw; (try dsimp only at hSw); go_simp; try with_reducible rfl)
        simp only [Act.put, List.setIfInBounds_toArray, List.set_cons_zero, List.set_cons_succ, List.getElem_toArray, List.getElem_cons_zero, List.getElem_cons_succ]
        refine wpAnyH_take (i := 4) (v := ?v4x6) rfl (by kernel_rfl) (by kernel_rfl) (by kernel_rfl) (fun _ _ _ h => h) (Or.inl ⟨by rfl, ?y4x6⟩) hd5 ?_
        case y4x6 => (intro w hSw; (try dsimp only at hSw); go_simp; try with_reducible rfl)
        simp only [Act.put, List.setIfInBounds_toArray, List.set_cons_zero, List.set_cons_succ, List.getElem_toArray, List.getElem_cons_zero, List.getElem_cons_succ]
        refine wpAnyH_take (i := 5) (v := ?v5x7) rfl (by kernel_rfl) (by kernel_rfl) (by kernel_rfl) (fun _ _ _ h => h) (Or.inl ⟨by rfl, ?y5x7⟩) hd5 ?_
        case y5x7 => (intro w hSw; (try dsimp only at hSw); go_simp; try with_reducible rfl)
        simp only [Act.put, List.setIfInBounds_toArray, List.set_cons_zero, List.set_cons_succ, List.getElem_toArray, List.getElem_cons_zero, List.getElem_cons_succ]
        refine wpAnyH_take (i := 6) (v := ?v6x8) rfl (by kernel_rfl) (by kernel_rfl) (by kernel_rfl) (fun _ _ _ h => h) (Or.inl ⟨by rfl, ?y6x8⟩) hd5 ?_
        case y6x8 => (intro w hSw; (try dsimp only at hSw); go_simp; try with_reducible rfl)
        simp only [Act.put, List.setIfInBounds_toArray, List.set_cons_zero, List.set_cons_succ, List.getElem_toArray, List.getElem_cons_zero, List.getElem_cons_succ]
        refine wpAnyH_ready (rs := [1, 7]) (by kernel_rfl) (by simp) ?_
        refine AllReadyH.cons rfl (fun K hK => ?_) (AllReadyH.cons rfl (fun K hK => ?_) AllReadyH.nil)
        · go_simp
          refine hK.out _ _ hd5 (fun _ => ?_)
          clear hK K
          try simp only [Act.put, List.setIfInBounds_toArray, List.set_cons_zero, List.set_cons_succ, List.getElem_toArray, List.getElem_cons_zero, List.getElem_cons_succ]
          refine wpAnyH_ready (rs := [7]) (by kernel_rfl) (by simp) ?_
          refine AllReadyH.cons rfl (fun K hK => ?_) AllReadyH.nil
          go_simp
          refine hK.out _ _ (HC.out _ (up1 DD.out.below _)) (fun _ => ?_)
          clear hK K
          try simp only [Act.put, List.setIfInBounds_toArray, List.set_cons_zero, List.set_cons_succ, List.getElem_toArray, List.getElem_cons_zero, List.getElem_cons_succ]
          refine wpAnyH_ready (rs := [8]) (by kernel_rfl) (by simp) ?_
          refine AllReadyH.cons rfl (fun K hK => ?_) AllReadyH.nil
          refine DD.out.step (x0, x1, x2) (by rfl) (.tmp 40) (.tmp 46) (by rfl) (by go_simp) (by go_simp) (by omega) ?_
          intro A9 c9 w9 b9 o9 d9
          have p9 : w9.cell? ⟨gt, 1, none⟩ = some (.slice At n ct) := by rw [cell_in o9]; rfl
          have f9 := frozen_in o9 1
          have D9 := Lib.hid d9
          clear d9 o9
          refine hK.out _ _ (HC.out _ b9) (fun _ => ?_)
          clear hK K
          try simp only [Act.put, List.setIfInBounds_toArray, List.set_cons_zero, List.set_cons_succ, List.getElem_toArray, List.getElem_cons_zero, List.getElem_cons_succ]
          refine wpAnyH_take (i := 9) (v := ?v9x9) rfl (by kernel_rfl) (by kernel_rfl) (by kernel_rfl) (fun _ _ _ h => h) (Or.inl ⟨by rfl, ?y9x9⟩) (HC.out _ b9) ?_
          case y9x9 => (intro w hSw; (try dsimp only at hSw); go_simp; try with_reducible rfl)
          simp only [Act.put, List.setIfInBounds_toArray, List.set_cons_zero, List.set_cons_succ, List.getElem_toArray, List.getElem_cons_zero, List.getElem_cons_succ]
          refine wpAnyH_ready (rs := [10]) (by kernel_rfl) (by simp) ?_
          refine AllReadyH.cons rfl (fun K hK => ?_) AllReadyH.nil
          go_simp
          refine hK.out _ _ (HC.out _ (below_st b9 D0.out.wt _)) (fun _ => ?_)
          clear hK K
          try simp only [Act.put, List.setIfInBounds_toArray, List.set_cons_zero, List.set_cons_succ, List.getElem_toArray, List.getElem_cons_zero, List.getElem_cons_succ]
          refine wpAnyH_done (by kernel_rfl) ?_ _
          refine NoPanic.normal ?_
          go_wp2_with fail
          go_meet
          exact ⟨A9, c9, Am, cm, rfl, rfl, D9.out⟩
        · go_simp
          refine hK.out _ _ (HC.out _ (up1 DD.out.below _)) (fun _ => ?_)
          clear hK K
          try simp only [Act.put, List.setIfInBounds_toArray, List.set_cons_zero, List.set_cons_succ, List.getElem_toArray, List.getElem_cons_zero, List.getElem_cons_succ]
          refine wpAnyH_ready (rs := [1]) (by kernel_rfl) (by simp) ?_
          refine AllReadyH.cons rfl (fun K hK => ?_) AllReadyH.nil
          go_simp
          refine hK.out _ _ (HC.out _ (up1 DD.out.below _)) (fun _ => ?_)
          clear hK K
          try simp only [Act.put, List.setIfInBounds_toArray, List.set_cons_zero, List.set_cons_succ, List.getElem_toArray, List.getElem_cons_zero, List.getElem_cons_succ]
          refine wpAnyH_ready (rs := [8]) (by kernel_rfl) (by simp) ?_
          refine AllReadyH.cons rfl (fun K hK => ?_) AllReadyH.nil
          refine DD.out.step (x0, x1, x2) (by rfl) (.tmp 40) (.tmp 46) (by rfl) (by go_simp) (by go_simp) (by omega) ?_
          intro A9 c9 w9 b9 o9 d9
          have p9 : w9.cell? ⟨gt, 1, none⟩ = some (.slice At n ct) := by rw [cell_in o9]; rfl
          have f9 := frozen_in o9 1
          have D9 := Lib.hid d9
          clear d9 o9
          refine hK.out _ _ (HC.out _ b9) (fun _ => ?_)
          clear hK K
          try simp only [Act.put, List.setIfInBounds_toArray, List.set_cons_zero, List.set_cons_succ, List.getElem_toArray, List.getElem_cons_zero, List.getElem_cons_succ]
          refine wpAnyH_take (i := 9) (v := ?v9x9) rfl (by kernel_rfl) (by kernel_rfl) (by kernel_rfl) (fun _ _ _ h => h) (Or.inl ⟨by rfl, ?y9x9⟩) (HC.out _ b9) ?_
          case y9x9 => (intro w hSw; (try dsimp only at hSw); go_simp; try with_reducible rfl)
          simp only [Act.put, List.setIfInBounds_toArray, List.set_cons_zero, List.set_cons_succ, List.getElem_toArray, List.getElem_cons_zero, List.getElem_cons_succ]
          refine wpAnyH_ready (rs := [10]) (by kernel_rfl) (by simp) ?_
          refine AllReadyH.cons rfl (fun K hK => ?_) AllReadyH.nil
          go_simp
          refine hK.out _ _ (HC.out _ (below_st b9 D0.out.wt _)) (fun _ => ?_)
          clear hK K
          try simp only [Act.put, List.setIfInBounds_toArray, List.set_cons_zero, List.set_cons_succ, List.getElem_toArray, List.getElem_cons_zero, List.getElem_cons_succ]
          refine wpAnyH_done (by kernel_rfl) ?_ _
          refine NoPanic.normal ?_
          go_wp2_with fail
          go_meet
          exact ⟨A9, c9, Am, cm, rfl, rfl, D9.out⟩
      case rest =>
        obtain ⟨A1, c1, Am, cm, rfl, rfl, du⟩ := hcut
        have D1 := Lib.hid du
        clear du q1 q2 hd5 DD
        have DD := Lib.hid (D1.out.up (Reading.below ⟨1, rfl⟩ : Below wc.heap.size wc wc.drew))
        have hd5 := HC.out wc.drew DD.out.below
        have q1 : wc.drew.cell? ⟨gm, 1, none⟩ = some (.slice Am n cm) := by rw [cell_in DD.out.bm]; rfl
        have q2 : (wc.alloc (.cells #[.int .i64 x0, .int .i64 x2, .int .i64 x1] 41)).cell? ⟨gm, 1, none⟩ = some (.slice Am n cm) := by rw [cell_in (D1.out.up ((Below.refl _ wc).alloc (Nat.le_refl _) _)).bm]; rfl
        go_upto_region 7 with fail
        go_cut [6, 7] (Own2A w3 N gt gm (n + 1) (l ++ [(x0, x1, x2)]) (n + 1) (l ++ [(x0, x2, x1)]))
        case first =>
          go_wp2_with fail
          refine wp_region_noPanic ?_
          refine wp_region_held_drew (S := fun w' => w'.cell? ⟨g, 0, none⟩ = some (.int .i64 N) ∧ w'.cell? ⟨g, 1, none⟩ = some (.slice (some ⟨bA, off, none⟩) n c) ∧ w'.cell? ⟨bA, off + k * 3, none⟩ = some (.int .i64 x0) ∧ w'.cell? ⟨bA, off + k * 3 + 1, none⟩ = some (.int .i64 x1) ∧ w'.cell? ⟨bA, off + k * 3 + 2, none⟩ = some (.int .i64 x2)) (by kernel_rfl) hd5 (fun _ => ?_)
          refine wpAnyH_take (i := 0) (v := ?v0x10) rfl (by kernel_rfl) (by kernel_rfl) (by kernel_rfl) (fun _ _ _ h => h) (Or.inl ⟨by rfl, ?y0x10⟩) hd5 ?_
          case y0x10 => (intro w hSw; (try dsimp only at hSw); go_simp; try with_reducible rfl)
          simp only [Act.put, List.setIfInBounds_toArray, List.set_cons_zero, List.set_cons_succ, List.getElem_toArray, List.getElem_cons_zero]
          refine wpAnyH_take (i := 2) (v := ?v2x11) rfl (by kernel_rfl) (by kernel_rfl) (by kernel_rfl) (fun _ _ _ h => h) (Or.inl ⟨by rfl, ?y2x11⟩) hd5 ?_
          case y2x11 => (intro w hSw; (try dsimp only at hSw); go_simp; try with_reducible rfl)
          simp only [Act.put, List.setIfInBounds_toArray, List.set_cons_zero, List.set_cons_succ, List.getElem_toArray, List.getElem_cons_zero, List.getElem_cons_succ]
          refine wpAnyH_take (i := 3) (v := ?v3x12) rfl (by kernel_rfl) (by kernel_rfl) (by kernel_rfl) (fun _ _ _ h => h) (Or.inl ⟨by rfl, ?y3x12⟩) hd5 ?_
          case y3x12 => (intro w hSw; (try dsimp only at hSw); go_simp; try with_reducible rfl)
          simp only [Act.put, List.setIfInBounds_toArray, List.set_cons_zero, List.set_cons_succ, List.getElem_toArray, List.getElem_cons_zero, List.getElem_cons_succ]
          refine wpAnyH_take (i := 4) (v := ?v4x13) rfl (by kernel_rfl) (by kernel_rfl) (by kernel_rfl) (fun _ _ _ h => h) (Or.inl ⟨by rfl, ?y4x13⟩) hd5 ?_
          case y4x13 => (intro w hSw; (try dsimp only at hSw); go_simp; try with_reducible rfl)
          simp only [Act.put, List.setIfInBounds_toArray, List.set_cons_zero, List.set_cons_succ, List.getElem_toArray, List.getElem_cons_zero, List.getElem_cons_succ]
          refine wpAnyH_take (i := 5) (v := ?v5x14) rfl (by kernel_rfl) (by kernel_rfl) (by kernel_rfl) (fun _ _ _ h => h) (Or.inl ⟨by rfl, ?y5x14⟩) hd5 ?_
          case y5x14 => (intro w hSw; (try dsimp only at hSw); go_simp; try with_reducible rfl)
          simp only [Act.put, List.setIfInBounds_toArray, List.set_cons_zero, List.set_cons_succ, List.getElem_toArray, List.getElem_cons_zero, List.getElem_cons_succ]
          refine wpAnyH_take (i := 6) (v := ?v6x15) rfl (by kernel_rfl) (by kernel_rfl) (by kernel_rfl) (fun _ _ _ h => h) (Or.inl ⟨by rfl, ?y6x15⟩) hd5 ?_
          case y6x15 => (intro w hSw; (try dsimp only at hSw); go_simp; try with_reducible rfl)
          simp only [Act.put, List.setIfInBounds_toArray, List.set_cons_zero, List.set_cons_succ, List.getElem_toArray, List.getElem_cons_zero, List.getElem_cons_succ]
          refine wpAnyH_take (i := 7) (v := ?v7x16) rfl (by kernel_rfl) (by kernel_rfl) (by kernel_rfl) (fun _ _ _ h => h) (Or.inl ⟨by rfl, ?y7x16⟩) hd5 ?_
          case y7x16 => (intro w hSw; (try dsimp only at hSw); go_simp; try with_reducible rfl)
          simp only [Act.put, List.setIfInBounds_toArray, List.set_cons_zero, List.set_cons_succ, List.getElem_toArray, List.getElem_cons_zero, List.getElem_cons_succ]
          refine wpAnyH_take (i := 8) (v := ?v8x17) rfl (by kernel_rfl) (by kernel_rfl) (by kernel_rfl) (fun _ _ _ h => h) (Or.inl ⟨by rfl, ?y8x17⟩) hd5 ?_
          case y8x17 => (intro w hSw; (try dsimp only at hSw); go_simp; try with_reducible rfl)
          simp only [Act.put, List.setIfInBounds_toArray, List.set_cons_zero, List.set_cons_succ, List.getElem_toArray, List.getElem_cons_zero, List.getElem_cons_succ]
          refine wpAnyH_take (i := 9) (v := ?v9x18) rfl (by kernel_rfl) (by kernel_rfl) (by kernel_rfl) (fun _ _ _ h => h) (Or.inl ⟨by rfl, ?y9x18⟩) hd5 ?_
          case y9x18 => (intro w hSw; (try dsimp only at hSw); go_simp; try with_reducible rfl)
          simp only [Act.put, List.setIfInBounds_toArray, List.set_cons_zero, List.set_cons_succ, List.getElem_toArray, List.getElem_cons_zero, List.getElem_cons_succ]
          refine wpAnyH_take (i := 10) (v := ?v10x19) rfl (by kernel_rfl) (by kernel_rfl) (by kernel_rfl) (fun _ _ _ h => h) (Or.inl ⟨by rfl, ?y10x19⟩) hd5 ?_
          case y10x19 => (intro w hSw; (try dsimp only at hSw); go_simp; try with_reducible rfl)
          simp only [Act.put, List.setIfInBounds_toArray, List.set_cons_zero, List.set_cons_succ, List.getElem_toArray, List.getElem_cons_zero, List.getElem_cons_succ]
          refine wpAnyH_take (i := 11) (v := ?v11x20) rfl (by kernel_rfl) (by kernel_rfl) (by kernel_rfl) (fun _ _ _ h => h) (Or.inl ⟨by rfl, ?y11x20⟩) hd5 ?_
          case y11x20 => (intro w hSw; (try dsimp only at hSw); go_simp; try with_reducible rfl)
          simp only [Act.put, List.setIfInBounds_toArray, List.set_cons_zero, List.set_cons_succ, List.getElem_toArray, List.getElem_cons_zero, List.getElem_cons_succ]
          refine wpAnyH_take (i := 12) (v := ?v12x21) rfl (by kernel_rfl) (by kernel_rfl) (by kernel_rfl) (fun _ _ _ h => h) (Or.inl ⟨by rfl, ?y12x21⟩) hd5 ?_
          case y12x21 => (intro w hSw; (try dsimp only at hSw); go_simp; try with_reducible rfl)
          simp only [Act.put, List.setIfInBounds_toArray, List.set_cons_zero, List.set_cons_succ, List.getElem_toArray, List.getElem_cons_zero, List.getElem_cons_succ]
          refine wpAnyH_take (i := 13) (v := ?v13x22) rfl (by kernel_rfl) (by kernel_rfl) (by kernel_rfl) (fun _ _ _ h => h) (Or.inl ⟨by rfl, ?y13x22⟩) hd5 ?_
          case y13x22 => (intro w hSw; (try dsimp only at hSw); go_simp; try with_reducible rfl)
          simp only [Act.put, List.setIfInBounds_toArray, List.set_cons_zero, List.set_cons_succ, List.getElem_toArray, List.getElem_cons_zero, List.getElem_cons_succ]
          refine wpAnyH_take (i := 14) (v := ?v14x23) rfl (by kernel_rfl) (by kernel_rfl) (by kernel_rfl) (fun _ _ _ h => h) (Or.inl ⟨by rfl, ?y14x23⟩) hd5 ?_
          case y14x23 => (intro w hSw; (try dsimp only at hSw); go_simp; try with_reducible rfl)
          simp only [Act.put, List.setIfInBounds_toArray, List.set_cons_zero, List.set_cons_succ, List.getElem_toArray, List.getElem_cons_zero, List.getElem_cons_succ]
          refine wpAnyH_take (i := 15) (v := ?v15x24) rfl (by kernel_rfl) (by kernel_rfl) (by kernel_rfl) (fun _ _ _ h => h) (Or.inl ⟨by rfl, ?y15x24⟩) hd5 ?_
          case y15x24 => (intro w hSw; (try dsimp only at hSw); go_simp; try with_reducible rfl)
          simp only [Act.put, List.setIfInBounds_toArray, List.set_cons_zero, List.set_cons_succ, List.getElem_toArray, List.getElem_cons_zero, List.getElem_cons_succ]
          refine wpAnyH_take (i := 16) (v := ?v16x25) rfl (by kernel_rfl) (by kernel_rfl) (by kernel_rfl) (fun _ _ _ h => h) (Or.inl ⟨by rfl, ?y16x25⟩) hd5 ?_
          case y16x25 => (intro w hSw; (try dsimp only at hSw); go_simp; try with_reducible rfl)
          simp only [Act.put, List.setIfInBounds_toArray, List.set_cons_zero, List.set_cons_succ, List.getElem_toArray, List.getElem_cons_zero, List.getElem_cons_succ]
          refine wpAnyH_take (i := 17) (v := ?v17x26) rfl (by kernel_rfl) (by kernel_rfl) (by kernel_rfl) (fun _ _ _ h => h) (Or.inl ⟨by rfl, ?y17x26⟩) hd5 ?_
          case y17x26 => (intro w hSw; (try dsimp only at hSw); go_simp; try with_reducible rfl)
          simp only [Act.put, List.setIfInBounds_toArray, List.set_cons_zero, List.set_cons_succ, List.getElem_toArray, List.getElem_cons_zero, List.getElem_cons_succ]
          refine wpAnyH_take (i := 18) (v := ?v18x27) rfl (by kernel_rfl) (by kernel_rfl) (by kernel_rfl) (fun _ _ _ h => h) (Or.inl ⟨by rfl, ?y18x27⟩) hd5 ?_
          case y18x27 => (intro w hSw; (try dsimp only at hSw); go_simp; try with_reducible rfl)
          simp only [Act.put, List.setIfInBounds_toArray, List.set_cons_zero, List.set_cons_succ, List.getElem_toArray, List.getElem_cons_zero, List.getElem_cons_succ]
          refine wpAnyH_take (i := 19) (v := ?v19x28) rfl (by kernel_rfl) (by kernel_rfl) (by kernel_rfl) (fun _ _ _ h => h) (Or.inl ⟨by rfl, ?y19x28⟩) hd5 ?_
          case y19x28 => (intro w hSw; (try dsimp only at hSw); go_simp; try with_reducible rfl)
          simp only [Act.put, List.setIfInBounds_toArray, List.set_cons_zero, List.set_cons_succ, List.getElem_toArray, List.getElem_cons_zero, List.getElem_cons_succ]
          refine wpAnyH_take (i := 20) (v := ?v20x29) rfl (by kernel_rfl) (by kernel_rfl) (by kernel_rfl) (fun _ _ _ h => h) (Or.inl ⟨by rfl, ?y20x29⟩) hd5 ?_
          case y20x29 => (intro w hSw; (try dsimp only at hSw); go_simp; try with_reducible rfl)
          simp only [Act.put, List.setIfInBounds_toArray, List.set_cons_zero, List.set_cons_succ, List.getElem_toArray, List.getElem_cons_zero, List.getElem_cons_succ]
          refine wpAnyH_ready (rs := [1, 21]) (by kernel_rfl) (by simp) ?_
          refine AllReadyH.cons rfl (fun K hK => ?_) (AllReadyH.cons rfl (fun K hK => ?_) AllReadyH.nil)
          · go_simp
            refine hK.out _ _ hd5 (fun _ => ?_)
            clear hK K
            try simp only [Act.put, List.setIfInBounds_toArray, List.set_cons_zero, List.set_cons_succ, List.getElem_toArray, List.getElem_cons_zero, List.getElem_cons_succ]
            refine wpAnyH_ready (rs := [21]) (by kernel_rfl) (by simp) ?_
            refine AllReadyH.cons rfl (fun K hK => ?_) AllReadyH.nil
            go_simp
            refine hK.out _ _ (HC.out _ (up1 DD.out.below _)) (fun _ => ?_)
            clear hK K
            try simp only [Act.put, List.setIfInBounds_toArray, List.set_cons_zero, List.set_cons_succ, List.getElem_toArray, List.getElem_cons_zero, List.getElem_cons_succ]
            refine wpAnyH_ready (rs := [22]) (by kernel_rfl) (by simp) ?_
            refine AllReadyH.cons rfl (fun K hK => ?_) AllReadyH.nil
            refine DD.out.stepM (x0, x2, x1) (by rfl) (.tmp 50) (.tmp 70) (by rfl) (by go_simp) (by go_simp) (by omega) ?_
            intro A9 c9 w9 b9 o9 d9
            have p9 : w9.cell? ⟨gm, 1, none⟩ = some (.slice Am n cm) := by rw [cell_in o9]; rfl
            have f9 := frozen_in o9 1
            have D9 := Lib.hid d9
            clear d9 o9
            refine hK.out _ _ (HC.out _ b9) (fun _ => ?_)
            clear hK K
            try simp only [Act.put, List.setIfInBounds_toArray, List.set_cons_zero, List.set_cons_succ, List.getElem_toArray, List.getElem_cons_zero, List.getElem_cons_succ]
            refine wpAnyH_take (i := 23) (v := ?v23x30) rfl (by kernel_rfl) (by kernel_rfl) (by kernel_rfl) (fun _ _ _ h => h) (Or.inl ⟨by rfl, ?y23x30⟩) (HC.out _ b9) ?_
            case y23x30 => (intro w hSw; (try dsimp only at hSw); go_simp; try with_reducible rfl)
            simp only [Act.put, List.setIfInBounds_toArray, List.set_cons_zero, List.set_cons_succ, List.getElem_toArray, List.getElem_cons_zero, List.getElem_cons_succ]
            refine wpAnyH_ready (rs := [24]) (by kernel_rfl) (by simp) ?_
            refine AllReadyH.cons rfl (fun K hK => ?_) AllReadyH.nil
            go_simp
            refine hK.out _ _ (HC.out _ (below_st b9 D1.out.wm _)) (fun _ => ?_)
            clear hK K
            try simp only [Act.put, List.setIfInBounds_toArray, List.set_cons_zero, List.set_cons_succ, List.getElem_toArray, List.getElem_cons_zero, List.getElem_cons_succ]
            refine wpAnyH_done (by kernel_rfl) ?_ _
            refine NoPanic.normal ?_
            go_wp2_with fail
            go_meet
            exact ⟨A1, c1, A9, c9, rfl, rfl, D9.out⟩
          · go_simp
            refine hK.out _ _ (HC.out _ (up1 DD.out.below _)) (fun _ => ?_)
            clear hK K
            try simp only [Act.put, List.setIfInBounds_toArray, List.set_cons_zero, List.set_cons_succ, List.getElem_toArray, List.getElem_cons_zero, List.getElem_cons_succ]
            refine wpAnyH_ready (rs := [1]) (by kernel_rfl) (by simp) ?_
            refine AllReadyH.cons rfl (fun K hK => ?_) AllReadyH.nil
            go_simp
            refine hK.out _ _ (HC.out _ (up1 DD.out.below _)) (fun _ => ?_)
            clear hK K
            try simp only [Act.put, List.setIfInBounds_toArray, List.set_cons_zero, List.set_cons_succ, List.getElem_toArray, List.getElem_cons_zero, List.getElem_cons_succ]
            refine wpAnyH_ready (rs := [22]) (by kernel_rfl) (by simp) ?_
            refine AllReadyH.cons rfl (fun K hK => ?_) AllReadyH.nil
            refine DD.out.stepM (x0, x2, x1) (by rfl) (.tmp 50) (.tmp 70) (by rfl) (by go_simp) (by go_simp) (by omega) ?_
            intro A9 c9 w9 b9 o9 d9
            have p9 : w9.cell? ⟨gm, 1, none⟩ = some (.slice Am n cm) := by rw [cell_in o9]; rfl
            have f9 := frozen_in o9 1
            have D9 := Lib.hid d9
            clear d9 o9
            refine hK.out _ _ (HC.out _ b9) (fun _ => ?_)
            clear hK K
            try simp only [Act.put, List.setIfInBounds_toArray, List.set_cons_zero, List.set_cons_succ, List.getElem_toArray, List.getElem_cons_zero, List.getElem_cons_succ]
            refine wpAnyH_take (i := 23) (v := ?v23x30) rfl (by kernel_rfl) (by kernel_rfl) (by kernel_rfl) (fun _ _ _ h => h) (Or.inl ⟨by rfl, ?y23x30⟩) (HC.out _ b9) ?_
            case y23x30 => (intro w hSw; (try dsimp only at hSw); go_simp; try with_reducible rfl)
            simp only [Act.put, List.setIfInBounds_toArray, List.set_cons_zero, List.set_cons_succ, List.getElem_toArray, List.getElem_cons_zero, List.getElem_cons_succ]
            refine wpAnyH_ready (rs := [24]) (by kernel_rfl) (by simp) ?_
            refine AllReadyH.cons rfl (fun K hK => ?_) AllReadyH.nil
            go_simp
            refine hK.out _ _ (HC.out _ (below_st b9 D1.out.wm _)) (fun _ => ?_)
            clear hK K
            try simp only [Act.put, List.setIfInBounds_toArray, List.set_cons_zero, List.set_cons_succ, List.getElem_toArray, List.getElem_cons_zero, List.getElem_cons_succ]
            refine wpAnyH_done (by kernel_rfl) ?_ _
            refine NoPanic.normal ?_
            go_wp2_with fail
            go_meet
            exact ⟨A1, c1, A9, c9, rfl, rfl, D9.out⟩
        case rest =>
          obtain ⟨A2, c2, A3, c3, rfl, rfl, du⟩ := hcut
          have D2 := Lib.hid du
          clear du q1 q2 hd5 DD
          obtain ⟨p1, hp1⟩ := isPin_exists (l ++ [(x0, x1, x2)])
          obtain ⟨p2, hp2⟩ := isPin_exists (l ++ [(x0, x2, x1)])
          have hl := HL.out.1
          have hw1 : wits p1 N (l ++ [(x0, x1, x2)]) = [(3, (k : Int), (n : Int))] := by
            have := surf_twin HS.out (by omega) (show k < l.length by omega) (ws := wits p1 N (l ++ [(x0, x1, x2)])) (by rw [HX.out]; exact ⟨p1, hp1, rfl⟩)
            rw [this, hl]
          obtain ⟨y, r, hw2, hy⟩ := surf_twin_mir HS.out (by omega) (show k < l.length by omega) (ws := wits p2 N (l ++ [(x0, x2, x1)])) (by rw [HX.out]; exact ⟨p2, hp2, rfl⟩)
          obtain ⟨y0, y1, y2⟩ := y
          have hy : y0 = 3 ∨ y0 = 4 := hy
          have K1 := Lib.hid (fun W (b : Below wc.heap.size wc W) => (ccheck_any W N A2 (n + 1) c2 (l ++ [(x0, x1, x2)]) p1 ((T3.of_own D2.out.ot).below b) hp1 (by omega)).mono (R' := fun e w' => e = .returned (.agg #[.int .i64 3, .int .i64 (k : Int), .int .i64 (n : Int)]) ∧ Below W.heap.size W w') (by rintro e w' ⟨rfl, b⟩; rw [hw1]; exact ⟨rfl, b⟩))
          have K2 := Lib.hid (fun W (b : Below wc.heap.size wc W) => (ccheck_any W N A3 (n + 1) c3 (l ++ [(x0, x2, x1)]) p2 ((T3.of_own D2.out.om).below b) hp2 (by omega)).mono (R' := fun e w' => e = .returned (.agg #[.int .i64 y0, .int .i64 y1, .int .i64 y2]) ∧ Below W.heap.size W w') (by rintro e w' ⟨rfl, b⟩; rw [hw2]; exact ⟨rfl, b⟩))
          have K3 := Lib.hid (fun W (b : Below wc.heap.size wc W) => (cis_any W N A3 (n + 1) c3 (l ++ [(x0, x2, x1)]) p2 ((T3.of_own D2.out.om).below b) hp2 (by omega)).mono (R' := BoolTold9 W false) (by rintro e w' ⟨rfl, b⟩; rw [hw2]; exact ⟨rfl, b⟩))
          have HM := Lib.hid (fun W (b : Below wc.heap.size wc W) => (show W.cell? ⟨gt, 0, none⟩ = some (.int .i64 N) ∧ W.cell? ⟨gt, 1, none⟩ = some (.slice A2 (n + 1) c2) ∧ W.cell? ⟨gm, 0, none⟩ = some (.int .i64 N) ∧ W.cell? ⟨gm, 1, none⟩ = some (.slice A3 (n + 1) c3) from by
            have d := D2.out.up b
            exact ⟨by rw [cell_in d.bt]; rfl, by rw [cell_in d.bt]; rfl, by rw [cell_in d.bm]; rfl, by rw [cell_in d.bm]; rfl⟩))
          have hc := HC.out wc D2.out.below
          have HC2 := Lib.hid (fun W (b : Below wc.heap.size wc W) => HC.out W (up2 D2.out.below b))
          have BL := Lib.hid D2.out.below
          clear hw1 hw2 hp1 hp2 hl D2 HC
          go_wp2_with fail
          clear hc
          have hd := HM.out wc.drew (Reading.below ⟨1, rfl⟩)
          go_upto_region 9 with fail
          go_cut [9, 10] (Chk2 wc 3 (k : Int) (n : Int) y0 y1 y2)
          case first =>
            go_wp2_with fail
            refine wp_region_noPanic ?_
            refine wp_region_held_drew (S := fun w' => w'.cell? ⟨gt, 0, none⟩ = some (.int .i64 N) ∧ w'.cell? ⟨gt, 1, none⟩ = some (.slice A2 (n + 1) c2) ∧ w'.cell? ⟨gm, 0, none⟩ = some (.int .i64 N) ∧ w'.cell? ⟨gm, 1, none⟩ = some (.slice A3 (n + 1) c3)) (by kernel_rfl) hd (fun _ => ?_)
            refine wpAnyH_take (i := 0) (v := ?v0x31) rfl (by kernel_rfl) (by kernel_rfl) (by kernel_rfl) (fun _ _ _ h => h) (Or.inl ⟨by rfl, ?y0x31⟩) hd ?_
            case y0x31 => (intro w hSw; (try dsimp only at hSw); go_simp; try with_reducible rfl)
            simp only [Act.put, List.setIfInBounds_toArray, List.set_cons_zero, List.set_cons_succ, List.getElem_toArray, List.getElem_cons_zero]
            refine wpAnyH_take (i := 2) (v := ?v2x32) rfl (by kernel_rfl) (by kernel_rfl) (by kernel_rfl) (fun _ _ _ h => h) (Or.inl ⟨by rfl, ?y2x32⟩) hd ?_
            case y2x32 => (intro w hSw; (try dsimp only at hSw); go_simp; try with_reducible rfl)
            simp only [Act.put, List.setIfInBounds_toArray, List.set_cons_zero, List.set_cons_succ, List.getElem_toArray, List.getElem_cons_zero, List.getElem_cons_succ]
            obtain ⟨u0, hu0⟩ : ∃ x, wc.drew = x := ⟨_, rfl⟩
            have bw : Below wc.heap.size wc u0 := by rw [← hu0]; exact Reading.below ⟨1, rfl⟩
            simp only [hu0]
            clear hu0
            refine wpAnyH_ready (rs := [1, 4, 5]) (by kernel_rfl) (by simp) ?_
            refine AllReadyH.cons rfl (fun K hK => ?_) (AllReadyH.cons rfl (fun K hK => ?_) (AllReadyH.cons rfl (fun K hK => ?_) AllReadyH.nil))
            · rw [if_pos (by rfl)]
              go_wp2_with fail
              refine (K1.out _ bw).mono ?_
              rintro e u1 ⟨rfl, b9⟩
              go_wp2_with fail
              refine hK.out _ _ (HM.out _ (up2 bw b9)) (fun _ => ?_)
              clear hK K
              try simp only [Act.put, List.setIfInBounds_toArray, List.set_cons_zero, List.set_cons_succ, List.getElem_toArray, List.getElem_cons_zero, List.getElem_cons_succ]
              have bw := up2 bw b9
              clear b9
              refine wpAnyH_ready (rs := [3, 4, 5]) (by kernel_rfl) (by simp) ?_
              refine AllReadyH.cons rfl (fun K hK => ?_) (AllReadyH.cons rfl (fun K hK => ?_) (AllReadyH.cons rfl (fun K hK => ?_) AllReadyH.nil))
              · rw [if_pos (by rfl)]
                go_wp2_with fail
                refine (K2.out _ bw).mono ?_
                rintro e u2 ⟨rfl, b9⟩
                go_wp2_with fail
                refine hK.out _ _ (HM.out _ (up2 bw b9)) (fun _ => ?_)
                clear hK K
                try simp only [Act.put, List.setIfInBounds_toArray, List.set_cons_zero, List.set_cons_succ, List.getElem_toArray, List.getElem_cons_zero, List.getElem_cons_succ]
                have bw := up2 bw b9
                clear b9
                refine wpAnyH_ready (rs := [4, 5]) (by kernel_rfl) (by simp) ?_
                refine AllReadyH.cons rfl (fun K hK => ?_) (AllReadyH.cons rfl (fun K hK => ?_) AllReadyH.nil)
                · go_simp
                  refine hK.out _ _ (HM.out _ (up1 bw _)) (fun _ => ?_)
                  clear hK K
                  try simp only [Act.put, List.setIfInBounds_toArray, List.set_cons_zero, List.set_cons_succ, List.getElem_toArray, List.getElem_cons_zero, List.getElem_cons_succ]
                  obtain ⟨u3, hn⟩ : ∃ x, u2.alloc zwit = x := ⟨_, rfl⟩
                  obtain ⟨g1, hg⟩ : ∃ x, u2.heap.size = x := ⟨_, rfl⟩
                  have z1 : Zw u3 g1 := by rw [← hn, ← hg]; exact heap_alloc_new u2 _
                  have bg1 : wc.heap.size ≤ g1 := by rw [← hg]; exact bw.size
                  have bn : Below u2.heap.size u2 u3 := by rw [← hn]; exact (Below.refl _ u2).alloc (Nat.le_refl _) _
                  have bw := up2 bw bn
                  simp only [hn, hg]
                  clear hn hg bn
                  refine wpAnyH_ready (rs := [5]) (by kernel_rfl) (by simp) ?_
                  refine AllReadyH.cons rfl (fun K hK => ?_) AllReadyH.nil
                  go_simp
                  refine hK.out _ _ (HM.out _ (up1 bw _)) (fun _ => ?_)
                  clear hK K
                  try simp only [Act.put, List.setIfInBounds_toArray, List.set_cons_zero, List.set_cons_succ, List.getElem_toArray, List.getElem_cons_zero, List.getElem_cons_succ]
                  obtain ⟨u4, hn⟩ : ∃ x, u3.alloc zwit = x := ⟨_, rfl⟩
                  obtain ⟨g2, hg⟩ : ∃ x, u3.heap.size = x := ⟨_, rfl⟩
                  have z2 : Zw u4 g2 := by rw [← hn, ← hg]; exact heap_alloc_new u3 _
                  have bg2 : wc.heap.size ≤ g2 := by rw [← hg]; exact bw.size
                  have bn : Below u3.heap.size u3 u4 := by rw [← hn]; exact (Below.refl _ u3).alloc (Nat.le_refl _) _
                  have ne : g1 ≠ g2 := by have := heap_lt z1; omega
                  have z1 := z1.up bn
                  have bw := up2 bw bn
                  simp only [hn, hg]
                  clear hn hg bn
                  have PR := Lib.hid (⟨bw, z1, z2, bg1, bg2, ne⟩ : PreW wc u4 g1 g2)
                  obtain ⟨f1, f2, f3⟩ := z1.facts
                  obtain ⟨f4, f5, f6⟩ := z1.cells
                  clear z1 z2 ne
                  refine wpAnyH_ready (rs := [6]) (by kernel_rfl) (by simp) ?_
                  refine AllReadyH.cons rfl (fun K hK => ?_) AllReadyH.nil
                  go_simp
                  refine hK.out _ _ (HM.out _ (below_set3 bw bg1 _ _ _)) (fun _ => ?_)
                  clear hK K
                  try simp only [Act.put, List.setIfInBounds_toArray, List.set_cons_zero, List.set_cons_succ, List.getElem_toArray, List.getElem_cons_zero, List.getElem_cons_succ]
                  obtain ⟨wm, hwm⟩ : ∃ x, ((u4.setCell ⟨g1, 0, none⟩ (.int .i64 3)).setCell ⟨g1, 1, none⟩ (.int .i64 (k : Int))).setCell ⟨g1, 2, none⟩ (.int .i64 (n : Int)) = x := ⟨_, rfl⟩
                  have PM := Lib.hid (PR.out.mid 3 (k : Int) (n : Int))
                  rw [hwm] at PM
                  simp only [hwm]
                  clear hwm f1 f2 f3 f4 f5 f6
                  obtain ⟨f1, f2, f3⟩ := PM.out.z2.facts
                  obtain ⟨f4, f5, f6⟩ := PM.out.z2.cells
                  refine wpAnyH_ready (rs := [7]) (by kernel_rfl) (by simp) ?_
                  refine AllReadyH.cons rfl (fun K hK => ?_) AllReadyH.nil
                  go_simp
                  refine hK.out _ _ (HM.out _ (below_set3 PM.out.below bg2 _ _ _)) (fun _ => ?_)
                  clear hK K
                  try simp only [Act.put, List.setIfInBounds_toArray, List.set_cons_zero, List.set_cons_succ, List.getElem_toArray, List.getElem_cons_zero, List.getElem_cons_succ]
                  have DU := Lib.hid (PM.out.fin y0 y1 y2)
                  clear PM f1 f2 f3 f4 f5 f6
                  refine wpAnyH_done (by kernel_rfl) ?_ _
                  refine NoPanic.normal ?_
                  go_wp2_with fail
                  go_meet
                  exact ⟨g1, g2, rfl, rfl, DU.out⟩
                · go_simp
                  refine hK.out _ _ (HM.out _ (up1 bw _)) (fun _ => ?_)
                  clear hK K
                  try simp only [Act.put, List.setIfInBounds_toArray, List.set_cons_zero, List.set_cons_succ, List.getElem_toArray, List.getElem_cons_zero, List.getElem_cons_succ]
                  obtain ⟨u3, hn⟩ : ∃ x, u2.alloc zwit = x := ⟨_, rfl⟩
                  obtain ⟨g2, hg⟩ : ∃ x, u2.heap.size = x := ⟨_, rfl⟩
                  have z2 : Zw u3 g2 := by rw [← hn, ← hg]; exact heap_alloc_new u2 _
                  have bg2 : wc.heap.size ≤ g2 := by rw [← hg]; exact bw.size
                  have bn : Below u2.heap.size u2 u3 := by rw [← hn]; exact (Below.refl _ u2).alloc (Nat.le_refl _) _
                  have bw := up2 bw bn
                  simp only [hn, hg]
                  clear hn hg bn
                  refine wpAnyH_ready (rs := [4]) (by kernel_rfl) (by simp) ?_
                  refine AllReadyH.cons rfl (fun K hK => ?_) AllReadyH.nil
                  go_simp
                  refine hK.out _ _ (HM.out _ (up1 bw _)) (fun _ => ?_)
                  clear hK K
                  try simp only [Act.put, List.setIfInBounds_toArray, List.set_cons_zero, List.set_cons_succ, List.getElem_toArray, List.getElem_cons_zero, List.getElem_cons_succ]
                  obtain ⟨u4, hn⟩ : ∃ x, u3.alloc zwit = x := ⟨_, rfl⟩
                  obtain ⟨g1, hg⟩ : ∃ x, u3.heap.size = x := ⟨_, rfl⟩
                  have z1 : Zw u4 g1 := by rw [← hn, ← hg]; exact heap_alloc_new u3 _
                  have bg1 : wc.heap.size ≤ g1 := by rw [← hg]; exact bw.size
                  have bn : Below u3.heap.size u3 u4 := by rw [← hn]; exact (Below.refl _ u3).alloc (Nat.le_refl _) _
                  have ne : g1 ≠ g2 := by have := heap_lt z2; omega
                  have z2 := z2.up bn
                  have bw := up2 bw bn
                  simp only [hn, hg]
                  clear hn hg bn
                  have PR := Lib.hid (⟨bw, z1, z2, bg1, bg2, ne⟩ : PreW wc u4 g1 g2)
                  obtain ⟨f1, f2, f3⟩ := z1.facts
                  obtain ⟨f4, f5, f6⟩ := z1.cells
                  clear z1 z2 ne
                  refine wpAnyH_ready (rs := [6]) (by kernel_rfl) (by simp) ?_
                  refine AllReadyH.cons rfl (fun K hK => ?_) AllReadyH.nil
                  go_simp
                  refine hK.out _ _ (HM.out _ (below_set3 bw bg1 _ _ _)) (fun _ => ?_)
                  clear hK K
                  try simp only [Act.put, List.setIfInBounds_toArray, List.set_cons_zero, List.set_cons_succ, List.getElem_toArray, List.getElem_cons_zero, List.getElem_cons_succ]
                  obtain ⟨wm, hwm⟩ : ∃ x, ((u4.setCell ⟨g1, 0, none⟩ (.int .i64 3)).setCell ⟨g1, 1, none⟩ (.int .i64 (k : Int))).setCell ⟨g1, 2, none⟩ (.int .i64 (n : Int)) = x := ⟨_, rfl⟩
                  have PM := Lib.hid (PR.out.mid 3 (k : Int) (n : Int))
                  rw [hwm] at PM
                  simp only [hwm]
                  clear hwm f1 f2 f3 f4 f5 f6
                  obtain ⟨f1, f2, f3⟩ := PM.out.z2.facts
                  obtain ⟨f4, f5, f6⟩ := PM.out.z2.cells
                  refine wpAnyH_ready (rs := [7]) (by kernel_rfl) (by simp) ?_
                  refine AllReadyH.cons rfl (fun K hK => ?_) AllReadyH.nil
                  go_simp
                  refine hK.out _ _ (HM.out _ (below_set3 PM.out.below bg2 _ _ _)) (fun _ => ?_)
                  clear hK K
                  try simp only [Act.put, List.setIfInBounds_toArray, List.set_cons_zero, List.set_cons_succ, List.getElem_toArray, List.getElem_cons_zero, List.getElem_cons_succ]
                  have DU := Lib.hid (PM.out.fin y0 y1 y2)
                  clear PM f1 f2 f3 f4 f5 f6
                  refine wpAnyH_done (by kernel_rfl) ?_ _
                  refine NoPanic.normal ?_
                  go_wp2_with fail
                  go_meet
                  exact ⟨g1, g2, rfl, rfl, DU.out⟩
              · go_simp
                refine hK.out _ _ (HM.out _ (up1 bw _)) (fun _ => ?_)
                clear hK K
                try simp only [Act.put, List.setIfInBounds_toArray, List.set_cons_zero, List.set_cons_succ, List.getElem_toArray, List.getElem_cons_zero, List.getElem_cons_succ]
                obtain ⟨u2, hn⟩ : ∃ x, u1.alloc zwit = x := ⟨_, rfl⟩
                obtain ⟨g1, hg⟩ : ∃ x, u1.heap.size = x := ⟨_, rfl⟩
                have z1 : Zw u2 g1 := by rw [← hn, ← hg]; exact heap_alloc_new u1 _
                have bg1 : wc.heap.size ≤ g1 := by rw [← hg]; exact bw.size
                have bn : Below u1.heap.size u1 u2 := by rw [← hn]; exact (Below.refl _ u1).alloc (Nat.le_refl _) _
                have bw := up2 bw bn
                simp only [hn, hg]
                clear hn hg bn
                refine wpAnyH_ready (rs := [3, 5]) (by kernel_rfl) (by simp) ?_
                refine AllReadyH.cons rfl (fun K hK => ?_) (AllReadyH.cons rfl (fun K hK => ?_) AllReadyH.nil)
                · rw [if_pos (by rfl)]
                  go_wp2_with fail
                  refine (K2.out _ bw).mono ?_
                  rintro e u3 ⟨rfl, b9⟩
                  go_wp2_with fail
                  refine hK.out _ _ (HM.out _ (up2 bw b9)) (fun _ => ?_)
                  clear hK K
                  try simp only [Act.put, List.setIfInBounds_toArray, List.set_cons_zero, List.set_cons_succ, List.getElem_toArray, List.getElem_cons_zero, List.getElem_cons_succ]
                  have z1 := z1.up b9
                  have bw := up2 bw b9
                  clear b9
                  refine wpAnyH_ready (rs := [5]) (by kernel_rfl) (by simp) ?_
                  refine AllReadyH.cons rfl (fun K hK => ?_) AllReadyH.nil
                  go_simp
                  refine hK.out _ _ (HM.out _ (up1 bw _)) (fun _ => ?_)
                  clear hK K
                  try simp only [Act.put, List.setIfInBounds_toArray, List.set_cons_zero, List.set_cons_succ, List.getElem_toArray, List.getElem_cons_zero, List.getElem_cons_succ]
                  obtain ⟨u4, hn⟩ : ∃ x, u3.alloc zwit = x := ⟨_, rfl⟩
                  obtain ⟨g2, hg⟩ : ∃ x, u3.heap.size = x := ⟨_, rfl⟩
                  have z2 : Zw u4 g2 := by rw [← hn, ← hg]; exact heap_alloc_new u3 _
                  have bg2 : wc.heap.size ≤ g2 := by rw [← hg]; exact bw.size
                  have bn : Below u3.heap.size u3 u4 := by rw [← hn]; exact (Below.refl _ u3).alloc (Nat.le_refl _) _
                  have ne : g1 ≠ g2 := by have := heap_lt z1; omega
                  have z1 := z1.up bn
                  have bw := up2 bw bn
                  simp only [hn, hg]
                  clear hn hg bn
                  have PR := Lib.hid (⟨bw, z1, z2, bg1, bg2, ne⟩ : PreW wc u4 g1 g2)
                  obtain ⟨f1, f2, f3⟩ := z1.facts
                  obtain ⟨f4, f5, f6⟩ := z1.cells
                  clear z1 z2 ne
                  refine wpAnyH_ready (rs := [6]) (by kernel_rfl) (by simp) ?_
                  refine AllReadyH.cons rfl (fun K hK => ?_) AllReadyH.nil
                  go_simp
                  refine hK.out _ _ (HM.out _ (below_set3 bw bg1 _ _ _)) (fun _ => ?_)
                  clear hK K
                  try simp only [Act.put, List.setIfInBounds_toArray, List.set_cons_zero, List.set_cons_succ, List.getElem_toArray, List.getElem_cons_zero, List.getElem_cons_succ]
                  obtain ⟨wm, hwm⟩ : ∃ x, ((u4.setCell ⟨g1, 0, none⟩ (.int .i64 3)).setCell ⟨g1, 1, none⟩ (.int .i64 (k : Int))).setCell ⟨g1, 2, none⟩ (.int .i64 (n : Int)) = x := ⟨_, rfl⟩
                  have PM := Lib.hid (PR.out.mid 3 (k : Int) (n : Int))
                  rw [hwm] at PM
                  simp only [hwm]
                  clear hwm f1 f2 f3 f4 f5 f6
                  obtain ⟨f1, f2, f3⟩ := PM.out.z2.facts
                  obtain ⟨f4, f5, f6⟩ := PM.out.z2.cells
                  refine wpAnyH_ready (rs := [7]) (by kernel_rfl) (by simp) ?_
                  refine AllReadyH.cons rfl (fun K hK => ?_) AllReadyH.nil
                  go_simp
                  refine hK.out _ _ (HM.out _ (below_set3 PM.out.below bg2 _ _ _)) (fun _ => ?_)
                  clear hK K
                  try simp only [Act.put, List.setIfInBounds_toArray, List.set_cons_zero, List.set_cons_succ, List.getElem_toArray, List.getElem_cons_zero, List.getElem_cons_succ]
                  have DU := Lib.hid (PM.out.fin y0 y1 y2)
                  clear PM f1 f2 f3 f4 f5 f6
                  refine wpAnyH_done (by kernel_rfl) ?_ _
                  refine NoPanic.normal ?_
                  go_wp2_with fail
                  go_meet
                  exact ⟨g1, g2, rfl, rfl, DU.out⟩
                · go_simp
                  refine hK.out _ _ (HM.out _ (up1 bw _)) (fun _ => ?_)
                  clear hK K
                  try simp only [Act.put, List.setIfInBounds_toArray, List.set_cons_zero, List.set_cons_succ, List.getElem_toArray, List.getElem_cons_zero, List.getElem_cons_succ]
                  obtain ⟨u3, hn⟩ : ∃ x, u2.alloc zwit = x := ⟨_, rfl⟩
                  obtain ⟨g2, hg⟩ : ∃ x, u2.heap.size = x := ⟨_, rfl⟩
                  have z2 : Zw u3 g2 := by rw [← hn, ← hg]; exact heap_alloc_new u2 _
                  have bg2 : wc.heap.size ≤ g2 := by rw [← hg]; exact bw.size
                  have bn : Below u2.heap.size u2 u3 := by rw [← hn]; exact (Below.refl _ u2).alloc (Nat.le_refl _) _
                  have ne : g1 ≠ g2 := by have := heap_lt z1; omega
                  have z1 := z1.up bn
                  have bw := up2 bw bn
                  simp only [hn, hg]
                  clear hn hg bn
                  refine wpAnyH_ready (rs := [3]) (by kernel_rfl) (by simp) ?_
                  refine AllReadyH.cons rfl (fun K hK => ?_) AllReadyH.nil
                  rw [if_pos (by rfl)]
                  go_wp2_with fail
                  refine (K2.out _ bw).mono ?_
                  rintro e u4 ⟨rfl, b9⟩
                  go_wp2_with fail
                  refine hK.out _ _ (HM.out _ (up2 bw b9)) (fun _ => ?_)
                  clear hK K
                  try simp only [Act.put, List.setIfInBounds_toArray, List.set_cons_zero, List.set_cons_succ, List.getElem_toArray, List.getElem_cons_zero, List.getElem_cons_succ]
                  have z1 := z1.up b9
                  have z2 := z2.up b9
                  have bw := up2 bw b9
                  clear b9
                  have PR := Lib.hid (⟨bw, z1, z2, bg1, bg2, ne⟩ : PreW wc u4 g1 g2)
                  obtain ⟨f1, f2, f3⟩ := z1.facts
                  obtain ⟨f4, f5, f6⟩ := z1.cells
                  clear z1 z2 ne
                  refine wpAnyH_ready (rs := [6]) (by kernel_rfl) (by simp) ?_
                  refine AllReadyH.cons rfl (fun K hK => ?_) AllReadyH.nil
                  go_simp
                  refine hK.out _ _ (HM.out _ (below_set3 bw bg1 _ _ _)) (fun _ => ?_)
                  clear hK K
                  try simp only [Act.put, List.setIfInBounds_toArray, List.set_cons_zero, List.set_cons_succ, List.getElem_toArray, List.getElem_cons_zero, List.getElem_cons_succ]
                  obtain ⟨wm, hwm⟩ : ∃ x, ((u4.setCell ⟨g1, 0, none⟩ (.int .i64 3)).setCell ⟨g1, 1, none⟩ (.int .i64 (k : Int))).setCell ⟨g1, 2, none⟩ (.int .i64 (n : Int)) = x := ⟨_, rfl⟩
                  have PM := Lib.hid (PR.out.mid 3 (k : Int) (n : Int))
                  rw [hwm] at PM
                  simp only [hwm]
                  clear hwm f1 f2 f3 f4 f5 f6
                  obtain ⟨f1, f2, f3⟩ := PM.out.z2.facts
                  obtain ⟨f4, f5, f6⟩ := PM.out.z2.cells
                  refine wpAnyH_ready (rs := [7]) (by kernel_rfl) (by simp) ?_
                  refine AllReadyH.cons rfl (fun K hK => ?_) AllReadyH.nil
                  go_simp
                  refine hK.out _ _ (HM.out _ (below_set3 PM.out.below bg2 _ _ _)) (fun _ => ?_)
                  clear hK K
                  try simp only [Act.put, List.setIfInBounds_toArray, List.set_cons_zero, List.set_cons_succ, List.getElem_toArray, List.getElem_cons_zero, List.getElem_cons_succ]
                  have DU := Lib.hid (PM.out.fin y0 y1 y2)
                  clear PM f1 f2 f3 f4 f5 f6
                  refine wpAnyH_done (by kernel_rfl) ?_ _
                  refine NoPanic.normal ?_
                  go_wp2_with fail
                  go_meet
                  exact ⟨g1, g2, rfl, rfl, DU.out⟩
              · go_simp
                refine hK.out _ _ (HM.out _ (up1 bw _)) (fun _ => ?_)
                clear hK K
                try simp only [Act.put, List.setIfInBounds_toArray, List.set_cons_zero, List.set_cons_succ, List.getElem_toArray, List.getElem_cons_zero, List.getElem_cons_succ]
                obtain ⟨u2, hn⟩ : ∃ x, u1.alloc zwit = x := ⟨_, rfl⟩
                obtain ⟨g2, hg⟩ : ∃ x, u1.heap.size = x := ⟨_, rfl⟩
                have z2 : Zw u2 g2 := by rw [← hn, ← hg]; exact heap_alloc_new u1 _
                have bg2 : wc.heap.size ≤ g2 := by rw [← hg]; exact bw.size
                have bn : Below u1.heap.size u1 u2 := by rw [← hn]; exact (Below.refl _ u1).alloc (Nat.le_refl _) _
                have bw := up2 bw bn
                simp only [hn, hg]
                clear hn hg bn
                refine wpAnyH_ready (rs := [3, 4]) (by kernel_rfl) (by simp) ?_
                refine AllReadyH.cons rfl (fun K hK => ?_) (AllReadyH.cons rfl (fun K hK => ?_) AllReadyH.nil)
                · rw [if_pos (by rfl)]
                  go_wp2_with fail
                  refine (K2.out _ bw).mono ?_
                  rintro e u3 ⟨rfl, b9⟩
                  go_wp2_with fail
                  refine hK.out _ _ (HM.out _ (up2 bw b9)) (fun _ => ?_)
                  clear hK K
                  try simp only [Act.put, List.setIfInBounds_toArray, List.set_cons_zero, List.set_cons_succ, List.getElem_toArray, List.getElem_cons_zero, List.getElem_cons_succ]
                  have z2 := z2.up b9
                  have bw := up2 bw b9
                  clear b9
                  refine wpAnyH_ready (rs := [4]) (by kernel_rfl) (by simp) ?_
                  refine AllReadyH.cons rfl (fun K hK => ?_) AllReadyH.nil
                  go_simp
                  refine hK.out _ _ (HM.out _ (up1 bw _)) (fun _ => ?_)
                  clear hK K
                  try simp only [Act.put, List.setIfInBounds_toArray, List.set_cons_zero, List.set_cons_succ, List.getElem_toArray, List.getElem_cons_zero, List.getElem_cons_succ]
                  obtain ⟨u4, hn⟩ : ∃ x, u3.alloc zwit = x := ⟨_, rfl⟩
                  obtain ⟨g1, hg⟩ : ∃ x, u3.heap.size = x := ⟨_, rfl⟩
                  have z1 : Zw u4 g1 := by rw [← hn, ← hg]; exact heap_alloc_new u3 _
                  have bg1 : wc.heap.size ≤ g1 := by rw [← hg]; exact bw.size
                  have bn : Below u3.heap.size u3 u4 := by rw [← hn]; exact (Below.refl _ u3).alloc (Nat.le_refl _) _
                  have ne : g1 ≠ g2 := by have := heap_lt z2; omega
                  have z2 := z2.up bn
                  have bw := up2 bw bn
                  simp only [hn, hg]
                  clear hn hg bn
                  have PR := Lib.hid (⟨bw, z1, z2, bg1, bg2, ne⟩ : PreW wc u4 g1 g2)
                  obtain ⟨f1, f2, f3⟩ := z1.facts
                  obtain ⟨f4, f5, f6⟩ := z1.cells
                  clear z1 z2 ne
                  refine wpAnyH_ready (rs := [6]) (by kernel_rfl) (by simp) ?_
                  refine AllReadyH.cons rfl (fun K hK => ?_) AllReadyH.nil
                  go_simp
                  refine hK.out _ _ (HM.out _ (below_set3 bw bg1 _ _ _)) (fun _ => ?_)
                  clear hK K
                  try simp only [Act.put, List.setIfInBounds_toArray, List.set_cons_zero, List.set_cons_succ, List.getElem_toArray, List.getElem_cons_zero, List.getElem_cons_succ]
                  obtain ⟨wm, hwm⟩ : ∃ x, ((u4.setCell ⟨g1, 0, none⟩ (.int .i64 3)).setCell ⟨g1, 1, none⟩ (.int .i64 (k : Int))).setCell ⟨g1, 2, none⟩ (.int .i64 (n : Int)) = x := ⟨_, rfl⟩
                  have PM := Lib.hid (PR.out.mid 3 (k : Int) (n : Int))
                  rw [hwm] at PM
                  simp only [hwm]
                  clear hwm f1 f2 f3 f4 f5 f6
                  obtain ⟨f1, f2, f3⟩ := PM.out.z2.facts
                  obtain ⟨f4, f5, f6⟩ := PM.out.z2.cells
                  refine wpAnyH_ready (rs := [7]) (by kernel_rfl) (by simp) ?_
                  refine AllReadyH.cons rfl (fun K hK => ?_) AllReadyH.nil
                  go_simp
                  refine hK.out _ _ (HM.out _ (below_set3 PM.out.below bg2 _ _ _)) (fun _ => ?_)
                  clear hK K
                  try simp only [Act.put, List.setIfInBounds_toArray, List.set_cons_zero, List.set_cons_succ, List.getElem_toArray, List.getElem_cons_zero, List.getElem_cons_succ]
                  have DU := Lib.hid (PM.out.fin y0 y1 y2)
                  clear PM f1 f2 f3 f4 f5 f6
                  refine wpAnyH_done (by kernel_rfl) ?_ _
                  refine NoPanic.normal ?_
                  go_wp2_with fail
                  go_meet
                  exact ⟨g1, g2, rfl, rfl, DU.out⟩
                · go_simp
                  refine hK.out _ _ (HM.out _ (up1 bw _)) (fun _ => ?_)
                  clear hK K
                  try simp only [Act.put, List.setIfInBounds_toArray, List.set_cons_zero, List.set_cons_succ, List.getElem_toArray, List.getElem_cons_zero, List.getElem_cons_succ]
                  obtain ⟨u3, hn⟩ : ∃ x, u2.alloc zwit = x := ⟨_, rfl⟩
                  obtain ⟨g1, hg⟩ : ∃ x, u2.heap.size = x := ⟨_, rfl⟩
                  have z1 : Zw u3 g1 := by rw [← hn, ← hg]; exact heap_alloc_new u2 _
                  have bg1 : wc.heap.size ≤ g1 := by rw [← hg]; exact bw.size
                  have bn : Below u2.heap.size u2 u3 := by rw [← hn]; exact (Below.refl _ u2).alloc (Nat.le_refl _) _
                  have ne : g1 ≠ g2 := by have := heap_lt z2; omega
                  have z2 := z2.up bn
                  have bw := up2 bw bn
                  simp only [hn, hg]
                  clear hn hg bn
                  refine wpAnyH_ready (rs := [3]) (by kernel_rfl) (by simp) ?_
                  refine AllReadyH.cons rfl (fun K hK => ?_) AllReadyH.nil
                  rw [if_pos (by rfl)]
                  go_wp2_with fail
                  refine (K2.out _ bw).mono ?_
                  rintro e u4 ⟨rfl, b9⟩
                  go_wp2_with fail
                  refine hK.out _ _ (HM.out _ (up2 bw b9)) (fun _ => ?_)
                  clear hK K
                  try simp only [Act.put, List.setIfInBounds_toArray, List.set_cons_zero, List.set_cons_succ, List.getElem_toArray, List.getElem_cons_zero, List.getElem_cons_succ]
                  have z1 := z1.up b9
                  have z2 := z2.up b9
                  have bw := up2 bw b9
                  clear b9
                  have PR := Lib.hid (⟨bw, z1, z2, bg1, bg2, ne⟩ : PreW wc u4 g1 g2)
                  obtain ⟨f1, f2, f3⟩ := z1.facts
                  obtain ⟨f4, f5, f6⟩ := z1.cells
                  clear z1 z2 ne
                  refine wpAnyH_ready (rs := [6]) (by kernel_rfl) (by simp) ?_
                  refine AllReadyH.cons rfl (fun K hK => ?_) AllReadyH.nil
                  go_simp
                  refine hK.out _ _ (HM.out _ (below_set3 bw bg1 _ _ _)) (fun _ => ?_)
                  clear hK K
                  try simp only [Act.put, List.setIfInBounds_toArray, List.set_cons_zero, List.set_cons_succ, List.getElem_toArray, List.getElem_cons_zero, List.getElem_cons_succ]
                  obtain ⟨wm, hwm⟩ : ∃ x, ((u4.setCell ⟨g1, 0, none⟩ (.int .i64 3)).setCell ⟨g1, 1, none⟩ (.int .i64 (k : Int))).setCell ⟨g1, 2, none⟩ (.int .i64 (n : Int)) = x := ⟨_, rfl⟩
                  have PM := Lib.hid (PR.out.mid 3 (k : Int) (n : Int))
                  rw [hwm] at PM
                  simp only [hwm]
                  clear hwm f1 f2 f3 f4 f5 f6
                  obtain ⟨f1, f2, f3⟩ := PM.out.z2.facts
                  obtain ⟨f4, f5, f6⟩ := PM.out.z2.cells
                  refine wpAnyH_ready (rs := [7]) (by kernel_rfl) (by simp) ?_
                  refine AllReadyH.cons rfl (fun K hK => ?_) AllReadyH.nil
                  go_simp
                  refine hK.out _ _ (HM.out _ (below_set3 PM.out.below bg2 _ _ _)) (fun _ => ?_)
                  clear hK K
                  try simp only [Act.put, List.setIfInBounds_toArray, List.set_cons_zero, List.set_cons_succ, List.getElem_toArray, List.getElem_cons_zero, List.getElem_cons_succ]
                  have DU := Lib.hid (PM.out.fin y0 y1 y2)
                  clear PM f1 f2 f3 f4 f5 f6
                  refine wpAnyH_done (by kernel_rfl) ?_ _
                  refine NoPanic.normal ?_
                  go_wp2_with fail
                  go_meet
                  exact ⟨g1, g2, rfl, rfl, DU.out⟩
            · go_simp
              refine hK.out _ _ (HM.out _ (up1 bw _)) (fun _ => ?_)
              clear hK K
              try simp only [Act.put, List.setIfInBounds_toArray, List.set_cons_zero, List.set_cons_succ, List.getElem_toArray, List.getElem_cons_zero, List.getElem_cons_succ]
              obtain ⟨u1, hn⟩ : ∃ x, u0.alloc zwit = x := ⟨_, rfl⟩
              obtain ⟨g1, hg⟩ : ∃ x, u0.heap.size = x := ⟨_, rfl⟩
              have z1 : Zw u1 g1 := by rw [← hn, ← hg]; exact heap_alloc_new u0 _
              have bg1 : wc.heap.size ≤ g1 := by rw [← hg]; exact bw.size
              have bn : Below u0.heap.size u0 u1 := by rw [← hn]; exact (Below.refl _ u0).alloc (Nat.le_refl _) _
              have bw := up2 bw bn
              simp only [hn, hg]
              clear hn hg bn
              refine wpAnyH_ready (rs := [1, 5]) (by kernel_rfl) (by simp) ?_
              refine AllReadyH.cons rfl (fun K hK => ?_) (AllReadyH.cons rfl (fun K hK => ?_) AllReadyH.nil)
              · rw [if_pos (by rfl)]
                go_wp2_with fail
                refine (K1.out _ bw).mono ?_
                rintro e u2 ⟨rfl, b9⟩
                go_wp2_with fail
                refine hK.out _ _ (HM.out _ (up2 bw b9)) (fun _ => ?_)
                clear hK K
                try simp only [Act.put, List.setIfInBounds_toArray, List.set_cons_zero, List.set_cons_succ, List.getElem_toArray, List.getElem_cons_zero, List.getElem_cons_succ]
                have z1 := z1.up b9
                have bw := up2 bw b9
                clear b9
                refine wpAnyH_ready (rs := [3, 5]) (by kernel_rfl) (by simp) ?_
                refine AllReadyH.cons rfl (fun K hK => ?_) (AllReadyH.cons rfl (fun K hK => ?_) AllReadyH.nil)
                · rw [if_pos (by rfl)]
                  go_wp2_with fail
                  refine (K2.out _ bw).mono ?_
                  rintro e u3 ⟨rfl, b9⟩
                  go_wp2_with fail
                  refine hK.out _ _ (HM.out _ (up2 bw b9)) (fun _ => ?_)
                  clear hK K
                  try simp only [Act.put, List.setIfInBounds_toArray, List.set_cons_zero, List.set_cons_succ, List.getElem_toArray, List.getElem_cons_zero, List.getElem_cons_succ]
                  have z1 := z1.up b9
                  have bw := up2 bw b9
                  clear b9
                  refine wpAnyH_ready (rs := [5]) (by kernel_rfl) (by simp) ?_
                  refine AllReadyH.cons rfl (fun K hK => ?_) AllReadyH.nil
                  go_simp
                  refine hK.out _ _ (HM.out _ (up1 bw _)) (fun _ => ?_)
                  clear hK K
                  try simp only [Act.put, List.setIfInBounds_toArray, List.set_cons_zero, List.set_cons_succ, List.getElem_toArray, List.getElem_cons_zero, List.getElem_cons_succ]
                  obtain ⟨u4, hn⟩ : ∃ x, u3.alloc zwit = x := ⟨_, rfl⟩
                  obtain ⟨g2, hg⟩ : ∃ x, u3.heap.size = x := ⟨_, rfl⟩
                  have z2 : Zw u4 g2 := by rw [← hn, ← hg]; exact heap_alloc_new u3 _
                  have bg2 : wc.heap.size ≤ g2 := by rw [← hg]; exact bw.size
                  have bn : Below u3.heap.size u3 u4 := by rw [← hn]; exact (Below.refl _ u3).alloc (Nat.le_refl _) _
                  have ne : g1 ≠ g2 := by have := heap_lt z1; omega
                  have z1 := z1.up bn
                  have bw := up2 bw bn
                  simp only [hn, hg]
                  clear hn hg bn
                  have PR := Lib.hid (⟨bw, z1, z2, bg1, bg2, ne⟩ : PreW wc u4 g1 g2)
                  obtain ⟨f1, f2, f3⟩ := z1.facts
                  obtain ⟨f4, f5, f6⟩ := z1.cells
                  clear z1 z2 ne
                  refine wpAnyH_ready (rs := [6]) (by kernel_rfl) (by simp) ?_
                  refine AllReadyH.cons rfl (fun K hK => ?_) AllReadyH.nil
                  go_simp
                  refine hK.out _ _ (HM.out _ (below_set3 bw bg1 _ _ _)) (fun _ => ?_)
                  clear hK K
                  try simp only [Act.put, List.setIfInBounds_toArray, List.set_cons_zero, List.set_cons_succ, List.getElem_toArray, List.getElem_cons_zero, List.getElem_cons_succ]
                  obtain ⟨wm, hwm⟩ : ∃ x, ((u4.setCell ⟨g1, 0, none⟩ (.int .i64 3)).setCell ⟨g1, 1, none⟩ (.int .i64 (k : Int))).setCell ⟨g1, 2, none⟩ (.int .i64 (n : Int)) = x := ⟨_, rfl⟩
                  have PM := Lib.hid (PR.out.mid 3 (k : Int) (n : Int))
                  rw [hwm] at PM
                  simp only [hwm]
                  clear hwm f1 f2 f3 f4 f5 f6
                  obtain ⟨f1, f2, f3⟩ := PM.out.z2.facts
                  obtain ⟨f4, f5, f6⟩ := PM.out.z2.cells
                  refine wpAnyH_ready (rs := [7]) (by kernel_rfl) (by simp) ?_
                  refine AllReadyH.cons rfl (fun K hK => ?_) AllReadyH.nil
                  go_simp
                  refine hK.out _ _ (HM.out _ (below_set3 PM.out.below bg2 _ _ _)) (fun _ => ?_)
                  clear hK K
                  try simp only [Act.put, List.setIfInBounds_toArray, List.set_cons_zero, List.set_cons_succ, List.getElem_toArray, List.getElem_cons_zero, List.getElem_cons_succ]
                  have DU := Lib.hid (PM.out.fin y0 y1 y2)
                  clear PM f1 f2 f3 f4 f5 f6
                  refine wpAnyH_done (by kernel_rfl) ?_ _
                  refine NoPanic.normal ?_
                  go_wp2_with fail
                  go_meet
                  exact ⟨g1, g2, rfl, rfl, DU.out⟩
                · go_simp
                  refine hK.out _ _ (HM.out _ (up1 bw _)) (fun _ => ?_)
                  clear hK K
                  try simp only [Act.put, List.setIfInBounds_toArray, List.set_cons_zero, List.set_cons_succ, List.getElem_toArray, List.getElem_cons_zero, List.getElem_cons_succ]
                  obtain ⟨u3, hn⟩ : ∃ x, u2.alloc zwit = x := ⟨_, rfl⟩
                  obtain ⟨g2, hg⟩ : ∃ x, u2.heap.size = x := ⟨_, rfl⟩
                  have z2 : Zw u3 g2 := by rw [← hn, ← hg]; exact heap_alloc_new u2 _
                  have bg2 : wc.heap.size ≤ g2 := by rw [← hg]; exact bw.size
                  have bn : Below u2.heap.size u2 u3 := by rw [← hn]; exact (Below.refl _ u2).alloc (Nat.le_refl _) _
                  have ne : g1 ≠ g2 := by have := heap_lt z1; omega
                  have z1 := z1.up bn
                  have bw := up2 bw bn
                  simp only [hn, hg]
                  clear hn hg bn
                  refine wpAnyH_ready (rs := [3]) (by kernel_rfl) (by simp) ?_
                  refine AllReadyH.cons rfl (fun K hK => ?_) AllReadyH.nil
                  rw [if_pos (by rfl)]
                  go_wp2_with fail
                  refine (K2.out _ bw).mono ?_
                  rintro e u4 ⟨rfl, b9⟩
                  go_wp2_with fail
                  refine hK.out _ _ (HM.out _ (up2 bw b9)) (fun _ => ?_)
                  clear hK K
                  try simp only [Act.put, List.setIfInBounds_toArray, List.set_cons_zero, List.set_cons_succ, List.getElem_toArray, List.getElem_cons_zero, List.getElem_cons_succ]
                  have z1 := z1.up b9
                  have z2 := z2.up b9
                  have bw := up2 bw b9
                  clear b9
                  have PR := Lib.hid (⟨bw, z1, z2, bg1, bg2, ne⟩ : PreW wc u4 g1 g2)
                  obtain ⟨f1, f2, f3⟩ := z1.facts
                  obtain ⟨f4, f5, f6⟩ := z1.cells
                  clear z1 z2 ne
                  refine wpAnyH_ready (rs := [6]) (by kernel_rfl) (by simp) ?_
                  refine AllReadyH.cons rfl (fun K hK => ?_) AllReadyH.nil
                  go_simp
                  refine hK.out _ _ (HM.out _ (below_set3 bw bg1 _ _ _)) (fun _ => ?_)
                  clear hK K
                  try simp only [Act.put, List.setIfInBounds_toArray, List.set_cons_zero, List.set_cons_succ, List.getElem_toArray, List.getElem_cons_zero, List.getElem_cons_succ]
                  obtain ⟨wm, hwm⟩ : ∃ x, ((u4.setCell ⟨g1, 0, none⟩ (.int .i64 3)).setCell ⟨g1, 1, none⟩ (.int .i64 (k : Int))).setCell ⟨g1, 2, none⟩ (.int .i64 (n : Int)) = x := ⟨_, rfl⟩
                  have PM := Lib.hid (PR.out.mid 3 (k : Int) (n : Int))
                  rw [hwm] at PM
                  simp only [hwm]
                  clear hwm f1 f2 f3 f4 f5 f6
                  obtain ⟨f1, f2, f3⟩ := PM.out.z2.facts
                  obtain ⟨f4, f5, f6⟩ := PM.out.z2.cells
                  refine wpAnyH_ready (rs := [7]) (by kernel_rfl) (by simp) ?_
                  refine AllReadyH.cons rfl (fun K hK => ?_) AllReadyH.nil
                  go_simp
                  refine hK.out _ _ (HM.out _ (below_set3 PM.out.below bg2 _ _ _)) (fun _ => ?_)
                  clear hK K
                  try simp only [Act.put, List.setIfInBounds_toArray, List.set_cons_zero, List.set_cons_succ, List.getElem_toArray, List.getElem_cons_zero, List.getElem_cons_succ]
                  have DU := Lib.hid (PM.out.fin y0 y1 y2)
                  clear PM f1 f2 f3 f4 f5 f6
                  refine wpAnyH_done (by kernel_rfl) ?_ _
                  refine NoPanic.normal ?_
                  go_wp2_with fail
                  go_meet
                  exact ⟨g1, g2, rfl, rfl, DU.out⟩
              · go_simp
                refine hK.out _ _ (HM.out _ (up1 bw _)) (fun _ => ?_)
                clear hK K
                try simp only [Act.put, List.setIfInBounds_toArray, List.set_cons_zero, List.set_cons_succ, List.getElem_toArray, List.getElem_cons_zero, List.getElem_cons_succ]
                obtain ⟨u2, hn⟩ : ∃ x, u1.alloc zwit = x := ⟨_, rfl⟩
                obtain ⟨g2, hg⟩ : ∃ x, u1.heap.size = x := ⟨_, rfl⟩
                have z2 : Zw u2 g2 := by rw [← hn, ← hg]; exact heap_alloc_new u1 _
                have bg2 : wc.heap.size ≤ g2 := by rw [← hg]; exact bw.size
                have bn : Below u1.heap.size u1 u2 := by rw [← hn]; exact (Below.refl _ u1).alloc (Nat.le_refl _) _
                have ne : g1 ≠ g2 := by have := heap_lt z1; omega
                have z1 := z1.up bn
                have bw := up2 bw bn
                simp only [hn, hg]
                clear hn hg bn
                refine wpAnyH_ready (rs := [1]) (by kernel_rfl) (by simp) ?_
                refine AllReadyH.cons rfl (fun K hK => ?_) AllReadyH.nil
                rw [if_pos (by rfl)]
                go_wp2_with fail
                refine (K1.out _ bw).mono ?_
                rintro e u3 ⟨rfl, b9⟩
                go_wp2_with fail
                refine hK.out _ _ (HM.out _ (up2 bw b9)) (fun _ => ?_)
                clear hK K
                try simp only [Act.put, List.setIfInBounds_toArray, List.set_cons_zero, List.set_cons_succ, List.getElem_toArray, List.getElem_cons_zero, List.getElem_cons_succ]
                have z1 := z1.up b9
                have z2 := z2.up b9
                have bw := up2 bw b9
                clear b9
                refine wpAnyH_ready (rs := [3]) (by kernel_rfl) (by simp) ?_
                refine AllReadyH.cons rfl (fun K hK => ?_) AllReadyH.nil
                rw [if_pos (by rfl)]
                go_wp2_with fail
                refine (K2.out _ bw).mono ?_
                rintro e u4 ⟨rfl, b9⟩
                go_wp2_with fail
                refine hK.out _ _ (HM.out _ (up2 bw b9)) (fun _ => ?_)
                clear hK K
                try simp only [Act.put, List.setIfInBounds_toArray, List.set_cons_zero, List.set_cons_succ, List.getElem_toArray, List.getElem_cons_zero, List.getElem_cons_succ]
                have z1 := z1.up b9
                have z2 := z2.up b9
                have bw := up2 bw b9
                clear b9
                have PR := Lib.hid (⟨bw, z1, z2, bg1, bg2, ne⟩ : PreW wc u4 g1 g2)
                obtain ⟨f1, f2, f3⟩ := z1.facts
                obtain ⟨f4, f5, f6⟩ := z1.cells
                clear z1 z2 ne
                refine wpAnyH_ready (rs := [6]) (by kernel_rfl) (by simp) ?_
                refine AllReadyH.cons rfl (fun K hK => ?_) AllReadyH.nil
                go_simp
                refine hK.out _ _ (HM.out _ (below_set3 bw bg1 _ _ _)) (fun _ => ?_)
                clear hK K
                try simp only [Act.put, List.setIfInBounds_toArray, List.set_cons_zero, List.set_cons_succ, List.getElem_toArray, List.getElem_cons_zero, List.getElem_cons_succ]
                obtain ⟨wm, hwm⟩ : ∃ x, ((u4.setCell ⟨g1, 0, none⟩ (.int .i64 3)).setCell ⟨g1, 1, none⟩ (.int .i64 (k : Int))).setCell ⟨g1, 2, none⟩ (.int .i64 (n : Int)) = x := ⟨_, rfl⟩
                have PM := Lib.hid (PR.out.mid 3 (k : Int) (n : Int))
                rw [hwm] at PM
                simp only [hwm]
                clear hwm f1 f2 f3 f4 f5 f6
                obtain ⟨f1, f2, f3⟩ := PM.out.z2.facts
                obtain ⟨f4, f5, f6⟩ := PM.out.z2.cells
                refine wpAnyH_ready (rs := [7]) (by kernel_rfl) (by simp) ?_
                refine AllReadyH.cons rfl (fun K hK => ?_) AllReadyH.nil
                go_simp
                refine hK.out _ _ (HM.out _ (below_set3 PM.out.below bg2 _ _ _)) (fun _ => ?_)
                clear hK K
                try simp only [Act.put, List.setIfInBounds_toArray, List.set_cons_zero, List.set_cons_succ, List.getElem_toArray, List.getElem_cons_zero, List.getElem_cons_succ]
                have DU := Lib.hid (PM.out.fin y0 y1 y2)
                clear PM f1 f2 f3 f4 f5 f6
                refine wpAnyH_done (by kernel_rfl) ?_ _
                refine NoPanic.normal ?_
                go_wp2_with fail
                go_meet
                exact ⟨g1, g2, rfl, rfl, DU.out⟩
            · go_simp
              refine hK.out _ _ (HM.out _ (up1 bw _)) (fun _ => ?_)
              clear hK K
              try simp only [Act.put, List.setIfInBounds_toArray, List.set_cons_zero, List.set_cons_succ, List.getElem_toArray, List.getElem_cons_zero, List.getElem_cons_succ]
              obtain ⟨u1, hn⟩ : ∃ x, u0.alloc zwit = x := ⟨_, rfl⟩
              obtain ⟨g2, hg⟩ : ∃ x, u0.heap.size = x := ⟨_, rfl⟩
              have z2 : Zw u1 g2 := by rw [← hn, ← hg]; exact heap_alloc_new u0 _
              have bg2 : wc.heap.size ≤ g2 := by rw [← hg]; exact bw.size
              have bn : Below u0.heap.size u0 u1 := by rw [← hn]; exact (Below.refl _ u0).alloc (Nat.le_refl _) _
              have bw := up2 bw bn
              simp only [hn, hg]
              clear hn hg bn
              refine wpAnyH_ready (rs := [1, 4]) (by kernel_rfl) (by simp) ?_
              refine AllReadyH.cons rfl (fun K hK => ?_) (AllReadyH.cons rfl (fun K hK => ?_) AllReadyH.nil)
              · rw [if_pos (by rfl)]
                go_wp2_with fail
                refine (K1.out _ bw).mono ?_
                rintro e u2 ⟨rfl, b9⟩
                go_wp2_with fail
                refine hK.out _ _ (HM.out _ (up2 bw b9)) (fun _ => ?_)
                clear hK K
                try simp only [Act.put, List.setIfInBounds_toArray, List.set_cons_zero, List.set_cons_succ, List.getElem_toArray, List.getElem_cons_zero, List.getElem_cons_succ]
                have z2 := z2.up b9
                have bw := up2 bw b9
                clear b9
                refine wpAnyH_ready (rs := [3, 4]) (by kernel_rfl) (by simp) ?_
                refine AllReadyH.cons rfl (fun K hK => ?_) (AllReadyH.cons rfl (fun K hK => ?_) AllReadyH.nil)
                · rw [if_pos (by rfl)]
                  go_wp2_with fail
                  refine (K2.out _ bw).mono ?_
                  rintro e u3 ⟨rfl, b9⟩
                  go_wp2_with fail
                  refine hK.out _ _ (HM.out _ (up2 bw b9)) (fun _ => ?_)
                  clear hK K
                  try simp only [Act.put, List.setIfInBounds_toArray, List.set_cons_zero, List.set_cons_succ, List.getElem_toArray, List.getElem_cons_zero, List.getElem_cons_succ]
                  have z2 := z2.up b9
                  have bw := up2 bw b9
                  clear b9
                  refine wpAnyH_ready (rs := [4]) (by kernel_rfl) (by simp) ?_
                  refine AllReadyH.cons rfl (fun K hK => ?_) AllReadyH.nil
                  go_simp
                  refine hK.out _ _ (HM.out _ (up1 bw _)) (fun _ => ?_)
                  clear hK K
                  try simp only [Act.put, List.setIfInBounds_toArray, List.set_cons_zero, List.set_cons_succ, List.getElem_toArray, List.getElem_cons_zero, List.getElem_cons_succ]
                  obtain ⟨u4, hn⟩ : ∃ x, u3.alloc zwit = x := ⟨_, rfl⟩
                  obtain ⟨g1, hg⟩ : ∃ x, u3.heap.size = x := ⟨_, rfl⟩
                  have z1 : Zw u4 g1 := by rw [← hn, ← hg]; exact heap_alloc_new u3 _
                  have bg1 : wc.heap.size ≤ g1 := by rw [← hg]; exact bw.size
                  have bn : Below u3.heap.size u3 u4 := by rw [← hn]; exact (Below.refl _ u3).alloc (Nat.le_refl _) _
                  have ne : g1 ≠ g2 := by have := heap_lt z2; omega
                  have z2 := z2.up bn
                  have bw := up2 bw bn
                  simp only [hn, hg]
                  clear hn hg bn
                  have PR := Lib.hid (⟨bw, z1, z2, bg1, bg2, ne⟩ : PreW wc u4 g1 g2)
                  obtain ⟨f1, f2, f3⟩ := z1.facts
                  obtain ⟨f4, f5, f6⟩ := z1.cells
                  clear z1 z2 ne
                  refine wpAnyH_ready (rs := [6]) (by kernel_rfl) (by simp) ?_
                  refine AllReadyH.cons rfl (fun K hK => ?_) AllReadyH.nil
                  go_simp
                  refine hK.out _ _ (HM.out _ (below_set3 bw bg1 _ _ _)) (fun _ => ?_)
                  clear hK K
                  try simp only [Act.put, List.setIfInBounds_toArray, List.set_cons_zero, List.set_cons_succ, List.getElem_toArray, List.getElem_cons_zero, List.getElem_cons_succ]
                  obtain ⟨wm, hwm⟩ : ∃ x, ((u4.setCell ⟨g1, 0, none⟩ (.int .i64 3)).setCell ⟨g1, 1, none⟩ (.int .i64 (k : Int))).setCell ⟨g1, 2, none⟩ (.int .i64 (n : Int)) = x := ⟨_, rfl⟩
                  have PM := Lib.hid (PR.out.mid 3 (k : Int) (n : Int))
                  rw [hwm] at PM
                  simp only [hwm]
                  clear hwm f1 f2 f3 f4 f5 f6
                  obtain ⟨f1, f2, f3⟩ := PM.out.z2.facts
                  obtain ⟨f4, f5, f6⟩ := PM.out.z2.cells
                  refine wpAnyH_ready (rs := [7]) (by kernel_rfl) (by simp) ?_
                  refine AllReadyH.cons rfl (fun K hK => ?_) AllReadyH.nil
                  go_simp
                  refine hK.out _ _ (HM.out _ (below_set3 PM.out.below bg2 _ _ _)) (fun _ => ?_)
                  clear hK K
                  try simp only [Act.put, List.setIfInBounds_toArray, List.set_cons_zero, List.set_cons_succ, List.getElem_toArray, List.getElem_cons_zero, List.getElem_cons_succ]
                  have DU := Lib.hid (PM.out.fin y0 y1 y2)
                  clear PM f1 f2 f3 f4 f5 f6
                  refine wpAnyH_done (by kernel_rfl) ?_ _
                  refine NoPanic.normal ?_
                  go_wp2_with fail
                  go_meet
                  exact ⟨g1, g2, rfl, rfl, DU.out⟩
                · go_simp
                  refine hK.out _ _ (HM.out _ (up1 bw _)) (fun _ => ?_)
                  clear hK K
                  try simp only [Act.put, List.setIfInBounds_toArray, List.set_cons_zero, List.set_cons_succ, List.getElem_toArray, List.getElem_cons_zero, List.getElem_cons_succ]
                  obtain ⟨u3, hn⟩ : ∃ x, u2.alloc zwit = x := ⟨_, rfl⟩
                  obtain ⟨g1, hg⟩ : ∃ x, u2.heap.size = x := ⟨_, rfl⟩
                  have z1 : Zw u3 g1 := by rw [← hn, ← hg]; exact heap_alloc_new u2 _
                  have bg1 : wc.heap.size ≤ g1 := by rw [← hg]; exact bw.size
                  have bn : Below u2.heap.size u2 u3 := by rw [← hn]; exact (Below.refl _ u2).alloc (Nat.le_refl _) _
                  have ne : g1 ≠ g2 := by have := heap_lt z2; omega
                  have z2 := z2.up bn
                  have bw := up2 bw bn
                  simp only [hn, hg]
                  clear hn hg bn
                  refine wpAnyH_ready (rs := [3]) (by kernel_rfl) (by simp) ?_
                  refine AllReadyH.cons rfl (fun K hK => ?_) AllReadyH.nil
                  rw [if_pos (by rfl)]
                  go_wp2_with fail
                  refine (K2.out _ bw).mono ?_
                  rintro e u4 ⟨rfl, b9⟩
                  go_wp2_with fail
                  refine hK.out _ _ (HM.out _ (up2 bw b9)) (fun _ => ?_)
                  clear hK K
                  try simp only [Act.put, List.setIfInBounds_toArray, List.set_cons_zero, List.set_cons_succ, List.getElem_toArray, List.getElem_cons_zero, List.getElem_cons_succ]
                  have z1 := z1.up b9
                  have z2 := z2.up b9
                  have bw := up2 bw b9
                  clear b9
                  have PR := Lib.hid (⟨bw, z1, z2, bg1, bg2, ne⟩ : PreW wc u4 g1 g2)
                  obtain ⟨f1, f2, f3⟩ := z1.facts
                  obtain ⟨f4, f5, f6⟩ := z1.cells
                  clear z1 z2 ne
                  refine wpAnyH_ready (rs := [6]) (by kernel_rfl) (by simp) ?_
                  refine AllReadyH.cons rfl (fun K hK => ?_) AllReadyH.nil
                  go_simp
                  refine hK.out _ _ (HM.out _ (below_set3 bw bg1 _ _ _)) (fun _ => ?_)
                  clear hK K
                  try simp only [Act.put, List.setIfInBounds_toArray, List.set_cons_zero, List.set_cons_succ, List.getElem_toArray, List.getElem_cons_zero, List.getElem_cons_succ]
                  obtain ⟨wm, hwm⟩ : ∃ x, ((u4.setCell ⟨g1, 0, none⟩ (.int .i64 3)).setCell ⟨g1, 1, none⟩ (.int .i64 (k : Int))).setCell ⟨g1, 2, none⟩ (.int .i64 (n : Int)) = x := ⟨_, rfl⟩
                  have PM := Lib.hid (PR.out.mid 3 (k : Int) (n : Int))
                  rw [hwm] at PM
                  simp only [hwm]
                  clear hwm f1 f2 f3 f4 f5 f6
                  obtain ⟨f1, f2, f3⟩ := PM.out.z2.facts
                  obtain ⟨f4, f5, f6⟩ := PM.out.z2.cells
                  refine wpAnyH_ready (rs := [7]) (by kernel_rfl) (by simp) ?_
                  refine AllReadyH.cons rfl (fun K hK => ?_) AllReadyH.nil
                  go_simp
                  refine hK.out _ _ (HM.out _ (below_set3 PM.out.below bg2 _ _ _)) (fun _ => ?_)
                  clear hK K
                  try simp only [Act.put, List.setIfInBounds_toArray, List.set_cons_zero, List.set_cons_succ, List.getElem_toArray, List.getElem_cons_zero, List.getElem_cons_succ]
                  have DU := Lib.hid (PM.out.fin y0 y1 y2)
                  clear PM f1 f2 f3 f4 f5 f6
                  refine wpAnyH_done (by kernel_rfl) ?_ _
                  refine NoPanic.normal ?_
                  go_wp2_with fail
                  go_meet
                  exact ⟨g1, g2, rfl, rfl, DU.out⟩
              · go_simp
                refine hK.out _ _ (HM.out _ (up1 bw _)) (fun _ => ?_)
                clear hK K
                try simp only [Act.put, List.setIfInBounds_toArray, List.set_cons_zero, List.set_cons_succ, List.getElem_toArray, List.getElem_cons_zero, List.getElem_cons_succ]
                obtain ⟨u2, hn⟩ : ∃ x, u1.alloc zwit = x := ⟨_, rfl⟩
                obtain ⟨g1, hg⟩ : ∃ x, u1.heap.size = x := ⟨_, rfl⟩
                have z1 : Zw u2 g1 := by rw [← hn, ← hg]; exact heap_alloc_new u1 _
                have bg1 : wc.heap.size ≤ g1 := by rw [← hg]; exact bw.size
                have bn : Below u1.heap.size u1 u2 := by rw [← hn]; exact (Below.refl _ u1).alloc (Nat.le_refl _) _
                have ne : g1 ≠ g2 := by have := heap_lt z2; omega
                have z2 := z2.up bn
                have bw := up2 bw bn
                simp only [hn, hg]
                clear hn hg bn
                refine wpAnyH_ready (rs := [1]) (by kernel_rfl) (by simp) ?_
                refine AllReadyH.cons rfl (fun K hK => ?_) AllReadyH.nil
                rw [if_pos (by rfl)]
                go_wp2_with fail
                refine (K1.out _ bw).mono ?_
                rintro e u3 ⟨rfl, b9⟩
                go_wp2_with fail
                refine hK.out _ _ (HM.out _ (up2 bw b9)) (fun _ => ?_)
                clear hK K
                try simp only [Act.put, List.setIfInBounds_toArray, List.set_cons_zero, List.set_cons_succ, List.getElem_toArray, List.getElem_cons_zero, List.getElem_cons_succ]
                have z1 := z1.up b9
                have z2 := z2.up b9
                have bw := up2 bw b9
                clear b9
                refine wpAnyH_ready (rs := [3]) (by kernel_rfl) (by simp) ?_
                refine AllReadyH.cons rfl (fun K hK => ?_) AllReadyH.nil
                rw [if_pos (by rfl)]
                go_wp2_with fail
                refine (K2.out _ bw).mono ?_
                rintro e u4 ⟨rfl, b9⟩
                go_wp2_with fail
                refine hK.out _ _ (HM.out _ (up2 bw b9)) (fun _ => ?_)
                clear hK K
                try simp only [Act.put, List.setIfInBounds_toArray, List.set_cons_zero, List.set_cons_succ, List.getElem_toArray, List.getElem_cons_zero, List.getElem_cons_succ]
                have z1 := z1.up b9
                have z2 := z2.up b9
                have bw := up2 bw b9
                clear b9
                have PR := Lib.hid (⟨bw, z1, z2, bg1, bg2, ne⟩ : PreW wc u4 g1 g2)
                obtain ⟨f1, f2, f3⟩ := z1.facts
                obtain ⟨f4, f5, f6⟩ := z1.cells
                clear z1 z2 ne
                refine wpAnyH_ready (rs := [6]) (by kernel_rfl) (by simp) ?_
                refine AllReadyH.cons rfl (fun K hK => ?_) AllReadyH.nil
                go_simp
                refine hK.out _ _ (HM.out _ (below_set3 bw bg1 _ _ _)) (fun _ => ?_)
                clear hK K
                try simp only [Act.put, List.setIfInBounds_toArray, List.set_cons_zero, List.set_cons_succ, List.getElem_toArray, List.getElem_cons_zero, List.getElem_cons_succ]
                obtain ⟨wm, hwm⟩ : ∃ x, ((u4.setCell ⟨g1, 0, none⟩ (.int .i64 3)).setCell ⟨g1, 1, none⟩ (.int .i64 (k : Int))).setCell ⟨g1, 2, none⟩ (.int .i64 (n : Int)) = x := ⟨_, rfl⟩
                have PM := Lib.hid (PR.out.mid 3 (k : Int) (n : Int))
                rw [hwm] at PM
                simp only [hwm]
                clear hwm f1 f2 f3 f4 f5 f6
                obtain ⟨f1, f2, f3⟩ := PM.out.z2.facts
                obtain ⟨f4, f5, f6⟩ := PM.out.z2.cells
                refine wpAnyH_ready (rs := [7]) (by kernel_rfl) (by simp) ?_
                refine AllReadyH.cons rfl (fun K hK => ?_) AllReadyH.nil
                go_simp
                refine hK.out _ _ (HM.out _ (below_set3 PM.out.below bg2 _ _ _)) (fun _ => ?_)
                clear hK K
                try simp only [Act.put, List.setIfInBounds_toArray, List.set_cons_zero, List.set_cons_succ, List.getElem_toArray, List.getElem_cons_zero, List.getElem_cons_succ]
                have DU := Lib.hid (PM.out.fin y0 y1 y2)
                clear PM f1 f2 f3 f4 f5 f6
                refine wpAnyH_done (by kernel_rfl) ?_ _
                refine NoPanic.normal ?_
                go_wp2_with fail
                go_meet
                exact ⟨g1, g2, rfl, rfl, DU.out⟩
          case rest =>
            obtain ⟨qa, qb, rfl, rfl, fw⟩ := hcut
            have r0 : wc.cell? ⟨qa, 0, none⟩ = some (.int .i64 3) := by rw [cell_in fw.h1]; rfl
            have r1 : wc.cell? ⟨qa, 1, none⟩ = some (.int .i64 (k : Int)) := by rw [cell_in fw.h1]; rfl
            have r2 : wc.cell? ⟨qa, 2, none⟩ = some (.int .i64 (n : Int)) := by rw [cell_in fw.h1]; rfl
            have t0 : wc.cell? ⟨qb, 0, none⟩ = some (.int .i64 y0) := by rw [cell_in fw.h2]; rfl
            have hc := HC2.out wc fw.below
            have hm := HM.out wc fw.below
            have K4 := Lib.hid (K3.out wc fw.below)
            have BM := Lib.hid (up2 BL.out fw.below)
            have gd := fun W op u v xs ys => run_eqGuard_agg (P := Try.prog) W op 35 u v xs ys Try.eqGuardType35
            have ql := eqlW
            clear fw hd
            rcases hy with rfl | rfl
            · go_wp2_with fail
              refine K4.out.mono ?_
              rintro e w9 ⟨rfl, b9⟩
              have B9 := Lib.hid (up2 B3.out (up2 BM.out b9))
              clear b9
              go_wp2_with fail
              go_ret
              exact ⟨rfl, B9.out⟩
            · by_cases h1 : n = 1
              · have hl1 : ((n : Int) == 1) = true := by simp [h1]
                clear h1
                go_wp2_with fail
                refine K4.out.mono ?_
                rintro e w9 ⟨rfl, b9⟩
                have B9 := Lib.hid (up2 B3.out (up2 BM.out b9))
                clear b9
                go_wp2_with fail
                go_ret
                exact ⟨rfl, B9.out⟩
              · have hl1 : ((n : Int) == 1) = false := by rw [beq_eq_false_iff_ne]; omega
                go_wp2_with fail
                refine K4.out.mono ?_
                rintro e w9 ⟨rfl, b9⟩
                have B9 := Lib.hid (up2 B3.out (up2 BM.out b9))
                clear b9
                go_wp2_with fail
                go_ret
                exact ⟨rfl, B9.out⟩
set_option maxRecDepth 100000 in
theorem lifted (os : Os) (started : os.Started) (H : Type) (enc : TypeId × Value → H) :
    ReturnsInHanded {} Try.checked os 9 .any (Rows.certifyTwinsSpec.pre6 enc Try.prog Try.f9 Rows.certifyTwinsRow.domain false) (Rows.certifyTwinsSpec.post enc Try.prog Try.f9 false true false false) := by
  refine returnsInHanded_of_change (C := Try.checked) own_knob started (by kernel_rfl) Try.func9
    (ChangeSpec.witness6 (enc := enc) (C := Try.checked) false ⟨#[], #[.agg #[.int .i64 0, .slice none 0 0], .int .u8 0], []⟩ 8 (by kernel_rfl) (by kernel_rfl) (by kernel_rfl) (by kernel_rfl)) ?_
  intro W base args ds gs before hval0 hW hcnd _
  have hval : ∀ (j : Nat) t v, Try.f9.params[j]? = some t → args[j]? = some v → Value.okWide Try.prog W .any base t v := hval0
  have hW' := hW
  obtain ⟨p, q, hA0, hV, rfl, hfz, hnd⟩ := hW
  have hA : DataW.TrodAll enc Try.prog W 0 (fun _ => true) true Try.f9.params.toList args.toList ds p := hA0
  rw [Try.params9] at hA hval
  obtain ⟨v0, vs0, d0, ds0, p0, q0, hargs, rfl, rfl, h0, r0⟩ := trodAll_cons hA
  obtain ⟨v1, vs1, d1, ds1, p1, q1, rfl, rfl, rfl, h1, r1⟩ := trodAll_cons r0
  obtain ⟨rfl, rfl, rfl⟩ := trodAll_nil r1
  obtain rfl : args = #[v0, v1] := by cases args; simp_all
  obtain ⟨rfl, rfl⟩ := trodVars_none hV
  have lt0 : ∀ x ∈ p0, x.block < W.heap.size := by obtain ⟨m, hm⟩ := h0; exact DataW.trod_lt m _ _ _ hm
  obtain ⟨N0, a0, len0, cap0, xs0, rfl, hN0, hr0⟩ := arg_soup (hval 0 24 v0 rfl rfl) h0
  obtain ⟨a1, rfl, rfl, rfl, w1⟩ := open_int Try.underlying5 (hval 1 5 v1 rfl rfl) h1
  have bd1 := bounds_u8 w1
  clear hA0 hval0
  refine (walk N0 a0 len0 cap0 xs0 a1 W hN0.1 hN0.2 hr0 (by omega) (by omega)).mono fun e W' ⟨he, bel⟩ => ?_
  subst he
  exact ⟨_, rfl, _, _, _, [], _, [], hW', trodAll_mk1 (shut_bool Try.underlying4 _), (trodAll_cons_mk (Below.trod laid_out (by kernel_rfl) (of_decide_eq_true (by kernel_rfl)) h0 bel lt0) (trodAll_cons_mk (shut_int Try.underlying5 w1) trodAll_mk0)), rfl, bel.frame _, fun h => by cases h⟩

theorem over : Rows.certifyTwinsRow.holds Try.pinned (OpenSpec.ofChange Rows.certifyTwinsSpec) :=
  OpenClaim.holds_of_wide 9 Try.f9 rfl rfl rfl rfl rfl rfl rfl ⟨rfl, rfl, rfl, rfl, rfl⟩ rfl rfl rfl rfl rfl (by kernel_rfl) Try.func9 (by kernel_rfl)
    (of_decide_eq_true (by kernel_rfl)) (by unfold Func.isWrapper; first | (rw [if_pos (by decide +kernel)]; kernel_rfl) | (rw [if_neg (by decide +kernel)]; exact ⟨rfl, rfl⟩))
    (fun os started H enc _ => lifted os started H enc)

theorem proved : Rows.CertifyTwinsSaid := over
end Go.Proofs.Ytelbmjbjpgcdaaa.certifyTwins
