/- CertifyTurned: whichever vertex a triangle begins with, and whichever way round all go, the same is told. No condition. -/
import Derived.Test.YtelbmjbjpgcdaaaCrAwk
import Derived.Test.YtelbmjbjpgcdaaaCerMore
import Derived.Test.YtelbmjbjpgcdaaaArgSoup
import Derived.Deep.RegionHeld3
import Derived.Deep.DeepCutAuto
import Derived.StillTailTactics
namespace Go.Proofs.Ytelbmjbjpgcdaaa.certifyTurned
open Go.RowKit Go.ChangeShapes Go.WideShapes Go.ChangeAt

theorem arg_bytes4 {H : Type} {enc : TypeId × Value → H} {W : World} {a : Option Addr} {n c : Nat} {d : DataW H} {p : List MemPlace}
    (h : DataW.Trod enc Try.prog W 0 (fun _ => true) true 39 (.slice a n c) d p) : ((a = none → c = 0) ∧ n ≤ c) ∧ ∃ xs : List Nat, Dig xs ∧ Reads W a n (bts xs) := by
  obtain ⟨fuel, hf⟩ := h
  rcases open_ints Try.underlying39 Try.underlying5 (by kernel_rfl) hf with ⟨hcs, _⟩ | ⟨x, l, c', zs, hcs, _, hl, _, hz, _, hcell, hwz⟩
  · simp [Value.cells] at hcs
    obtain ⟨rfl, rfl, rfl⟩ := hcs
    exact ⟨⟨fun _ => rfl, Nat.le_refl _⟩, [], by simp [Dig], rfl, fun h => absurd h (by omega)⟩
  · simp [Value.cells] at hcs
    obtain ⟨rfl, rfl, rfl⟩ := hcs
    have hzl : zs.length = c := by simpa using hz
    have hb : ∀ z ∈ zs, 0 ≤ z ∧ z ≤ 255 := fun z hz' => bounds_u8 (hwz z hz')
    have hlen : ((zs.take n).map Int.toNat).length = n := by simp; omega
    refine ⟨⟨fun e => by simp at e, hl⟩, (zs.take n).map Int.toNat, ?_, by rw [length_bts]; exact hlen, fun _ => ⟨x, rfl, ?_⟩⟩
    · intro y hy
      simp only [List.mem_map] at hy
      obtain ⟨z, hz', rfl⟩ := hy
      have := hb z (List.mem_of_mem_take hz')
      omega
    · intro j u hu
      have hj : j < n := by
        have := (List.getElem?_eq_some_iff.1 hu).1
        rw [length_bts, hlen] at this; exact this
      have hjz : j < zs.length := by omega
      have hz0 := hb zs[j] (List.getElem_mem hjz)
      rw [hcell j hjz]
      simp only [bts, List.getElem?_map, List.getElem?_take, if_pos hj, List.getElem?_eq_getElem hjz, Option.map_some, Option.some.injEq] at hu
      rw [← hu]
      simp [List.getElem?_eq_getElem hjz]
      omega
abbrev zbox : Obj := .cells #[.int .i64 0, .slice none 0 0] 24
/-- An empty soup's block, known whole. -/
def Zb (W : World) (q : Nat) : Prop := W.heap[q]? = some (.cells #[.int .i64 0, .slice none 0 0] 24 (0, 0))
theorem Zb.up {W Y : World} {q : Nat} (h : Zb W q) (b : Below W.heap.size W Y) : Zb Y q := (b.block q (heap_lt h)).trans h
theorem Zb.facts {W : World} {q : Nat} (h : Zb W q) : W.frozen? ⟨q, 0, none⟩ = false ∧ W.frozen? ⟨q, 1, none⟩ = false ∧ W.cell? ⟨q, 0, none⟩ = some (.int .i64 0) ∧ W.cell? ⟨q, 1, none⟩ = some (.slice none 0 0) := ⟨frozen_in h 0, frozen_in h 1, by rw [cell_in h]; rfl, by rw [cell_in h]; rfl⟩
theorem ownK9_up {W W' : World} {B n s : Nat} {t : TypeId} {v : Value} {xs : List Value} (h : W.ownsRow B t s v n xs) (b : Below W.heap.size W W') : W'.ownsRow B t s v n xs := by
  refine ⟨h.1, ?_⟩
  rcases h.2 with h2 | ⟨q, cap, cur, h1, hq, hh, hr⟩
  · exact .inl h2
  · exact .inr ⟨q, cap, cur, h1, hq, (b.block q (heap_lt hh)).trans hh, hr⟩
theorem ap_of {W W' : World} {B n m s : Nat} {t : TypeId} {v v' : Value} {xs ys : List Value} (h : W.ownsRow B t s v n xs) (h' : W'.ownsRow W.heap.size t s v' m ys) : ∀ q, v.ownBlock = some q → v'.ownBlock ≠ some q := by
  intro q hq e
  have h1 := (h.lt q hq).2
  have h2 := (h'.lt q e).1
  omega
/-- Two lists in memory of their own, side by side, and two boxes for them. -/
structure Pre (w W : World) (gt gm : Nat) (vt : Value) (nt : Nat) (lt : List Tr) (vm : Value) (nm : Nat) (lm : List Tr) : Prop where
  below : Below w.heap.size w W
  zt : Zb W gt
  zm : Zb W gm
  ot : W.ownsRow w.heap.size 41 3 vt nt (ints (flat3 lt))
  om : W.ownsRow w.heap.size 41 3 vm nm (ints (flat3 lm))
  wt : w.heap.size ≤ gt
  wm : w.heap.size ≤ gm
  ne : gt ≠ gm
  ap : ∀ q, vt.ownBlock = some q → vm.ownBlock ≠ some q
structure Mid (w W : World) (gt gm : Nat) (N : Int) (vt : Value) (nt : Nat) (lt : List Tr) (vm : Value) (nm : Nat) (lm : List Tr) : Prop where
  below : Below w.heap.size w W
  bt : W.heap[gt]? = some (.cells #[.int .i64 N, vt] 24 (0, 0))
  zm : Zb W gm
  ot : W.ownsRow w.heap.size 41 3 vt nt (ints (flat3 lt))
  om : W.ownsRow w.heap.size 41 3 vm nm (ints (flat3 lm))
  wt : w.heap.size ≤ gt
  wm : w.heap.size ≤ gm
  ne : gt ≠ gm
  ap : ∀ q, vt.ownBlock = some q → vm.ownBlock ≠ some q
/-- Two soups in memory of their own. -/
structure Duo (w W : World) (gt gm : Nat) (N : Int) (vt : Value) (nt : Nat) (lt : List Tr) (vm : Value) (nm : Nat) (lm : List Tr) : Prop where
  below : Below w.heap.size w W
  bt : W.heap[gt]? = some (.cells #[.int .i64 N, vt] 24 (0, 0))
  bm : W.heap[gm]? = some (.cells #[.int .i64 N, vm] 24 (0, 0))
  ot : W.ownsRow w.heap.size 41 3 vt nt (ints (flat3 lt))
  om : W.ownsRow w.heap.size 41 3 vm nm (ints (flat3 lm))
  wt : w.heap.size ≤ gt
  wm : w.heap.size ≤ gm
  ne : gt ≠ gm
  ap : ∀ q, vt.ownBlock = some q → vm.ownBlock ≠ some q
theorem own_box {W : World} {B n q : Nat} {v : Value} {xs : List Value} {cs : Array Value} (h : W.ownsRow B 41 3 v n xs) (hq : W.heap[q]? = some (.cells cs 24 (0, 0))) (a b : Value) : ((W.setCell ⟨q, 0, none⟩ a).setCell ⟨q, 1, none⟩ b).ownsRow B 41 3 v n xs :=
  ownK9_set (ownK9_set h hq (by decide) 0 a) (heap_set hq 0 a) (by decide) 1 b
theorem Pre.mid {w W : World} {gt gm : Nat} {vt : Value} {nt : Nat} {lt : List Tr} {vm : Value} {nm : Nat} {lm : List Tr} (h : Pre w W gt gm vt nt lt vm nm lm) (N : Int) : Mid w ((W.setCell ⟨gt, 0, none⟩ (.int .i64 N)).setCell ⟨gt, 1, none⟩ vt) gt gm N vt nt lt vm nm lm :=
  ⟨below_set2 h.below h.wt _ _, set2 h.zt, heap_far (heap_far h.zm (Ne.symm h.ne) _) (Ne.symm h.ne) _, own_box h.ot h.zt _ _, own_box h.om h.zt _ _, h.wt, h.wm, h.ne, h.ap⟩
theorem Mid.fin {w W : World} {gt gm : Nat} {N : Int} {vt : Value} {nt : Nat} {lt : List Tr} {vm : Value} {nm : Nat} {lm : List Tr} (h : Mid w W gt gm N vt nt lt vm nm lm) : Duo w ((W.setCell ⟨gm, 0, none⟩ (.int .i64 N)).setCell ⟨gm, 1, none⟩ vm) gt gm N vt nt lt vm nm lm :=
  ⟨below_set2 h.below h.wm _ _, heap_far (heap_far h.bt h.ne _) h.ne _, set2 h.zm, own_box h.ot h.zm _ _, own_box h.om h.zm _ _, h.wt, h.wm, h.ne, h.ap⟩
theorem below_st {B q i : Nat} {w x : World} (h : Below B w x) (hq : B ≤ q) (v : Value) : Below B w (x.setCell ⟨q, i, none⟩ v) := h.setCell (p := ⟨q, i, none⟩) hq v
theorem Duo.symm {w W : World} {gt gm : Nat} {N : Int} {vt : Value} {nt : Nat} {lt : List Tr} {vm : Value} {nm : Nat} {lm : List Tr} (h : Duo w W gt gm N vt nt lt vm nm lm) : Duo w W gm gt N vm nm lm vt nt lt :=
  ⟨h.below, h.bm, h.bt, h.om, h.ot, h.wm, h.wt, Ne.symm h.ne, fun q hq e => h.ap q e hq⟩
theorem Duo.up {w W W' : World} {gt gm : Nat} {N : Int} {vt : Value} {nt : Nat} {lt : List Tr} {vm : Value} {nm : Nat} {lm : List Tr} (h : Duo w W gt gm N vt nt lt vm nm lm) (b : Below W.heap.size W W') : Duo w W' gt gm N vt nt lt vm nm lm :=
  ⟨up2 h.below b, (b.block gt (heap_lt h.bt)).trans h.bt, (b.block gm (heap_lt h.bm)).trans h.bm, ownK9_up h.ot b, ownK9_up h.om b, h.wt, h.wm, h.ne, h.ap⟩
def Own2 (w : World) (N : Int) (n : Nat) (l : List Tr) (t m : Value) (W : World) : Prop := ∃ gt gm At ct Am cm, t = .pointer (some ⟨gt, 0, none⟩) ∧ m = .pointer (some ⟨gm, 0, none⟩) ∧ Duo w W gt gm N (.slice At n ct) n l (.slice Am n cm) n l
/-- An owned row whose address is known. -/
theorem own_set3 {W : World} {B q n c k : Nat} {L : List Tr} (h : W.ownsRow B 41 3 (.slice (some ⟨q, 0, none⟩) n c) n (ints (flat3 L))) (hk : k < n) (x : Tr) :
    (((W.setCell ⟨q, k * 3, none⟩ (.int .i64 x.1)).setCell ⟨q, k * 3 + 1, none⟩ (.int .i64 x.2.1)).setCell ⟨q, k * 3 + 2, none⟩ (.int .i64 x.2.2)).ownsRow B 41 3 (.slice (some ⟨q, 0, none⟩) n c) n (ints (flat3 (L.set k x))) := by
  have hl : L.length = n := by have := h.1; rw [length_ints, length_flat3] at this; omega
  rcases h.2 with ⟨h1, _⟩ | ⟨q', cap, cur, h1, hq, hh, hc, hm, hs, ht⟩
  · cases h1
  · injection h1 with h1 _ h3
    injection h1 with h1
    injection h1 with h1
    subst h1 h3
    refine ⟨by rw [length_ints, length_flat3, List.length_set, hl]; omega, .inr ⟨q, c, _, rfl, hq, heap_set (heap_set (heap_set hh _ _) _ _) _ _, hc, hm, by simp only [Array.size_setIfInBounds]; exact hs, ?_⟩⟩
    rw [flat3_set L k x (by omega), ints_set, ints_set, ints_set, ← ht]
    simp only [Array.toList_setIfInBounds, List.take_set]
theorem own_cells9 {W : World} {B q n c k : Nat} {L : List Tr} (h : W.ownsRow B 41 3 (.slice (some ⟨q, 0, none⟩) n c) n (ints (flat3 L))) (hk : k < n) :
    ∃ v0 v1 v2, (W.cell? ⟨q, k * 3, none⟩ = some v0 ∧ W.frozen? ⟨q, k * 3, none⟩ = false) ∧ (W.cell? ⟨q, k * 3 + 1, none⟩ = some v1 ∧ W.frozen? ⟨q, k * 3 + 1, none⟩ = false) ∧ (W.cell? ⟨q, k * 3 + 2, none⟩ = some v2 ∧ W.frozen? ⟨q, k * 3 + 2, none⟩ = false) := by
  rcases h.2 with ⟨h1, _⟩ | ⟨q', cap, cur, h1, hq, hh, hc, hm, hs, ht⟩
  · cases h1
  · injection h1 with h1 _ h3
    injection h1 with h1
    injection h1 with h1
    subst h1 h3
    have cell : ∀ i, i < cur.size → ∃ v, W.cell? ⟨q, i, none⟩ = some v := fun i hi => ⟨_, by rw [cell_in hh]; exact Array.getElem?_eq_getElem hi⟩
    obtain ⟨v0, a0⟩ := cell (k * 3) (by omega)
    obtain ⟨v1, a1⟩ := cell (k * 3 + 1) (by omega)
    obtain ⟨v2, a2⟩ := cell (k * 3 + 2) (by omega)
    exact ⟨v0, v1, v2, ⟨a0, frozen_in hh _⟩, ⟨a1, frozen_in hh _⟩, ⟨a2, frozen_in hh _⟩⟩
theorem own_at9 {W : World} {B n c : Nat} {A : Option Addr} {xs : List Value} (h : W.ownsRow B 41 3 (.slice A n c) n xs) (hn : 0 < n) : ∃ q, A = some ⟨q, 0, none⟩ ∧ B ≤ q ∧ ∃ cs, W.heap[q]? = some (.cells cs 41 (0, 0)) := by
  rcases h.2 with ⟨_, h1⟩ | ⟨q', cap, cur, h1, hq, hh, hc, hm, hs, ht⟩
  · omega
  · injection h1 with h1 _ h3
    exact ⟨q', h1, hq, _, hh⟩
/-- One triangle is written over in the first of two soups. -/
theorem Duo.setT {w W : World} {gt gm q n c k : Nat} {N : Int} {lt : List Tr} {vm : Value} {nm : Nat} {lm : List Tr} (h : Duo w W gt gm N (.slice (some ⟨q, 0, none⟩) n c) n lt vm nm lm) (hk : k < n) (x : Tr) :
    Duo w (((W.setCell ⟨q, k * 3, none⟩ (.int .i64 x.1)).setCell ⟨q, k * 3 + 1, none⟩ (.int .i64 x.2.1)).setCell ⟨q, k * 3 + 2, none⟩ (.int .i64 x.2.2)) gt gm N (.slice (some ⟨q, 0, none⟩) n c) n (lt.set k x) vm nm lm := by
  obtain ⟨q', e, hq, cs, hh⟩ := own_at9 h.ot (by omega)
  injection e with e
  injection e with e
  subst e
  have hne : ∀ (b : Nat) (cs' : Array Value), W.heap[b]? = some (.cells cs' 24 (0, 0)) → b ≠ q := fun b cs' hb e => by
    subst e
    rw [hb] at hh
    injection hh with hh
    injection hh with _ hh _
    exact absurd hh (by decide)
  have hm : ∀ (i : Nat), vm.ownBlock ≠ some (⟨q, i, none⟩ : Addr).block := fun i e => h.ap q rfl e
  have nt := hne _ _ h.bt
  have nm' := hne _ _ h.bm
  refine ⟨?_, heap_far (heap_far (heap_far h.bt nt _) nt _) nt _, heap_far (heap_far (heap_far h.bm nm' _) nm' _) nm' _, own_set3 h.ot hk x, ?_, h.wt, h.wm, h.ne, h.ap⟩
  · exact ((h.below.setCell (p := ⟨q, k * 3, none⟩) hq _).setCell (p := ⟨q, k * 3 + 1, none⟩) hq _).setCell (p := ⟨q, k * 3 + 2, none⟩) hq _
  · exact ownsRow_setCell_other (ownsRow_setCell_other (ownsRow_setCell_other h.om (hm (k * 3)) _) (hm (k * 3 + 1)) _) (hm (k * 3 + 2)) _
theorem Duo.setM {w W : World} {gt gm q n c k : Nat} {N : Int} {lm : List Tr} {vt : Value} {nt : Nat} {lt : List Tr} (h : Duo w W gt gm N vt nt lt (.slice (some ⟨q, 0, none⟩) n c) n lm) (hk : k < n) (x : Tr) :
    Duo w (((W.setCell ⟨q, k * 3, none⟩ (.int .i64 x.1)).setCell ⟨q, k * 3 + 1, none⟩ (.int .i64 x.2.1)).setCell ⟨q, k * 3 + 2, none⟩ (.int .i64 x.2.2)) gt gm N vt nt lt (.slice (some ⟨q, 0, none⟩) n c) n (lm.set k x) := (h.symm.setT hk x).symm
def TuL (l : List Tr) (n k : Nat) (lt lm : List Tr) : Prop := lt.length = n ∧ lm.length = n ∧ (∀ j, j < n → ∃ r, lt.getD j z3 = rotT (l.getD j z3) r) ∧ ∀ j, j < k → lm.getD j z3 = mirT (l.getD j z3)
theorem getD_set9 {L : List Tr} {k : Nat} (x : Tr) (hk : k < L.length) (j : Nat) : (L.set k x).getD j z3 = if k = j then x else L.getD j z3 := by
  rw [List.getD_eq_getElem?_getD, List.getElem?_set, List.getD_eq_getElem?_getD]
  by_cases e : k = j
  · subst e; simp [hk]
  · simp [e]
theorem TuL.t {l : List Tr} {n k : Nat} {lt lm : List Tr} (h : TuL l n k lt lm) (hk : k < n) (r : Nat) : TuL l n k (lt.set k (rotT (l.getD k z3) r)) lm := by
  refine ⟨by rw [List.length_set]; exact h.1, h.2.1, fun j hj => ?_, h.2.2.2⟩
  rw [getD_set9 _ (by rw [h.1]; exact hk)]
  by_cases e : k = j
  · subst e; exact ⟨r, by simp⟩
  · rw [if_neg e]; exact h.2.2.1 j hj
theorem TuL.m {l : List Tr} {n k : Nat} {lt lm : List Tr} (h : TuL l n k lt lm) (hk : k < n) : TuL l n (k + 1) lt (lm.set k (mirT (l.getD k z3))) := by
  refine ⟨h.1, by rw [List.length_set]; exact h.2.1, h.2.2.1, fun j hj => ?_⟩
  rw [getD_set9 _ (by rw [h.2.1]; exact hk)]
  by_cases e : k = j
  · subst e; simp
  · rw [if_neg e]; exact h.2.2.2 j (by omega)
def TuR (w : World) (N : Int) (gt gm n : Nat) (l : List Tr) (At : Option Addr) (ct : Nat) (Am : Option Addr) (cm : Nat) (i : Value) (wr : World) : Prop := ∃ (k : Nat) (lt lm : List Tr), k ≤ n ∧ i = .int .i64 (k : Int) ∧ Duo w wr gt gm N (.slice At n ct) n lt (.slice Am n cm) n lm ∧ TuL l n k lt lm
def Tv (w0 : World) (L : Nat) (i : Value) (wr : World) : Prop := ∃ k : Nat, k ≤ L ∧ i = .int .i64 (k : Int) ∧ Below w0.heap.size w0 wr
set_option maxHeartbeats 16000000 in
set_option maxRecDepth 100000 in
theorem walk (N : Int) (A : Option Addr) (n c : Nat) (l : List Tr) (B : Option Addr) (m d : Nat) (bl : List Nat) (w : World) (_ : -9223372036854775808 ≤ N) (_ : N ≤ 9223372036854775807) (h : T3 w A n l) (_ : (B = none → d = 0) ∧ m ≤ d) (hD : Dig bl) (hr : Reads w B m (bts bl)) :
    Calls Try.prog 5 #[.agg #[.int .i64 N, .slice A n c], .slice B m d] w (BoolTold9 w true) := by
  obtain ⟨p, hp⟩ := isPin_exists l
  have HL := Lib.hid h
  have HP := Lib.hid hp
  have HD := Lib.hid hD
  have HR := Lib.hid hr
  have KA := Lib.hid awake9_true
  have KG := Lib.hid (fun W => great9_any W N A n c)
  have B0 := Lib.hid ((Below.refl _ w).alloc (Nat.le_refl _) (.cells #[.int .i64 N, .slice A n c] 24))
  have X0 := Lib.hid (Bx.made w N A n c)
  clear h hp hD hr
  go_enter Try.func5, Try.ntmps5
  go_wp2_with fail
  refine (KA.out _).mono ?_
  rintro e w1 ⟨rfl, b1⟩
  have B1 := Lib.hid (up2 B0.out b1)
  have X1 := Lib.hid (X0.out.below b1)
  clear b1
  obtain ⟨g, hg⟩ : ∃ g, w.heap.size = g := ⟨_, rfl⟩
  simp only [hg]
  rw [hg] at X1
  have HG := Lib.hid hg
  clear hg
  have e0 := X1.out.c0
  have e1 := X1.out.c1
  go_wp2_with fail
  refine (KG.out _).mono ?_
  rintro e w2 ⟨rfl, b2⟩
  have B2 := Lib.hid (up2 B1.out b2)
  have X2 := Lib.hid (X1.out.below b2)
  clear b2 e0 e1
  by_cases h40 : (40 : Int) < n ∨ 40 < N
  · simp only [decide_eq_true h40]
    clear h40
    go_wp2_with fail
    refine (KA.out _).mono ?_
    rintro e w3 ⟨rfl, b3⟩
    have B3 := Lib.hid (up2 B2.out b3)
    clear b3
    go_wp2_with fail
    go_ret
    exact ⟨rfl, B3.out⟩
  simp only [decide_eq_false h40]
  have hn : n ≤ 40 := by omega
  clear h40
  have e0 := X2.out.c0
  have e1 := X2.out.c1
  have KO := Lib.hid (fun W (b : Below w2.heap.size w2 W) => own9_any W N A n c l (HL.out.below (up2 B2.out b)) (by omega))
  have HH := Lib.hid (fun W (b : Below w2.heap.size w2 W) => (show W.cell? ⟨g, 0, none⟩ = some (.int .i64 N) ∧ W.cell? ⟨g, 1, none⟩ = some (.slice A n c) from ⟨(X2.out.below b).c0, (X2.out.below b).c1⟩))
  have hd := HH.out w2.drew (Reading.below ⟨1, rfl⟩)
  go_wp2_with fail
  go_upto_region 4 with fail
  go_cut [5, 6] (Own2 w2 N n l)
  case first =>
    go_wp2_with fail
    refine wp_region_noPanic ?_
    refine wp_region_held_drew (S := fun w' => w'.cell? ⟨g, 0, none⟩ = some (.int .i64 N) ∧ w'.cell? ⟨g, 1, none⟩ = some (.slice A n c)) (by kernel_rfl) hd (fun _ => ?_)
    refine wpAnyH_take (i := 0) (v := ?v0x1) rfl (by kernel_rfl) (by kernel_rfl) (by kernel_rfl) (fun _ _ _ h => h) (Or.inl ⟨by rfl, ?y0x1⟩) hd ?_
    case y0x1 => (intro w hSw; (try dsimp only at hSw); go_simp; try with_reducible rfl)
    simp only [Act.put, List.setIfInBounds_toArray, List.set_cons_zero, List.set_cons_succ, List.getElem_toArray, List.getElem_cons_zero]
    refine wpAnyH_take (i := 2) (v := ?v2x2) rfl (by kernel_rfl) (by kernel_rfl) (by kernel_rfl) (fun _ _ _ h => h) (Or.inl ⟨by rfl, ?y2x2⟩) hd ?_
    case y2x2 => (intro w hSw; (try dsimp only at hSw); go_simp; try with_reducible rfl)
    simp only [Act.put, List.setIfInBounds_toArray, List.set_cons_zero, List.set_cons_succ, List.getElem_toArray, List.getElem_cons_zero, List.getElem_cons_succ]
    obtain ⟨u0, hu0⟩ : ∃ x, w2.drew = x := ⟨_, rfl⟩
    have bw : Below w2.heap.size w2 u0 := by rw [← hu0]; exact Reading.below ⟨1, rfl⟩
    simp only [hu0]
    clear hu0
    refine wpAnyH_ready (rs := [1, 4, 5]) (by kernel_rfl) (by simp) ?_
    refine AllReadyH.cons rfl (fun K hK => ?_) (AllReadyH.cons rfl (fun K hK => ?_) (AllReadyH.cons rfl (fun K hK => ?_) AllReadyH.nil))
    · rw [if_pos (by rfl)]
      go_wp2_with fail
      refine (KO.out _ bw).mono ?_
      rintro e u1 ⟨_, rfl, A1, c1, rfl, o1, b9⟩
      rw [HL.out.1] at o1 ⊢
      go_wp2_with fail
      refine hK.out _ _ (HH.out _ (up2 bw b9)) (fun _ => ?_)
      clear hK K
      try simp only [Act.put, List.setIfInBounds_toArray, List.set_cons_zero, List.set_cons_succ, List.getElem_toArray, List.getElem_cons_zero, List.getElem_cons_succ]
      have o1 := ownK9_base o1 bw.size
      have bw := up2 bw b9
      clear b9
      refine wpAnyH_ready (rs := [3, 4, 5]) (by kernel_rfl) (by simp) ?_
      refine AllReadyH.cons rfl (fun K hK => ?_) (AllReadyH.cons rfl (fun K hK => ?_) (AllReadyH.cons rfl (fun K hK => ?_) AllReadyH.nil))
      · rw [if_pos (by rfl)]
        go_wp2_with fail
        refine (KO.out _ bw).mono ?_
        rintro e u2 ⟨_, rfl, A2, c2, rfl, o2, b9⟩
        rw [HL.out.1] at o2 ⊢
        go_wp2_with fail
        refine hK.out _ _ (HH.out _ (up2 bw b9)) (fun _ => ?_)
        clear hK K
        try simp only [Act.put, List.setIfInBounds_toArray, List.set_cons_zero, List.set_cons_succ, List.getElem_toArray, List.getElem_cons_zero, List.getElem_cons_succ]
        have ap := ap_of o1 o2
        have o1 := ownK9_up o1 b9
        have o2 := ownK9_base o2 bw.size
        have bw := up2 bw b9
        clear b9
        refine wpAnyH_ready (rs := [4, 5]) (by kernel_rfl) (by simp) ?_
        refine AllReadyH.cons rfl (fun K hK => ?_) (AllReadyH.cons rfl (fun K hK => ?_) AllReadyH.nil)
        · go_simp
          refine hK.out _ _ (HH.out _ (up1 bw _)) (fun _ => ?_)
          clear hK K
          try simp only [Act.put, List.setIfInBounds_toArray, List.set_cons_zero, List.set_cons_succ, List.getElem_toArray, List.getElem_cons_zero, List.getElem_cons_succ]
          obtain ⟨u3, hn⟩ : ∃ x, u2.alloc zbox = x := ⟨_, rfl⟩
          obtain ⟨g1, hg⟩ : ∃ x, u2.heap.size = x := ⟨_, rfl⟩
          have z1 : Zb u3 g1 := by rw [← hn, ← hg]; exact heap_alloc_new u2 _
          have bg1 : w2.heap.size ≤ g1 := by rw [← hg]; exact bw.size
          have bn : Below u2.heap.size u2 u3 := by rw [← hn]; exact (Below.refl _ u2).alloc (Nat.le_refl _) _
          have o1 := ownK9_up o1 bn
          have o2 := ownK9_up o2 bn
          have bw := up2 bw bn
          simp only [hn, hg]
          clear hn hg bn
          refine wpAnyH_ready (rs := [5]) (by kernel_rfl) (by simp) ?_
          refine AllReadyH.cons rfl (fun K hK => ?_) AllReadyH.nil
          go_simp
          refine hK.out _ _ (HH.out _ (up1 bw _)) (fun _ => ?_)
          clear hK K
          try simp only [Act.put, List.setIfInBounds_toArray, List.set_cons_zero, List.set_cons_succ, List.getElem_toArray, List.getElem_cons_zero, List.getElem_cons_succ]
          obtain ⟨u4, hn⟩ : ∃ x, u3.alloc zbox = x := ⟨_, rfl⟩
          obtain ⟨g2, hg⟩ : ∃ x, u3.heap.size = x := ⟨_, rfl⟩
          have z2 : Zb u4 g2 := by rw [← hn, ← hg]; exact heap_alloc_new u3 _
          have bg2 : w2.heap.size ≤ g2 := by rw [← hg]; exact bw.size
          have bn : Below u3.heap.size u3 u4 := by rw [← hn]; exact (Below.refl _ u3).alloc (Nat.le_refl _) _
          have ne : g1 ≠ g2 := by have := heap_lt z1; omega
          have z1 := z1.up bn
          have o1 := ownK9_up o1 bn
          have o2 := ownK9_up o2 bn
          have bw := up2 bw bn
          simp only [hn, hg]
          clear hn hg bn
          have PR := Lib.hid (⟨bw, z1, z2, o1, o2, bg1, bg2, ne, ap⟩ : Pre w2 u4 g1 g2 (.slice A1 n c1) n l (.slice A2 n c2) n l)
          obtain ⟨f1, f2, f3, f4⟩ := z1.facts
          clear z1 z2 o1 o2 ap ne
          refine wpAnyH_ready (rs := [6]) (by kernel_rfl) (by simp) ?_
          refine AllReadyH.cons rfl (fun K hK => ?_) AllReadyH.nil
          go_simp
          refine hK.out _ _ (HH.out _ (below_st (below_st bw bg1 _) bg1 _)) (fun _ => ?_)
          clear hK K
          try simp only [Act.put, List.setIfInBounds_toArray, List.set_cons_zero, List.set_cons_succ, List.getElem_toArray, List.getElem_cons_zero, List.getElem_cons_succ]
          obtain ⟨wm, hwm⟩ : ∃ x, (u4.setCell ⟨g1, 0, none⟩ (.int .i64 N)).setCell ⟨g1, 1, none⟩ (.slice A1 n c1) = x := ⟨_, rfl⟩
          have PM := Lib.hid (PR.out.mid N)
          rw [hwm] at PM
          simp only [hwm]
          clear hwm f1 f2 f3 f4
          obtain ⟨f1, f2, f3, f4⟩ := PM.out.zm.facts
          refine wpAnyH_ready (rs := [7]) (by kernel_rfl) (by simp) ?_
          refine AllReadyH.cons rfl (fun K hK => ?_) AllReadyH.nil
          go_simp
          refine hK.out _ _ (HH.out _ (below_st (below_st PM.out.below bg2 _) bg2 _)) (fun _ => ?_)
          clear hK K
          try simp only [Act.put, List.setIfInBounds_toArray, List.set_cons_zero, List.set_cons_succ, List.getElem_toArray, List.getElem_cons_zero, List.getElem_cons_succ]
          have DU := Lib.hid PM.out.fin
          clear PM f1 f2 f3 f4
          refine wpAnyH_done (by kernel_rfl) ?_ _
          refine NoPanic.normal ?_
          go_wp2_with fail
          go_meet
          exact ⟨g1, g2, A1, c1, A2, c2, rfl, rfl, DU.out⟩
        · go_simp
          refine hK.out _ _ (HH.out _ (up1 bw _)) (fun _ => ?_)
          clear hK K
          try simp only [Act.put, List.setIfInBounds_toArray, List.set_cons_zero, List.set_cons_succ, List.getElem_toArray, List.getElem_cons_zero, List.getElem_cons_succ]
          obtain ⟨u3, hn⟩ : ∃ x, u2.alloc zbox = x := ⟨_, rfl⟩
          obtain ⟨g2, hg⟩ : ∃ x, u2.heap.size = x := ⟨_, rfl⟩
          have z2 : Zb u3 g2 := by rw [← hn, ← hg]; exact heap_alloc_new u2 _
          have bg2 : w2.heap.size ≤ g2 := by rw [← hg]; exact bw.size
          have bn : Below u2.heap.size u2 u3 := by rw [← hn]; exact (Below.refl _ u2).alloc (Nat.le_refl _) _
          have o1 := ownK9_up o1 bn
          have o2 := ownK9_up o2 bn
          have bw := up2 bw bn
          simp only [hn, hg]
          clear hn hg bn
          refine wpAnyH_ready (rs := [4]) (by kernel_rfl) (by simp) ?_
          refine AllReadyH.cons rfl (fun K hK => ?_) AllReadyH.nil
          go_simp
          refine hK.out _ _ (HH.out _ (up1 bw _)) (fun _ => ?_)
          clear hK K
          try simp only [Act.put, List.setIfInBounds_toArray, List.set_cons_zero, List.set_cons_succ, List.getElem_toArray, List.getElem_cons_zero, List.getElem_cons_succ]
          obtain ⟨u4, hn⟩ : ∃ x, u3.alloc zbox = x := ⟨_, rfl⟩
          obtain ⟨g1, hg⟩ : ∃ x, u3.heap.size = x := ⟨_, rfl⟩
          have z1 : Zb u4 g1 := by rw [← hn, ← hg]; exact heap_alloc_new u3 _
          have bg1 : w2.heap.size ≤ g1 := by rw [← hg]; exact bw.size
          have bn : Below u3.heap.size u3 u4 := by rw [← hn]; exact (Below.refl _ u3).alloc (Nat.le_refl _) _
          have ne : g1 ≠ g2 := by have := heap_lt z2; omega
          have z2 := z2.up bn
          have o1 := ownK9_up o1 bn
          have o2 := ownK9_up o2 bn
          have bw := up2 bw bn
          simp only [hn, hg]
          clear hn hg bn
          have PR := Lib.hid (⟨bw, z1, z2, o1, o2, bg1, bg2, ne, ap⟩ : Pre w2 u4 g1 g2 (.slice A1 n c1) n l (.slice A2 n c2) n l)
          obtain ⟨f1, f2, f3, f4⟩ := z1.facts
          clear z1 z2 o1 o2 ap ne
          refine wpAnyH_ready (rs := [6]) (by kernel_rfl) (by simp) ?_
          refine AllReadyH.cons rfl (fun K hK => ?_) AllReadyH.nil
          go_simp
          refine hK.out _ _ (HH.out _ (below_st (below_st bw bg1 _) bg1 _)) (fun _ => ?_)
          clear hK K
          try simp only [Act.put, List.setIfInBounds_toArray, List.set_cons_zero, List.set_cons_succ, List.getElem_toArray, List.getElem_cons_zero, List.getElem_cons_succ]
          obtain ⟨wm, hwm⟩ : ∃ x, (u4.setCell ⟨g1, 0, none⟩ (.int .i64 N)).setCell ⟨g1, 1, none⟩ (.slice A1 n c1) = x := ⟨_, rfl⟩
          have PM := Lib.hid (PR.out.mid N)
          rw [hwm] at PM
          simp only [hwm]
          clear hwm f1 f2 f3 f4
          obtain ⟨f1, f2, f3, f4⟩ := PM.out.zm.facts
          refine wpAnyH_ready (rs := [7]) (by kernel_rfl) (by simp) ?_
          refine AllReadyH.cons rfl (fun K hK => ?_) AllReadyH.nil
          go_simp
          refine hK.out _ _ (HH.out _ (below_st (below_st PM.out.below bg2 _) bg2 _)) (fun _ => ?_)
          clear hK K
          try simp only [Act.put, List.setIfInBounds_toArray, List.set_cons_zero, List.set_cons_succ, List.getElem_toArray, List.getElem_cons_zero, List.getElem_cons_succ]
          have DU := Lib.hid PM.out.fin
          clear PM f1 f2 f3 f4
          refine wpAnyH_done (by kernel_rfl) ?_ _
          refine NoPanic.normal ?_
          go_wp2_with fail
          go_meet
          exact ⟨g1, g2, A1, c1, A2, c2, rfl, rfl, DU.out⟩
      · go_simp
        refine hK.out _ _ (HH.out _ (up1 bw _)) (fun _ => ?_)
        clear hK K
        try simp only [Act.put, List.setIfInBounds_toArray, List.set_cons_zero, List.set_cons_succ, List.getElem_toArray, List.getElem_cons_zero, List.getElem_cons_succ]
        obtain ⟨u2, hn⟩ : ∃ x, u1.alloc zbox = x := ⟨_, rfl⟩
        obtain ⟨g1, hg⟩ : ∃ x, u1.heap.size = x := ⟨_, rfl⟩
        have z1 : Zb u2 g1 := by rw [← hn, ← hg]; exact heap_alloc_new u1 _
        have bg1 : w2.heap.size ≤ g1 := by rw [← hg]; exact bw.size
        have bn : Below u1.heap.size u1 u2 := by rw [← hn]; exact (Below.refl _ u1).alloc (Nat.le_refl _) _
        have o1 := ownK9_up o1 bn
        have bw := up2 bw bn
        simp only [hn, hg]
        clear hn hg bn
        refine wpAnyH_ready (rs := [3, 5]) (by kernel_rfl) (by simp) ?_
        refine AllReadyH.cons rfl (fun K hK => ?_) (AllReadyH.cons rfl (fun K hK => ?_) AllReadyH.nil)
        · rw [if_pos (by rfl)]
          go_wp2_with fail
          refine (KO.out _ bw).mono ?_
          rintro e u3 ⟨_, rfl, A2, c2, rfl, o2, b9⟩
          rw [HL.out.1] at o2 ⊢
          go_wp2_with fail
          refine hK.out _ _ (HH.out _ (up2 bw b9)) (fun _ => ?_)
          clear hK K
          try simp only [Act.put, List.setIfInBounds_toArray, List.set_cons_zero, List.set_cons_succ, List.getElem_toArray, List.getElem_cons_zero, List.getElem_cons_succ]
          have z1 := z1.up b9
          have ap := ap_of o1 o2
          have o1 := ownK9_up o1 b9
          have o2 := ownK9_base o2 bw.size
          have bw := up2 bw b9
          clear b9
          refine wpAnyH_ready (rs := [5]) (by kernel_rfl) (by simp) ?_
          refine AllReadyH.cons rfl (fun K hK => ?_) AllReadyH.nil
          go_simp
          refine hK.out _ _ (HH.out _ (up1 bw _)) (fun _ => ?_)
          clear hK K
          try simp only [Act.put, List.setIfInBounds_toArray, List.set_cons_zero, List.set_cons_succ, List.getElem_toArray, List.getElem_cons_zero, List.getElem_cons_succ]
          obtain ⟨u4, hn⟩ : ∃ x, u3.alloc zbox = x := ⟨_, rfl⟩
          obtain ⟨g2, hg⟩ : ∃ x, u3.heap.size = x := ⟨_, rfl⟩
          have z2 : Zb u4 g2 := by rw [← hn, ← hg]; exact heap_alloc_new u3 _
          have bg2 : w2.heap.size ≤ g2 := by rw [← hg]; exact bw.size
          have bn : Below u3.heap.size u3 u4 := by rw [← hn]; exact (Below.refl _ u3).alloc (Nat.le_refl _) _
          have ne : g1 ≠ g2 := by have := heap_lt z1; omega
          have z1 := z1.up bn
          have o1 := ownK9_up o1 bn
          have o2 := ownK9_up o2 bn
          have bw := up2 bw bn
          simp only [hn, hg]
          clear hn hg bn
          have PR := Lib.hid (⟨bw, z1, z2, o1, o2, bg1, bg2, ne, ap⟩ : Pre w2 u4 g1 g2 (.slice A1 n c1) n l (.slice A2 n c2) n l)
          obtain ⟨f1, f2, f3, f4⟩ := z1.facts
          clear z1 z2 o1 o2 ap ne
          refine wpAnyH_ready (rs := [6]) (by kernel_rfl) (by simp) ?_
          refine AllReadyH.cons rfl (fun K hK => ?_) AllReadyH.nil
          go_simp
          refine hK.out _ _ (HH.out _ (below_st (below_st bw bg1 _) bg1 _)) (fun _ => ?_)
          clear hK K
          try simp only [Act.put, List.setIfInBounds_toArray, List.set_cons_zero, List.set_cons_succ, List.getElem_toArray, List.getElem_cons_zero, List.getElem_cons_succ]
          obtain ⟨wm, hwm⟩ : ∃ x, (u4.setCell ⟨g1, 0, none⟩ (.int .i64 N)).setCell ⟨g1, 1, none⟩ (.slice A1 n c1) = x := ⟨_, rfl⟩
          have PM := Lib.hid (PR.out.mid N)
          rw [hwm] at PM
          simp only [hwm]
          clear hwm f1 f2 f3 f4
          obtain ⟨f1, f2, f3, f4⟩ := PM.out.zm.facts
          refine wpAnyH_ready (rs := [7]) (by kernel_rfl) (by simp) ?_
          refine AllReadyH.cons rfl (fun K hK => ?_) AllReadyH.nil
          go_simp
          refine hK.out _ _ (HH.out _ (below_st (below_st PM.out.below bg2 _) bg2 _)) (fun _ => ?_)
          clear hK K
          try simp only [Act.put, List.setIfInBounds_toArray, List.set_cons_zero, List.set_cons_succ, List.getElem_toArray, List.getElem_cons_zero, List.getElem_cons_succ]
          have DU := Lib.hid PM.out.fin
          clear PM f1 f2 f3 f4
          refine wpAnyH_done (by kernel_rfl) ?_ _
          refine NoPanic.normal ?_
          go_wp2_with fail
          go_meet
          exact ⟨g1, g2, A1, c1, A2, c2, rfl, rfl, DU.out⟩
        · go_simp
          refine hK.out _ _ (HH.out _ (up1 bw _)) (fun _ => ?_)
          clear hK K
          try simp only [Act.put, List.setIfInBounds_toArray, List.set_cons_zero, List.set_cons_succ, List.getElem_toArray, List.getElem_cons_zero, List.getElem_cons_succ]
          obtain ⟨u3, hn⟩ : ∃ x, u2.alloc zbox = x := ⟨_, rfl⟩
          obtain ⟨g2, hg⟩ : ∃ x, u2.heap.size = x := ⟨_, rfl⟩
          have z2 : Zb u3 g2 := by rw [← hn, ← hg]; exact heap_alloc_new u2 _
          have bg2 : w2.heap.size ≤ g2 := by rw [← hg]; exact bw.size
          have bn : Below u2.heap.size u2 u3 := by rw [← hn]; exact (Below.refl _ u2).alloc (Nat.le_refl _) _
          have ne : g1 ≠ g2 := by have := heap_lt z1; omega
          have z1 := z1.up bn
          have o1 := ownK9_up o1 bn
          have bw := up2 bw bn
          simp only [hn, hg]
          clear hn hg bn
          refine wpAnyH_ready (rs := [3]) (by kernel_rfl) (by simp) ?_
          refine AllReadyH.cons rfl (fun K hK => ?_) AllReadyH.nil
          rw [if_pos (by rfl)]
          go_wp2_with fail
          refine (KO.out _ bw).mono ?_
          rintro e u4 ⟨_, rfl, A2, c2, rfl, o2, b9⟩
          rw [HL.out.1] at o2 ⊢
          go_wp2_with fail
          refine hK.out _ _ (HH.out _ (up2 bw b9)) (fun _ => ?_)
          clear hK K
          try simp only [Act.put, List.setIfInBounds_toArray, List.set_cons_zero, List.set_cons_succ, List.getElem_toArray, List.getElem_cons_zero, List.getElem_cons_succ]
          have z1 := z1.up b9
          have z2 := z2.up b9
          have ap := ap_of o1 o2
          have o1 := ownK9_up o1 b9
          have o2 := ownK9_base o2 bw.size
          have bw := up2 bw b9
          clear b9
          have PR := Lib.hid (⟨bw, z1, z2, o1, o2, bg1, bg2, ne, ap⟩ : Pre w2 u4 g1 g2 (.slice A1 n c1) n l (.slice A2 n c2) n l)
          obtain ⟨f1, f2, f3, f4⟩ := z1.facts
          clear z1 z2 o1 o2 ap ne
          refine wpAnyH_ready (rs := [6]) (by kernel_rfl) (by simp) ?_
          refine AllReadyH.cons rfl (fun K hK => ?_) AllReadyH.nil
          go_simp
          refine hK.out _ _ (HH.out _ (below_st (below_st bw bg1 _) bg1 _)) (fun _ => ?_)
          clear hK K
          try simp only [Act.put, List.setIfInBounds_toArray, List.set_cons_zero, List.set_cons_succ, List.getElem_toArray, List.getElem_cons_zero, List.getElem_cons_succ]
          obtain ⟨wm, hwm⟩ : ∃ x, (u4.setCell ⟨g1, 0, none⟩ (.int .i64 N)).setCell ⟨g1, 1, none⟩ (.slice A1 n c1) = x := ⟨_, rfl⟩
          have PM := Lib.hid (PR.out.mid N)
          rw [hwm] at PM
          simp only [hwm]
          clear hwm f1 f2 f3 f4
          obtain ⟨f1, f2, f3, f4⟩ := PM.out.zm.facts
          refine wpAnyH_ready (rs := [7]) (by kernel_rfl) (by simp) ?_
          refine AllReadyH.cons rfl (fun K hK => ?_) AllReadyH.nil
          go_simp
          refine hK.out _ _ (HH.out _ (below_st (below_st PM.out.below bg2 _) bg2 _)) (fun _ => ?_)
          clear hK K
          try simp only [Act.put, List.setIfInBounds_toArray, List.set_cons_zero, List.set_cons_succ, List.getElem_toArray, List.getElem_cons_zero, List.getElem_cons_succ]
          have DU := Lib.hid PM.out.fin
          clear PM f1 f2 f3 f4
          refine wpAnyH_done (by kernel_rfl) ?_ _
          refine NoPanic.normal ?_
          go_wp2_with fail
          go_meet
          exact ⟨g1, g2, A1, c1, A2, c2, rfl, rfl, DU.out⟩
      · go_simp
        refine hK.out _ _ (HH.out _ (up1 bw _)) (fun _ => ?_)
        clear hK K
        try simp only [Act.put, List.setIfInBounds_toArray, List.set_cons_zero, List.set_cons_succ, List.getElem_toArray, List.getElem_cons_zero, List.getElem_cons_succ]
        obtain ⟨u2, hn⟩ : ∃ x, u1.alloc zbox = x := ⟨_, rfl⟩
        obtain ⟨g2, hg⟩ : ∃ x, u1.heap.size = x := ⟨_, rfl⟩
        have z2 : Zb u2 g2 := by rw [← hn, ← hg]; exact heap_alloc_new u1 _
        have bg2 : w2.heap.size ≤ g2 := by rw [← hg]; exact bw.size
        have bn : Below u1.heap.size u1 u2 := by rw [← hn]; exact (Below.refl _ u1).alloc (Nat.le_refl _) _
        have o1 := ownK9_up o1 bn
        have bw := up2 bw bn
        simp only [hn, hg]
        clear hn hg bn
        refine wpAnyH_ready (rs := [3, 4]) (by kernel_rfl) (by simp) ?_
        refine AllReadyH.cons rfl (fun K hK => ?_) (AllReadyH.cons rfl (fun K hK => ?_) AllReadyH.nil)
        · rw [if_pos (by rfl)]
          go_wp2_with fail
          refine (KO.out _ bw).mono ?_
          rintro e u3 ⟨_, rfl, A2, c2, rfl, o2, b9⟩
          rw [HL.out.1] at o2 ⊢
          go_wp2_with fail
          refine hK.out _ _ (HH.out _ (up2 bw b9)) (fun _ => ?_)
          clear hK K
          try simp only [Act.put, List.setIfInBounds_toArray, List.set_cons_zero, List.set_cons_succ, List.getElem_toArray, List.getElem_cons_zero, List.getElem_cons_succ]
          have z2 := z2.up b9
          have ap := ap_of o1 o2
          have o1 := ownK9_up o1 b9
          have o2 := ownK9_base o2 bw.size
          have bw := up2 bw b9
          clear b9
          refine wpAnyH_ready (rs := [4]) (by kernel_rfl) (by simp) ?_
          refine AllReadyH.cons rfl (fun K hK => ?_) AllReadyH.nil
          go_simp
          refine hK.out _ _ (HH.out _ (up1 bw _)) (fun _ => ?_)
          clear hK K
          try simp only [Act.put, List.setIfInBounds_toArray, List.set_cons_zero, List.set_cons_succ, List.getElem_toArray, List.getElem_cons_zero, List.getElem_cons_succ]
          obtain ⟨u4, hn⟩ : ∃ x, u3.alloc zbox = x := ⟨_, rfl⟩
          obtain ⟨g1, hg⟩ : ∃ x, u3.heap.size = x := ⟨_, rfl⟩
          have z1 : Zb u4 g1 := by rw [← hn, ← hg]; exact heap_alloc_new u3 _
          have bg1 : w2.heap.size ≤ g1 := by rw [← hg]; exact bw.size
          have bn : Below u3.heap.size u3 u4 := by rw [← hn]; exact (Below.refl _ u3).alloc (Nat.le_refl _) _
          have ne : g1 ≠ g2 := by have := heap_lt z2; omega
          have z2 := z2.up bn
          have o1 := ownK9_up o1 bn
          have o2 := ownK9_up o2 bn
          have bw := up2 bw bn
          simp only [hn, hg]
          clear hn hg bn
          have PR := Lib.hid (⟨bw, z1, z2, o1, o2, bg1, bg2, ne, ap⟩ : Pre w2 u4 g1 g2 (.slice A1 n c1) n l (.slice A2 n c2) n l)
          obtain ⟨f1, f2, f3, f4⟩ := z1.facts
          clear z1 z2 o1 o2 ap ne
          refine wpAnyH_ready (rs := [6]) (by kernel_rfl) (by simp) ?_
          refine AllReadyH.cons rfl (fun K hK => ?_) AllReadyH.nil
          go_simp
          refine hK.out _ _ (HH.out _ (below_st (below_st bw bg1 _) bg1 _)) (fun _ => ?_)
          clear hK K
          try simp only [Act.put, List.setIfInBounds_toArray, List.set_cons_zero, List.set_cons_succ, List.getElem_toArray, List.getElem_cons_zero, List.getElem_cons_succ]
          obtain ⟨wm, hwm⟩ : ∃ x, (u4.setCell ⟨g1, 0, none⟩ (.int .i64 N)).setCell ⟨g1, 1, none⟩ (.slice A1 n c1) = x := ⟨_, rfl⟩
          have PM := Lib.hid (PR.out.mid N)
          rw [hwm] at PM
          simp only [hwm]
          clear hwm f1 f2 f3 f4
          obtain ⟨f1, f2, f3, f4⟩ := PM.out.zm.facts
          refine wpAnyH_ready (rs := [7]) (by kernel_rfl) (by simp) ?_
          refine AllReadyH.cons rfl (fun K hK => ?_) AllReadyH.nil
          go_simp
          refine hK.out _ _ (HH.out _ (below_st (below_st PM.out.below bg2 _) bg2 _)) (fun _ => ?_)
          clear hK K
          try simp only [Act.put, List.setIfInBounds_toArray, List.set_cons_zero, List.set_cons_succ, List.getElem_toArray, List.getElem_cons_zero, List.getElem_cons_succ]
          have DU := Lib.hid PM.out.fin
          clear PM f1 f2 f3 f4
          refine wpAnyH_done (by kernel_rfl) ?_ _
          refine NoPanic.normal ?_
          go_wp2_with fail
          go_meet
          exact ⟨g1, g2, A1, c1, A2, c2, rfl, rfl, DU.out⟩
        · go_simp
          refine hK.out _ _ (HH.out _ (up1 bw _)) (fun _ => ?_)
          clear hK K
          try simp only [Act.put, List.setIfInBounds_toArray, List.set_cons_zero, List.set_cons_succ, List.getElem_toArray, List.getElem_cons_zero, List.getElem_cons_succ]
          obtain ⟨u3, hn⟩ : ∃ x, u2.alloc zbox = x := ⟨_, rfl⟩
          obtain ⟨g1, hg⟩ : ∃ x, u2.heap.size = x := ⟨_, rfl⟩
          have z1 : Zb u3 g1 := by rw [← hn, ← hg]; exact heap_alloc_new u2 _
          have bg1 : w2.heap.size ≤ g1 := by rw [← hg]; exact bw.size
          have bn : Below u2.heap.size u2 u3 := by rw [← hn]; exact (Below.refl _ u2).alloc (Nat.le_refl _) _
          have ne : g1 ≠ g2 := by have := heap_lt z2; omega
          have z2 := z2.up bn
          have o1 := ownK9_up o1 bn
          have bw := up2 bw bn
          simp only [hn, hg]
          clear hn hg bn
          refine wpAnyH_ready (rs := [3]) (by kernel_rfl) (by simp) ?_
          refine AllReadyH.cons rfl (fun K hK => ?_) AllReadyH.nil
          rw [if_pos (by rfl)]
          go_wp2_with fail
          refine (KO.out _ bw).mono ?_
          rintro e u4 ⟨_, rfl, A2, c2, rfl, o2, b9⟩
          rw [HL.out.1] at o2 ⊢
          go_wp2_with fail
          refine hK.out _ _ (HH.out _ (up2 bw b9)) (fun _ => ?_)
          clear hK K
          try simp only [Act.put, List.setIfInBounds_toArray, List.set_cons_zero, List.set_cons_succ, List.getElem_toArray, List.getElem_cons_zero, List.getElem_cons_succ]
          have z1 := z1.up b9
          have z2 := z2.up b9
          have ap := ap_of o1 o2
          have o1 := ownK9_up o1 b9
          have o2 := ownK9_base o2 bw.size
          have bw := up2 bw b9
          clear b9
          have PR := Lib.hid (⟨bw, z1, z2, o1, o2, bg1, bg2, ne, ap⟩ : Pre w2 u4 g1 g2 (.slice A1 n c1) n l (.slice A2 n c2) n l)
          obtain ⟨f1, f2, f3, f4⟩ := z1.facts
          clear z1 z2 o1 o2 ap ne
          refine wpAnyH_ready (rs := [6]) (by kernel_rfl) (by simp) ?_
          refine AllReadyH.cons rfl (fun K hK => ?_) AllReadyH.nil
          go_simp
          refine hK.out _ _ (HH.out _ (below_st (below_st bw bg1 _) bg1 _)) (fun _ => ?_)
          clear hK K
          try simp only [Act.put, List.setIfInBounds_toArray, List.set_cons_zero, List.set_cons_succ, List.getElem_toArray, List.getElem_cons_zero, List.getElem_cons_succ]
          obtain ⟨wm, hwm⟩ : ∃ x, (u4.setCell ⟨g1, 0, none⟩ (.int .i64 N)).setCell ⟨g1, 1, none⟩ (.slice A1 n c1) = x := ⟨_, rfl⟩
          have PM := Lib.hid (PR.out.mid N)
          rw [hwm] at PM
          simp only [hwm]
          clear hwm f1 f2 f3 f4
          obtain ⟨f1, f2, f3, f4⟩ := PM.out.zm.facts
          refine wpAnyH_ready (rs := [7]) (by kernel_rfl) (by simp) ?_
          refine AllReadyH.cons rfl (fun K hK => ?_) AllReadyH.nil
          go_simp
          refine hK.out _ _ (HH.out _ (below_st (below_st PM.out.below bg2 _) bg2 _)) (fun _ => ?_)
          clear hK K
          try simp only [Act.put, List.setIfInBounds_toArray, List.set_cons_zero, List.set_cons_succ, List.getElem_toArray, List.getElem_cons_zero, List.getElem_cons_succ]
          have DU := Lib.hid PM.out.fin
          clear PM f1 f2 f3 f4
          refine wpAnyH_done (by kernel_rfl) ?_ _
          refine NoPanic.normal ?_
          go_wp2_with fail
          go_meet
          exact ⟨g1, g2, A1, c1, A2, c2, rfl, rfl, DU.out⟩
    · go_simp
      refine hK.out _ _ (HH.out _ (up1 bw _)) (fun _ => ?_)
      clear hK K
      try simp only [Act.put, List.setIfInBounds_toArray, List.set_cons_zero, List.set_cons_succ, List.getElem_toArray, List.getElem_cons_zero, List.getElem_cons_succ]
      obtain ⟨u1, hn⟩ : ∃ x, u0.alloc zbox = x := ⟨_, rfl⟩
      obtain ⟨g1, hg⟩ : ∃ x, u0.heap.size = x := ⟨_, rfl⟩
      have z1 : Zb u1 g1 := by rw [← hn, ← hg]; exact heap_alloc_new u0 _
      have bg1 : w2.heap.size ≤ g1 := by rw [← hg]; exact bw.size
      have bn : Below u0.heap.size u0 u1 := by rw [← hn]; exact (Below.refl _ u0).alloc (Nat.le_refl _) _
      have bw := up2 bw bn
      simp only [hn, hg]
      clear hn hg bn
      refine wpAnyH_ready (rs := [1, 5]) (by kernel_rfl) (by simp) ?_
      refine AllReadyH.cons rfl (fun K hK => ?_) (AllReadyH.cons rfl (fun K hK => ?_) AllReadyH.nil)
      · rw [if_pos (by rfl)]
        go_wp2_with fail
        refine (KO.out _ bw).mono ?_
        rintro e u2 ⟨_, rfl, A1, c1, rfl, o1, b9⟩
        rw [HL.out.1] at o1 ⊢
        go_wp2_with fail
        refine hK.out _ _ (HH.out _ (up2 bw b9)) (fun _ => ?_)
        clear hK K
        try simp only [Act.put, List.setIfInBounds_toArray, List.set_cons_zero, List.set_cons_succ, List.getElem_toArray, List.getElem_cons_zero, List.getElem_cons_succ]
        have z1 := z1.up b9
        have o1 := ownK9_base o1 bw.size
        have bw := up2 bw b9
        clear b9
        refine wpAnyH_ready (rs := [3, 5]) (by kernel_rfl) (by simp) ?_
        refine AllReadyH.cons rfl (fun K hK => ?_) (AllReadyH.cons rfl (fun K hK => ?_) AllReadyH.nil)
        · rw [if_pos (by rfl)]
          go_wp2_with fail
          refine (KO.out _ bw).mono ?_
          rintro e u3 ⟨_, rfl, A2, c2, rfl, o2, b9⟩
          rw [HL.out.1] at o2 ⊢
          go_wp2_with fail
          refine hK.out _ _ (HH.out _ (up2 bw b9)) (fun _ => ?_)
          clear hK K
          try simp only [Act.put, List.setIfInBounds_toArray, List.set_cons_zero, List.set_cons_succ, List.getElem_toArray, List.getElem_cons_zero, List.getElem_cons_succ]
          have z1 := z1.up b9
          have ap := ap_of o1 o2
          have o1 := ownK9_up o1 b9
          have o2 := ownK9_base o2 bw.size
          have bw := up2 bw b9
          clear b9
          refine wpAnyH_ready (rs := [5]) (by kernel_rfl) (by simp) ?_
          refine AllReadyH.cons rfl (fun K hK => ?_) AllReadyH.nil
          go_simp
          refine hK.out _ _ (HH.out _ (up1 bw _)) (fun _ => ?_)
          clear hK K
          try simp only [Act.put, List.setIfInBounds_toArray, List.set_cons_zero, List.set_cons_succ, List.getElem_toArray, List.getElem_cons_zero, List.getElem_cons_succ]
          obtain ⟨u4, hn⟩ : ∃ x, u3.alloc zbox = x := ⟨_, rfl⟩
          obtain ⟨g2, hg⟩ : ∃ x, u3.heap.size = x := ⟨_, rfl⟩
          have z2 : Zb u4 g2 := by rw [← hn, ← hg]; exact heap_alloc_new u3 _
          have bg2 : w2.heap.size ≤ g2 := by rw [← hg]; exact bw.size
          have bn : Below u3.heap.size u3 u4 := by rw [← hn]; exact (Below.refl _ u3).alloc (Nat.le_refl _) _
          have ne : g1 ≠ g2 := by have := heap_lt z1; omega
          have z1 := z1.up bn
          have o1 := ownK9_up o1 bn
          have o2 := ownK9_up o2 bn
          have bw := up2 bw bn
          simp only [hn, hg]
          clear hn hg bn
          have PR := Lib.hid (⟨bw, z1, z2, o1, o2, bg1, bg2, ne, ap⟩ : Pre w2 u4 g1 g2 (.slice A1 n c1) n l (.slice A2 n c2) n l)
          obtain ⟨f1, f2, f3, f4⟩ := z1.facts
          clear z1 z2 o1 o2 ap ne
          refine wpAnyH_ready (rs := [6]) (by kernel_rfl) (by simp) ?_
          refine AllReadyH.cons rfl (fun K hK => ?_) AllReadyH.nil
          go_simp
          refine hK.out _ _ (HH.out _ (below_st (below_st bw bg1 _) bg1 _)) (fun _ => ?_)
          clear hK K
          try simp only [Act.put, List.setIfInBounds_toArray, List.set_cons_zero, List.set_cons_succ, List.getElem_toArray, List.getElem_cons_zero, List.getElem_cons_succ]
          obtain ⟨wm, hwm⟩ : ∃ x, (u4.setCell ⟨g1, 0, none⟩ (.int .i64 N)).setCell ⟨g1, 1, none⟩ (.slice A1 n c1) = x := ⟨_, rfl⟩
          have PM := Lib.hid (PR.out.mid N)
          rw [hwm] at PM
          simp only [hwm]
          clear hwm f1 f2 f3 f4
          obtain ⟨f1, f2, f3, f4⟩ := PM.out.zm.facts
          refine wpAnyH_ready (rs := [7]) (by kernel_rfl) (by simp) ?_
          refine AllReadyH.cons rfl (fun K hK => ?_) AllReadyH.nil
          go_simp
          refine hK.out _ _ (HH.out _ (below_st (below_st PM.out.below bg2 _) bg2 _)) (fun _ => ?_)
          clear hK K
          try simp only [Act.put, List.setIfInBounds_toArray, List.set_cons_zero, List.set_cons_succ, List.getElem_toArray, List.getElem_cons_zero, List.getElem_cons_succ]
          have DU := Lib.hid PM.out.fin
          clear PM f1 f2 f3 f4
          refine wpAnyH_done (by kernel_rfl) ?_ _
          refine NoPanic.normal ?_
          go_wp2_with fail
          go_meet
          exact ⟨g1, g2, A1, c1, A2, c2, rfl, rfl, DU.out⟩
        · go_simp
          refine hK.out _ _ (HH.out _ (up1 bw _)) (fun _ => ?_)
          clear hK K
          try simp only [Act.put, List.setIfInBounds_toArray, List.set_cons_zero, List.set_cons_succ, List.getElem_toArray, List.getElem_cons_zero, List.getElem_cons_succ]
          obtain ⟨u3, hn⟩ : ∃ x, u2.alloc zbox = x := ⟨_, rfl⟩
          obtain ⟨g2, hg⟩ : ∃ x, u2.heap.size = x := ⟨_, rfl⟩
          have z2 : Zb u3 g2 := by rw [← hn, ← hg]; exact heap_alloc_new u2 _
          have bg2 : w2.heap.size ≤ g2 := by rw [← hg]; exact bw.size
          have bn : Below u2.heap.size u2 u3 := by rw [← hn]; exact (Below.refl _ u2).alloc (Nat.le_refl _) _
          have ne : g1 ≠ g2 := by have := heap_lt z1; omega
          have z1 := z1.up bn
          have o1 := ownK9_up o1 bn
          have bw := up2 bw bn
          simp only [hn, hg]
          clear hn hg bn
          refine wpAnyH_ready (rs := [3]) (by kernel_rfl) (by simp) ?_
          refine AllReadyH.cons rfl (fun K hK => ?_) AllReadyH.nil
          rw [if_pos (by rfl)]
          go_wp2_with fail
          refine (KO.out _ bw).mono ?_
          rintro e u4 ⟨_, rfl, A2, c2, rfl, o2, b9⟩
          rw [HL.out.1] at o2 ⊢
          go_wp2_with fail
          refine hK.out _ _ (HH.out _ (up2 bw b9)) (fun _ => ?_)
          clear hK K
          try simp only [Act.put, List.setIfInBounds_toArray, List.set_cons_zero, List.set_cons_succ, List.getElem_toArray, List.getElem_cons_zero, List.getElem_cons_succ]
          have z1 := z1.up b9
          have z2 := z2.up b9
          have ap := ap_of o1 o2
          have o1 := ownK9_up o1 b9
          have o2 := ownK9_base o2 bw.size
          have bw := up2 bw b9
          clear b9
          have PR := Lib.hid (⟨bw, z1, z2, o1, o2, bg1, bg2, ne, ap⟩ : Pre w2 u4 g1 g2 (.slice A1 n c1) n l (.slice A2 n c2) n l)
          obtain ⟨f1, f2, f3, f4⟩ := z1.facts
          clear z1 z2 o1 o2 ap ne
          refine wpAnyH_ready (rs := [6]) (by kernel_rfl) (by simp) ?_
          refine AllReadyH.cons rfl (fun K hK => ?_) AllReadyH.nil
          go_simp
          refine hK.out _ _ (HH.out _ (below_st (below_st bw bg1 _) bg1 _)) (fun _ => ?_)
          clear hK K
          try simp only [Act.put, List.setIfInBounds_toArray, List.set_cons_zero, List.set_cons_succ, List.getElem_toArray, List.getElem_cons_zero, List.getElem_cons_succ]
          obtain ⟨wm, hwm⟩ : ∃ x, (u4.setCell ⟨g1, 0, none⟩ (.int .i64 N)).setCell ⟨g1, 1, none⟩ (.slice A1 n c1) = x := ⟨_, rfl⟩
          have PM := Lib.hid (PR.out.mid N)
          rw [hwm] at PM
          simp only [hwm]
          clear hwm f1 f2 f3 f4
          obtain ⟨f1, f2, f3, f4⟩ := PM.out.zm.facts
          refine wpAnyH_ready (rs := [7]) (by kernel_rfl) (by simp) ?_
          refine AllReadyH.cons rfl (fun K hK => ?_) AllReadyH.nil
          go_simp
          refine hK.out _ _ (HH.out _ (below_st (below_st PM.out.below bg2 _) bg2 _)) (fun _ => ?_)
          clear hK K
          try simp only [Act.put, List.setIfInBounds_toArray, List.set_cons_zero, List.set_cons_succ, List.getElem_toArray, List.getElem_cons_zero, List.getElem_cons_succ]
          have DU := Lib.hid PM.out.fin
          clear PM f1 f2 f3 f4
          refine wpAnyH_done (by kernel_rfl) ?_ _
          refine NoPanic.normal ?_
          go_wp2_with fail
          go_meet
          exact ⟨g1, g2, A1, c1, A2, c2, rfl, rfl, DU.out⟩
      · go_simp
        refine hK.out _ _ (HH.out _ (up1 bw _)) (fun _ => ?_)
        clear hK K
        try simp only [Act.put, List.setIfInBounds_toArray, List.set_cons_zero, List.set_cons_succ, List.getElem_toArray, List.getElem_cons_zero, List.getElem_cons_succ]
        obtain ⟨u2, hn⟩ : ∃ x, u1.alloc zbox = x := ⟨_, rfl⟩
        obtain ⟨g2, hg⟩ : ∃ x, u1.heap.size = x := ⟨_, rfl⟩
        have z2 : Zb u2 g2 := by rw [← hn, ← hg]; exact heap_alloc_new u1 _
        have bg2 : w2.heap.size ≤ g2 := by rw [← hg]; exact bw.size
        have bn : Below u1.heap.size u1 u2 := by rw [← hn]; exact (Below.refl _ u1).alloc (Nat.le_refl _) _
        have ne : g1 ≠ g2 := by have := heap_lt z1; omega
        have z1 := z1.up bn
        have bw := up2 bw bn
        simp only [hn, hg]
        clear hn hg bn
        refine wpAnyH_ready (rs := [1]) (by kernel_rfl) (by simp) ?_
        refine AllReadyH.cons rfl (fun K hK => ?_) AllReadyH.nil
        rw [if_pos (by rfl)]
        go_wp2_with fail
        refine (KO.out _ bw).mono ?_
        rintro e u3 ⟨_, rfl, A1, c1, rfl, o1, b9⟩
        rw [HL.out.1] at o1 ⊢
        go_wp2_with fail
        refine hK.out _ _ (HH.out _ (up2 bw b9)) (fun _ => ?_)
        clear hK K
        try simp only [Act.put, List.setIfInBounds_toArray, List.set_cons_zero, List.set_cons_succ, List.getElem_toArray, List.getElem_cons_zero, List.getElem_cons_succ]
        have z1 := z1.up b9
        have z2 := z2.up b9
        have o1 := ownK9_base o1 bw.size
        have bw := up2 bw b9
        clear b9
        refine wpAnyH_ready (rs := [3]) (by kernel_rfl) (by simp) ?_
        refine AllReadyH.cons rfl (fun K hK => ?_) AllReadyH.nil
        rw [if_pos (by rfl)]
        go_wp2_with fail
        refine (KO.out _ bw).mono ?_
        rintro e u4 ⟨_, rfl, A2, c2, rfl, o2, b9⟩
        rw [HL.out.1] at o2 ⊢
        go_wp2_with fail
        refine hK.out _ _ (HH.out _ (up2 bw b9)) (fun _ => ?_)
        clear hK K
        try simp only [Act.put, List.setIfInBounds_toArray, List.set_cons_zero, List.set_cons_succ, List.getElem_toArray, List.getElem_cons_zero, List.getElem_cons_succ]
        have z1 := z1.up b9
        have z2 := z2.up b9
        have ap := ap_of o1 o2
        have o1 := ownK9_up o1 b9
        have o2 := ownK9_base o2 bw.size
        have bw := up2 bw b9
        clear b9
        have PR := Lib.hid (⟨bw, z1, z2, o1, o2, bg1, bg2, ne, ap⟩ : Pre w2 u4 g1 g2 (.slice A1 n c1) n l (.slice A2 n c2) n l)
        obtain ⟨f1, f2, f3, f4⟩ := z1.facts
        clear z1 z2 o1 o2 ap ne
        refine wpAnyH_ready (rs := [6]) (by kernel_rfl) (by simp) ?_
        refine AllReadyH.cons rfl (fun K hK => ?_) AllReadyH.nil
        go_simp
        refine hK.out _ _ (HH.out _ (below_st (below_st bw bg1 _) bg1 _)) (fun _ => ?_)
        clear hK K
        try simp only [Act.put, List.setIfInBounds_toArray, List.set_cons_zero, List.set_cons_succ, List.getElem_toArray, List.getElem_cons_zero, List.getElem_cons_succ]
        obtain ⟨wm, hwm⟩ : ∃ x, (u4.setCell ⟨g1, 0, none⟩ (.int .i64 N)).setCell ⟨g1, 1, none⟩ (.slice A1 n c1) = x := ⟨_, rfl⟩
        have PM := Lib.hid (PR.out.mid N)
        rw [hwm] at PM
        simp only [hwm]
        clear hwm f1 f2 f3 f4
        obtain ⟨f1, f2, f3, f4⟩ := PM.out.zm.facts
        refine wpAnyH_ready (rs := [7]) (by kernel_rfl) (by simp) ?_
        refine AllReadyH.cons rfl (fun K hK => ?_) AllReadyH.nil
        go_simp
        refine hK.out _ _ (HH.out _ (below_st (below_st PM.out.below bg2 _) bg2 _)) (fun _ => ?_)
        clear hK K
        try simp only [Act.put, List.setIfInBounds_toArray, List.set_cons_zero, List.set_cons_succ, List.getElem_toArray, List.getElem_cons_zero, List.getElem_cons_succ]
        have DU := Lib.hid PM.out.fin
        clear PM f1 f2 f3 f4
        refine wpAnyH_done (by kernel_rfl) ?_ _
        refine NoPanic.normal ?_
        go_wp2_with fail
        go_meet
        exact ⟨g1, g2, A1, c1, A2, c2, rfl, rfl, DU.out⟩
    · go_simp
      refine hK.out _ _ (HH.out _ (up1 bw _)) (fun _ => ?_)
      clear hK K
      try simp only [Act.put, List.setIfInBounds_toArray, List.set_cons_zero, List.set_cons_succ, List.getElem_toArray, List.getElem_cons_zero, List.getElem_cons_succ]
      obtain ⟨u1, hn⟩ : ∃ x, u0.alloc zbox = x := ⟨_, rfl⟩
      obtain ⟨g2, hg⟩ : ∃ x, u0.heap.size = x := ⟨_, rfl⟩
      have z2 : Zb u1 g2 := by rw [← hn, ← hg]; exact heap_alloc_new u0 _
      have bg2 : w2.heap.size ≤ g2 := by rw [← hg]; exact bw.size
      have bn : Below u0.heap.size u0 u1 := by rw [← hn]; exact (Below.refl _ u0).alloc (Nat.le_refl _) _
      have bw := up2 bw bn
      simp only [hn, hg]
      clear hn hg bn
      refine wpAnyH_ready (rs := [1, 4]) (by kernel_rfl) (by simp) ?_
      refine AllReadyH.cons rfl (fun K hK => ?_) (AllReadyH.cons rfl (fun K hK => ?_) AllReadyH.nil)
      · rw [if_pos (by rfl)]
        go_wp2_with fail
        refine (KO.out _ bw).mono ?_
        rintro e u2 ⟨_, rfl, A1, c1, rfl, o1, b9⟩
        rw [HL.out.1] at o1 ⊢
        go_wp2_with fail
        refine hK.out _ _ (HH.out _ (up2 bw b9)) (fun _ => ?_)
        clear hK K
        try simp only [Act.put, List.setIfInBounds_toArray, List.set_cons_zero, List.set_cons_succ, List.getElem_toArray, List.getElem_cons_zero, List.getElem_cons_succ]
        have z2 := z2.up b9
        have o1 := ownK9_base o1 bw.size
        have bw := up2 bw b9
        clear b9
        refine wpAnyH_ready (rs := [3, 4]) (by kernel_rfl) (by simp) ?_
        refine AllReadyH.cons rfl (fun K hK => ?_) (AllReadyH.cons rfl (fun K hK => ?_) AllReadyH.nil)
        · rw [if_pos (by rfl)]
          go_wp2_with fail
          refine (KO.out _ bw).mono ?_
          rintro e u3 ⟨_, rfl, A2, c2, rfl, o2, b9⟩
          rw [HL.out.1] at o2 ⊢
          go_wp2_with fail
          refine hK.out _ _ (HH.out _ (up2 bw b9)) (fun _ => ?_)
          clear hK K
          try simp only [Act.put, List.setIfInBounds_toArray, List.set_cons_zero, List.set_cons_succ, List.getElem_toArray, List.getElem_cons_zero, List.getElem_cons_succ]
          have z2 := z2.up b9
          have ap := ap_of o1 o2
          have o1 := ownK9_up o1 b9
          have o2 := ownK9_base o2 bw.size
          have bw := up2 bw b9
          clear b9
          refine wpAnyH_ready (rs := [4]) (by kernel_rfl) (by simp) ?_
          refine AllReadyH.cons rfl (fun K hK => ?_) AllReadyH.nil
          go_simp
          refine hK.out _ _ (HH.out _ (up1 bw _)) (fun _ => ?_)
          clear hK K
          try simp only [Act.put, List.setIfInBounds_toArray, List.set_cons_zero, List.set_cons_succ, List.getElem_toArray, List.getElem_cons_zero, List.getElem_cons_succ]
          obtain ⟨u4, hn⟩ : ∃ x, u3.alloc zbox = x := ⟨_, rfl⟩
          obtain ⟨g1, hg⟩ : ∃ x, u3.heap.size = x := ⟨_, rfl⟩
          have z1 : Zb u4 g1 := by rw [← hn, ← hg]; exact heap_alloc_new u3 _
          have bg1 : w2.heap.size ≤ g1 := by rw [← hg]; exact bw.size
          have bn : Below u3.heap.size u3 u4 := by rw [← hn]; exact (Below.refl _ u3).alloc (Nat.le_refl _) _
          have ne : g1 ≠ g2 := by have := heap_lt z2; omega
          have z2 := z2.up bn
          have o1 := ownK9_up o1 bn
          have o2 := ownK9_up o2 bn
          have bw := up2 bw bn
          simp only [hn, hg]
          clear hn hg bn
          have PR := Lib.hid (⟨bw, z1, z2, o1, o2, bg1, bg2, ne, ap⟩ : Pre w2 u4 g1 g2 (.slice A1 n c1) n l (.slice A2 n c2) n l)
          obtain ⟨f1, f2, f3, f4⟩ := z1.facts
          clear z1 z2 o1 o2 ap ne
          refine wpAnyH_ready (rs := [6]) (by kernel_rfl) (by simp) ?_
          refine AllReadyH.cons rfl (fun K hK => ?_) AllReadyH.nil
          go_simp
          refine hK.out _ _ (HH.out _ (below_st (below_st bw bg1 _) bg1 _)) (fun _ => ?_)
          clear hK K
          try simp only [Act.put, List.setIfInBounds_toArray, List.set_cons_zero, List.set_cons_succ, List.getElem_toArray, List.getElem_cons_zero, List.getElem_cons_succ]
          obtain ⟨wm, hwm⟩ : ∃ x, (u4.setCell ⟨g1, 0, none⟩ (.int .i64 N)).setCell ⟨g1, 1, none⟩ (.slice A1 n c1) = x := ⟨_, rfl⟩
          have PM := Lib.hid (PR.out.mid N)
          rw [hwm] at PM
          simp only [hwm]
          clear hwm f1 f2 f3 f4
          obtain ⟨f1, f2, f3, f4⟩ := PM.out.zm.facts
          refine wpAnyH_ready (rs := [7]) (by kernel_rfl) (by simp) ?_
          refine AllReadyH.cons rfl (fun K hK => ?_) AllReadyH.nil
          go_simp
          refine hK.out _ _ (HH.out _ (below_st (below_st PM.out.below bg2 _) bg2 _)) (fun _ => ?_)
          clear hK K
          try simp only [Act.put, List.setIfInBounds_toArray, List.set_cons_zero, List.set_cons_succ, List.getElem_toArray, List.getElem_cons_zero, List.getElem_cons_succ]
          have DU := Lib.hid PM.out.fin
          clear PM f1 f2 f3 f4
          refine wpAnyH_done (by kernel_rfl) ?_ _
          refine NoPanic.normal ?_
          go_wp2_with fail
          go_meet
          exact ⟨g1, g2, A1, c1, A2, c2, rfl, rfl, DU.out⟩
        · go_simp
          refine hK.out _ _ (HH.out _ (up1 bw _)) (fun _ => ?_)
          clear hK K
          try simp only [Act.put, List.setIfInBounds_toArray, List.set_cons_zero, List.set_cons_succ, List.getElem_toArray, List.getElem_cons_zero, List.getElem_cons_succ]
          obtain ⟨u3, hn⟩ : ∃ x, u2.alloc zbox = x := ⟨_, rfl⟩
          obtain ⟨g1, hg⟩ : ∃ x, u2.heap.size = x := ⟨_, rfl⟩
          have z1 : Zb u3 g1 := by rw [← hn, ← hg]; exact heap_alloc_new u2 _
          have bg1 : w2.heap.size ≤ g1 := by rw [← hg]; exact bw.size
          have bn : Below u2.heap.size u2 u3 := by rw [← hn]; exact (Below.refl _ u2).alloc (Nat.le_refl _) _
          have ne : g1 ≠ g2 := by have := heap_lt z2; omega
          have z2 := z2.up bn
          have o1 := ownK9_up o1 bn
          have bw := up2 bw bn
          simp only [hn, hg]
          clear hn hg bn
          refine wpAnyH_ready (rs := [3]) (by kernel_rfl) (by simp) ?_
          refine AllReadyH.cons rfl (fun K hK => ?_) AllReadyH.nil
          rw [if_pos (by rfl)]
          go_wp2_with fail
          refine (KO.out _ bw).mono ?_
          rintro e u4 ⟨_, rfl, A2, c2, rfl, o2, b9⟩
          rw [HL.out.1] at o2 ⊢
          go_wp2_with fail
          refine hK.out _ _ (HH.out _ (up2 bw b9)) (fun _ => ?_)
          clear hK K
          try simp only [Act.put, List.setIfInBounds_toArray, List.set_cons_zero, List.set_cons_succ, List.getElem_toArray, List.getElem_cons_zero, List.getElem_cons_succ]
          have z1 := z1.up b9
          have z2 := z2.up b9
          have ap := ap_of o1 o2
          have o1 := ownK9_up o1 b9
          have o2 := ownK9_base o2 bw.size
          have bw := up2 bw b9
          clear b9
          have PR := Lib.hid (⟨bw, z1, z2, o1, o2, bg1, bg2, ne, ap⟩ : Pre w2 u4 g1 g2 (.slice A1 n c1) n l (.slice A2 n c2) n l)
          obtain ⟨f1, f2, f3, f4⟩ := z1.facts
          clear z1 z2 o1 o2 ap ne
          refine wpAnyH_ready (rs := [6]) (by kernel_rfl) (by simp) ?_
          refine AllReadyH.cons rfl (fun K hK => ?_) AllReadyH.nil
          go_simp
          refine hK.out _ _ (HH.out _ (below_st (below_st bw bg1 _) bg1 _)) (fun _ => ?_)
          clear hK K
          try simp only [Act.put, List.setIfInBounds_toArray, List.set_cons_zero, List.set_cons_succ, List.getElem_toArray, List.getElem_cons_zero, List.getElem_cons_succ]
          obtain ⟨wm, hwm⟩ : ∃ x, (u4.setCell ⟨g1, 0, none⟩ (.int .i64 N)).setCell ⟨g1, 1, none⟩ (.slice A1 n c1) = x := ⟨_, rfl⟩
          have PM := Lib.hid (PR.out.mid N)
          rw [hwm] at PM
          simp only [hwm]
          clear hwm f1 f2 f3 f4
          obtain ⟨f1, f2, f3, f4⟩ := PM.out.zm.facts
          refine wpAnyH_ready (rs := [7]) (by kernel_rfl) (by simp) ?_
          refine AllReadyH.cons rfl (fun K hK => ?_) AllReadyH.nil
          go_simp
          refine hK.out _ _ (HH.out _ (below_st (below_st PM.out.below bg2 _) bg2 _)) (fun _ => ?_)
          clear hK K
          try simp only [Act.put, List.setIfInBounds_toArray, List.set_cons_zero, List.set_cons_succ, List.getElem_toArray, List.getElem_cons_zero, List.getElem_cons_succ]
          have DU := Lib.hid PM.out.fin
          clear PM f1 f2 f3 f4
          refine wpAnyH_done (by kernel_rfl) ?_ _
          refine NoPanic.normal ?_
          go_wp2_with fail
          go_meet
          exact ⟨g1, g2, A1, c1, A2, c2, rfl, rfl, DU.out⟩
      · go_simp
        refine hK.out _ _ (HH.out _ (up1 bw _)) (fun _ => ?_)
        clear hK K
        try simp only [Act.put, List.setIfInBounds_toArray, List.set_cons_zero, List.set_cons_succ, List.getElem_toArray, List.getElem_cons_zero, List.getElem_cons_succ]
        obtain ⟨u2, hn⟩ : ∃ x, u1.alloc zbox = x := ⟨_, rfl⟩
        obtain ⟨g1, hg⟩ : ∃ x, u1.heap.size = x := ⟨_, rfl⟩
        have z1 : Zb u2 g1 := by rw [← hn, ← hg]; exact heap_alloc_new u1 _
        have bg1 : w2.heap.size ≤ g1 := by rw [← hg]; exact bw.size
        have bn : Below u1.heap.size u1 u2 := by rw [← hn]; exact (Below.refl _ u1).alloc (Nat.le_refl _) _
        have ne : g1 ≠ g2 := by have := heap_lt z2; omega
        have z2 := z2.up bn
        have bw := up2 bw bn
        simp only [hn, hg]
        clear hn hg bn
        refine wpAnyH_ready (rs := [1]) (by kernel_rfl) (by simp) ?_
        refine AllReadyH.cons rfl (fun K hK => ?_) AllReadyH.nil
        rw [if_pos (by rfl)]
        go_wp2_with fail
        refine (KO.out _ bw).mono ?_
        rintro e u3 ⟨_, rfl, A1, c1, rfl, o1, b9⟩
        rw [HL.out.1] at o1 ⊢
        go_wp2_with fail
        refine hK.out _ _ (HH.out _ (up2 bw b9)) (fun _ => ?_)
        clear hK K
        try simp only [Act.put, List.setIfInBounds_toArray, List.set_cons_zero, List.set_cons_succ, List.getElem_toArray, List.getElem_cons_zero, List.getElem_cons_succ]
        have z1 := z1.up b9
        have z2 := z2.up b9
        have o1 := ownK9_base o1 bw.size
        have bw := up2 bw b9
        clear b9
        refine wpAnyH_ready (rs := [3]) (by kernel_rfl) (by simp) ?_
        refine AllReadyH.cons rfl (fun K hK => ?_) AllReadyH.nil
        rw [if_pos (by rfl)]
        go_wp2_with fail
        refine (KO.out _ bw).mono ?_
        rintro e u4 ⟨_, rfl, A2, c2, rfl, o2, b9⟩
        rw [HL.out.1] at o2 ⊢
        go_wp2_with fail
        refine hK.out _ _ (HH.out _ (up2 bw b9)) (fun _ => ?_)
        clear hK K
        try simp only [Act.put, List.setIfInBounds_toArray, List.set_cons_zero, List.set_cons_succ, List.getElem_toArray, List.getElem_cons_zero, List.getElem_cons_succ]
        have z1 := z1.up b9
        have z2 := z2.up b9
        have ap := ap_of o1 o2
        have o1 := ownK9_up o1 b9
        have o2 := ownK9_base o2 bw.size
        have bw := up2 bw b9
        clear b9
        have PR := Lib.hid (⟨bw, z1, z2, o1, o2, bg1, bg2, ne, ap⟩ : Pre w2 u4 g1 g2 (.slice A1 n c1) n l (.slice A2 n c2) n l)
        obtain ⟨f1, f2, f3, f4⟩ := z1.facts
        clear z1 z2 o1 o2 ap ne
        refine wpAnyH_ready (rs := [6]) (by kernel_rfl) (by simp) ?_
        refine AllReadyH.cons rfl (fun K hK => ?_) AllReadyH.nil
        go_simp
        refine hK.out _ _ (HH.out _ (below_st (below_st bw bg1 _) bg1 _)) (fun _ => ?_)
        clear hK K
        try simp only [Act.put, List.setIfInBounds_toArray, List.set_cons_zero, List.set_cons_succ, List.getElem_toArray, List.getElem_cons_zero, List.getElem_cons_succ]
        obtain ⟨wm, hwm⟩ : ∃ x, (u4.setCell ⟨g1, 0, none⟩ (.int .i64 N)).setCell ⟨g1, 1, none⟩ (.slice A1 n c1) = x := ⟨_, rfl⟩
        have PM := Lib.hid (PR.out.mid N)
        rw [hwm] at PM
        simp only [hwm]
        clear hwm f1 f2 f3 f4
        obtain ⟨f1, f2, f3, f4⟩ := PM.out.zm.facts
        refine wpAnyH_ready (rs := [7]) (by kernel_rfl) (by simp) ?_
        refine AllReadyH.cons rfl (fun K hK => ?_) AllReadyH.nil
        go_simp
        refine hK.out _ _ (HH.out _ (below_st (below_st PM.out.below bg2 _) bg2 _)) (fun _ => ?_)
        clear hK K
        try simp only [Act.put, List.setIfInBounds_toArray, List.set_cons_zero, List.set_cons_succ, List.getElem_toArray, List.getElem_cons_zero, List.getElem_cons_succ]
        have DU := Lib.hid PM.out.fin
        clear PM f1 f2 f3 f4
        refine wpAnyH_done (by kernel_rfl) ?_ _
        refine NoPanic.normal ?_
        go_wp2_with fail
        go_meet
        exact ⟨g1, g2, A1, c1, A2, c2, rfl, rfl, DU.out⟩
  case rest =>
    obtain ⟨gt, gm, At, ct, Am, cm, rfl, rfl, du⟩ := hcut
    have D0 := Lib.hid du
    have e2 : wc.cell? ⟨gt, 1, none⟩ = some (.slice At n ct) := by rw [cell_in du.bt]; rfl
    have TL0 := Lib.hid (show TuL l n 0 l l from ⟨HL.out.1, HL.out.1, fun j _ => ⟨0, by simp [rotT]⟩, fun j hj => absurd hj (by omega)⟩)
    clear du hd KO KG
    go_wp2_with fail
    go_loopw [27] (TuR w2 N gt gm n l At ct Am cm) (fun i _ => n - (intOf i).toNat)
    case atStart => exact ⟨0, l, l, Nat.zero_le _, rfl, D0.out, TL0.out⟩
    case round =>
      obtain ⟨k, lt, lm, hk, rfl, du, tl⟩ := hrel
      have D := Lib.hid du
      have TL := Lib.hid tl
      clear du tl
      by_cases hlt : k < n
      · have b1 : (k : Int) < n := by omega
        obtain ⟨qt, rfl, hqt, _⟩ := own_at9 D.out.ot (by omega)
        obtain ⟨qm, rfl, hqm, _⟩ := own_at9 D.out.om (by omega)
        obtain ⟨bA, off, rfl, _⟩ := HL.out.2 (by omega)
        obtain ⟨x, hx⟩ : ∃ x, l.getD k z3 = x := ⟨_, rfl⟩
        have HX := Lib.hid hx
        obtain ⟨x0, x1, x2⟩ := x
        have HC := Lib.hid (fun W (b : Below w2.heap.size w2 W) => (show W.cell? ⟨g, 0, none⟩ = some (.int .i64 N) ∧ W.cell? ⟨g, 1, none⟩ = some (.slice (some ⟨bA, off, none⟩) n c) ∧ W.cell? ⟨bA, off + k * 3, none⟩ = some (.int .i64 x0) ∧ W.cell? ⟨bA, off + k * 3 + 1, none⟩ = some (.int .i64 x1) ∧ W.cell? ⟨bA, off + k * 3 + 2, none⟩ = some (.int .i64 x2) from by
          obtain ⟨_, _, he, hat⟩ := (HL.out.below (up2 B2.out b)).2 (by omega)
          injection he with he
          injection he with he1 he2
          subst he1 he2
          obtain ⟨c0, c1, c2⟩ := hat k hlt
          rw [hx] at c0 c1 c2
          exact ⟨(X2.out.below b).c0, (X2.out.below b).c1, c0, c1, c2⟩))
        clear hx
        have hc := HC.out wr D.out.below
        have s1 : wr.cell? ⟨gt, 1, none⟩ = some (.slice (some ⟨qt, 0, none⟩) n ct) := by rw [cell_in D.out.bt]; rfl
        have s2 : wr.cell? ⟨gm, 1, none⟩ = some (.slice (some ⟨qm, 0, none⟩) n cm) := by rw [cell_in D.out.bm]; rfl
        by_cases hm : k < m
        · have b2 : (k : Int) < m := by omega
          obtain ⟨ad, rfl, hcell⟩ := (HR.out.below (up2 B2.out D.out.below)).2 (by omega)
          have dx := hcell k _ (bts_at bl k (by have := HR.out.1; rw [length_bts] at this; omega))
          have hkl : k < bl.length := by have := HR.out.1; rw [length_bts] at this; omega
          have hbd : bl.getD k 0 < 256 := by rw [List.getD_eq_getElem?_getD, List.getElem?_eq_getElem hkl]; exact HD.out _ (List.getElem_mem hkl)
          obtain ⟨v, hv⟩ : ∃ v, bl.getD k 0 = v := ⟨_, rfl⟩
          rw [hv] at dx hbd
          clear hcell hv hkl
          obtain ⟨u0, u1, u2, ⟨y0, z0⟩, ⟨y1, z1⟩, ⟨y2, z2⟩⟩ := own_cells9 D.out.ot hlt
          rcases (show v % 3 = 0 ∨ v % 3 = 1 ∨ v % 3 = 2 by omega) with h3 | h3 | h3
          · have tm : Int.tmod ((v : Nat) : Int) 3 = 0 := by rw [Int.tmod_eq_emod_of_nonneg (by omega)]; omega
            clear h3
            have wr0 : IntKind.i64.wrap 1 = 1 := by decide
            have wr1 : IntKind.i64.wrap 2 = 2 := by decide
            have wr2 : IntKind.i64.wrap 3 = 3 := by decide
            have wr3 : IntKind.i64.wrap 4 = 4 := by decide
            have tm0 : Int.tmod 1 3 = 1 := by decide
            have tm1 : Int.tmod 2 3 = 2 := by decide
            have tm2 : Int.tmod 3 3 = 0 := by decide
            have tm3 : Int.tmod 4 3 = 1 := by decide
            go_wp2_with fail
            go_still_tail 30, (by kernel_rfl)
            change wpList _ _ _ _ _ wr.drew
            obtain ⟨wm, hwm⟩ : ∃ x, (((wr.setCell ⟨qt, k * 3, none⟩ (.int .i64 x0)).setCell ⟨qt, k * 3 + 1, none⟩ (.int .i64 x1)).setCell ⟨qt, k * 3 + 2, none⟩ (.int .i64 x2)).drew = x := ⟨_, rfl⟩
            have D1 := Lib.hid (show Duo w2 wm gt gm N (.slice (some ⟨qt, 0, none⟩) n ct) n (lt.set k (x0, x1, x2)) (.slice (some ⟨qm, 0, none⟩) n cm) n lm by rw [← hwm]; exact (D.out.setT hlt (x0, x1, x2)).up (Reading.below ⟨1, rfl⟩))
            have TL1 := Lib.hid (show TuL l n k (lt.set k (x0, x1, x2)) lm by have := TL.out.t hlt 0; rw [HX.out] at this; exact this)
            have hc1 := HC.out wm D1.out.below
            have s3 : wm.cell? ⟨gm, 1, none⟩ = some (.slice (some ⟨qm, 0, none⟩) n cm) := by rw [cell_in D1.out.bm]; rfl
            go_wp2_with fail
            clear hwm hc s1 s2 dx y0 z0 y1 z1 y2 z2
            obtain ⟨p0, p1, p2, ⟨m0, n0⟩, ⟨m1, n1⟩, ⟨m2, n2⟩⟩ := own_cells9 D1.out.om hlt
            go_still_tail 23, (by kernel_rfl)
            change wpList _ _ _ _ _ wm.drew
            go_wp2_with fail
            refine ⟨⟨k + 1, (lt.set k (x0, x1, x2)), lm.set k (x0, x2, x1), by omega, by go_num, ?_, ?_⟩, by simp [intOf]; omega⟩
            · exact (D1.out.up (Reading.below ⟨1, rfl⟩ : Below wm.heap.size wm wm.drew)).setM hlt (x0, x2, x1)
            · have := TL1.out.m hlt
              rw [HX.out] at this
              exact this
          · have tm : Int.tmod ((v : Nat) : Int) 3 = 1 := by rw [Int.tmod_eq_emod_of_nonneg (by omega)]; omega
            clear h3
            have wr0 : IntKind.i64.wrap 1 = 1 := by decide
            have wr1 : IntKind.i64.wrap 2 = 2 := by decide
            have wr2 : IntKind.i64.wrap 3 = 3 := by decide
            have wr3 : IntKind.i64.wrap 4 = 4 := by decide
            have tm0 : Int.tmod 1 3 = 1 := by decide
            have tm1 : Int.tmod 2 3 = 2 := by decide
            have tm2 : Int.tmod 3 3 = 0 := by decide
            have tm3 : Int.tmod 4 3 = 1 := by decide
            go_wp2_with fail
            go_still_tail 30, (by kernel_rfl)
            change wpList _ _ _ _ _ wr.drew
            obtain ⟨wm, hwm⟩ : ∃ x, (((wr.setCell ⟨qt, k * 3, none⟩ (.int .i64 x1)).setCell ⟨qt, k * 3 + 1, none⟩ (.int .i64 x2)).setCell ⟨qt, k * 3 + 2, none⟩ (.int .i64 x0)).drew = x := ⟨_, rfl⟩
            have D1 := Lib.hid (show Duo w2 wm gt gm N (.slice (some ⟨qt, 0, none⟩) n ct) n (lt.set k (x1, x2, x0)) (.slice (some ⟨qm, 0, none⟩) n cm) n lm by rw [← hwm]; exact (D.out.setT hlt (x1, x2, x0)).up (Reading.below ⟨1, rfl⟩))
            have TL1 := Lib.hid (show TuL l n k (lt.set k (x1, x2, x0)) lm by have := TL.out.t hlt 1; rw [HX.out] at this; exact this)
            have hc1 := HC.out wm D1.out.below
            have s3 : wm.cell? ⟨gm, 1, none⟩ = some (.slice (some ⟨qm, 0, none⟩) n cm) := by rw [cell_in D1.out.bm]; rfl
            go_wp2_with fail
            clear hwm hc s1 s2 dx y0 z0 y1 z1 y2 z2
            obtain ⟨p0, p1, p2, ⟨m0, n0⟩, ⟨m1, n1⟩, ⟨m2, n2⟩⟩ := own_cells9 D1.out.om hlt
            go_still_tail 23, (by kernel_rfl)
            change wpList _ _ _ _ _ wm.drew
            go_wp2_with fail
            refine ⟨⟨k + 1, (lt.set k (x1, x2, x0)), lm.set k (x0, x2, x1), by omega, by go_num, ?_, ?_⟩, by simp [intOf]; omega⟩
            · exact (D1.out.up (Reading.below ⟨1, rfl⟩ : Below wm.heap.size wm wm.drew)).setM hlt (x0, x2, x1)
            · have := TL1.out.m hlt
              rw [HX.out] at this
              exact this
          · have tm : Int.tmod ((v : Nat) : Int) 3 = 2 := by rw [Int.tmod_eq_emod_of_nonneg (by omega)]; omega
            clear h3
            have wr0 : IntKind.i64.wrap 1 = 1 := by decide
            have wr1 : IntKind.i64.wrap 2 = 2 := by decide
            have wr2 : IntKind.i64.wrap 3 = 3 := by decide
            have wr3 : IntKind.i64.wrap 4 = 4 := by decide
            have tm0 : Int.tmod 1 3 = 1 := by decide
            have tm1 : Int.tmod 2 3 = 2 := by decide
            have tm2 : Int.tmod 3 3 = 0 := by decide
            have tm3 : Int.tmod 4 3 = 1 := by decide
            go_wp2_with fail
            go_still_tail 30, (by kernel_rfl)
            change wpList _ _ _ _ _ wr.drew
            obtain ⟨wm, hwm⟩ : ∃ x, (((wr.setCell ⟨qt, k * 3, none⟩ (.int .i64 x2)).setCell ⟨qt, k * 3 + 1, none⟩ (.int .i64 x0)).setCell ⟨qt, k * 3 + 2, none⟩ (.int .i64 x1)).drew = x := ⟨_, rfl⟩
            have D1 := Lib.hid (show Duo w2 wm gt gm N (.slice (some ⟨qt, 0, none⟩) n ct) n (lt.set k (x2, x0, x1)) (.slice (some ⟨qm, 0, none⟩) n cm) n lm by rw [← hwm]; exact (D.out.setT hlt (x2, x0, x1)).up (Reading.below ⟨1, rfl⟩))
            have TL1 := Lib.hid (show TuL l n k (lt.set k (x2, x0, x1)) lm by have := TL.out.t hlt 2; rw [HX.out] at this; exact this)
            have hc1 := HC.out wm D1.out.below
            have s3 : wm.cell? ⟨gm, 1, none⟩ = some (.slice (some ⟨qm, 0, none⟩) n cm) := by rw [cell_in D1.out.bm]; rfl
            go_wp2_with fail
            clear hwm hc s1 s2 dx y0 z0 y1 z1 y2 z2
            obtain ⟨p0, p1, p2, ⟨m0, n0⟩, ⟨m1, n1⟩, ⟨m2, n2⟩⟩ := own_cells9 D1.out.om hlt
            go_still_tail 23, (by kernel_rfl)
            change wpList _ _ _ _ _ wm.drew
            go_wp2_with fail
            refine ⟨⟨k + 1, (lt.set k (x2, x0, x1)), lm.set k (x0, x2, x1), by omega, by go_num, ?_, ?_⟩, by simp [intOf]; omega⟩
            · exact (D1.out.up (Reading.below ⟨1, rfl⟩ : Below wm.heap.size wm wm.drew)).setM hlt (x0, x2, x1)
            · have := TL1.out.m hlt
              rw [HX.out] at this
              exact this
        · have b2 : ¬ (k : Int) < m := by omega
          have D1 := D
          have TL1 := TL
          obtain ⟨wm, hwm⟩ : ∃ x, wr = x := ⟨_, rfl⟩
          subst hwm
          go_wp2_with fail
          obtain ⟨p0, p1, p2, ⟨m0, n0⟩, ⟨m1, n1⟩, ⟨m2, n2⟩⟩ := own_cells9 D1.out.om hlt
          go_still_tail 23, (by kernel_rfl)
          change wpList _ _ _ _ _ wr.drew
          go_wp2_with fail
          refine ⟨⟨k + 1, lt, lm.set k (x0, x2, x1), by omega, by go_num, ?_, ?_⟩, by simp [intOf]; omega⟩
          · exact (D1.out.up (Reading.below ⟨1, rfl⟩ : Below wr.heap.size wr wr.drew)).setM hlt (x0, x2, x1)
          · have := TL1.out.m hlt
            rw [HX.out] at this
            exact this
      · obtain rfl : k = n := by omega
        have b1 : ¬ (k : Int) < k := by omega
        obtain ⟨p1, hp1⟩ := isPin_exists lt
        obtain ⟨p2, hp2⟩ := isPin_exists lm
        have hlm : lm = l.map mirT := by
          refine List.ext_getElem (by rw [TL.out.2.1, List.length_map, HL.out.1]) fun j h1 h2 => ?_
          have := TL.out.2.2.2 j (by rw [← TL.out.2.1]; exact h1)
          rw [List.getD_eq_getElem?_getD, List.getD_eq_getElem?_getD, List.getElem?_eq_getElem h1, List.getElem?_eq_getElem (by rwa [List.length_map] at h2)] at this
          rw [List.getElem_map]
          exact this
        have e1 : wits p1 N lt = wits p N l := (isAll_turned (by rw [TL.out.1, HL.out.1]) (fun i hi => TL.out.2.2.1 i (by rw [← HL.out.1]; exact hi)) ⟨p, HP.out, rfl⟩ : IsAll N lt (wits p N l)).one ⟨p1, hp1, rfl⟩
        have e2 : wits p2 N lm = wits p N l := (hlm ▸ isAll_mir ⟨p, HP.out, rfl⟩ : IsAll N lm (wits p N l)).one ⟨p2, hp2, rfl⟩
        have K1 := Lib.hid (fun W (b : Below wr.heap.size wr W) => call_any W N A k c l p (HL.out.below (up2 B2.out (up2 D.out.below b))) HP.out (by omega))
        have k2 := fun W (b : Below wr.heap.size wr W) => call_any W N At k ct lt p1 ((T3.of_own D.out.ot).below b) hp1 (by omega)
        have k3 := fun W (b : Below wr.heap.size wr W) => call_any W N Am k cm lm p2 ((T3.of_own D.out.om).below b) hp2 (by omega)
        rw [e1] at k2
        rw [e2] at k3
        have K2 := Lib.hid k2
        have K3 := Lib.hid k3
        have hwl := wits_len p N l
        obtain ⟨ws, hws⟩ : ∃ ws, wits p N l = ws := ⟨_, rfl⟩
        rw [hws] at K1 K2 K3 hwl
        have HS := Lib.hid (fun W (b : Below wr.heap.size wr W) => (show W.cell? ⟨g, 0, none⟩ = some (.int .i64 N) ∧ W.cell? ⟨g, 1, none⟩ = some (.slice A k c) ∧ W.cell? ⟨gt, 0, none⟩ = some (.int .i64 N) ∧ W.cell? ⟨gt, 1, none⟩ = some (.slice At k ct) ∧ W.cell? ⟨gm, 0, none⟩ = some (.int .i64 N) ∧ W.cell? ⟨gm, 1, none⟩ = some (.slice Am k cm) from by
          have h := HH.out W (up2 D.out.below b)
          have d := D.out.up b
          exact ⟨h.1, h.2, by rw [cell_in d.bt]; rfl, by rw [cell_in d.bt]; rfl, by rw [cell_in d.bm]; rfl, by rw [cell_in d.bm]; rfl⟩))
        have BD := Lib.hid D.out.below
        clear hws e1 e2 hlm hp1 hp2 k2 k3 HH D TL TL0
        have hd := HS.out wr.drew (Reading.below ⟨1, rfl⟩)
        have bd : Below wr.heap.size wr wr.drew := Reading.below ⟨1, rfl⟩
        go_wp2_with fail
        go_region_held3 (fun w' => w'.cell? ⟨g, 0, none⟩ = some (.int .i64 N) ∧ w'.cell? ⟨g, 1, none⟩ = some (.slice A k c) ∧ w'.cell? ⟨gt, 0, none⟩ = some (.int .i64 N) ∧ w'.cell? ⟨gt, 1, none⟩ = some (.slice At k ct) ∧ w'.cell? ⟨gm, 0, none⟩ = some (.int .i64 N) ∧ w'.cell? ⟨gm, 1, none⟩ = some (.slice Am k cm))
          (first | exact hd | exact HS.out _ (by assumption) | fail)
          (first
            | (go_at_call 13; (with_reducible refine (K1.out _ (by assumption)).mono ?_); rintro e w5 ⟨q5, rfl, t5, b5, _⟩; have d5 := up2 bd b5; clear b5)
            | (go_at_call 13; (with_reducible refine (K2.out _ (by assumption)).mono ?_); rintro e w6 ⟨q6, rfl, t6, b6, _⟩; have d6 := up2 d5 b6; have t5' := t5.below b6; clear b6)
            | (go_at_call 13; (with_reducible refine (K3.out _ (by assumption)).mono ?_); rintro e w7 ⟨q7, rfl, t7, b7, _⟩; have d7 := up2 d6 b7; have t5'' := t5'.below b7; have t6' := t6.below b7; clear b7)
            | fail)
        all_goals
          have T5 := Lib.hid t5''
          have T6 := Lib.hid t6'
          have T7 := Lib.hid t7
          have C := Lib.hid (up2 B2.out (up2 BD.out d7))
          clear t5 t5' t5'' t6 t6' t7 d5 d6 d7 bd hd K1 K2 K3 HS
          go_wp2_with fail
          go_loopw [114] (Tv w7 ws.length) (fun i _ => ws.length - (intOf i).toNat)
          case atStart => exact ⟨0, Nat.zero_le _, rfl, Below.refl _ _⟩
          case round =>
            obtain ⟨j, hj, rfl, hb⟩ := hrel
            have HB := Lib.hid hb
            clear hb
            by_cases hlt : j < ws.length
            · have b3 : (j : Int) < ws.length := by omega
              obtain ⟨_, _, he, hat⟩ := (T5.out.below HB.out).2 (by omega)
              injection he with he
              injection he with he1 he2
              subst he1 he2
              obtain ⟨_, _, he, hat'⟩ := (T6.out.below HB.out).2 (by omega)
              injection he with he
              injection he with he1 he2
              subst he1 he2
              obtain ⟨_, _, he, hat''⟩ := (T7.out.below HB.out).2 (by omega)
              injection he with he
              injection he with he1 he2
              subst he1 he2
              obtain ⟨x0', hx⟩ : ∃ x, ws.getD j z3 = x := ⟨_, rfl⟩
              obtain ⟨a0, a1, a2⟩ := hat j hlt
              obtain ⟨g0, g1, g2⟩ := hat' j hlt
              obtain ⟨f0, f1, f2⟩ := hat'' j hlt
              rw [hx] at a0 a1 a2 g0 g1 g2 f0 f1 f2
              obtain ⟨x0, x1, x2⟩ := x0'
              simp only [Nat.zero_add] at a0 a1 a2 g0 g1 g2 f0 f1 f2
              clear hat hat' hat'' hx
              have gd := fun W op u v => run_eqGuard_agg (P := Try.prog) W op 35 u v #[.int .i64 x0, .int .i64 x1, .int .i64 x2] #[.int .i64 x0, .int .i64 x1, .int .i64 x2] Try.eqGuardType35
              have nq := fun W => neqW9 W x0 x1 x2 x0 x1 x2
              rw [(eq3_iff (x0, x1, x2) (x0, x1, x2)).2 rfl] at nq
              go_wp2_with fail
              go_quiet (fail)
              go_wp2_with fail
              exact ⟨⟨j + 1, by omega, by go_num, HB.out.trans (Reading.below ⟨_, rfl⟩)⟩, by simp [intOf]; omega⟩
            · obtain rfl : j = ws.length := by omega
              have b3 : ¬ (ws.length : Int) < ws.length := by omega
              go_wp2
              go_ret
              exact ⟨rfl, up2 C.out HB.out⟩
set_option maxRecDepth 100000 in
theorem lifted (os : Os) (started : os.Started) (H : Type) (enc : TypeId × Value → H) :
    ReturnsInHanded {} Try.checked os 5 .any (Rows.certifyTurnedSpec.pre6 enc Try.prog Try.f5 Rows.certifyTurnedRow.domain false) (Rows.certifyTurnedSpec.post enc Try.prog Try.f5 false true false false) := by
  refine returnsInHanded_of_change (C := Try.checked) own_knob started (by kernel_rfl) Try.func5
    (ChangeSpec.witness6 (enc := enc) (C := Try.checked) false ⟨#[], #[.agg #[.int .i64 0, .slice none 0 0], .slice none 0 0], []⟩ 8 (by kernel_rfl) (by kernel_rfl) (by kernel_rfl) (by kernel_rfl)) ?_
  intro W base args ds gs before hval0 hW hcnd _
  have hval : ∀ (j : Nat) t v, Try.f5.params[j]? = some t → args[j]? = some v → Value.okWide Try.prog W .any base t v := hval0
  have hW' := hW
  obtain ⟨p, q, hA0, hV, rfl, hfz, hnd⟩ := hW
  have hA : DataW.TrodAll enc Try.prog W 0 (fun _ => true) true Try.f5.params.toList args.toList ds p := hA0
  rw [Try.params5] at hA hval
  obtain ⟨v0, vs0, d0, ds0, p0, q0, hargs, rfl, rfl, h0, r0⟩ := trodAll_cons hA
  obtain ⟨v1, vs1, d1, ds1, p1, q1, rfl, rfl, rfl, h1, r1⟩ := trodAll_cons r0
  obtain ⟨rfl, rfl, rfl⟩ := trodAll_nil r1
  obtain rfl : args = #[v0, v1] := by cases args; simp_all
  obtain ⟨rfl, rfl⟩ := trodVars_none hV
  have lt0 : ∀ x ∈ p0, x.block < W.heap.size := by obtain ⟨m, hm⟩ := h0; exact DataW.trod_lt m _ _ _ hm
  obtain ⟨N0, a0, len0, cap0, xs0, rfl, hN0, hr0⟩ := arg_soup (hval 0 24 v0 rfl rfl) h0
  obtain ⟨a1, len1, cap1, rfl⟩ := okWide_slice Try.underlying39 (hval 1 39 v1 rfl rfl)
  have lt1 : ∀ x ∈ p1, x.block < W.heap.size := by obtain ⟨m, hm⟩ := h1; exact DataW.trod_lt m _ _ _ hm
  obtain ⟨hc1, xs1, hx1, hr1⟩ := arg_bytes4 h1
  clear hA0 hval0
  refine (walk N0 a0 len0 cap0 xs0 a1 len1 cap1 xs1 W hN0.1 hN0.2 hr0 hc1 hx1 hr1).mono fun e W' ⟨he, bel⟩ => ?_
  subst he
  exact ⟨_, rfl, _, _, _, [], _, [], hW', trodAll_mk1 (shut_bool Try.underlying4 _), (trodAll_cons_mk (Below.trod laid_out (by kernel_rfl) (of_decide_eq_true (by kernel_rfl)) h0 bel lt0) (trodAll_cons_mk (Below.trod laid_out (by kernel_rfl) (of_decide_eq_true (by kernel_rfl)) h1 bel lt1) trodAll_mk0)), rfl, bel.frame _, fun h => by cases h⟩

theorem over : Rows.certifyTurnedRow.holds Try.pinned (OpenSpec.ofChange Rows.certifyTurnedSpec) :=
  OpenClaim.holds_of_wide 5 Try.f5 rfl rfl rfl rfl rfl rfl rfl ⟨rfl, rfl, rfl, rfl, rfl⟩ rfl rfl rfl rfl rfl (by kernel_rfl) Try.func5 (by kernel_rfl)
    (of_decide_eq_true (by kernel_rfl)) (by unfold Func.isWrapper; first | (rw [if_pos (by decide +kernel)]; kernel_rfl) | (rw [if_neg (by decide +kernel)]; exact ⟨rfl, rfl⟩))
    (fun os started H enc _ => lifted os started H enc)

theorem proved : Rows.CertifyTurnedSaid := over
end Go.Proofs.Ytelbmjbjpgcdaaa.certifyTurned
