/- Texts laid one behind the other: KoWord, KoTab, TriApp, KoLook, SouNw, KoNew. -/
import Derived.Test.YtmflacmgffpjoaaGP
import Derived.Test.YtmflacmgffpjoaaGM
import Derived.BigQuiet
import Derived.Handy
import Derived.IntWalk
import Derived.Deep.RegionHeld3
import Derived.Test.YtmflacmgffpjoaaGC
import Derived.Test.YtmflacmgffpjoaaGD

/- Layer 10: words for what is told: numbers, truth values, edges; is it a corner. -/
namespace Go.Proofs.Ytmflacmgffpjoaa
open Go.RowKit

def IntTold (w : World) (x : Int) (e : Ending) (w' : World) : Prop := e = .returned (.int .i64 x) ∧ Below w.heap.size w w'
def IntSame (w : World) (x : Int) (e : Ending) (w' : World) : Prop := e = .returned (.int .i64 x) ∧ w' = w
def BoolTold10 (w : World) (b : Bool) (e : Ending) (w' : World) : Prop := e = .returned (.bool b) ∧ Below w.heap.size w w'
def EdTold (w : World) (d : Ed) (e : Ending) (w' : World) : Prop := e = .returned (.agg #[.int .i64 d.1, .int .i64 d.2]) ∧ Below w.heap.size w w'
theorem below_set2' {B q : Nat} {w w1 : World} (h : Below B w w1) (hq : B ≤ q) (a b : Value) : Below B w ((w1.setCell ⟨q, 0, none⟩ a).setCell ⟨q, 1, none⟩ b) := below_set2 h hq a b

def IsC (n : Nat) (x : Int) : Prop := 0 ≤ x ∧ x < 3 * (n : Int)
instance (n : Nat) (x : Int) : Decidable (IsC n x) := inferInstanceAs (Decidable (_ ∧ _))
end Go.Proofs.Ytmflacmgffpjoaa

/- Layer 10: a table's methods, told by the cells of its block: numbers, vertices, next, previous, the edge. -/
namespace Go.Proofs.Ytmflacmgffpjoaa
open Go.RowKit

/-- A table's cells in the block g: the soup's two, and three more. -/
def KB (w : World) (g : Nat) (N : Int) (A : Option Addr) (n c : Nat) (vo vm vl : Value) : Prop := w.heap[g]? = some (.cells #[.int .i64 N, .slice A n c, vo, vm, vl] 74 (0, 0))
theorem KB.c0 {w : World} {g : Nat} {N : Int} {A : Option Addr} {n c : Nat} {vo vm vl : Value} (h : KB w g N A n c vo vm vl) : w.cell? ⟨g, 0, none⟩ = some (.int .i64 N) := by rw [cell_in h]; rfl
theorem KB.c1 {w : World} {g : Nat} {N : Int} {A : Option Addr} {n c : Nat} {vo vm vl : Value} (h : KB w g N A n c vo vm vl) : w.cell? ⟨g, 1, none⟩ = some (.slice A n c) := by rw [cell_in h]; rfl
theorem KB.c2 {w : World} {g : Nat} {N : Int} {A : Option Addr} {n c : Nat} {vo vm vl : Value} (h : KB w g N A n c vo vm vl) : w.cell? ⟨g, 2, none⟩ = some vo := by rw [cell_in h]; rfl
theorem KB.c3 {w : World} {g : Nat} {N : Int} {A : Option Addr} {n c : Nat} {vo vm vl : Value} (h : KB w g N A n c vo vm vl) : w.cell? ⟨g, 3, none⟩ = some vm := by rw [cell_in h]; rfl
theorem KB.c4 {w : World} {g : Nat} {N : Int} {A : Option Addr} {n c : Nat} {vo vm vl : Value} (h : KB w g N A n c vo vm vl) : w.cell? ⟨g, 4, none⟩ = some vl := by rw [cell_in h]; rfl
theorem KB.below {w w' : World} {g : Nat} {N : Int} {A : Option Addr} {n c : Nat} {vo vm vl : Value} (h : KB w g N A n c vo vm vl) (hb : Below w.heap.size w w') : KB w' g N A n c vo vm vl := (hb.block g (heap_lt h)).trans h
def vtxI (l : List Tr) (n : Nat) (x : Int) : Int := if IsC n x then vtx l x.toNat else -1
def besC (k y : Nat) : Nat := k - k % 3 + (k + y) % 3
theorem besC_one (k : Nat) : besC k 1 = nxt k := by unfold besC nxt; split <;> omega
theorem besC_two (k : Nat) : besC k 2 = prv k := by unfold besC prv; split <;> omega
def besI (n : Nat) (x : Int) (y : Nat) : Int := if IsC n x then ((besC x.toNat y : Nat) : Int) else -1
def edgI (l : List Tr) (n : Nat) (x : Int) : Ed := if IsC n x then edgeC l x.toNat else (-1, -1)
def BoolSame (w : World) (b : Bool) (e : Ending) (w' : World) : Prop := e = .returned (.bool b) ∧ w' = w

set_option maxRecDepth 100000 in
theorem ktris_any (w : World) (g : Nat) (N : Int) (A : Option Addr) (n c : Nat) (vo vm vl : Value) (h : KB w g N A n c vo vm vl) : Calls Try.prog 35 #[.pointer (some ⟨g, 0, none⟩)] w (IntSame w (n : Int)) := by
  have c1 := h.c1
  clear h
  go_enter Try.func35, Try.ntmps35
  go_wp2
  go_ret
  exact ⟨rfl, rfl⟩
set_option maxRecDepth 100000 in
theorem ktris_nil (w : World) : Calls Try.prog 35 #[.pointer none] w (IntSame w 0) := by
  go_enter Try.func35, Try.ntmps35
  go_wp2
  go_ret
  exact ⟨rfl, rfl⟩
set_option maxRecDepth 100000 in
theorem kverts_any (w : World) (g : Nat) (N : Int) (A : Option Addr) (n c : Nat) (vo vm vl : Value) (h : KB w g N A n c vo vm vl) : Calls Try.prog 44 #[.pointer (some ⟨g, 0, none⟩)] w (IntSame w N) := by
  have c0 := h.c0
  clear h
  go_enter Try.func44, Try.ntmps44
  go_wp2
  go_ret
  exact ⟨rfl, rfl⟩
set_option maxRecDepth 100000 in
theorem kverts_nil (w : World) : Calls Try.prog 44 #[.pointer none] w (IntSame w 0) := by
  go_enter Try.func44, Try.ntmps44
  go_wp2
  go_ret
  exact ⟨rfl, rfl⟩
/-- Is it a corner: of a table, and of none (n = 0). -/
def TabP (w : World) (n : Nat) (v : Value) : Prop := Calls Try.prog 35 #[v] w (IntSame w (n : Int))
set_option maxHeartbeats 1000000 in
set_option maxRecDepth 100000 in
theorem khas_of (w : World) (p : Option Addr) (n : Nat) (hn : n ≤ 1000000) (hv : TabP w n (.pointer p)) (x : Int) : Calls Try.prog 62 #[.pointer p, .int .i64 x] w (BoolSame w (decide (IsC n x))) := by
  have K := Lib.hid hv
  clear hv
  have e3 : IntKind.i64.wrap (3 * (n : Int)) = 3 * (n : Int) := IntWalk.i64_in _ (by omega)
  by_cases h0 : 0 ≤ x
  · have d0 : decide (x ≥ 0) = true := by simpa using h0
    by_cases h1 : x < 3 * (n : Int)
    · have d1 : decide (x < 3 * (n : Int)) = true := by simpa using h1
      have HE := Lib.hid (show decide (IsC n x) = true from decide_eq_true ⟨h0, h1⟩)
      clear h0 h1
      go_enter Try.func62, Try.ntmps62
      go_wp2_with fail
      refine K.out.mono ?_
      rintro e w1 ⟨rfl, rfl⟩
      go_wp2
      go_ret
      exact ⟨by rw [HE.out]; rfl, rfl⟩
    · have d1 : decide (x < 3 * (n : Int)) = false := by simpa using h1
      have HE := Lib.hid (show decide (IsC n x) = false from decide_eq_false fun h => h1 h.2)
      clear h0 h1
      go_enter Try.func62, Try.ntmps62
      go_wp2_with fail
      refine K.out.mono ?_
      rintro e w1 ⟨rfl, rfl⟩
      go_wp2
      go_ret
      exact ⟨by rw [HE.out]; rfl, rfl⟩
  · have d0 : decide (x ≥ 0) = false := by simpa using h0
    have HE := Lib.hid (show decide (IsC n x) = false from decide_eq_false fun h => h0 h.1)
    clear h0
    go_enter Try.func62, Try.ntmps62
    go_wp2_with fail
    go_ret
    exact ⟨by rw [HE.out]; rfl, rfl⟩
theorem khas_any (w : World) (g : Nat) (N : Int) (A : Option Addr) (n c : Nat) (vo vm vl : Value) (h : KB w g N A n c vo vm vl) (hn : n ≤ 1000000) (x : Int) : Calls Try.prog 62 #[.pointer (some ⟨g, 0, none⟩), .int .i64 x] w (BoolSame w (decide (IsC n x))) :=
  khas_of w _ n hn (ktris_any w g N A n c vo vm vl h) x
theorem khas_nil (w : World) (x : Int) : Calls Try.prog 62 #[.pointer none, .int .i64 x] w (BoolSame w false) := by
  have := khas_of w none 0 (by omega) (ktris_nil w) x
  rwa [show decide (IsC 0 x) = false from decide_eq_false fun h => by have := h.1; have := h.2; omega] at this
set_option maxHeartbeats 1000000 in
set_option maxRecDepth 100000 in
theorem kbeside_of (w : World) (p : Option Addr) (n : Nat) (hn : n ≤ 1000000) (hv : TabP w n (.pointer p)) (x : Int) (y : Nat) (hy : y ≤ 2) : Calls Try.prog 64 #[.pointer p, .int .i64 x, .int .i64 (y : Int)] w (IntSame w (besI n x y)) := by
  have K := Lib.hid (khas_of w p n hn hv x)
  clear hv
  by_cases hc : IsC n x
  · have HE := Lib.hid (show besI n x y = ((besC x.toNat y : Nat) : Int) by unfold besI; rw [if_pos hc])
    rw [decide_eq_true hc] at K
    obtain ⟨k, hk⟩ : ∃ k : Nat, x = (k : Int) := ⟨x.toNat, by have := hc.1; omega⟩
    subst hk
    have hb := hc.2
    obtain ⟨r, hr⟩ : ∃ r, k % 3 = r := ⟨_, rfl⟩
    obtain ⟨s, hs⟩ : ∃ s, (k + y) % 3 = s := ⟨_, rfl⟩
    have tm : Int.tmod (k : Int) 3 = (r : Int) := by rw [Int.tmod_eq_emod_of_nonneg (by omega)]; omega
    have tm2 : Int.tmod ((k : Int) + (y : Int)) 3 = (s : Int) := by rw [Int.tmod_eq_emod_of_nonneg (by omega)]; omega
    have w1 : IntKind.i64.wrap ((k : Int) - (r : Int)) = (k : Int) - (r : Int) := IntWalk.i64_in _ (by omega)
    have w2 : IntKind.i64.wrap ((k : Int) + (y : Int)) = (k : Int) + (y : Int) := IntWalk.i64_in _ (by omega)
    have w3 : IntKind.i64.wrap ((k : Int) - (r : Int) + (s : Int)) = (k : Int) - (r : Int) + (s : Int) := IntWalk.i64_in _ (by omega)
    have HF := Lib.hid (show ((besC k y : Nat) : Int) = (k : Int) - (r : Int) + (s : Int) by unfold besC; rw [hr, hs]; omega)
    clear hc hr hs hb
    go_enter Try.func64, Try.ntmps64
    go_wp2_with fail
    refine K.out.mono ?_
    rintro e w1 ⟨rfl, rfl⟩
    go_wp2
    go_ret
    refine ⟨?_, rfl⟩
    rw [HE.out, Int.toNat_natCast, HF.out]
    rfl
  · have HE := Lib.hid (show besI n x y = -1 by unfold besI; rw [if_neg hc])
    rw [decide_eq_false hc] at K
    clear hc
    go_enter Try.func64, Try.ntmps64
    go_wp2_with fail
    refine K.out.mono ?_
    rintro e w1 ⟨rfl, rfl⟩
    go_wp2
    go_ret
    exact ⟨by rw [HE.out]; rfl, rfl⟩
def nxtI (n : Nat) (x : Int) : Int := if IsC n x then ((nxt x.toNat : Nat) : Int) else -1
def prvI (n : Nat) (x : Int) : Int := if IsC n x then ((prv x.toNat : Nat) : Int) else -1
theorem besI_one (n : Nat) (x : Int) : besI n x 1 = nxtI n x := by unfold besI nxtI; rw [besC_one]
theorem besI_two (n : Nat) (x : Int) : besI n x 2 = prvI n x := by unfold besI prvI; rw [besC_two]
set_option maxRecDepth 100000 in
theorem knext_of (w : World) (p : Option Addr) (n : Nat) (hn : n ≤ 1000000) (hv : TabP w n (.pointer p)) (x : Int) : Calls Try.prog 43 #[.pointer p, .int .i64 x] w (IntSame w (nxtI n x)) := by
  have K := Lib.hid (kbeside_of w p n hn hv x 1 (by omega))
  rw [besI_one] at K
  clear hv
  go_enter Try.func43, Try.ntmps43
  go_wp2_with fail
  refine K.out.mono ?_
  rintro e w1 ⟨rfl, rfl⟩
  go_wp2
  go_ret
  exact ⟨rfl, rfl⟩
set_option maxRecDepth 100000 in
theorem kprev_of (w : World) (p : Option Addr) (n : Nat) (hn : n ≤ 1000000) (hv : TabP w n (.pointer p)) (x : Int) : Calls Try.prog 52 #[.pointer p, .int .i64 x] w (IntSame w (prvI n x)) := by
  have K := Lib.hid (kbeside_of w p n hn hv x 2 (by omega))
  rw [besI_two] at K
  clear hv
  go_enter Try.func52, Try.ntmps52
  go_wp2_with fail
  refine K.out.mono ?_
  rintro e w1 ⟨rfl, rfl⟩
  go_wp2
  go_ret
  exact ⟨rfl, rfl⟩
set_option maxHeartbeats 2000000 in
set_option maxRecDepth 100000 in
theorem kvertex_any (w : World) (g : Nat) (N : Int) (A : Option Addr) (n c : Nat) (vo vm vl : Value) (h : KB w g N A n c vo vm vl) (hn : n ≤ 1000000) (l : List Tr) (ht : T3 w A n l) (x : Int) : Calls Try.prog 50 #[.pointer (some ⟨g, 0, none⟩), .int .i64 x] w (IntSame w (vtxI l n x)) := by
  have K := Lib.hid (khas_any w g N A n c vo vm vl h hn x)
  have e1 := h.c1
  clear h
  by_cases hc : IsC n x
  · have HE := Lib.hid (show vtxI l n x = vtx l x.toNat by unfold vtxI; rw [if_pos hc])
    rw [decide_eq_true hc] at K
    obtain ⟨k, hk⟩ : ∃ k : Nat, x = (k : Int) := ⟨x.toNat, by have := hc.1; omega⟩
    subst hk
    have hb := hc.2
    obtain ⟨d, hd⟩ : ∃ d, k / 3 = d := ⟨_, rfl⟩
    have hdn : d < n := by omega
    obtain ⟨bA, off, rfl, hat⟩ := ht.2 (by omega)
    obtain ⟨c0, c1, c2⟩ := hat d hdn
    have td : Int.tdiv (k : Int) 3 = (d : Int) := by rw [Int.tdiv_eq_ediv_of_nonneg (by omega)]; omega
    have hdn' : (d : Int) < n := by omega
    have HV : ∀ r, k % 3 = r → vtx l k = cor3 (l.getD d z3) r := fun r h => by unfold vtx; rw [hd, h]
    rw [Int.toNat_natCast] at HE
    rcases (show k % 3 = 0 ∨ k % 3 = 1 ∨ k % 3 = 2 by omega) with h | h | h
    · have tm : Int.tmod (k : Int) 3 = 0 := by rw [Int.tmod_eq_emod_of_nonneg (by omega)]; omega
      rw [HV 0 h] at HE
      clear ht hat hd h HV hc hb
      go_enter Try.func50, Try.ntmps50
      go_wp2_with fail
      refine K.out.mono ?_
      rintro e w1 ⟨rfl, rfl⟩
      go_wp2
      go_ret
      exact ⟨by rw [HE.out]; rfl, rfl⟩
    · have tm : Int.tmod (k : Int) 3 = 1 := by rw [Int.tmod_eq_emod_of_nonneg (by omega)]; omega
      rw [HV 1 h] at HE
      clear ht hat hd h HV hc hb
      go_enter Try.func50, Try.ntmps50
      go_wp2_with fail
      refine K.out.mono ?_
      rintro e w1 ⟨rfl, rfl⟩
      go_wp2
      go_ret
      exact ⟨by rw [HE.out]; rfl, rfl⟩
    · have tm : Int.tmod (k : Int) 3 = 2 := by rw [Int.tmod_eq_emod_of_nonneg (by omega)]; omega
      rw [HV 2 h] at HE
      clear ht hat hd h HV hc hb
      go_enter Try.func50, Try.ntmps50
      go_wp2_with fail
      refine K.out.mono ?_
      rintro e w1 ⟨rfl, rfl⟩
      go_wp2
      go_ret
      exact ⟨by rw [HE.out]; rfl, rfl⟩
  · have HE := Lib.hid (show vtxI l n x = -1 by unfold vtxI; rw [if_neg hc])
    rw [decide_eq_false hc] at K
    clear hc ht
    go_enter Try.func50, Try.ntmps50
    go_wp2_with fail
    refine K.out.mono ?_
    rintro e w1 ⟨rfl, rfl⟩
    go_wp2
    go_ret
    exact ⟨by rw [HE.out]; rfl, rfl⟩
set_option maxRecDepth 100000 in
theorem kvertex_nil (w : World) (x : Int) : Calls Try.prog 50 #[.pointer none, .int .i64 x] w (IntSame w (-1)) := by
  have K := Lib.hid (khas_nil w x)
  go_enter Try.func50, Try.ntmps50
  go_wp2_with fail
  refine K.out.mono ?_
  rintro e w1 ⟨rfl, rfl⟩
  go_wp2
  go_ret
  exact ⟨rfl, rfl⟩
theorem isC_nxt {n : Nat} {x : Int} (h : IsC n x) : IsC n (nxtI n x) ∧ (nxtI n x).toNat = nxt x.toNat := by
  unfold nxtI
  rw [if_pos h]
  have := nxt_lt (c := x.toNat) (n := n) (by have := h.1; have := h.2; omega)
  exact ⟨⟨by omega, by omega⟩, by omega⟩
theorem isC_prv {n : Nat} {x : Int} (h : IsC n x) : IsC n (prvI n x) ∧ (prvI n x).toNat = prv x.toNat := by
  unfold prvI
  rw [if_pos h]
  have := prv_lt (c := x.toNat) (n := n) (by have := h.1; have := h.2; omega)
  exact ⟨⟨by omega, by omega⟩, by omega⟩
theorem not_isC (n : Nat) : ¬ IsC n (-1) := fun h => by have := h.1; omega
theorem vtx_nxtI (l : List Tr) (n : Nat) (x : Int) : vtxI l n (nxtI n x) = (edgI l n x).1 := by
  by_cases h : IsC n x
  · obtain ⟨h1, h2⟩ := isC_nxt h
    unfold vtxI edgI
    rw [if_pos h1, if_pos h, h2]; rfl
  · unfold nxtI edgI vtxI
    rw [if_neg h, if_neg h, if_neg (not_isC n)]
theorem vtx_prvI (l : List Tr) (n : Nat) (x : Int) : vtxI l n (prvI n x) = (edgI l n x).2 := by
  by_cases h : IsC n x
  · obtain ⟨h1, h2⟩ := isC_prv h
    unfold vtxI edgI
    rw [if_pos h1, if_pos h, h2]; rfl
  · unfold prvI edgI vtxI
    rw [if_neg h, if_neg h, if_neg (not_isC n)]
set_option maxHeartbeats 2000000 in
set_option maxRecDepth 100000 in
theorem kedge_of (w : World) (p : Option Addr) (d : Ed) (x nx px : Int) (HN : ∀ W, Below w.heap.size w W → Calls Try.prog 43 #[.pointer p, .int .i64 x] W (IntSame W nx)) (HP : ∀ W, Below w.heap.size w W → Calls Try.prog 52 #[.pointer p, .int .i64 x] W (IntSame W px))
    (HV1 : ∀ W, Below w.heap.size w W → Calls Try.prog 50 #[.pointer p, .int .i64 nx] W (IntSame W d.1)) (HV2 : ∀ W, Below w.heap.size w W → Calls Try.prog 50 #[.pointer p, .int .i64 px] W (IntSame W d.2)) :
    Calls Try.prog 37 #[.pointer p, .int .i64 x] w (EdTold w d) := by
  obtain ⟨w2, hw2⟩ : ∃ w2, w.alloc (.cells #[.int .i64 0, .int .i64 0] 59) = w2 := ⟨_, rfl⟩
  obtain ⟨q, hq⟩ : ∃ q, w.heap.size = q := ⟨_, rfl⟩
  have b2 : Below w.heap.size w w2 := by rw [← hw2]; exact (Below.refl _ w).alloc (Nat.le_refl _) _
  have q2 : w2.heap[q]? = some (.cells #[.int .i64 0, .int .i64 0] 59 (0, 0)) := by rw [← hw2, ← hq]; exact heap_alloc_new w _
  have f0 := frozen_in q2 0
  have f1 := frozen_in q2 1
  have z0 := cell_in q2 0
  have z1 := cell_in q2 1
  simp only [List.getElem?_toArray, List.getElem?_cons_zero, List.getElem?_cons_succ] at z0 z1
  have KN := Lib.hid (HN w2 b2)
  have KP := Lib.hid (HP w2 b2)
  have K1 := Lib.hid (HV1 w2 b2)
  have K2 := Lib.hid (HV2 w2 b2)
  have Q2 := Lib.hid (And.intro q2 (And.intro b2 hq))
  clear b2 q2 HN HP HV1 HV2
  obtain ⟨d0, d1⟩ := d
  go_enter Try.func37, Try.ntmps37
  go_wp2_with fail
  refine KN.out.mono ?_
  rintro e w3 ⟨rfl, rfl⟩
  go_wp2_with fail
  refine K1.out.mono ?_
  rintro e w4 ⟨rfl, rfl⟩
  go_wp2_with fail
  refine KP.out.mono ?_
  rintro e w5 ⟨rfl, rfl⟩
  go_wp2_with fail
  refine K2.out.mono ?_
  rintro e w6 ⟨rfl, rfl⟩
  go_wp2_with fail
  refine bodyPost_ret (results_cell_row rfl _ _ q 59 #[.int .i64 d0, .int .i64 d1] (0, 0) _ rfl (set2 Q2.out.1) Try.underlying59 rfl (by kernel_rfl)) rfl ?_
  exact ⟨rfl, below_set2 Q2.out.2.1 (by have := Q2.out.2.2; omega) _ _⟩
theorem kedge_any (w : World) (g : Nat) (N : Int) (A : Option Addr) (n c : Nat) (vo vm vl : Value) (h : KB w g N A n c vo vm vl) (hn : n ≤ 1000000) (l : List Tr) (ht : T3 w A n l) (x : Int) : Calls Try.prog 37 #[.pointer (some ⟨g, 0, none⟩), .int .i64 x] w (EdTold w (edgI l n x)) :=
  kedge_of w _ _ x (nxtI n x) (prvI n x) (fun W b => knext_of W _ n hn (ktris_any W g N A n c vo vm vl (h.below b)) x) (fun W b => kprev_of W _ n hn (ktris_any W g N A n c vo vm vl (h.below b)) x)
    (fun W b => by rw [← vtx_nxtI]; exact kvertex_any W g N A n c vo vm vl (h.below b) hn l (ht.below b) _) (fun W b => by rw [← vtx_prvI]; exact kvertex_any W g N A n c vo vm vl (h.below b) hn l (ht.below b) _)
theorem nxtI_none (x : Int) : nxtI 0 x = -1 := by unfold nxtI; rw [if_neg fun h => by have := h.1; have := h.2; omega]
theorem prvI_none (x : Int) : prvI 0 x = -1 := by unfold prvI; rw [if_neg fun h => by have := h.1; have := h.2; omega]
theorem knext_nil (w : World) (x : Int) : Calls Try.prog 43 #[.pointer none, .int .i64 x] w (IntSame w (-1)) := by
  have := knext_of w none 0 (by omega) (ktris_nil w) x
  rwa [nxtI_none] at this
theorem kprev_nil (w : World) (x : Int) : Calls Try.prog 52 #[.pointer none, .int .i64 x] w (IntSame w (-1)) := by
  have := kprev_of w none 0 (by omega) (ktris_nil w) x
  rwa [prvI_none] at this
theorem kedge_nil (w : World) (x : Int) : Calls Try.prog 37 #[.pointer none, .int .i64 x] w (EdTold w (-1, -1)) :=
  kedge_of w none (-1, -1) x (-1) (-1) (fun W _ => knext_nil W x) (fun W _ => kprev_nil W x) (fun W _ => kvertex_nil W _) (fun W _ => kvertex_nil W _)
end Go.Proofs.Ytmflacmgffpjoaa

/- A list of triangles behind an empty row of one's own; rows of their own beside stores; witnesses compared (out of CrOwn). -/
namespace Go.Proofs.Ytmflacmgffpjoaa
open Go.RowKit

theorem run_append_zero (W : World) (ty : TypeId) (q c : Nat) (A : Option Addr) : (Builtin.append_ #[22, 22] ty #[.slice (some ⟨q, 0, none⟩) 0 0, .slice A 0 c]).run Try.prog W = .ok (.slice (some ⟨q, 0, none⟩) 0 0) W := by
  obtain ⟨i0, hi, hz0, hz1, hz2⟩ := info_parts Try.infoTri
  cases A <;> simp [Builtin.append_, run_underlying Try.underlying22, sizeOf, typeInfo, hi, Builtin.lenOf, Builtin.firstCells, loadCells, loadCellsFrom, storeCells]
theorem wpl_append0 {ops : Array Oper} {rest : List Oper} {o : Oper} {a : Act} {Q : Exit → Act → World → Prop} {w : World} (hgd : o.guard = none) (s x : Operand)
    (ho : o.op = .call { callee := .builtin .append, args := #[s, x], argTypes := #[22, 22] }) (q c : Nat) (A : Option Addr) (hs : a.eval s = .slice (some ⟨q, 0, none⟩) 0 0) (hx : a.eval x = .slice A 0 c)
    (h : wpList Try.prog ops Q rest (a.put o.dst (.slice (some ⟨q, 0, none⟩) 0 0)) w) : wpList Try.prog ops Q (o :: rest) a w :=
  wpList_plain hgd fun _ hK => by
    have hr := run_append_zero w o.type q c A
    unfold Oper.wp execOp
    simp only [ho, resolve, invoke, builtin, Sem.run_bind, Sem.run_pure, Result.andThen_ok, List.map_toArray, List.map_cons, List.map_nil, hs, hx, hr]
    exact hK _ _ h
theorem T3.flat {w : World} {b off n : Nat} {l : List Tr} (h : T3 w (some ⟨b, off, none⟩) n l) : ∀ j u, (ints (flat3 l))[j]? = some u → w.cell? ((⟨b, off, none⟩ : Addr).add j) = some u := by
  intro j u hj
  have hlt : j < (ints (flat3 l)).length := by
    rcases Nat.lt_or_ge j (ints (flat3 l)).length with h1 | h1
    · exact h1
    · rw [List.getElem?_eq_none h1] at hj; cases hj
  rw [length_ints, length_flat3] at hlt
  obtain ⟨b', off', e, hc⟩ := h.2 (by have := h.1; omega)
  injection e with e
  injection e with e1 e2
  subst e1 e2
  have hl := h.1
  obtain ⟨c0, c1, c2⟩ := hc (j / 3) (by omega)
  obtain ⟨a0, a1, a2⟩ := flat3_at l (j / 3) (by omega)
  rw [ints_at] at hj
  have hadd : (⟨b, off, none⟩ : Addr).add j = ⟨b, off + j, none⟩ := by simp [Addr.add]
  rw [hadd]
  rcases (show j = 3 * (j / 3) ∨ j = 3 * (j / 3) + 1 ∨ j = 3 * (j / 3) + 2 by omega) with e | e | e
  · rw [show off + j = off + j / 3 * 3 by omega, c0]
    rw [e, a0] at hj
    exact hj
  · rw [show off + j = off + j / 3 * 3 + 1 by omega, c1]
    rw [e, a1] at hj
    exact hj
  · rw [show off + j = off + j / 3 * 3 + 2 by omega, c2]
    rw [e, a2] at hj
    exact hj
theorem ints_one9 (xs : List Int) : ∀ u ∈ ints xs, u.oneCell' = true := by
  intro u hu
  unfold ints at hu
  obtain ⟨x, _, rfl⟩ := List.mem_map.1 hu
  rfl
theorem ownK9_set {W : World} {B n s r : Nat} {t t' : TypeId} {v : Value} {xs : List Value} {cs : Array Value} {fr : Nat × Nat} (h : W.ownsRow B t s v n xs) (hr : W.heap[r]? = some (.cells cs t' fr)) (ht : t ≠ t') (i : Nat) (u : Value) : (W.setCell ⟨r, i, none⟩ u).ownsRow B t s v n xs := by
  refine ⟨h.1, ?_⟩
  rcases h.2 with h2 | ⟨q, cap, cur, h1, hq, hh, hx⟩
  · exact .inl h2
  · refine .inr ⟨q, cap, cur, h1, hq, heap_far hh ?_ u, hx⟩
    intro e
    have e : q = r := e
    subst e
    rw [hh] at hr
    injection hr with hr
    injection hr with _ hr _
    exact ht hr
theorem neqW9 (w : World) (x0 x1 x2 y0 y1 y2 : Int) : (binOp .neq 61 (.agg #[.int .i64 x0, .int .i64 x1, .int .i64 x2]) (.agg #[.int .i64 y0, .int .i64 y1, .int .i64 y2])).run Try.prog w = .ok (.bool (!(x0 == y0 && (x1 == y1 && x2 == y2)))) w := by
  rw [run_neq_struct, eqInW w (x0, x1, x2) (y0, y1, y2)]; rfl
end Go.Proofs.Ytmflacmgffpjoaa

/- Layer 10: a table's methods that look up: the corner that faces an edge, the opposite one, the least one at a vertex. -/
namespace Go.Proofs.Ytmflacmgffpjoaa
open Go.RowKit

def lookL (L : List (Ed × Int)) (e : Ed) : Int := (lastV L e).getD (-1)
set_option maxHeartbeats 2000000 in
set_option maxRecDepth 100000 in
theorem kfacing_look (w : World) (g : Nat) (N : Int) (A : Option Addr) (n c b : Nat) (vo vl : Value) (L : List (Ed × Int)) (h : KB w g N A n c vo (.map (some b)) vl) (hm : MapL w b L) (e0 e1 : Int) (hw : wfE (e0, e1)) :
    Calls Try.prog 69 #[.pointer (some ⟨g, 0, none⟩), .agg #[.int .i64 e0, .int .i64 e1]] w (IntTold w (lookL L (e0, e1))) := by
  obtain ⟨w1, hw1⟩ : ∃ w1, w.alloc (.cells #[.int .i64 e0, .int .i64 e1] 59) = w1 := ⟨_, rfl⟩
  obtain ⟨q, hq⟩ : ∃ q, w.heap.size = q := ⟨_, rfl⟩
  have b1 : Below w.heap.size w w1 := by rw [← hw1]; exact (Below.refl _ w).alloc (Nat.le_refl _) _
  have q1 : w1.heap[q]? = some (.cells #[.int .i64 e0, .int .i64 e1] 59 (0, 0)) := by rw [← hw1, ← hq]; exact heap_alloc_new w _
  have z0 : w1.cell? ⟨q, 0, none⟩ = some (.int .i64 e0) := by rw [cell_in q1]; rfl
  have z1 : w1.cell? ⟨q, 1, none⟩ = some (.int .i64 e1) := by rw [cell_in q1]; rfl
  have c3 := (h.below b1).c3
  have hlk := fun s => (show MapL (w1.drewN s) b L from hm.kept (b1.block b hm.lt)).look (e0, e1) hw
  have B1 := Lib.hid b1
  obtain ⟨v, hv⟩ : ∃ v, lastV L (e0, e1) = v := ⟨_, rfl⟩
  simp only [hv] at hlk
  have HV := Lib.hid (show lookL L (e0, e1) = v.getD (-1) by unfold lookL; rw [hv])
  clear h hm hw b1 q1 hv
  go_enter Try.func69, Try.ntmps69
  go_wp2_with fail
  go_quiet (fail)
  have BD := Lib.hid (B1.out.trans (Reading.below (w := w1) (w' := w1.drewN nq) ⟨nq, rfl⟩))
  clear hlk
  cases v with
  | none =>
    simp only [Option.getD_none, Option.isSome_none] at *
    go_wp2
    go_ret
    exact ⟨by rw [HV.out]; rfl, BD.out⟩
  | some z =>
    simp only [Option.getD_some, Option.isSome_some] at *
    go_wp2
    go_ret
    exact ⟨by rw [HV.out]; rfl, BD.out⟩
set_option maxRecDepth 100000 in
theorem kfacing_nil (w : World) (e0 e1 : Int) : Calls Try.prog 69 #[.pointer none, .agg #[.int .i64 e0, .int .i64 e1]] w (IntTold w (-1)) := by
  have b1 := (Below.refl _ w).alloc (Nat.le_refl _) (.cells #[.int .i64 e0, .int .i64 e1] 59)
  have B1 := Lib.hid b1
  clear b1
  go_enter Try.func69, Try.ntmps69
  go_wp2
  go_ret
  exact ⟨rfl, B1.out⟩
def oppI (l : List Tr) (n : Nat) (x : Int) : Int := if IsC n x then oppC l x.toNat else -1
set_option maxHeartbeats 1000000 in
set_option maxRecDepth 100000 in
theorem kopp_row (w : World) (g : Nat) (N : Int) (A : Option Addr) (n c qo : Nat) (vm vl : Value) (l : List Tr) (h : KB w g N A n c (.slice (some ⟨qo, 0, none⟩) (3 * n) (3 * n)) vm vl) (hn : n ≤ 1000000) (ho : ∀ k, k < 3 * n → w.cell? ⟨qo, k, none⟩ = some (.int .i64 (oppC l k))) (x : Int) :
    Calls Try.prog 36 #[.pointer (some ⟨g, 0, none⟩), .int .i64 x] w (IntSame w (oppI l n x)) := by
  have K := Lib.hid (khas_any w g N A n c _ _ _ h hn x)
  have c2 := h.c2
  clear h
  by_cases hc : IsC n x
  · have HE := Lib.hid (show oppI l n x = oppC l x.toNat by unfold oppI; rw [if_pos hc])
    rw [decide_eq_true hc] at K
    obtain ⟨k, hk⟩ : ∃ k : Nat, x = (k : Int) := ⟨x.toNat, by have := hc.1; omega⟩
    subst hk
    have hb : (k : Int) < ((3 * n : Nat) : Int) := by have := hc.2; omega
    have h0 : 0 ≤ (k : Int) := by omega
    have c0 := ho k (by omega)
    rw [Int.toNat_natCast] at HE
    clear ho hc
    go_enter Try.func36, Try.ntmps36
    go_wp2_with fail
    refine K.out.mono ?_
    rintro e w1 ⟨rfl, rfl⟩
    go_wp2
    go_ret
    exact ⟨by rw [HE.out]; rfl, rfl⟩
  · have HE := Lib.hid (show oppI l n x = -1 by unfold oppI; rw [if_neg hc])
    rw [decide_eq_false hc] at K
    clear hc ho
    go_enter Try.func36, Try.ntmps36
    go_wp2_with fail
    refine K.out.mono ?_
    rintro e w1 ⟨rfl, rfl⟩
    go_wp2
    go_ret
    exact ⟨by rw [HE.out]; rfl, rfl⟩
set_option maxRecDepth 100000 in
theorem kopp_nil (w : World) (x : Int) : Calls Try.prog 36 #[.pointer none, .int .i64 x] w (IntSame w (-1)) := by
  have K := Lib.hid (khas_nil w x)
  go_enter Try.func36, Try.ntmps36
  go_wp2_with fail
  refine K.out.mono ?_
  rintro e w1 ⟨rfl, rfl⟩
  go_wp2
  go_ret
  exact ⟨rfl, rfl⟩
def corI (l : List Tr) (N v : Int) : Int := if 0 ≤ v ∧ v < N then cornerAt l v else -1
set_option maxHeartbeats 1000000 in
set_option maxRecDepth 100000 in
theorem kcorner_row (w : World) (g : Nat) (N : Int) (A : Option Addr) (n c ql : Nat) (vo vm : Value) (l : List Tr) (h : KB w g N A n c vo vm (.slice (some ⟨ql, 0, none⟩) N.toNat N.toNat)) (ho : ∀ k, k < N.toNat → w.cell? ⟨ql, k, none⟩ = some (.int .i64 (cornerAt l (k : Int)))) (x : Int) :
    Calls Try.prog 42 #[.pointer (some ⟨g, 0, none⟩), .int .i64 x] w (IntSame w (corI l N x)) := by
  have K := Lib.hid (kverts_any w g N A n c _ _ _ h)
  have c4 := h.c4
  clear h
  by_cases h0 : x < 0
  · have d0 : decide (x < 0) = true := by simpa using h0
    have HE := Lib.hid (show corI l N x = -1 by unfold corI; rw [if_neg fun h => by omega])
    clear h0 ho
    go_enter Try.func42, Try.ntmps42
    go_wp2_with fail
    go_ret
    exact ⟨by rw [HE.out]; rfl, rfl⟩
  · have d0 : decide (x < 0) = false := by simpa using h0
    by_cases h1 : x < N
    · have d1 : decide (x ≥ N) = false := by simpa using h1
      have HE := Lib.hid (show corI l N x = cornerAt l x by unfold corI; rw [if_pos ⟨by omega, h1⟩])
      obtain ⟨k, hk⟩ : ∃ k : Nat, x = (k : Int) := ⟨x.toNat, by omega⟩
      subst hk
      have hb : (k : Int) < ((N.toNat : Nat) : Int) := by omega
      have c0 := ho k (by omega)
      have h2 : 0 ≤ (k : Int) := by omega
      clear ho h0 h1
      go_enter Try.func42, Try.ntmps42
      go_wp2_with fail
      refine K.out.mono ?_
      rintro e w1 ⟨rfl, rfl⟩
      go_wp2
      go_ret
      exact ⟨by rw [HE.out]; rfl, rfl⟩
    · have d1 : decide (x ≥ N) = true := by simpa using h1
      have HE := Lib.hid (show corI l N x = -1 by unfold corI; rw [if_neg fun h => by omega])
      clear ho h0 h1
      go_enter Try.func42, Try.ntmps42
      go_wp2_with fail
      refine K.out.mono ?_
      rintro e w1 ⟨rfl, rfl⟩
      go_wp2
      go_ret
      exact ⟨by rw [HE.out]; rfl, rfl⟩
set_option maxRecDepth 100000 in
theorem kcorner_nil (w : World) (x : Int) : Calls Try.prog 42 #[.pointer none, .int .i64 x] w (IntSame w (-1)) := by
  have K := Lib.hid (kverts_nil w)
  by_cases h0 : x < 0
  · have d0 : decide (x < 0) = true := by simpa using h0
    clear h0
    go_enter Try.func42, Try.ntmps42
    go_wp2_with fail
    go_ret
    exact ⟨rfl, rfl⟩
  · have d0 : decide (x < 0) = false := by simpa using h0
    have d1 : decide (x ≥ 0) = true := by simp; omega
    clear h0
    go_enter Try.func42, Try.ntmps42
    go_wp2_with fail
    refine K.out.mono ?_
    rintro e w1 ⟨rfl, rfl⟩
    go_wp2
    go_ret
    exact ⟨rfl, rfl⟩
end Go.Proofs.Ytmflacmgffpjoaa

/- Layer 8: words for new soups: what is told, a list turned triangle by triangle. -/
namespace Go.Proofs.Ytmflacmgffpjoaa
open Go.RowKit

def NewTold (w : World) (N : Int) (l : List Tr) (e : Ending) (w' : World) : Prop := ∃ v, e = .returned v ∧ NewS w w' N l v

theorem range_map (l : List Tr) (f : Tr → Tr) {n : Nat} (hn : l.length = n) : (List.range n).map (fun i => f (l.getD i z3)) = l.map f := by
  subst hn
  apply List.ext_getElem?
  intro i
  by_cases h : i < l.length <;> simp [h]

end Go.Proofs.Ytmflacmgffpjoaa

/- Layer 10: a copy of a soup; a table's map, its opposite corners, its least corners; New. -/
namespace Go.Proofs.Ytmflacmgffpjoaa
open Go.RowKit

theorem cell_far1 {w : World} {g j r i : Nat} {u : Value} (h : g ≠ r) : (w.setCell ⟨r, i, none⟩ u).cell? ⟨g, j, none⟩ = w.cell? ⟨g, j, none⟩ := World.cell?_setCell_other _ _ _ _ (by intro e; simp only [Addr.mk.injEq] at e; omega)
theorem eqlIn_nilT (d : Nat) (w : World) (a : Option Addr) (n c : Nat) : (Op.equalIn (d + 1) 22 (.slice a n c) (.slice none 0 0)).run Try.prog w = .ok a.isNone w := by
  cases a <;> simp [Op.equalIn, run_underlying Try.underlying22]
theorem eql_nilT (w : World) (a : Option Addr) (n c : Nat) : (binOp .eql 22 (.slice a n c) (.slice none 0 0)).run Try.prog w = .ok (.bool a.isNone) w := by
  have h : (Op.equal 22 (.slice a n c) (.slice none 0 0)).run Try.prog w = .ok a.isNone w := eqlIn_nilT 9999 w a n c
  simp [binOp, h]
def CloneTold (w : World) (n : Nat) (l : List Tr) (e : Ending) (w' : World) : Prop := ∃ A c, e = .returned (.slice A n c) ∧ w'.ownsRow w.heap.size 53 3 (.slice A n c) n (ints (flat3 l)) ∧ Below w.heap.size w w'
set_option maxHeartbeats 2000000 in
set_option maxRecDepth 100000 in
theorem clone3_any (w : World) (A : Option Addr) (n c : Nat) (l : List Tr) (ht : T3 w A n l) (hn : n ≤ 1000000) : Calls Try.prog 68 #[.slice A n c] w (CloneTold w n l) := by
  have hq := eql_nilT w A n c
  cases A with
  | none =>
    have h0 : n = 0 := by
      rcases Nat.eq_zero_or_pos n with h | h
      · exact h
      · obtain ⟨b, o, e, _⟩ := ht.2 h; cases e
    subst h0
    have hl : l = [] := List.eq_nil_of_length_eq_zero ht.1
    subst hl
    simp only [Option.isNone_none] at hq
    clear ht
    go_enter Try.func68, Try.ntmps68
    go_wp2
    go_ret
    exact ⟨none, 0, rfl, ⟨rfl, .inl ⟨rfl, rfl⟩⟩, Below.refl _ _⟩
  | some ad =>
    simp only [Option.isNone_some] at hq
    obtain ⟨w1, hw1⟩ : ∃ w1, w.alloc (.cells #[] 53) = w1 := ⟨_, rfl⟩
    obtain ⟨q, hqq⟩ : ∃ q, w.heap.size = q := ⟨_, rfl⟩
    have b1 : Below w.heap.size w w1 := by rw [← hw1]; exact (Below.refl _ w).alloc (Nat.le_refl _) _
    have q1 : w1.heap[q]? = some (.cells #[] 53 (0, 0)) := by rw [← hw1, ← hqq]; exact heap_alloc_new w _
    have o1 : w1.ownsRow q 53 3 (.slice (some ⟨q, 0, none⟩) 0 0) 0 (ints (flat3 [])) := ⟨rfl, .inr ⟨q, 0, _, rfl, Nat.le_refl _, q1, Nat.le_refl _, by decide, rfl, rfl⟩⟩
    have hsz : q ≤ w1.heap.size := by rw [← hw1, World.size_alloc]; omega
    by_cases h0 : n = 0
    · subst h0
      have hl : l = [] := List.eq_nil_of_length_eq_zero ht.1
      subst hl
      have O1 := Lib.hid (And.intro o1 (And.intro b1 hqq))
      clear ht o1 b1 q1 hsz
      go_enter Try.func68, Try.ntmps68
      go_wp2_with (at_builtin; refine wpl_append0 rfl (.tmp 5) (.tmp 6) rfl q c (some ad) rfl rfl ?_)
      go_ret
      refine ⟨some ⟨q, 0, none⟩, 0, rfl, ?_, O1.out.2.1⟩
      rw [O1.out.2.2]
      exact O1.out.1
    · have HI := Lib.hid (info_parts Try.infoTri)
      obtain ⟨bA, off, e, _⟩ := ht.2 (by omega)
      injection e with e
      subst e
      obtain ⟨i0, hi, hz0, hz1, hz2⟩ := HI.out
      have t1 := Lib.hid (ht.below b1)
      have O1 := Lib.hid (And.intro o1 (And.intro b1 (And.intro hqq hsz)))
      clear ht o1 b1 q1 hsz
      go_enter Try.func68, Try.ntmps68
      go_wp2_with (at_builtin; refine wpList_append_lies _ rfl (.tmp 5) (.tmp 6) 22 rfl q 53 i0 (.agg #[.int .i64 0, .int .i64 0, .int .i64 0]) 3 24 Try.underlying22 hi hz0 hz1 hz2 rfl (by decide) (.slice (some ⟨q, 0, none⟩) 0 0) 0 (ints (flat3 [])) rfl O1.out.1 ⟨bA, off, none⟩ n c (ints (flat3 l)) rfl (by rw [length_ints, length_flat3]; have := t1.out.1; omega) t1.out.flat (ints_one9 _) (by omega) (by unfold maxLen; omega) (by omega) O1.out.2.2.2 _ rfl ?_)
      intro g9 cap9 w9 own9 gr9 _ _
      have own' : w9.ownsRow q 53 3 (.slice (some ⟨g9, 0, none⟩) n cap9) n (ints (flat3 l)) := own9
      have B9 := Lib.hid (And.intro own' (own_grown_below O1.out.2.1 gr9 O1.out.2.1.size (fun k hk => by have e : some q = some k := hk; injection e with e; have := O1.out.2.2.1; omega)))
      clear own9 own' gr9
      go_wp2
      go_ret
      refine ⟨some ⟨g9, 0, none⟩, cap9, rfl, ?_, B9.out.2⟩
      rw [O1.out.2.2.1]
      exact B9.out.1

set_option maxHeartbeats 4000000 in
set_option maxRecDepth 100000 in
theorem kcopied_any (w : World) (N : Int) (A : Option Addr) (n c : Nat) (l : List Tr) (ht : T3 w A n l) (hn : n ≤ 1000000) : Calls Try.prog 54 #[.agg #[.int .i64 N, .slice A n c]] w (NewTold w N l) := by
  obtain ⟨w1, hw1⟩ : ∃ w1, w.alloc (.cells #[.int .i64 N, .slice A n c] 24) = w1 := ⟨_, rfl⟩
  obtain ⟨g, hg⟩ : ∃ g, w.heap.size = g := ⟨_, rfl⟩
  have b1 : Below w.heap.size w w1 := by rw [← hw1]; exact (Below.refl _ w).alloc (Nat.le_refl _) _
  have x1 : Bx w1 g N A n c := by rw [← hw1, ← hg]; exact Bx.made w N A n c
  obtain ⟨w2, hw2⟩ : ∃ w2, w1.alloc (.cells #[.int .i64 0, .slice none 0 0] 24) = w2 := ⟨_, rfl⟩
  obtain ⟨rb, hrb⟩ : ∃ rb, w1.heap.size = rb := ⟨_, rfl⟩
  have b2 : Below w1.heap.size w1 w2 := by rw [← hw2]; exact (Below.refl _ w1).alloc (Nat.le_refl _) _
  have r2 : Bx w2 rb 0 none 0 0 := by rw [← hw2, ← hrb]; exact Bx.made w1 0 none 0 0
  have bd : Below w2.heap.size w2 w2.drew := Reading.below ⟨1, rfl⟩
  have b12 := up2 b1 b2
  have KC := Lib.hid (clone3_any w2.drew A n c l (ht.below (up2 b12 bd)) hn)
  have HS := Lib.hid (fun W (b : Below w2.heap.size w2 W) => (show W.cell? ⟨g, 0, none⟩ = some (.int .i64 N) ∧ W.cell? ⟨g, 1, none⟩ = some (.slice A n c) from ⟨((x1.below b2).below b).c0, ((x1.below b2).below b).c1⟩))
  have hd := HS.out w2.drew bd
  have R2 := Lib.hid (And.intro r2 (And.intro b12 (And.intro (show w.heap.size ≤ rb by rw [← hrb]; exact b1.size) (And.intro (show g < rb by rw [← hrb]; exact heap_lt x1) ht.1))))
  clear b1 x1 b2 r2 b12 ht
  go_enter Try.func54, Try.ntmps54
  go_wp2_with fail
  have SET := Lib.hid (fun W (b : Below w2.heap.size w2 W) (u v : Value) => (show ((W.setCell ⟨rb, 0, none⟩ u).setCell ⟨rb, 1, none⟩ v).cell? ⟨g, 0, none⟩ = some (.int .i64 N) ∧ ((W.setCell ⟨rb, 0, none⟩ u).setCell ⟨rb, 1, none⟩ v).cell? ⟨g, 1, none⟩ = some (.slice A n c) from by have hne := Nat.ne_of_lt R2.out.2.2.2.1; have h := HS.out W b; exact ⟨((cell_far1 hne).trans (cell_far1 hne)).trans h.1, ((cell_far1 hne).trans (cell_far1 hne)).trans h.2⟩))
  refine wp_region_noPanic ?_
  refine wp_region_held_drew (S := fun w' => w'.cell? ⟨g, 0, none⟩ = some (.int .i64 N) ∧ w'.cell? ⟨g, 1, none⟩ = some (.slice A n c)) (by kernel_rfl) hd (fun _ => ?_)
  refine wpAnyH_take (i := 0) (v := ?v0z1) rfl (by kernel_rfl) (by kernel_rfl) (by kernel_rfl) (fun _ _ _ h => h) (Or.inl ⟨by rfl, ?y0z1⟩) hd ?_
  case y0z1 => (intro w hSw; (try dsimp only at hSw); go_simp; try with_reducible rfl)
  simp only [Act.put, List.setIfInBounds_toArray, List.set_cons_zero, List.set_cons_succ, List.getElem_toArray, List.getElem_cons_zero]
  refine wpAnyH_take (i := 1) (v := ?v1z2) rfl (by kernel_rfl) (by kernel_rfl) (by kernel_rfl) (fun _ _ _ h => h) (Or.inl ⟨by rfl, ?y1z2⟩) hd ?_
  case y1z2 => (intro w hSw; (try dsimp only at hSw); go_simp; try with_reducible rfl)
  simp only [Act.put, List.setIfInBounds_toArray, List.set_cons_zero, List.set_cons_succ, List.getElem_toArray, List.getElem_cons_zero, List.getElem_cons_succ]
  refine wpAnyH_take (i := 2) (v := ?v2z3) rfl (by kernel_rfl) (by kernel_rfl) (by kernel_rfl) (fun _ _ _ h => h) (Or.inl ⟨by rfl, ?y2z3⟩) hd ?_
  case y2z3 => (intro w hSw; (try dsimp only at hSw); go_simp; try with_reducible rfl)
  simp only [Act.put, List.setIfInBounds_toArray, List.set_cons_zero, List.set_cons_succ, List.getElem_toArray, List.getElem_cons_zero, List.getElem_cons_succ]
  refine wpAnyH_take (i := 3) (v := ?v3z4) rfl (by kernel_rfl) (by kernel_rfl) (by kernel_rfl) (fun _ _ _ h => h) (Or.inl ⟨by rfl, ?y3z4⟩) hd ?_
  case y3z4 => (intro w hSw; (try dsimp only at hSw); go_simp; try with_reducible rfl)
  simp only [Act.put, List.setIfInBounds_toArray, List.set_cons_zero, List.set_cons_succ, List.getElem_toArray, List.getElem_cons_zero, List.getElem_cons_succ]
  refine wpAnyH_ready (rs := [4]) (by kernel_rfl) (by simp) ?_
  refine AllReadyH.cons rfl (fun K hK => ?_) AllReadyH.nil
  rw [if_pos (by rfl)]
  go_wp2_with fail
  refine KC.out.mono ?_
  rintro e w5 ⟨A', c', rfl, own5, b5⟩
  have d5 := up2 bd b5
  have r5 := R2.out.1.below d5
  have ZZ := Lib.hid (And.intro r5 (And.intro (up2 R2.out.2.1 d5) (ownK_base own5 (show w.heap.size ≤ w2.drew.heap.size from (up2 R2.out.2.1 bd).size))))
  have f0 := frozen_in r5 0
  have f1 := frozen_in r5 1
  have z0 := r5.c0
  have z1 := r5.c1
  clear own5 b5 r5
  go_wp2_with fail
  refine hK.out _ _ (HS.out _ d5) (fun _ => ?_)
  clear hK K
  try simp only [Act.put, List.setIfInBounds_toArray, List.set_cons_zero, List.set_cons_succ, List.getElem_toArray, List.getElem_cons_zero, List.getElem_cons_succ]
  refine wpAnyH_take (i := 5) (v := ?v5z5) rfl (by kernel_rfl) (by kernel_rfl) (by kernel_rfl) (fun _ _ _ h => h) (Or.inl ⟨by rfl, ?y5z5⟩) (HS.out _ d5) ?_
  case y5z5 => (intro w hSw; (try dsimp only at hSw); go_simp; try with_reducible rfl)
  simp only [Act.put, List.setIfInBounds_toArray, List.set_cons_zero, List.set_cons_succ, List.getElem_toArray, List.getElem_cons_zero, List.getElem_cons_succ]
  have hS6 : ((w5.setCell ⟨rb, 0, none⟩ (.int .i64 N)).setCell ⟨rb, 1, none⟩ (.slice A' n c')).cell? ⟨g, 0, none⟩ = some (.int .i64 N) ∧ ((w5.setCell ⟨rb, 0, none⟩ (.int .i64 N)).setCell ⟨rb, 1, none⟩ (.slice A' n c')).cell? ⟨g, 1, none⟩ = some (.slice A n c) := SET.out _ d5 _ _
  refine wpAnyH_ready (rs := [6]) (by kernel_rfl) (by simp) ?_
  refine AllReadyH.cons rfl (fun K hK => ?_) AllReadyH.nil
  go_simp
  refine hK.out _ _ hS6 (fun _ => ?_)
  clear hK K
  try simp only [Act.put, List.setIfInBounds_toArray, List.set_cons_zero, List.set_cons_succ, List.getElem_toArray, List.getElem_cons_zero, List.getElem_cons_succ]
  refine wpAnyH_done (by kernel_rfl) ?_ _
  refine NoPanic.normal ?_
  go_wp2_with fail
  have Z := ZZ.out
  refine bodyPost_ret (results_cell_row rfl _ _ rb 24 #[.int .i64 N, .slice A' n c'] (0, 0) _ rfl (set2 Z.1) Try.underlying24 rfl (by kernel_rfl)) rfl ?_
  have hl := R2.out.2.2.2.2
  subst hl
  refine ⟨_, rfl, A', c', rfl, ?_, below_set2 Z.2.1 R2.out.2.2.1 _ _⟩
  have o1 := ownK9_set Z.2.2 Z.1 (by decide) 0 (.int .i64 N)
  exact ownK9_set o1 (heap_set Z.1 0 (.int .i64 N)) (by decide) 1 (.slice A' l.length c')
end Go.Proofs.Ytmflacmgffpjoaa
