/- Texts laid one behind the other: CeTwice, CeIndex, CeMirP, CeMirr, CeLone. -/
import Derived.Test.YtmflacmgffpjoaaGC
import Derived.Test.YtmflacmgffpjoaaGM
import Derived.Deep.RegionHeld3
import Derived.Deep.DeepCutAuto
import Derived.Lib.MinMax
import Derived.Test.YtmflacmgffpjoaaGP
import Derived.BigQuiet
import Derived.StillTailTactics

/- Layer 9: the examiner of the kind Twice. -/
namespace Go.Proofs.Ytmflacmgffpjoaa
open Go.RowKit

theorem makeI9 (n : Nat) (hn : n ≤ 1000000) (W : World) : (Instr.makeSlice 40 (.int .i64 (n : Int)) (.int .i64 (n : Int))).run Try.prog W = .ok (.slice (some ⟨W.heap.size, 0, none⟩) n n) (W.alloc (.cells (ints (List.replicate n 0)).toArray 3)) := by
  obtain ⟨i0, hi, hz0, hz1, hz2⟩ := info_parts Try.infoInt
  have := run_make (P := Try.prog) W 40 3 i0 _ Try.underlying40 hi hz0 .i64 .i64 (n : Int) (n : Int) (by omega) (by omega) (by rw [hz2]; omega) (by omega)
  rw [this, hz1]
  have e : madeCells (Value.int .i64 0).cells ((n : Int).toNat * 1) = (ints (List.replicate n 0)).toArray := by
    apply Array.toList_inj.1
    rw [Nat.mul_one]
    show (madeCells #[Value.int .i64 0] n).toList = _
    rw [toList_madeCells_one]; simp [ints]
  rw [e]
  rfl
/-- The state while pairs are sought. -/
structure TwSt (S : Nat → Prop) (Inv : List Wt → World → Prop) (go : List Wt → Bool) (w wr : World) (mb wb : Nat) (F : Ed → Value) (L : List (Ed × Int)) (wl : List Int) (l : List Wt) : Prop where
  tri : TriSt S Inv go l w wr
  grp : Grp wr mb (wb + 1) L F
  row : wr.heap[wb]? = some (.cells (ints wl).toArray 3 (0, 0))
  b1 : w.heap.size ≤ mb
  b2 : mb < wb
section
variable {f : FuncId} {caps : List Value} {ws : List Wt} {go : List Wt → Bool} {S : Nat → Prop} {Inv : List Wt → World → Prop} {w wr w' : World} {mb wb : Nat} {F : Ed → Value} {L : List (Ed × Int)} {wl : List Int} {l : List Wt}
theorem TwSt.below (H : Taker f caps ws go S Inv) (h : TwSt S Inv go w wr mb wb F L wl l) (hb : Below wr.heap.size wr w') : TwSt S Inv go w w' mb wb F L wl l :=
  ⟨h.tri.below H hb, h.grp.below hb, (hb.block wb (heap_lt h.row)).trans h.row, h.b1, h.b2⟩
/-- One more triangle is marked. -/
theorem TwSt.mark (H : Taker f caps ws go S Inv) (hS : ∀ b, S b → b < w.heap.size) (h : TwSt S Inv go w wr mb wb F L wl l) (a : Nat) (v : Int) : TwSt S Inv go w (wr.setCell ⟨wb, a, none⟩ (.int .i64 v)) mb wb F L (wl.set a v) l := by
  have hb1 := h.b1
  have hb2 := h.b2
  refine ⟨h.tri.set H ⟨wb, a, none⟩ _ (show w.heap.size ≤ wb by omega) (fun hs => by have := hS _ hs; have : wb < w.heap.size := this; omega), h.grp.kept (S := fun b => b = wb) (.of_set wr _ _ rfl) (fun b e => by omega) (by omega), ?_, h.b1, h.b2⟩
  rw [heap_set h.row a _, ints_set]
  simp
/-- One more list is longer. -/
theorem TwSt.put (H : Taker f caps ws go S Inv) (hS : ∀ b, S b → b < w.heap.size) (h : TwSt S Inv go w wr mb wb F L wl l) {w1 w3 w4 : World} {d : Ed} (hd : wfE d) {v : Int} {v' : Value} (g1 : wr.grownBy w1 (some mb)) (s1 : w1.heap.size = wr.heap.size)
    (o3 : w3.ownsRow (wb + 1) 3 1 v' ((vals L d).length + 1) (ints (vals L d) ++ [.int .i64 v])) (g3 : w1.grownBy w3 (F d).ownBlock) (l3 : v'.ownBlock = (F d).ownBlock ∨ v'.ownBlock = some w1.heap.size)
    (g4 : w3.grownBy w4 (some mb)) (m4 : MapV w4 mb (L.length + 1) (fun f => if f = d then v' else F f)) (hmo : ∃ es clock, w3.heap[mb]? = some (.map es clock)) : TwSt S Inv go w w4 mb wb (fun f => if f = d then v' else F f) (L ++ [(d, v)]) wl l := by
  have hb1 := h.b1
  have hb2 := h.b2
  have hq1 : ∀ q, some mb = some q → w.heap.size ≤ q := fun q e => by have := Option.some.inj e; omega
  have hq3 : ∀ q, (F d).ownBlock = some q → w.heap.size ≤ q := fun q e => by have := (own_lt (h.grp.own d hd) q e).1; omega
  have hne : some wb ≠ some mb := fun e => by have := Option.some.inj e; omega
  refine ⟨((h.tri.grown H g1 hq1 hS).grown H g3 hq3 hS).grown H g4 hq1 hS, h.grp.put d hd v g1 s1 o3 g3 l3 g4 m4 hmo, ?_, h.b1, h.b2⟩
  have r1 := (g1.block wb (heap_lt h.row) hne).trans h.row
  have r3 := (g3.block wb (heap_lt r1) (fun e => by have := (own_lt (h.grp.own d hd) wb e.symm).1; omega)).trans r1
  exact (g4.block wb (heap_lt r3) hne).trans r3
/-- A witness was handed. -/
theorem TwSt.gone (hS : ∀ b, S b → b < w.heap.size) (h : TwSt S Inv go w wr mb wb F L wl l) {l' : List Wt} (hg : TriSt S Inv go l' w w') (hc : Chg S wr w') : TwSt S Inv go w w' mb wb F L wl l' := by
  have hb1 := h.b1
  have hb2 := h.b2
  exact ⟨hg, h.grp.kept hc (fun b hs => by have := hS b hs; omega) (fun hs => by have := hS _ hs; omega), (hc.far wb (heap_lt h.row) fun hs => by have := hS _ hs; omega).trans h.row, h.b1, h.b2⟩
end
/-- What is left when the pairs are told: the list, with its map of directed edges. -/
structure MapSeen (S : Nat → Prop) (B g : Nat) (N : Int) (A : Option Addr) (n c : Nat) (tl : List Tr) (b : Nat) (w : World) : Prop where
  lb : w.heap[g]? = some (.cells #[.int .i64 N, .slice A n c, .map (some b)] 88 (0, 0))
  mp : MapL w b (edL tl (3 * n))
  le : B ≤ b
def TwEnd (ws : List Wt) (go : List Wt → Bool) (S : Nat → Prop) (Inv : List Wt → World → Prop) (w : World) (g : Nat) (N : Int) (A : Option Addr) (n c : Nat) (tl : List Tr) (e : Ending) (w' : World) : Prop :=
  e = .returned (.tuple #[]) ∧ (∃ l, Handed ws go l ∧ Inv l w') ∧ Chg (fun b => S b ∨ b = g) w w' ∧ ∃ b, MapSeen S w.heap.size g N A n c tl b w'
theorem tw_end {ws : List Wt} {go : List Wt → Bool} {S : Nat → Prop} {Inv : List Wt → World → Prop} {w w1 w' : World} {g b : Nat} {N : Int} {A : Option Addr} {n c : Nat} {tl : List Tr} (h1 : EdSt w w1 g b N A n c (edL tl (3 * n))) (hS : ∀ b, S b → b < w.heap.size) (hg : ¬ S g) (hl : ∃ l, Handed ws go l ∧ Inv l w' ∧ Chg S w1 w') :
    TwEnd ws go S Inv w g N A n c tl (.returned (.tuple #[])) w' := by
  obtain ⟨l, h2, h3, h4⟩ := hl
  have hbw := h1.bw
  refine ⟨rfl, ⟨l, h2, h3⟩, (h1.chg.mono fun _ _ e => Or.inr e).trans (h4.mono fun _ _ e => Or.inl e), b, (h4.far g (heap_lt h1.lb) hg).trans h1.lb, h1.mp.kept (h4.far b h1.mp.lt fun hs => ?_), h1.bw⟩
  have := hS _ hs
  omega

def TwOut (S : Nat → Prop) (Inv : List Wt → World → Prop) (go : List Wt → Bool) (w : World) (mb wb n : Nat) (tl : List Tr) (i : Value) (wr : World) : Prop :=
  ∃ k : Nat, k ≤ n ∧ i = .int .i64 (k : Int) ∧ ∃ F wl, TwSt S Inv go w wr mb wb F (edL tl (3 * k)) wl (pairP 3 q9 tl k 0) ∧ Marks wl n k []
def TwK (S : Nat → Prop) (Inv : List Wt → World → Prop) (go : List Wt → Bool) (w : World) (mb wb n : Nat) (tl : List Tr) (k r : Nat) (x : Tr) (fr j : Value) (wr : World) : Prop :=
  ∃ m f0 : Nat, m ≤ 3 ∧ f0 ≤ k ∧ fr = .int .i64 (f0 : Int) ∧ j = .int .i64 (m : Int) ∧ (∃ F wl, TwSt S Inv go w wr mb wb F (edL tl (3 * k + m)) wl (pairP 3 q9 tl k 0) ∧ Marks wl n k (meets tl k m)) ∧ (∀ v ∈ meets tl k m, (f0 : Int) ≤ v) ∧ wr.heap[r]? = some (.cells #[.int .i64 x.1, .int .i64 x.2.1, .int .i64 x.2.2] 53 (0, 0)) ∧ wb < r
def TwI (S : Nat → Prop) (Inv : List Wt → World → Prop) (go : List Wt → Bool) (w : World) (mb wb n : Nat) (tl : List Tr) (k m r q : Nat) (x : Tr) (d : Ed) (F : Ed → Value) (len : Nat) (fr i : Value) (wr : World) : Prop :=
  ∃ j f0 : Nat, j ≤ len ∧ f0 ≤ k ∧ fr = .int .i64 (f0 : Int) ∧ i = .int .i64 (j : Int) ∧ (∃ wl, TwSt S Inv go w wr mb wb F (edL tl (3 * k + m)) wl (pairP 3 q9 tl k 0) ∧ Marks wl n k (meets tl k m ++ (vals (edL tl (3 * k + m)) d).take j)) ∧ (∀ v ∈ meets tl k m ++ (vals (edL tl (3 * k + m)) d).take j, (f0 : Int) ≤ v) ∧
    wr.heap[r]? = some (.cells #[.int .i64 x.1, .int .i64 x.2.1, .int .i64 x.2.2] 53 (0, 0)) ∧ wb < r ∧ wr.heap[q]? = some (.cells #[.int .i64 d.1, .int .i64 d.2] 59 (0, 0)) ∧ wb < q
def TwA (S : Nat → Prop) (Inv : List Wt → World → Prop) (go : List Wt → Bool) (w : World) (mb wb n : Nat) (tl : List Tr) (k : Nat) (i : Value) (wr : World) : Prop :=
  ∃ a : Nat, a ≤ k ∧ i = .int .i64 (a : Int) ∧ ∃ F wl, TwSt S Inv go w wr mb wb F (edL tl (3 * k + 3)) wl (pairP 3 q9 tl k a) ∧ Marks wl n k (meets tl k 3)
theorem row_cell {w : World} {wb : Nat} {wl : List Int} (h : w.heap[wb]? = some (.cells (ints wl).toArray 3 (0, 0))) (a : Nat) (ha : a < wl.length) : w.cell? ⟨wb, a, none⟩ = some (.int .i64 (wl.getD a 0)) := by
  rw [cell_in h, List.getElem?_toArray, ints_at, List.getD_eq_getElem?_getD, List.getElem?_eq_getElem ha]; rfl

/-- When the map of directed edges is made. -/
def TwCut (w : World) (g : Nat) (N : Int) (A : Option Addr) (n c : Nat) (tl : List Tr) (t : Value) (wr : World) : Prop := ∃ b, t = .bool (((keysL (edL tl (3 * n))).length : Int) == 3 * (n : Int)) ∧ EdSt w wr g b N A n c (edL tl (3 * n))
set_option maxHeartbeats 8000000 in
set_option maxRecDepth 100000 in
theorem ctwice_any {f : FuncId} {caps : List Value} {ws : List Wt} {go : List Wt → Bool} {S : Nat → Prop} {Inv : List Wt → World → Prop} (H : Taker f caps ws go S Inv) (w : World) (g : Nat) (N : Int) (A : Option Addr) (n c : Nat) (tl : List Tr) (hs : Seen S g N A n c none tl w) (hi : Inv [] w)
    (hws : ws = pairW 3 (fun t u => decide (twice t u)) tl) (hn : n ≤ 8192) (hN : N ≤ 4096) (hin : ∀ t ∈ tl, inN N t.1 ∧ inN N t.2.1 ∧ inN N t.2.2) (hA : 0 < n → ∀ b off, A = some ⟨b, off, none⟩ → b ≠ g) : Calls Try.prog 76 #[.pointer (some ⟨g, 0, none⟩), .func (.func f) #[] caps.toArray] w (TwEnd ws go S Inv w g N A n c tl) := by
  have hl := hs.t3.1
  have HW := Lib.hid (show ws = pairW 3 (fun t u => decide (twice t u)) tl from hws)
  have c1 := hs.c1
  have hen := H.enter
  have hSS := H.lt _ _ hi
  have K := Lib.hid (fun W (hW : Reading w W) => cedges_make W g N A n c tl (by obtain ⟨m, rfl⟩ := hW; exact hs.lb) (hs.t3.below hW.below) hn hN hin hA)
  have HS := Lib.hid hs
  have HI := Lib.hid hi
  have HSS := Lib.hid hSS
  have HIN := Lib.hid hin
  have HA := Lib.hid (show 0 < n → ∀ b off, A = some ⟨b, off, none⟩ → ¬ b = g from hA)
  have HL := Lib.hid hl
  have e3 : IntKind.i64.wrap (3 * (n : Int)) = 3 * (n : Int) := IntWalk.i64_in _ (by omega)
  have f1 : ∀ W, Chg (fun x => x = g) w W → ∀ b, W.heap[g]? = some (.cells #[.int .i64 N, .slice A n c, .map (some b)] 88 (0, 0)) → W.cell? ⟨g, 1, none⟩ = some (.slice A n c) := fun W _ b h => by rw [cell_in h]; rfl
  have HF := Lib.hid f1
  clear hs hi hws hl hSS hin hA f1
  go_enter Try.func76, Try.ntmps76
  go_upto_region 0 with fail
  go_cut [24] (TwCut w g N A n c tl)
  case first =>
    go_wp2_with fail
    go_region_with (go_at_call 80; refine (K.out _ ⟨1, rfl⟩).mono ?_; rintro e w5 ⟨b, rfl, s5⟩; have z6 : w5.cell? ⟨g, 1, none⟩ = some (.slice A n c) := by { rw [cell_in s5.lb]; rfl }; have hlen := fun ty => s5.mp.len ty)
    all_goals
      go_wp2_with fail
      go_meet
      exact ⟨b, rfl, s5.lb, s5.mp, s5.bw, s5.gb, (Chg.of_read ⟨1, rfl⟩).trans s5.chg⟩
  case rest =>
  obtain ⟨b, rfl, s6⟩ := hcut
  have z6 : wc.cell? ⟨g, 1, none⟩ = some (.slice A n c) := by rw [cell_in s6.lb]; rfl
  have S6 := Lib.hid s6
  have i5 : Inv [] wc := H.keep _ _ _ HI.out fun b' hb' => s6.chg.far b' (HSS.out b' hb') (fun e => HS.out.ng (e ▸ hb'))
  have T5 := Lib.hid (TriSt.mk i5 (AllGo.nil go) (Chg.refl S wc))
  have H5 := Lib.hid (show T3 wc A n tl from HS.out.t3.chg s6.chg HA.out)
  have HS5 := Lib.hid (show ∀ b', S b' → b' < wc.heap.size from fun b' hb' => Nat.lt_of_lt_of_le (HSS.out b' hb') s6.chg.size)
  clear s6 i5 c1
  by_cases hfull : (keysL (edL tl (3 * n))).length = 3 * n
  · have t1 : (((keysL (edL tl (3 * n))).length : Int) == 3 * (n : Int)) = true := by rw [hfull]; simp
    have HFu := Lib.hid hfull
    clear hfull
    go_wp2
    refine bodyPost_ret (results_none rfl _ _ _) rfl ?_
    exact tw_end S6.out HSS.out HS.out.ng ⟨[], .inl ⟨by rw [HW.out]; exact (full_none (by rw [HL.out]; exact HFu.out)).symm, AllGo.nil _⟩, T5.out.inv, T5.out.chg⟩
  have t1 : (((keysL (edL tl (3 * n))).length : Int) == 3 * (n : Int)) = false := by simp; omega
  clear hfull
  have hmm := @run_makeMap Try.prog
  have hmi := fun W => makeI9 n (by omega) W
  obtain ⟨mb, hmb⟩ : ∃ mb, wc.heap.size = mb := ⟨_, rfl⟩
  obtain ⟨w6, hw6⟩ : ∃ w6, wc.alloc (.map #[] 0) = w6 := ⟨_, rfl⟩
  obtain ⟨wb, hwb⟩ : ∃ wb, w6.heap.size = wb := ⟨_, rfl⟩
  obtain ⟨w7, hw7⟩ : ∃ w7, w6.alloc (.cells (ints (List.replicate n 0)).toArray 3) = w7 := ⟨_, rfl⟩
  have b6 : Below wc.heap.size wc w6 := by rw [← hw6]; exact (Below.refl _ wc).alloc (Nat.le_refl _) _
  have b7 : Below w6.heap.size w6 w7 := by rw [← hw7]; exact (Below.refl _ w6).alloc (Nat.le_refl _) _
  have t7 : TwSt S Inv go wc w7 mb wb (fun _ => .slice none 0 0) [] (List.replicate n 0) [] := by
    have g6 : Grp w6 mb (wb + 1) [] (fun _ => .slice none 0 0) := by rw [← hw6, ← hmb]; exact Grp.made wc _
    refine ⟨T5.out.below H (b6.trans (b7.mono b6.size)), g6.below b7, by rw [← hw7, ← hwb]; exact heap_alloc_new w6 _, by omega, ?_⟩
    rw [← hwb, ← hmb, ← hw6, World.size_alloc]; omega
  have z7 : w7.cell? ⟨g, 1, none⟩ = some (.slice A n c) := ((b6.trans (b7.mono b6.size)).cell (p := ⟨g, 1, none⟩) (heap_lt S6.out.lb)).trans z6
  have z66 : w6.cell? ⟨g, 1, none⟩ = some (.slice A n c) := (b6.cell (p := ⟨g, 1, none⟩) (heap_lt S6.out.lb)).trans z6
  have T7 := Lib.hid t7
  clear t7 b6 b7
  go_wp2_with fail
  clear hmm hmi hw7 hwb hw6 hmb z66 z6 t1 e3
  obtain ⟨i0, hi0, hz0, hz1, hz2⟩ := info_parts Try.infoInt
  have HZ := Lib.hid (And.intro hi0 (And.intro hz0 (And.intro hz1 hz2)))
  clear hi0 hz0 hz1 hz2
  go_loopw [39] (TwOut S Inv go wc mb wb n tl) (fun i _ => n - (intOf i).toNat)
  case atStart => exact ⟨0, Nat.zero_le _, rfl, _, _, T7.out, Marks.start n⟩
  case round =>
    obtain ⟨k, hk, rfl, F, wl, hst, hmk⟩ := hrel
    have HST := Lib.hid (And.intro hst hmk)
    clear hst hmk
    by_cases hlt : k < n
    case neg =>
      obtain rfl : k = n := by omega
      have b1 : ¬ (k : Int) < k := by omega
      go_wp2
      refine bodyPost_ret (results_none rfl _ _ _) rfl ?_
      exact tw_end S6.out HSS.out HS.out.ng ⟨_, .inl ⟨by rw [HW.out, ← HL.out, pairP_all], HST.out.1.tri.all⟩, HST.out.1.tri.inv, HST.out.1.tri.chg⟩
    have b1 : (k : Int) < n := by omega
    obtain ⟨bA, off, rfl, hat⟩ := (H5.out.chg HST.out.1.tri.chg HS.out.nA).2 (by omega)
    obtain ⟨c0, c1, c2⟩ := hat k hlt
    clear hat
    obtain ⟨x, hx⟩ : ∃ x, tl.getD k z3 = x := ⟨_, rfl⟩
    rw [hx] at c0 c1 c2
    have hinx := HIN.out _ (show x ∈ tl by rw [← hx]; exact getD3_mem (by rw [HL.out]; exact hlt))
    have HX := Lib.hid (And.intro hx hinx)
    clear hx hinx
    obtain ⟨x0, x1, x2⟩ := x
    obtain ⟨w8, hw8⟩ : ∃ w8, wr.alloc (.cells #[.int .i64 x0, .int .i64 x1, .int .i64 x2] 53) = w8 := ⟨_, rfl⟩
    have b8 : Below wr.heap.size wr w8 := by rw [← hw8]; exact (Below.refl _ wr).alloc (Nat.le_refl _) _
    obtain ⟨r, hr⟩ : ∃ r, wr.heap.size = r := ⟨_, rfl⟩
    have r0 : w8.heap[r]? = some (.cells #[.int .i64 x0, .int .i64 x1, .int .i64 x2] 53 (0, 0)) := by rw [← hw8, ← hr]; exact heap_alloc_new wr _
    have hwr : wb < r := by rw [← hr]; exact heap_lt HST.out.1.row
    have T8 := Lib.hid (And.intro (HST.out.1.below H b8) (And.intro r0 hwr))
    have HM := Lib.hid HST.out.2
    clear b8 r0 hwr
    go_wp2_with fail
    clear hw8 hr c0 c1 c2
    go_loopw [8, 45] (TwK S Inv go wc mb wb n tl k r (x0, x1, x2)) (fun _ j _ => 3 - (intOf j).toNat)
    case atStart => exact ⟨0, k, by omega, Nat.le_refl _, rfl, rfl, ⟨_, _, T8.out.1, HM.out⟩, fun v hv => (nomatch hv), T8.out.2⟩
    case round =>
      obtain ⟨m, f0, hm, hf0, rfl, rfl, ⟨F1, wl1, hst1, hmk1⟩, hfr, r0, hwr⟩ := hrel
      have HK := Lib.hid (And.intro hst1 (And.intro hmk1 (And.intro hfr (And.intro r0 hwr))))
      clear hst1 hmk1 hfr
      by_cases hm3 : m < 3
      case neg =>
        obtain rfl : m = 3 := by omega
        clear r0 hwr
        go_wp2_with fail
        go_loopw [13] (TwA S Inv go wc mb wb n tl k) (fun i _ => k - (intOf i).toNat)
        case atStart =>
          refine ⟨f0, hf0, rfl, F1, wl1, ?_, HK.out.2.1⟩
          rw [pairP_skip (a := f0) fun i hi => decide_eq_false fun ht => by
            have := HK.out.2.2.1 _ ((meets_twice (show i < k by omega)).2 ht)
            omega]
          exact HK.out.1
        case round =>
          obtain ⟨a, ha, rfl, F2, wl2, hst2, hmk2⟩ := hrel
          by_cases hak : a < k
          case neg =>
            obtain rfl : a = k := by omega
            have HA2 := Lib.hid (And.intro hst2 hmk2)
            clear hst2 hmk2
            have b2 : ¬ (a : Int) < a := by omega
            go_wp2_with fail
            refine ⟨⟨_, _, _, _, _, _, _, _, ?_, rfl, rfl, rfl, rfl, rfl, rfl, rfl, rfl⟩, by simp [intOf]; omega⟩
            refine ⟨a + 1, by omega, by go_num, F2, wl2, ?_, HA2.out.2.next⟩
            rw [pairP_next, Nat.mul_add]
            exact HA2.out.1
          have b2 : (a : Int) < k := by omega
          have y0 := row_cell hst2.row a (by rw [hmk2.len]; omega)
          have hiff := (hmk2.iff a hak (by omega)).trans (meets_twice hak)
          have b3 : (a : Int) < n := by omega
          have hlen2 := hmk2.len
          obtain ⟨y, hy⟩ : ∃ y, wl2.getD a 0 = y := ⟨_, rfl⟩
          rw [hy] at y0 hiff
          have HA2 := Lib.hid (And.intro hst2 (And.intro hmk2 hiff))
          clear hst2 hmk2 hiff hlen2 hy
          by_cases hyk : y = (k : Int)
          · have t2 : (y == (k : Int)) = true := by simpa using hyk
            have e1 : pairP 3 q9 tl k (a + 1) = pairP 3 q9 tl k a ++ [(3, (a : Int), (k : Int))] := pairP_yes (decide_eq_true (HA2.out.2.2.1 hyk))
            have hc := HA2.out.1.tri.hand H e1 (by rw [HW.out]; exact pairP_in (by omega) (by rw [HL.out]; omega))
            obtain ⟨bb, hb⟩ : ∃ bb, go (pairP 3 q9 tl k (a + 1)) = bb := ⟨_, rfl⟩
            rw [hb] at hc
            have HC := Lib.hid hc
            clear hc hb e1 hyk
            go_wp2_with fail
            refine HC.out.mono ?_
            rintro e w9 ⟨rfl, hy, hn, hstep⟩
            have HY := Lib.hid (And.intro hy (And.intro hn hstep))
            clear hy hn hstep
            cases bb
            · go_wp2_with fail
              refine bodyPost_ret (results_none rfl _ _ _) rfl ?_
              exact tw_end S6.out HSS.out HS.out.ng (HY.out.2.1 (by trivial))
            · go_wp2_with fail
              exact ⟨⟨a + 1, by omega, by go_num, F2, wl2, HA2.out.1.gone HS5.out (HY.out.1 (by trivial)) HY.out.2.2, HA2.out.2.1⟩, by simp [intOf]; omega⟩
          · have t2 : (y == (k : Int)) = false := by simpa using hyk
            have HNy := Lib.hid hyk
            clear hyk
            go_wp2_with fail
            refine ⟨⟨a + 1, by omega, by go_num, F2, wl2, ?_, HA2.out.2.1⟩, by simp [intOf]; omega⟩
            rw [pairP_no (decide_eq_false fun ht => HNy.out (HA2.out.2.2.2 ht))]
            exact HA2.out.1
      have m1 : (m : Int) < 3 := by omega
      have q0 : wr.cell? ⟨r, 0, none⟩ = some (.int .i64 x0) := by rw [cell_in r0]; rfl
      have q1 : wr.cell? ⟨r, 1, none⟩ = some (.int .i64 x1) := by rw [cell_in r0]; rfl
      have q2 : wr.cell? ⟨r, 2, none⟩ = some (.int .i64 x2) := by rw [cell_in r0]; rfl
      clear r0 hwr
      have K2 := Lib.hid (cedge_any wr x0 x1 x2 m hm3)
      go_wp2_with fail
      refine K2.out.mono ?_
      rintro e w9 ⟨rfl, b9⟩
      have R9 := Lib.hid (show w9.heap[r]? = some (.cells #[.int .i64 x0, .int .i64 x1, .int .i64 x2] 53 (0, 0)) ∧ wb < r from ⟨(b9.block r (heap_lt HK.out.2.2.2.1)).trans HK.out.2.2.2.1, HK.out.2.2.2.2⟩)
      have T9 := Lib.hid (HK.out.1.below H b9)
      have hwf := edE_wf (x := (x0, x1, x2)) HX.out.2 hN m
      obtain ⟨d, hd⟩ : ∃ d, edE (x0, x1, x2) m = d := ⟨_, rfl⟩
      rw [hd] at hwf
      have HD := Lib.hid (And.intro hd hwf)
      simp only [hd]
      clear hd b9 q0 q1 q2
      obtain ⟨d0, d1⟩ := d
      obtain ⟨w10, hw10⟩ : ∃ w10, w9.alloc (.cells #[.int .i64 d0, .int .i64 d1] 59) = w10 := ⟨_, rfl⟩
      have b10 : Below w9.heap.size w9 w10 := by rw [← hw10]; exact (Below.refl _ w9).alloc (Nat.le_refl _) _
      obtain ⟨q, hq⟩ : ∃ q, w9.heap.size = q := ⟨_, rfl⟩
      have e0 : w10.heap[q]? = some (.cells #[.int .i64 d0, .int .i64 d1] 59 (0, 0)) := by rw [← hw10, ← hq]; exact heap_alloc_new w9 _
      have hwq : wb < q := by rw [← hq]; exact heap_lt T9.out.row
      have T10 := Lib.hid (T9.out.below H b10)
      have R10 := Lib.hid (And.intro ((b10.block r (heap_lt R9.out.1)).trans R9.out.1) (And.intro R9.out.2 (And.intro e0 hwq)))
      obtain ⟨A2, c2, hFd, _, _⟩ := T10.out.grp.form (d0, d1) hwf
      have hlk := T10.out.grp.mp.look (d0, d1) hwf
      rw [hFd] at hlk
      simp only at hlk
      have E0 : w10.cell? ⟨q, 0, none⟩ = some (.int .i64 d0) := by rw [cell_in e0]; rfl
      have E1 : w10.cell? ⟨q, 1, none⟩ = some (.int .i64 d1) := by rw [cell_in e0]; rfl
      obtain ⟨len, hlen⟩ : ∃ len, (vals (edL tl (3 * k + m)) (d0, d1)).length = len := ⟨_, rfl⟩
      rw [hlen] at hlk hFd
      have hle := vals_le (edL tl (3 * k + m)) (d0, d1)
      rw [hlen, edL_len] at hle
      have HFd := Lib.hid (And.intro hFd hlen)
      clear hFd hlen b10 e0 hwq hwf
      go_wp2_with fail
      clear hw10 hq hlk E0 E1
      go_loopw [8, 55] (TwI S Inv go wc mb wb n tl k m r q (x0, x1, x2) (d0, d1) F1 len) (fun _ i _ => len - (intOf i).toNat)
      case atStart => exact ⟨0, f0, Nat.zero_le _, hf0, rfl, rfl, ⟨wl1, T10.out, by rw [List.take_zero, List.append_nil]; exact HK.out.2.1⟩, by rw [List.take_zero, List.append_nil]; exact HK.out.2.2.1, R10.out⟩
      case round =>
        obtain ⟨j, f1, hj, hf1, rfl, rfl, ⟨wl2, hst2, hmk2⟩, hfr2, r0, hwr, e0, hwq⟩ := hrel
        have HI2 := Lib.hid (And.intro hst2 (And.intro hmk2 (And.intro hfr2 (And.intro r0 (And.intro hwr (And.intro e0 hwq))))))
        clear hfr2 hmk2
        by_cases hjl : j < len
        · have m2 : (j : Int) < len := by omega
          obtain ⟨A3, c3, hF3, _, rd⟩ := hst2.grp.form (d0, d1) HD.out.2
          rw [HFd.out.1, HFd.out.2] at hF3
          injection hF3 with hA3 _ _
          subst hA3
          obtain ⟨ad, rfl, ca⟩ := rd.int j (by rw [HFd.out.2]; exact hjl)
          have hv := List.getD_eq_getElem?_getD (l := vals (edL tl (3 * k + m)) (d0, d1)) (i := j) (a := (0 : Int))
          have hvm : (vals (edL tl (3 * k + m)) (d0, d1)).getD j 0 ∈ vals (edL tl (3 * k + m)) (d0, d1) := by
            rw [hv, List.getElem?_eq_getElem (by rw [HFd.out.2]; exact hjl)]; exact List.getElem_mem _
          obtain ⟨v, k2, hk2, hm2, _, hvv⟩ := edL_mem.1 (mem_vals.1 hvm)
          rw [hvv] at ca
          have hvk : v ≤ k := by omega
          have htk : (vals (edL tl (3 * k + m)) (d0, d1)).take (j + 1) = (vals (edL tl (3 * k + m)) (d0, d1)).take j ++ [(v : Int)] := by
            rw [List.take_succ_eq_append_getElem (by rw [HFd.out.2]; exact hjl), ← hvv, hv, List.getElem?_eq_getElem (by rw [HFd.out.2]; exact hjl)]; rfl
          have y0 := row_cell hst2.row v (by rw [HI2.out.2.1.len]; omega)
          have y1 := frozen_in hst2.row v
          have m3 : (v : Int) < n := by omega
          have m4 : 0 ≤ (v : Int) := by omega
          obtain ⟨w11, hw11⟩ : ∃ w11, wr.setCell ⟨wb, v, none⟩ (.int .i64 (k : Int)) = w11 := ⟨_, rfl⟩
          have T11 := hst2.mark H HS5.out v (k : Int)
          have M11 := HI2.out.2.1.set (x := v) (by omega)
          have r11 := heap_far r0 (p := ⟨wb, v, none⟩) (show r ≠ wb by omega) (.int .i64 (k : Int))
          have e11 := heap_far e0 (p := ⟨wb, v, none⟩) (show q ≠ wb by omega) (.int .i64 (k : Int))
          rw [hw11] at T11 r11 e11
          have hmin : min (f1 : Int) (v : Int) = ((min f1 v : Nat) : Int) := by omega
          have N11 := Lib.hid (And.intro T11 (And.intro M11 (And.intro r11 (And.intro e11 (And.intro htk hmin)))))
          clear T11 M11 r11 e11 htk hmin hst2 r0 e0 rd hvm hvv hv hm2
          go_wp2_with fail
          refine ⟨⟨j + 1, min f1 v, by omega, by omega, by rw [N11.out.2.2.2.2.2], by go_num, ⟨_, N11.out.1, ?_⟩, ?_, N11.out.2.2.1, HI2.out.2.2.2.2.1, N11.out.2.2.2.1, HI2.out.2.2.2.2.2.2⟩, by simp [intOf]; omega⟩
          · rw [N11.out.2.2.2.2.1, ← List.append_assoc]
            exact N11.out.2.1
          · intro u hu
            rw [N11.out.2.2.2.2.1, ← List.append_assoc, List.mem_append, List.mem_singleton] at hu
            rcases hu with hu | hu
            · have := HI2.out.2.2.1 u hu
              omega
            · omega
        · obtain rfl : j = len := by omega
          have m2 : ¬ (j : Int) < j := by omega
          have E0 : wr.cell? ⟨q, 0, none⟩ = some (.int .i64 d0) := by rw [cell_in e0]; rfl
          have E1 : wr.cell? ⟨q, 1, none⟩ = some (.int .i64 d1) := by rw [cell_in e0]; rfl
          obtain ⟨p, hp⟩ : ∃ p, wr.heap.size = p := ⟨_, rfl⟩
          obtain ⟨w11, hw11⟩ : ∃ w11, wr.alloc (.cells #[.int .i64 (k : Int)] 3) = w11 := ⟨_, rfl⟩
          have b11 : Below wr.heap.size wr w11 := by rw [← hw11]; exact (Below.refl _ wr).alloc (Nat.le_refl _) _
          have p11 : w11.heap[p]? = some (.cells #[.int .i64 (k : Int)] 3 (0, 0)) := by rw [← hw11, ← hp]; exact heap_alloc_new wr _
          have t11 := hst2.below H b11
          have hb1 := t11.b1
          have hb2 := t11.b2
          obtain ⟨st, w12, hrun, g12, s12, ob12, hstore⟩ := t11.grp.mp.entry (d0, d1) HD.out.2 (by rw [edL_len]; unfold maxLen; omega)
          rw [HFd.out.1] at hrun
          have own11 := t11.grp.own (d0, d1) HD.out.2
          have notmb : (F1 (d0, d1)).ownBlock ≠ some mb := fun hq => by
            obtain ⟨_, _, cur, hc⟩ := own_lt own11 mb hq
            obtain ⟨es, clock, hm⟩ := t11.grp.mp.obj
            rw [hm] at hc
            cases hc
          have own12 := own11.kept g12 (.inr notmb)
          rw [HFd.out.1, HFd.out.2] at own12
          have p12 : w12.heap[p]? = some (.cells #[.int .i64 (k : Int)] 3 (0, 0)) := (g12.block p (heap_lt p11) (fun e => by have := Option.some.inj e; have := t11.grp.mp.lt; have := t11.b2; have := heap_lt hst2.row; omega)).trans p11
          have hin := Lib.hid (show wb + 1 ≤ w12.heap.size by have := heap_lt t11.row; omega)
          have O12 := Lib.hid own12
          have P12 := Lib.hid p12
          have T11 := Lib.hid (And.intro t11 (And.intro g12 (And.intro s12 (And.intro ob12 notmb))))
          have HSt := Lib.hid hstore
          have HM2 := Lib.hid (And.intro HI2.out.2.1 (And.intro HI2.out.2.2.1 (And.intro ((b11.block r (heap_lt r0)).trans r0) hwr)))
          have hrun' : (Instr.mapEntry 96 (.map (some mb)) (.agg #[.int .i64 d0, .int .i64 d1])).run Try.prog w11 = .ok (.tuple #[.slice A2 j c2, .int .i64 (st : Int)]) w12 := hrun
          clear hrun own11 own12 p11 p12 t11 g12 s12 ob12 hstore hst2 b11 r0 e0 hb1 hb2 notmb
          go_wp2_with (at_builtin; refine wpList_append_own_at _ rfl (.tmp 69) (.tmp 71) 40 rfl (wb + 1) 3 i0 (.int .i64 0) 1 8 Try.underlying40 HZ.out.1 HZ.out.2.1 HZ.out.2.2.1 HZ.out.2.2.2 rfl (by decide) (.slice A2 j c2) j (ints (vals (edL tl (3 * k + m)) (d0, d1))) rfl O12.out ⟨p, 0, none⟩ 1 1 [.int .i64 (k : Int)] rfl rfl (fun j' u hu => by rw [add_zero_addr, cell_in P12.out]; simpa using hu) (fun u hu => by simp at hu; subst hu; rfl) ?h63 ?hby hin.out ?_)
          case h63 => unfold maxLen; omega
          case hby => omega
          intro v' w13 own13 g13 _ loc13
          have hFo : (F1 (d0, d1)).ownBlock = (Value.slice A2 j c2).ownBlock := by rw [HFd.out.1]
          obtain ⟨t11, g12, s12, ⟨es, clock, ob12⟩, notmb⟩ := T11.out
          have hm13 := g13.block mb (by have := t11.grp.mp.lt; omega) (fun e => notmb (hFo.trans e.symm))
          obtain ⟨w14, hrun14, g14, s14, m14⟩ := HSt.out w13 v' hm13
          have own13' : w13.ownsRow (wb + 1) 3 1 v' ((vals (edL tl (3 * k + m)) (d0, d1)).length + 1) (ints (vals (edL tl (3 * k + m)) (d0, d1)) ++ [.int .i64 (k : Int)]) := by rw [HFd.out.2]; exact own13
          have T14 := t11.put H HS5.out HD.out.2 g12 s12 own13' (by rw [hFo]; exact g13) (by rw [hFo]; exact loc13) g14 m14 ⟨es, clock, hm13.trans ob12⟩
          have hrm : some r ≠ some mb := fun e => by have := Option.some.inj e; have := t11.b2; have := HM2.out.2.2.2; omega
          have r12 := (g12.block r (heap_lt HM2.out.2.2.1) hrm).trans HM2.out.2.2.1
          have r13 := (g13.block r (heap_lt r12) (fun e => by
            obtain ⟨_, _, cur, hc⟩ := own_lt O12.out r e.symm
            rw [r12] at hc
            injection hc with hc
            injection hc with _ hc _
            exact absurd hc (by decide))).trans r12
          have r14 := (g14.block r (heap_lt r13) hrm).trans r13
          have F14 := Lib.hid (And.intro T14 r14)
          have hrun' : (Instr.entryStore 96 (.map (some mb)) (.int .i64 (st : Int)) v').run Try.prog w13 = .ok () w14 := hrun14
          clear hFo t11 g12 s12 ob12 notmb hm13 hrun14 g14 s14 m14 own13 own13' g13 loc13 T14 hrm r12 r13 r14
          go_wp2_with fail
          have hme : meets tl k (m + 1) = meets tl k m ++ (vals (edL tl (3 * k + m)) (d0, d1)).take j := by
            show meets tl k m ++ vals (edL tl (3 * k + m)) (edE (tl.getD k z3) m) = _
            rw [HX.out.1, HD.out.1, List.take_of_length_le (by rw [HFd.out.2]; exact Nat.le_refl _)]
          have T15 : TwSt S Inv go wc w14 mb wb (fun f => if f = (d0, d1) then v' else F1 f) (edL tl (3 * k + (m + 1))) wl2 (pairP 3 q9 tl k 0) := by
            rw [← Nat.add_assoc, edL_succ tl k m hm3, HX.out.1, HD.out.1]
            exact F14.out.1
          exact ⟨⟨m + 1, f1, by omega, hf1, rfl, by go_num, ⟨_, _, T15, by rw [hme]; exact HM2.out.1⟩, by rw [hme]; exact HM2.out.2.1, F14.out.2, HM2.out.2.2.2⟩, by simp [intOf]; omega⟩
end Go.Proofs.Ytmflacmgffpjoaa

/- Layer 9: slices.Index and slices.Contains of ints. -/
namespace Go.Proofs.Ytmflacmgffpjoaa
open Go.RowKit

/-- Where x stands first, or -1. -/
def FirstAt (l : List Int) (x k : Int) : Prop := (∃ i : Nat, k = (i : Int) ∧ i < l.length ∧ l.getD i 0 = x ∧ ∀ j, j < i → l.getD j 0 ≠ x) ∨ (k = -1 ∧ x ∉ l)
def IndexTold (w : World) (l : List Int) (x : Int) (e : Ending) (w' : World) : Prop := ∃ k : Int, e = .returned (.int .i64 k) ∧ FirstAt l x k ∧ w = w'
def IndexAt9 (w : World) (n : Nat) (l : List Int) (x : Int) (i : Value) (wr : World) : Prop := w = wr ∧ ∃ k : Nat, k ≤ n ∧ i = .int .i64 (k : Int) ∧ ∀ j, j < k → l.getD j 0 ≠ x

set_option maxHeartbeats 1600000 in
set_option maxRecDepth 100000 in
theorem indI_any (w : World) (A : Option Addr) (n c : Nat) (l : List Int) (x : Int) (h : Reads w A n (ints l)) (hn : n ≤ 1000000) : Calls Try.prog 85 #[.slice A n c, .int .i64 x] w (IndexTold w l x) := by
  have HR := Lib.hid h
  clear h
  go_enter Try.func85, Try.ntmps85
  go_wp2_with fail
  go_loopw [8] (IndexAt9 w n l x) (fun i _ => n - (intOf i).toNat)
  case atStart => exact ⟨rfl, 0, Nat.zero_le _, rfl, fun j hj => absurd hj (by omega)⟩
  case round =>
    obtain ⟨rfl, k, hk, rfl, ha⟩ := hrel
    have HA := Lib.hid ha
    clear ha
    by_cases hlt : k < n
    · obtain ⟨ad, rfl, c0⟩ := HR.out.int k hlt
      have b1 : (k : Int) < n := by omega
      obtain ⟨y, hy⟩ : ∃ y, l.getD k 0 = y := ⟨_, rfl⟩
      have HY := Lib.hid hy
      rw [hy] at c0
      clear hy
      by_cases h1 : x = y
      · have t1 : (x == y) = true := by simpa using h1
        have HX := Lib.hid h1
        clear h1
        go_wp2
        go_ret
        exact ⟨_, rfl, .inl ⟨k, rfl, by rw [HR.out.len]; exact hlt, by rw [HY.out, HX.out], HA.out⟩, rfl⟩
      · have t1 : (x == y) = false := by simpa using h1
        have HX := Lib.hid h1
        clear h1
        go_wp2_with fail
        refine ⟨⟨rfl, k + 1, by omega, by go_num, fun j hj => ?_⟩, by simp [intOf]; omega⟩
        rcases Nat.lt_or_ge j k with h3 | h3
        · exact HA.out j h3
        · obtain rfl : j = k := by omega
          rw [HY.out]; exact fun e => HX.out e.symm
    · obtain rfl : k = n := by omega
      have b1 : ¬ (k : Int) < k := by omega
      go_wp2
      go_ret
      refine ⟨_, rfl, .inr ⟨rfl, fun hm => ?_⟩, rfl⟩
      obtain ⟨i, hi, e⟩ := memi_getD hm
      exact HA.out i (by rw [← HR.out.len]; exact hi) e
set_option maxRecDepth 100000 in
theorem contI_any (w : World) (A : Option Addr) (n c : Nat) (l : List Int) (x : Int) (h : Reads w A n (ints l)) (hn : n ≤ 1000000) : Calls Try.prog 82 #[.slice A n c, .int .i64 x] w fun e w' => e = .returned (.bool (decide (x ∈ l))) ∧ w' = w := by
  have K := Lib.hid (indI_any w A n c l x h hn)
  clear h
  go_enter Try.func82, Try.ntmps82
  go_wp2_with fail
  refine K.out.mono ?_
  rintro e w1 ⟨k, rfl, hk, rfl⟩
  rcases hk with ⟨i, rfl, hi, hx, _⟩ | ⟨rfl, hx⟩
  · have hm : x ∈ l := by rw [← hx]; exact getDi_mem hi
    have E := Lib.hid (show decide (x ∈ l) = true by simpa using hm)
    have i0 : (0 : Int) ≤ i := by omega
    clear hx hm
    go_wp2
    go_ret
    exact ⟨by rw [E.out]; try simp, rfl⟩
  · have E := Lib.hid (show decide (x ∈ l) = false by simpa using hx)
    clear hx
    go_wp2
    go_ret
    exact ⟨by rw [E.out]; rfl, rfl⟩
end Go.Proofs.Ytmflacmgffpjoaa

/- Layer 9: which triangles have the same three vertices, told by an edge. -/
namespace Go.Proofs.Ytmflacmgffpjoaa
open Go.RowKit

theorem vset {t u : Tr} (ht : ¬ loopT t) (h : mirrd t u) : mirrd u t := by
  obtain ⟨h0, h1, h2⟩ := h
  unfold loopT at ht
  have n1 : t.1 ≠ t.2.1 := fun e => ht (.inl e)
  have n2 : t.2.1 ≠ t.2.2 := fun e => ht (.inr (.inl e))
  have n3 : t.2.2 ≠ t.1 := fun e => ht (.inr (.inr e))
  unfold mirrd hasV at *
  rcases h0 with h0 | h0 | h0 <;> rcases h1 with h1 | h1 | h1 <;> rcases h2 with h2 | h2 | h2 <;> first
    | exact absurd (h0.symm.trans h1) n1
    | exact absurd (h1.symm.trans h2) n2
    | exact absurd (h2.symm.trans h0) n3
    | simp [h0, h1, h2]
/-- Two triangles of the same vertices have each of their edges in common, or each the other way round. -/
theorem same_vertices {t u : Tr} (ht : ¬ loopT t) (hu : ¬ loopT u) (h : mirrd t u) (hn : ¬ twice t u) : hasE t u.2.1 u.1 ∧ hasV t u.2.2 := by
  have h' := vset ht h
  refine ⟨?_, h'.2.2⟩
  obtain ⟨h0, h1, _⟩ := h'
  have n1 : u.1 ≠ u.2.1 := fun e => hu (.inl e)
  have hno : ¬ hasE t u.1 u.2.1 := fun e => hn (twice_iff.2 ⟨_, _, e, .inl ⟨rfl, rfl⟩⟩)
  unfold hasV at h0 h1
  unfold hasE at *
  rcases h0 with h0 | h0 | h0 <;> rcases h1 with h1 | h1 | h1
  · exact absurd (h0.symm.trans h1) n1
  · exact absurd (.inl ⟨h0, h1⟩) hno
  · exact .inr (.inr ⟨h1, h0⟩)
  · exact .inl ⟨h1, h0⟩
  · exact absurd (h0.symm.trans h1) n1
  · exact absurd (.inr (.inl ⟨h0, h1⟩)) hno
  · exact absurd (.inr (.inr ⟨h0, h1⟩)) hno
  · exact .inr (.inl ⟨h1, h0⟩)
  · exact absurd (h0.symm.trans h1) n1
theorem edge_vertices {t u : Tr} (hu : ¬ loopT u) (h : hasE t u.2.1 u.1) (hv : hasV t u.2.2) : mirrd t u := by
  refine vset hu ⟨(hasE_hasV h).2, (hasE_hasV h).1, hv⟩
/-- A directed edge is had by one triangle alone: the one that the map tells. -/
theorem edge_one {tl : List Tr} (hn : tl.Pairwise fun t u => ¬ twice t u) {a : Nat} (ha : a < tl.length) {e : Ed} (he : hasE (tl.getD a z3) e.1 e.2) : lastV (edL tl (3 * tl.length)) e = some (a : Int) := by
  cases hv : lastV (edL tl (3 * tl.length)) e with
  | none =>
    obtain ⟨k, hk, h⟩ := edE_has.1 he
    exact absurd rfl (lastV_none hv _ (edL_mem.2 ⟨a, k, hk, by omega, h, rfl⟩))
  | some v =>
    obtain ⟨a', k', hk', hm, hx, rfl⟩ := edL_mem.1 (lastV_some hv)
    have : a' = a := Classical.byContradiction fun hne => notwice_ne hn (show a' < tl.length by omega) ha hne (twice_iff.2 ⟨_, _, edE_has.2 ⟨k', hk', hx⟩, he⟩)
    rw [this]
theorem edge_told {tl : List Tr} {v : Int} {e : Ed} (h : lastV (edL tl (3 * tl.length)) e = some v) : ∃ a : Nat, v = (a : Int) ∧ a < tl.length ∧ hasE (tl.getD a z3) e.1 e.2 := by
  obtain ⟨a, k, hk, hm, hx, rfl⟩ := edL_mem.1 (lastV_some h)
  exact ⟨a, rfl, by omega, edE_has.2 ⟨k, hk, hx⟩⟩
theorem edge_none {tl : List Tr} {e : Ed} (h : lastV (edL tl (3 * tl.length)) e = none) : ∀ a, a < tl.length → ¬ hasE (tl.getD a z3) e.1 e.2 := fun a ha he => by
  obtain ⟨k, hk, h'⟩ := edE_has.1 he
  exact lastV_none h _ (edL_mem.2 ⟨a, k, hk, by omega, h', rfl⟩) rfl
abbrev m9 : Tr → Tr → Bool := fun t u => decide (mirrd t u)
/-- Where there is none, none is told of b. -/
theorem mirr_no {tl : List Tr} (hl : ∀ t ∈ tl, ¬ loopT t) (hn : tl.Pairwise fun t u => ¬ twice t u) {b : Nat} (hb : b < tl.length) (h : ∀ a, a < b → ¬ (hasE (tl.getD a z3) (tl.getD b z3).2.1 (tl.getD b z3).1 ∧ hasV (tl.getD a z3) (tl.getD b z3).2.2)) : pairP 4 m9 tl (b + 1) 0 = pairP 4 m9 tl b 0 := by
  rw [pairP_next]
  exact pairP_skip fun i hi => decide_eq_false fun hm => h i hi (same_vertices (hl _ (getD3_mem (by omega))) (hl _ (getD3_mem hb)) hm (notwice_ne hn (by omega) hb (by omega)))
theorem mirr_yes {tl : List Tr} (hl : ∀ t ∈ tl, ¬ loopT t) (hn : tl.Pairwise fun t u => ¬ twice t u) {a b : Nat} (hab : a < b) (hb : b < tl.length) (he : hasE (tl.getD a z3) (tl.getD b z3).2.1 (tl.getD b z3).1) (hv : hasV (tl.getD a z3) (tl.getD b z3).2.2) :
    pairP 4 m9 tl (b + 1) 0 = pairP 4 m9 tl b 0 ++ [(4, (a : Int), (b : Int))] := by
  rw [pairP_next]
  unfold pairP
  have : rowP 4 m9 tl b b = [(4, (a : Int), (b : Int))] := by
    unfold rowP
    rw [filter_one hab]
    · rfl
    · intro i hi
      rw [decide_eq_true_iff]
      constructor
      · intro hm
        have h1 := same_vertices (hl _ (getD3_mem (by omega))) (hl _ (getD3_mem hb)) hm (notwice_ne hn (by omega) hb (by omega))
        exact Classical.byContradiction fun hne => notwice_ne hn (show i < tl.length by omega) (show a < tl.length by omega) hne (twice_iff.2 ⟨_, _, h1.1, he⟩)
      · rintro rfl
        exact edge_vertices (hl _ (getD3_mem hb)) he hv
  rw [this]
  have e0 : rowP 4 m9 tl b 0 = [] := rfl
  rw [e0, List.append_nil]
end Go.Proofs.Ytmflacmgffpjoaa

/- Layer 9: the examiner of the kind Mirrored. -/
namespace Go.Proofs.Ytmflacmgffpjoaa
open Go.RowKit

/-- The list, with its map of directed edges. -/
structure Full (S : Nat → Prop) (g : Nat) (N : Int) (A : Option Addr) (n c b : Nat) (tl : List Tr) (w : World) : Prop where
  seen : Seen S g N A n c (some b) tl w
  mp : MapL w b (edL tl (3 * n))
  nb : ¬ S b
theorem Full.chg {S : Nat → Prop} {g : Nat} {N : Int} {A : Option Addr} {n c b : Nat} {tl : List Tr} {w w' : World} (h : Full S g N A n c b tl w) (hc : Chg S w w') : Full S g N A n c b tl w' :=
  ⟨h.seen.chg hc, h.mp.kept (hc.far b h.mp.lt h.nb), h.nb⟩
theorem T3.slice {w : World} {b off n : Nat} {l : List Tr} (h : T3 w (some ⟨b, off, none⟩) n l) (k : Nat) (hk : k < n) : Reads w (some ⟨b, off + k * 3, none⟩) 3 (ints [(l.getD k z3).1, (l.getD k z3).2.1, (l.getD k z3).2.2]) := by
  obtain ⟨b', off', e, hc⟩ := h.2 (by omega)
  injection e with e
  injection e with e1 e2
  subst e1 e2
  obtain ⟨c0, c1, c2⟩ := hc k hk
  refine ⟨rfl, fun _ => ⟨_, rfl, fun j u hu => ?_⟩⟩
  have ea : ∀ j, (⟨b, off + k * 3, none⟩ : Addr).add j = ⟨b, off + k * 3 + j, none⟩ := fun j => by unfold Addr.add; split <;> simp_all
  rw [ea]
  match j, hu with
  | 0, hu => simp [ints] at hu; subst hu; exact c0
  | 1, hu => simp [ints] at hu; subst hu; exact c1
  | 2, hu => simp [ints] at hu; subst hu; exact c2
  | j + 3, hu => simp [ints] at hu

set_option maxHeartbeats 8000000 in
set_option maxRecDepth 100000 in
theorem cmirr_any {f : FuncId} {caps : List Value} {ws : List Wt} {go : List Wt → Bool} {S : Nat → Prop} {Inv : List Wt → World → Prop} (H : Taker f caps ws go S Inv) (w : World) (g b : Nat) (N : Int) (A : Option Addr) (n c : Nat) (tl : List Tr) (hs : Full S g N A n c b tl w) (hi : Inv [] w)
    (hws : ws = pairW 4 m9 tl) (hn : n ≤ 8192) (hN : N ≤ 4096) (hin : ∀ t ∈ tl, inN N t.1 ∧ inN N t.2.1 ∧ inN N t.2.2) (hlp : ∀ t ∈ tl, ¬ loopT t) (htw : tl.Pairwise fun t u => ¬ twice t u) : Calls Try.prog 77 #[.pointer (some ⟨g, 0, none⟩), .func (.func f) #[] caps.toArray] w (Ended ws go S Inv w) := by
  have HS := Lib.hid hs
  have HI := Lib.hid hi
  have hl := hs.seen.t3.1
  have HW := Lib.hid (show ws = pairP 4 m9 tl n 0 by rw [hws, ← hl, pairP_all])
  have HL := Lib.hid hl
  have HP := Lib.hid (And.intro hin (And.intro hlp htw))
  have c1 := hs.seen.c1
  have hen := H.enter
  have KE := Lib.hid (fun W (h : W.heap[g]? = some (.cells #[.int .i64 N, .slice A n c, .map (some b)] 88 (0, 0))) => cedges_set W g b N A n c h)
  clear hs hi hws hl hin hlp htw
  go_enter Try.func77, Try.ntmps77
  go_wp2_with fail
  go_loopw [14] (TriAt S Inv go (fun k => pairP 4 m9 tl k 0) n w) (fun i _ => n - (intOf i).toNat)
  case atStart => exact ⟨0, Nat.zero_le _, rfl, HI.out, AllGo.nil _, Chg.refl _ _⟩
  case round =>
    obtain ⟨k, hk, rfl, hst⟩ := hrel
    have HR := Lib.hid hst
    clear hst
    by_cases hlt : k < n
    case neg =>
      obtain rfl : k = n := by omega
      have b1 : ¬ (k : Int) < k := by omega
      go_wp2
      refine bodyPost_ret (results_none rfl _ _ _) rfl ?_
      exact ⟨rfl, _, .inl ⟨HW.out.symm, HR.out.all⟩, HR.out.inv, HR.out.chg⟩
    have b1 : (k : Int) < n := by omega
    have fr := HS.out.chg HR.out.chg
    obtain ⟨bA, off, rfl, hat⟩ := fr.seen.t3.2 (by omega)
    obtain ⟨c0, c1', c2⟩ := hat k hlt
    clear hat
    obtain ⟨x, hx⟩ : ∃ x, tl.getD k z3 = x := ⟨_, rfl⟩
    rw [hx] at c0 c1' c2
    have hinx := HP.out.1 _ (show x ∈ tl by rw [← hx]; exact getD3_mem (by rw [HL.out]; exact hlt))
    have HX := Lib.hid hx
    clear hx
    obtain ⟨x0, x1, x2⟩ := x
    obtain ⟨w1, hw1⟩ : ∃ w1, wr.alloc (.cells #[.int .i64 x0, .int .i64 x1, .int .i64 x2] 53) = w1 := ⟨_, rfl⟩
    have b1' : Below wr.heap.size wr w1 := by rw [← hw1]; exact (Below.refl _ wr).alloc (Nat.le_refl _) _
    obtain ⟨q, hq⟩ : ∃ q, wr.heap.size = q := ⟨_, rfl⟩
    have q0 : w1.heap[q]? = some (.cells #[.int .i64 x0, .int .i64 x1, .int .i64 x2] 53 (0, 0)) := by rw [← hw1, ← hq]; exact heap_alloc_new wr _
    have q1 := cell_in q0 0
    have q2 := cell_in q0 1
    have q3 := cell_in q0 2
    simp only [List.getElem?_toArray, List.getElem?_cons_zero, List.getElem?_cons_succ] at q1 q2 q3
    have fr1 := fr.chg (.of_below b1')
    have hwf : wfE (x1, x0) := ⟨wf_in hinx.2.1 hN, wf_in hinx.1 hN⟩
    have hlk := fun m => (show MapL (w1.drewN m) b (edL tl (3 * n)) from fr1.mp.kept rfl).look (x1, x0) hwf
    have KE1 := Lib.hid (fun m => KE.out (w1.drewN m) fr1.seen.lb)
    have R1 := Lib.hid (And.intro (HR.out.below H b1') fr1)
    clear b1' q0 fr hinx hwf fr1
    obtain ⟨v, hv⟩ : ∃ v, lastV (edL tl (3 * n)) (x1, x0) = v := ⟨_, rfl⟩
    rw [hv] at hlk
    have HV := Lib.hid hv
    clear hv
    go_wp2_with fail
    go_quiet ((go_at_call 80; exact Calls.quiet_of_same (KE1.out _)))
    obtain ⟨W, hW⟩ : ∃ W, w1.drewN nq = W := ⟨_, rfl⟩
    have rW : Reading w1 W := ⟨nq, hW.symm⟩
    have q1 : W.cell? ⟨q, 0, none⟩ = some (.int .i64 x0) := by rw [← hW]; exact q1
    have q2 : W.cell? ⟨q, 1, none⟩ = some (.int .i64 x1) := by rw [← hW]; exact q2
    have q3 : W.cell? ⟨q, 2, none⟩ = some (.int .i64 x2) := by rw [← hW]; exact q3
    have RW := Lib.hid (And.intro (R1.out.1.below H rW.below) (R1.out.2.chg (.of_read rW)))
    have g1 := RW.out.2.seen.c1
    simp only [hW]
    clear hW rW hlk KE1 R1
    cases v with
    | none =>
      have hno := edge_none (e := (x1, x0)) (tl := tl) (by rw [HL.out]; exact HV.out)
      have EP := Lib.hid (mirr_no HP.out.2.1 HP.out.2.2 (b := k) (by rw [HL.out]; exact hlt) fun a ha hx => by
        rw [HX.out] at hx
        exact hno a (by rw [HL.out]; omega) hx.1)
      clear hno
      simp only [Option.getD_none, Option.isSome_none]
      go_wp2_with fail
      go_quiet (fail)
      go_wp2_with fail
      refine ⟨⟨k + 1, by omega, by go_num, ?_⟩, by simp [intOf]; omega⟩
      show TriSt S Inv go (pairP 4 m9 tl (k + 1) 0) w _
      rw [EP.out]
      exact RW.out.1.below H (Reading.below ⟨_, rfl⟩)
    | some v =>
      obtain ⟨a, rfl, hal, hae⟩ := edge_told (e := (x1, x0)) (tl := tl) (by rw [HL.out]; exact HV.out)
      rw [HL.out] at hal
      have hone : ∀ a', a' < n → hasE (tl.getD a' z3) x1 x0 → a' = a := fun a' ha' h' => by
        have h1 := edge_one HP.out.2.2 (a := a') (e := (x1, x0)) (by rw [HL.out]; exact ha') h'
        rw [HL.out, HV.out] at h1
        have := Option.some.inj h1
        omega
      have HE := Lib.hid (And.intro hae hone)
      have hrd := Lib.hid (RW.out.2.seen.t3.slice a hal)
      clear hae hone
      simp only [Option.getD_some, Option.isSome_some]
      have m1 : (a : Int) < n := by omega
      have m2 : 0 ≤ (a : Int) := by omega
      by_cases hak : a < k
      case neg =>
        have EP := Lib.hid (mirr_no HP.out.2.1 HP.out.2.2 (b := k) (by rw [HL.out]; exact hlt) fun a' ha' hx => by
          rw [HX.out] at hx
          have := HE.out.2 a' (by omega) hx.1
          omega)
        have d1 : decide ((a : Int) < (k : Int)) = false := by simp; omega
        have d2 : decide (a < k) = false := by simp; omega
        clear hak
        go_wp2_with fail
        go_quiet (fail)
        go_wp2_with fail
        refine ⟨⟨k + 1, by omega, by go_num, ?_⟩, by simp [intOf]; omega⟩
        show TriSt S Inv go (pairP 4 m9 tl (k + 1) 0) w _
        rw [EP.out]
        exact RW.out.1.below H (Reading.below ⟨_, rfl⟩)
      have d1 : decide ((a : Int) < (k : Int)) = true := by simp; omega
      have d2 : decide (a < k) = true := by simp; omega
      have KC := Lib.hid (fun m => contI_any (W.drewN m) (some ⟨bA, off + a * 3, none⟩) 3 3 _ x2 (hrd.out.read ⟨m, rfl⟩) (by omega))
      have hmem : x2 ∈ [(tl.getD a z3).1, (tl.getD a z3).2.1, (tl.getD a z3).2.2] ↔ hasV (tl.getD a z3) x2 := by
        simp only [List.mem_cons, List.not_mem_nil, or_false]
        exact ⟨fun h => h.imp Eq.symm (Or.imp Eq.symm Eq.symm), fun h => h.imp Eq.symm (Or.imp Eq.symm Eq.symm)⟩
      cases hy : decide (x2 ∈ [(tl.getD a z3).1, (tl.getD a z3).2.1, (tl.getD a z3).2.2])
      · simp only [hy] at KC
        have EP := Lib.hid (mirr_no HP.out.2.1 HP.out.2.2 (b := k) (by rw [HL.out]; exact hlt) fun a' ha' hx => by
          rw [HX.out] at hx
          have := HE.out.2 a' (by omega) hx.1
          subst this
          exact of_decide_eq_false hy (hmem.2 hx.2))
        clear hmem hy hak
        go_wp2_with fail
        go_quiet ((go_at_call 82; exact Calls.quiet_of_same (KC.out _)))
        go_wp2_with fail
        refine ⟨⟨k + 1, by omega, by go_num, ?_⟩, by simp [intOf]; omega⟩
        show TriSt S Inv go (pairP 4 m9 tl (k + 1) 0) w _
        rw [EP.out]
        exact RW.out.1.below H (Reading.below ⟨_, rfl⟩)
      · simp only [hy] at KC
        have EP := mirr_yes HP.out.2.1 HP.out.2.2 hak (by rw [HL.out]; exact hlt) (by rw [HX.out]; exact HE.out.1) (by rw [HX.out]; exact hmem.1 (of_decide_eq_true hy))
        clear hmem hy hak
        have hc := fun (W' : World) (hW : Reading W W') => (RW.out.1.below H hW.below).hand H EP (by rw [HW.out]; exact pairP_up 4 m9 tl (by omega))
        obtain ⟨bb, hb⟩ : ∃ bb, go (pairP 4 m9 tl (k + 1) 0) = bb := ⟨_, rfl⟩
        simp only [hb] at hc
        have HC := Lib.hid hc
        clear hc hb EP
        go_wp2_with fail
        refine wp_region_still_tail 24 (by kernel_rfl) (by kernel_rfl) ?_
        simp only [List.take_succ_cons, List.take_zero, List.drop_succ_cons, List.drop_zero]
        repeat still_step
        still_call (KC.out 1)
        repeat still_step
        try refine wpStill_nil ?_
        change wpList _ _ _ _ _ (W.drewN 1)
        go_wp2_with fail
        refine (HC.out _ ⟨1, rfl⟩).mono ?_
        rintro e w2 ⟨rfl, hy, hn, _⟩
        have HY := Lib.hid (And.intro hy hn)
        clear hy hn
        cases bb
        · go_wp2_with fail
          refine bodyPost_ret (results_none rfl _ _ _) rfl ?_
          exact ⟨rfl, HY.out.2 (by trivial)⟩
        · go_wp2_with fail
          exact ⟨⟨k + 1, by omega, by go_num, HY.out.1 (by trivial)⟩, by simp [intOf]; omega⟩
end Go.Proofs.Ytmflacmgffpjoaa

/- Layer 9: the examiner of the kind Lonely. -/
namespace Go.Proofs.Ytmflacmgffpjoaa
open Go.RowKit

/-- The vertex k of a triangle. -/
def vx (x : Tr) (k : Nat) : Int := if k = 0 then x.1 else if k = 1 then x.2.1 else x.2.2
theorem index9 (x0 x1 x2 : Int) (m : Nat) (hm : m < 3) (W : World) : (Instr.index 53 (.agg #[.int .i64 x0, .int .i64 x1, .int .i64 x2]) (.int .i64 (m : Int))).run Try.prog W = .ok (.int .i64 (vx (x0, x1, x2) m)) W := by
  match m, hm with
  | 0, _ => exact show (Instr.index 53 (.agg #[.int .i64 x0, .int .i64 x1, .int .i64 x2]) (.int .i64 0)).run Try.prog W = .ok (.int .i64 x0) W by kernel_rfl
  | 1, _ => exact show (Instr.index 53 (.agg #[.int .i64 x0, .int .i64 x1, .int .i64 x2]) (.int .i64 1)).run Try.prog W = .ok (.int .i64 x1) W by kernel_rfl
  | 2, _ => exact show (Instr.index 53 (.agg #[.int .i64 x0, .int .i64 x1, .int .i64 x2]) (.int .i64 2)).run Try.prog W = .ok (.int .i64 x2) W by kernel_rfl
theorem vx_in {N : Int} {x : Tr} (h : inN N x.1 ∧ inN N x.2.1 ∧ inN N x.2.2) (m : Nat) : inN N (vx x m) := by
  unfold vx
  split
  · exact h.1
  · split
    · exact h.2.1
    · exact h.2.2
theorem vx_has {x : Tr} {v : Int} : hasV x v ↔ ∃ m, m < 3 ∧ vx x m = v := by
  constructor
  · rintro (h | h | h)
    · exact ⟨0, by omega, h⟩
    · exact ⟨1, by omega, h⟩
    · exact ⟨2, by omega, h⟩
  · rintro ⟨m, hm, h⟩
    match m, hm with
    | 0, _ => exact .inl h
    | 1, _ => exact .inr (.inl h)
    | 2, _ => exact .inr (.inr h)
theorem bls_at (l : List Bool) (k : Nat) (h : k < l.length) : (bls l)[k]? = some (.bool (l.getD k false)) := by
  simp [bls, List.getElem?_eq_getElem h]
theorem bls_set (l : List Bool) (k : Nat) (b : Bool) : bls (l.set k b) = (bls l).set k (.bool b) := by simp [bls, List.map_set]
/-- A row of bools in a block of its own. -/
def BoolRow (w : World) (q : Nat) (l : List Bool) : Prop := w.heap[q]? = some (.cells (bls l).toArray 4 (0, 0))
theorem BoolRow.cell {w : World} {q : Nat} {l : List Bool} (h : BoolRow w q l) (k : Nat) (hk : k < l.length) : w.cell? ⟨q, k, none⟩ = some (.bool (l.getD k false)) := by
  rw [cell_in h, List.getElem?_toArray, bls_at l k hk]
theorem BoolRow.set {w : World} {q : Nat} {l : List Bool} (h : BoolRow w q l) (k : Nat) (b : Bool) : BoolRow (w.setCell ⟨q, k, none⟩ (.bool b)) q (l.set k b) := by
  unfold BoolRow
  rw [heap_set h k _, bls_set]
  simp
theorem makeB9 (n : Nat) (hn : n ≤ 1000000) (W : World) : (Instr.makeSlice 84 (.int .i64 (n : Int)) (.int .i64 (n : Int))).run Try.prog W = .ok (.slice (some ⟨W.heap.size, 0, none⟩) n n) (W.alloc (.cells (bls (List.replicate n false)).toArray 4)) := by
  obtain ⟨i0, hi, hz0, hz1, hz2⟩ := info_parts Try.infoBool
  have := run_make (P := Try.prog) W 84 4 i0 _ Try.underlying84 hi hz0 .i64 .i64 (n : Int) (n : Int) (by omega) (by omega) (by rw [hz2]; omega) (by omega)
  rw [this, hz1]
  have e : madeCells (Value.bool false).cells ((n : Int).toNat * 1) = (bls (List.replicate n false)).toArray := by
    apply Array.toList_inj.1
    rw [Nat.mul_one]
    show (madeCells #[Value.bool false] n).toList = _
    rw [toList_madeCells_one]; simp [bls]
  rw [e]
  rfl
/-- Which vertices have been met. -/
structure Used (tl : List Tr) (N k m : Nat) (ul : List Bool) : Prop where
  len : ul.length = N
  iff : ∀ v, v < N → (ul.getD v false = true ↔ (∃ a, a < k ∧ hasV (tl.getD a z3) (v : Int)) ∨ ∃ j, j < m ∧ vx (tl.getD k z3) j = (v : Int))
theorem Used.start (tl : List Tr) (N : Nat) : Used tl N 0 0 (List.replicate N false) :=
  ⟨List.length_replicate, fun v hv => by
    rw [List.getD_eq_getElem?_getD, List.getElem?_replicate, if_pos hv]
    constructor
    · intro h; cases h
    · rintro (⟨a, ha, _⟩ | ⟨j, hj, _⟩) <;> omega⟩
theorem Used.set {tl : List Tr} {N k m : Nat} {ul : List Bool} (h : Used tl N k m ul) {v : Nat} (hv : v < N) (hx : vx (tl.getD k z3) m = (v : Int)) : Used tl N k (m + 1) (ul.set v true) := by
  refine ⟨by rw [List.length_set]; exact h.len, fun u hu => ?_⟩
  have gd : (ul.set v true).getD u false = if v = u then true else ul.getD u false := by
    rw [List.getD_eq_getElem?_getD, List.getElem?_set, List.getD_eq_getElem?_getD]
    by_cases e : v = u
    · rw [if_pos e, if_pos e, if_pos (by rw [h.len]; exact hv)]; rfl
    · rw [if_neg e, if_neg e]
  rw [gd]
  by_cases e : v = u
  · subst e
    rw [if_pos rfl]
    exact ⟨fun _ => .inr ⟨m, by omega, hx⟩, fun _ => rfl⟩
  · rw [if_neg e, h.iff u hu]
    constructor
    · rintro (h1 | ⟨j, hj, h1⟩)
      · exact .inl h1
      · exact .inr ⟨j, by omega, h1⟩
    · rintro (h1 | ⟨j, hj, h1⟩)
      · exact .inl h1
      · by_cases hjm : j = m
        · subst hjm; omega
        · exact .inr ⟨j, by omega, h1⟩
theorem Used.next {tl : List Tr} {N k : Nat} {ul : List Bool} (h : Used tl N k 3 ul) : Used tl N (k + 1) 0 ul := by
  refine ⟨h.len, fun u hu => (h.iff u hu).trans ?_⟩
  constructor
  · rintro (⟨a, ha, h1⟩ | ⟨j, hj, h1⟩)
    · exact .inl ⟨a, by omega, h1⟩
    · exact .inl ⟨k, by omega, vx_has.2 ⟨j, hj, h1⟩⟩
  · rintro (⟨a, ha, h1⟩ | ⟨j, hj, _⟩)
    · by_cases hak : a = k
      · subst hak
        obtain ⟨j, hj, h2⟩ := vx_has.1 h1
        exact .inr ⟨j, hj, h2⟩
      · exact .inl ⟨a, by omega, h1⟩
    · omega
theorem Used.told {tl : List Tr} {N : Nat} {ul : List Bool} (h : Used tl N tl.length 0 ul) {v : Nat} (hv : v < N) : lonely tl (v : Int) = !ul.getD v false := by
  have h1 := h.iff v hv
  cases hq : ul.getD v false with
  | true =>
    rcases h1.1 hq with ⟨a, ha, h2⟩ | ⟨j, hj, _⟩
    · exact lonely_false.2 ⟨_, getD3_mem ha, h2⟩
    · omega
  | false =>
    cases hl : lonely tl (v : Int) with
    | true => rfl
    | false =>
      obtain ⟨t, ht, h2⟩ := lonely_false.1 hl
      obtain ⟨a, ha, rfl⟩ := mem3_getD ht
      rw [h1.2 (.inl ⟨a, ha, h2⟩)] at hq
      cases hq
/-- Vertex by vertex: what is told of the first a. -/
def vertP (kd : Int) (q : Int → Bool) (a : Nat) : List Wt := vertW kd q (a : Int)
theorem vertP_yes {kd : Int} {q : Int → Bool} {a : Nat} (h : q (a : Int) = true) : vertP kd q (a + 1) = vertP kd q a ++ [(kd, (a : Int), 0)] := by unfold vertP; rw [vertW_succ, if_pos h]
theorem vertP_no {kd : Int} {q : Int → Bool} {a : Nat} (h : q (a : Int) = false) : vertP kd q (a + 1) = vertP kd q a := by unfold vertP; rw [vertW_succ, if_neg (by rw [h]; decide), List.append_nil]
theorem vertP_pre (kd : Int) (q : Int → Bool) {a b : Nat} (h : a ≤ b) : vertP kd q a <+: vertP kd q b := by
  induction h with
  | refl => exact List.prefix_refl _
  | step h ih =>
    refine ih.trans ?_
    unfold vertP
    rw [vertW_succ]
    exact List.prefix_append _ _
/-- The state while vertices are met. -/
structure LoSt (S : Nat → Prop) (Inv : List Wt → World → Prop) (go : List Wt → Bool) (w wr : World) (ub : Nat) (ul : List Bool) (l : List Wt) : Prop where
  tri : TriSt S Inv go l w wr
  row : BoolRow wr ub ul
  b1 : w.heap.size ≤ ub
section
variable {f : FuncId} {caps : List Value} {ws : List Wt} {go : List Wt → Bool} {S : Nat → Prop} {Inv : List Wt → World → Prop} {w wr w' : World} {ub : Nat} {ul : List Bool} {l : List Wt}
theorem LoSt.below (H : Taker f caps ws go S Inv) (h : LoSt S Inv go w wr ub ul l) (hb : Below wr.heap.size wr w') : LoSt S Inv go w w' ub ul l :=
  ⟨h.tri.below H hb, (hb.block ub (heap_lt h.row)).trans h.row, h.b1⟩
theorem LoSt.mark (H : Taker f caps ws go S Inv) (hS : ∀ b, S b → b < w.heap.size) (h : LoSt S Inv go w wr ub ul l) (v : Nat) : LoSt S Inv go w (wr.setCell ⟨ub, v, none⟩ (.bool true)) ub (ul.set v true) l := by
  have hb1 := h.b1
  exact ⟨h.tri.set H ⟨ub, v, none⟩ _ hb1 (fun hs => by have := hS _ hs; have : ub < w.heap.size := this; omega), h.row.set v true, h.b1⟩
theorem LoSt.gone (hS : ∀ b, S b → b < w.heap.size) (h : LoSt S Inv go w wr ub ul l) {l' : List Wt} (hg : TriSt S Inv go l' w w') (hc : Chg S wr w') : LoSt S Inv go w w' ub ul l' := by
  have hb1 := h.b1
  exact ⟨hg, (hc.far ub (heap_lt h.row) fun hs => by have := hS _ hs; omega).trans h.row, h.b1⟩
end
def LoOut (S : Nat → Prop) (Inv : List Wt → World → Prop) (go : List Wt → Bool) (w : World) (ub N n : Nat) (tl : List Tr) (i : Value) (wr : World) : Prop := ∃ k : Nat, k ≤ n ∧ i = .int .i64 (k : Int) ∧ ∃ ul, LoSt S Inv go w wr ub ul [] ∧ Used tl N k 0 ul
def LoIn (S : Nat → Prop) (Inv : List Wt → World → Prop) (go : List Wt → Bool) (w : World) (ub N k : Nat) (tl : List Tr) (j : Value) (wr : World) : Prop := ∃ m : Nat, m ≤ 3 ∧ j = .int .i64 (m : Int) ∧ ∃ ul, LoSt S Inv go w wr ub ul [] ∧ Used tl N k m ul
def LoV (S : Nat → Prop) (Inv : List Wt → World → Prop) (go : List Wt → Bool) (w : World) (ub N : Nat) (ul : List Bool) (q : Int → Bool) (i : Value) (wr : World) : Prop := ∃ v : Nat, v ≤ N ∧ i = .int .i64 (v : Int) ∧ LoSt S Inv go w wr ub ul (vertP 5 q v)

set_option maxHeartbeats 8000000 in
set_option maxRecDepth 100000 in
theorem clonely_any {f : FuncId} {caps : List Value} {ws : List Wt} {go : List Wt → Bool} {S : Nat → Prop} {Inv : List Wt → World → Prop} (H : Taker f caps ws go S Inv) (w : World) (g N : Nat) (A : Option Addr) (n c : Nat) (mo : Option Nat) (tl : List Tr) (hs : Seen S g (N : Int) A n c mo tl w) (hi : Inv [] w)
    (hws : ws = vertW 5 (lonely tl) (N : Int)) (hn : n ≤ 8192) (hN : N ≤ 4096) (hin : ∀ t ∈ tl, inN N t.1 ∧ inN N t.2.1 ∧ inN N t.2.2) : Calls Try.prog 78 #[.pointer (some ⟨g, 0, none⟩), .func (.func f) #[] caps.toArray] w (Ended ws go S Inv w) := by
  have HL := Lib.hid hs.t3.1
  have HW := Lib.hid (show ws = vertP 5 (lonely tl) N from hws)
  have c0 := hs.c0
  have hen := H.enter
  have hSS := H.lt _ _ hi
  have hmk := fun W => makeB9 N (by omega) W
  obtain ⟨ub, hub⟩ : ∃ ub, w.heap.size = ub := ⟨_, rfl⟩
  obtain ⟨w1, hw1⟩ : ∃ w1, w.alloc (.cells (bls (List.replicate N false)).toArray 4) = w1 := ⟨_, rfl⟩
  have b1 : Below w.heap.size w w1 := by rw [← hw1]; exact (Below.refl _ w).alloc (Nat.le_refl _) _
  have st : LoSt S Inv go w w1 ub (List.replicate N false) [] := ⟨(TriSt.mk hi (AllGo.nil go) (Chg.refl S w)).below H b1, by rw [← hw1, ← hub]; exact heap_alloc_new w _, by omega⟩
  have c1 := (hs.chg (.of_below (S := S) b1)).c1
  have ST := Lib.hid st
  have HS := Lib.hid hs
  have HSS := Lib.hid hSS
  have HIN := Lib.hid hin
  clear hs hi hws hSS hin b1 st
  go_enter Try.func78, Try.ntmps78
  go_wp2_with fail
  clear hw1 hub hmk c1 c0
  go_loopw [23] (LoOut S Inv go w ub N n tl) (fun i _ => n - (intOf i).toNat)
  case atStart => exact ⟨0, Nat.zero_le _, rfl, _, ST.out, Used.start tl N⟩
  case round =>
    obtain ⟨k, hk, rfl, ul, hst, hus⟩ := hrel
    have HR := Lib.hid (And.intro hst hus)
    clear hst hus
    by_cases hlt : k < n
    case neg =>
      obtain rfl : k = n := by omega
      have b1 : ¬ (k : Int) < k := by omega
      have hlen := HR.out.2.len
      have HU := Lib.hid (show ∀ v, v < N → lonely tl (v : Int) = !ul.getD v false from fun v hv => (show Used tl N tl.length 0 ul by rw [HL.out]; exact HR.out.2).told hv)
      go_wp2_with fail
      go_loopw [38] (LoV S Inv go w ub N ul (lonely tl)) (fun i _ => N - (intOf i).toNat)
      case atStart => exact ⟨0, Nat.zero_le _, rfl, HR.out.1⟩
      case round =>
        obtain ⟨v, hv, rfl, hst⟩ := hrel
        by_cases hvN : v < N
        case neg =>
          obtain rfl : v = N := by omega
          have b2 : ¬ (v : Int) < v := by omega
          have HV := Lib.hid hst
          clear hst
          go_wp2
          refine bodyPost_ret (results_none rfl _ _ _) rfl ?_
          exact ⟨rfl, _, .inl ⟨HW.out.symm, HV.out.tri.all⟩, HV.out.tri.inv, HV.out.tri.chg⟩
        have b2 : (v : Int) < N := by omega
        have y0 := hst.row.cell v (by rw [hlen]; exact hvN)
        have hlo := HU.out v hvN
        obtain ⟨y, hy⟩ : ∃ y, ul.getD v false = y := ⟨_, rfl⟩
        rw [hy] at y0 hlo
        have HV := Lib.hid hst
        clear hst hy hlen
        cases y
        · have e1 := vertP_yes (kd := 5) (q := lonely tl) (a := v) (by rw [hlo]; rfl)
          have hc := HV.out.tri.hand H e1 (by rw [HW.out]; exact vertP_pre _ _ (by omega))
          obtain ⟨bb, hb⟩ : ∃ bb, go (vertP 5 (lonely tl) (v + 1)) = bb := ⟨_, rfl⟩
          rw [hb] at hc
          have HC := Lib.hid hc
          clear hc hb e1 hlo
          go_wp2_with fail
          refine HC.out.mono ?_
          rintro e w9 ⟨rfl, hy, hn, hstep⟩
          have HY := Lib.hid (And.intro hy (And.intro hn hstep))
          clear hy hn hstep
          cases bb
          · go_wp2_with fail
            refine bodyPost_ret (results_none rfl _ _ _) rfl ?_
            exact ⟨rfl, HY.out.2.1 (by trivial)⟩
          · go_wp2_with fail
            exact ⟨⟨v + 1, by omega, by go_num, HV.out.gone HSS.out (HY.out.1 (by trivial)) HY.out.2.2⟩, by simp [intOf]; omega⟩
        · have EP := Lib.hid (vertP_no (kd := 5) (q := lonely tl) (a := v) (by rw [hlo]; rfl))
          clear hlo
          go_wp2_with fail
          refine ⟨⟨v + 1, by omega, by go_num, ?_⟩, by simp [intOf]; omega⟩
          rw [EP.out]
          exact HV.out
    have b1 : (k : Int) < n := by omega
    obtain ⟨bA, off, rfl, hat⟩ := (HS.out.chg HR.out.1.tri.chg).t3.2 (by omega)
    obtain ⟨c0, c1, c2⟩ := hat k hlt
    clear hat
    obtain ⟨x, hx⟩ : ∃ x, tl.getD k z3 = x := ⟨_, rfl⟩
    rw [hx] at c0 c1 c2
    have hinx := HIN.out _ (show x ∈ tl by rw [← hx]; exact getD3_mem (by rw [HL.out]; exact hlt))
    have HX := Lib.hid (And.intro hx hinx)
    clear hx hinx
    obtain ⟨x0, x1, x2⟩ := x
    obtain ⟨w2, hw2⟩ : ∃ w2, wr.alloc (.cells #[.int .i64 x0, .int .i64 x1, .int .i64 x2] 53) = w2 := ⟨_, rfl⟩
    have b2 : Below wr.heap.size wr w2 := by rw [← hw2]; exact (Below.refl _ wr).alloc (Nat.le_refl _) _
    obtain ⟨q, hq⟩ : ∃ q, wr.heap.size = q := ⟨_, rfl⟩
    have q0 : w2.heap[q]? = some (.cells #[.int .i64 x0, .int .i64 x1, .int .i64 x2] 53 (0, 0)) := by rw [← hw2, ← hq]; exact heap_alloc_new wr _
    have q1 := cell_in q0 0
    have q2 := cell_in q0 1
    have q3 := cell_in q0 2
    simp only [List.getElem?_toArray, List.getElem?_cons_zero, List.getElem?_cons_succ] at q1 q2 q3
    have T2 := Lib.hid (And.intro (HR.out.1.below H b2) HR.out.2)
    clear b2 q0
    go_wp2_with fail
    clear hw2 hq q1 q2 q3 c0 c1 c2
    go_loopw [28] (LoIn S Inv go w ub N k tl) (fun i _ => 3 - (intOf i).toNat)
    case atStart => exact ⟨0, by omega, rfl, _, T2.out⟩
    case round =>
      obtain ⟨m, hm, rfl, ul2, hst2, hus2⟩ := hrel
      by_cases hm3 : m < 3
      case neg =>
        obtain rfl : m = 3 := by omega
        have HM := Lib.hid (And.intro hst2 hus2)
        clear hst2 hus2
        go_wp2_with fail
        exact ⟨⟨k + 1, by omega, by go_num, _, HM.out.1, HM.out.2.next⟩, by simp [intOf]; omega⟩
      have m1 : (m : Int) < 3 := by omega
      have hix := fun W => index9 x0 x1 x2 m hm3 W
      have hvi := vx_in (x := (x0, x1, x2)) HX.out.2 m
      obtain ⟨v, hv⟩ : ∃ v : Nat, vx (x0, x1, x2) m = (v : Int) := ⟨(vx (x0, x1, x2) m).toNat, by have := hvi.1; omega⟩
      rw [hv] at hix hvi
      have hvN : v < N := by have := hvi.2; omega
      have m2 : (v : Int) < N := by omega
      have m3 : 0 ≤ (v : Int) := by omega
      have y0 := hst2.row.cell v (by rw [hus2.len]; exact hvN)
      have y1 := frozen_in hst2.row v
      have HM := Lib.hid (And.intro (hst2.mark H HSS.out v) (hus2.set hvN (by rw [HX.out.1]; exact hv)))
      clear hst2 hus2 hv hvi
      go_wp2_with fail
      exact ⟨⟨m + 1, by omega, by go_num, _, HM.out⟩, by simp [intOf]; omega⟩
end Go.Proofs.Ytmflacmgffpjoaa
