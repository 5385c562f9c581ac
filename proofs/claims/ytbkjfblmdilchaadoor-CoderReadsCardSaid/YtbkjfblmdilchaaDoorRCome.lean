/- The document's First and Come. -/
import Derived.Test.YtbkjfblmdilchaaDoorRAdd
import Derived.Test.YtbkjfblmdilchaaDoorCAwake
import Derived.Deep.LoopGhost
import Derived.Handy
namespace Go.Proofs.YtbkjfblmdilchaaDoor
open Go.RowKit

/-- An interval as the document has it: its digits, and R. -/
def RIv (w : World) (v : Value) (x : Iv) : Prop := ∃ ad c, v = .agg #[.slice (some ad) (4 + x.k) c, .int .i64 (x.R : Int)] ∧ w.ownsRow 0 3 1 (.slice (some ad) (4 + x.k) c) (4 + x.k) (ints (dints (digs (4 + x.k) x.L)))
theorem own_reads {w : World} {B n c : Nat} {t : TypeId} {ad : Addr} {xs : List Value} (h : w.ownsRow B t 1 (.slice (some ad) n c) n xs) : Reads w (some ad) n xs := by
  obtain ⟨A, c', hv, _, hr⟩ := Reads.of_own h
  injection hv with h1 _ h3
  subst h1 h3
  exact hr
def GotIv (w : World) (x : Iv) (e : Ending) (w' : World) : Prop := ∃ v, e = .returned v ∧ RIv w' v x ∧ Below w.heap.size w w'

set_option maxHeartbeats 1600000 in
set_option maxRecDepth 100000 in
theorem first_any (w : World) : Calls Tryd.prog 13 #[] w (GotIv w firstIv) := by
  go_enter Tryd.func13, Tryd.ntmps13
  go_wp2
  go_returns
  have a1 := alloc_below w (.cells #[.slice (some ⟨w.heap.size + 1, 0, none⟩) 4 4, .int .i64 4294967296] 29)
  have hs : (w.alloc (.cells #[.slice (some ⟨w.heap.size + 1, 0, none⟩) 4 4, .int .i64 4294967296] 29)).heap.size = w.heap.size + 1 := by simp
  generalize w.alloc (.cells #[.slice (some ⟨w.heap.size + 1, 0, none⟩) 4 4, .int .i64 4294967296] 29) = w1 at *
  refine ⟨_, rfl, ⟨⟨w.heap.size + 1, 0, none⟩, 4, rfl, ?_⟩, a1.trans ((alloc_below w1 _).mono a1.size)⟩
  rw [← hs]
  exact ownI_of_block (l := [0, 0, 0, 0]) (rest := []) (Array.getElem?_push_size : (w1.heap.push _)[w1.heap.size]? = some _) rfl (Nat.le_refl _) (by unfold maxLen; omega) rfl (Nat.zero_le _)

theorem digs_up (x : Iv) (hL : x.L < 256 ^ (4 + x.k)) : digs (4 + (up x).k) (up x).L = digs (4 + x.k) x.L ++ [0] := by
  have := digs_append_zeros (4 + x.k) x.L 1 hL
  exact this.symm

/-- The interval that is being made lies in block g. -/
structure RBuf (w : World) (B g : Nat) (v : Value) (y : Iv) : Prop where
  blk : w.heap[g]? = some (.cells #[v, .int .i64 (y.R : Int)] 29 (0, 0))
  row : w.ownsRow B 3 1 v (4 + y.k) (ints (dints (digs (4 + y.k) y.L)))
def ComeAt (w : World) (B b4 g : Nat) (z : Iv) (gk : Nat) (wr : World) : Prop :=
  ∃ v y, norm gk y = z ∧ y.L + y.R ≤ 256 ^ (4 + y.k) ∧ y.R ≤ 4294967296 ∧ 0 < y.R ∧ 16777216 ≤ y.R * 256 ^ gk ∧ y.k + gk ≤ 100003 ∧ RBuf wr B g v y ∧ Below B w wr ∧ (∃ cs, wr.heap[b4]? = some (.cells cs 29 (0, 0)) ∧ cs.size = 2)

theorem heap_old {w : World} {o o' : Obj} {b : Nat} (h : w.heap[b]? = some o) : (w.alloc o').heap[b]? = some o := (Below.heap_alloc _ _ _ (heap_lt h)).trans h
theorem three (w : World) (u v z : Array Value) (s t r : TypeId) :
    (((w.alloc (.cells u s)).alloc (.cells v t)).alloc (.cells z r)).heap[w.heap.size]? = some (.cells u s (0, 0)) ∧ (((w.alloc (.cells u s)).alloc (.cells v t)).alloc (.cells z r)).heap[w.heap.size + 1]? = some (.cells v t (0, 0)) ∧
    (((w.alloc (.cells u s)).alloc (.cells v t)).alloc (.cells z r)).heap[w.heap.size + 1 + 1]? = some (.cells z r (0, 0)) ∧ Below w.heap.size w (((w.alloc (.cells u s)).alloc (.cells v t)).alloc (.cells z r)) ∧ (((w.alloc (.cells u s)).alloc (.cells v t)).alloc (.cells z r)).heap.size = w.heap.size + 3 := by
  have n : ∀ (w : World) (o : Obj), (w.alloc o).heap[w.heap.size]? = some o := fun w o => (Array.getElem?_push_size : (w.heap.push _)[w.heap.size]? = some _)
  have hs : ∀ (w : World) (o : Obj), (w.alloc o).heap.size = w.heap.size + 1 := fun w o => by simp
  have a1 := alloc_below w (.cells u s)
  have a2 := alloc_below (w.alloc (.cells u s)) (.cells v t)
  have a3 := alloc_below ((w.alloc (.cells u s)).alloc (.cells v t)) (.cells z r)
  refine ⟨heap_old (heap_old (n w _)), ?_, ?_, (a1.trans (a2.mono a1.size)).trans (a3.mono (Nat.le_trans a1.size a2.size)), by rw [hs, hs, hs]⟩
  · have := n (w.alloc (.cells u s)) (.cells v t)
    rw [hs w] at this
    exact heap_old this
  · have := n ((w.alloc (.cells u s)).alloc (.cells v t)) (.cells z r)
    rw [hs, hs] at this
    exact this
theorem own_base {w : World} {B B' n : Nat} {t : TypeId} {v : Value} {xs : List Value} (h : w.ownsRow B t 1 v n xs) (hB : B' ≤ B) : w.ownsRow B' t 1 v n xs := by
  refine ⟨h.1, ?_⟩
  rcases h.2 with h1 | ⟨p, cap, cur, h1, hp, h3⟩
  · exact .inl h1
  · exact .inr ⟨p, cap, cur, h1, Nat.le_trans hB hp, h3⟩
theorem own_neT {w : World} {B n p : Nat} {v : Value} {xs : List Value} {s t : TypeId} {cp : Array Value} (h : w.ownsRow B s 1 v n xs) (hp : w.heap[p]? = some (.cells cp t (0, 0))) (ht : t ≠ s) : v.ownBlock ≠ some p := by
  intro e
  obtain ⟨_, _, cur, hc⟩ := own_lt h p e
  rw [hp] at hc
  injection hc with hc
  injection hc with _ hc
  exact ht hc
/-- What the three boxes hold, in any later world. -/
structure Boxes (b : Nat) (v R u s : Value) (w : World) : Prop where
  i0 : w.cell? ⟨b, 0, none⟩ = some v
  i1 : w.cell? ⟨b, 1, none⟩ = some R
  s0 : w.cell? ⟨b + 1, 0, none⟩ = some u
  s1 : w.cell? ⟨b + 1, 1, none⟩ = some s
  out : ∃ cs, w.heap[b + 1 + 1]? = some (.cells cs 29 (0, 0)) ∧ cs.size = 2
theorem Boxes.below {b : Nat} {v R u s : Value} {w w' : World} (h : Boxes b v R u s w) (hb : Below w.heap.size w w') : Boxes b v R u s w' := by
  obtain ⟨cs, h1, h2⟩ := h.out
  exact ⟨(hb.cell (World.block_lt_of_cell? w _ h.i0)).trans h.i0, (hb.cell (World.block_lt_of_cell? w _ h.i1)).trans h.i1, (hb.cell (World.block_lt_of_cell? w _ h.s0)).trans h.s0, (hb.cell (World.block_lt_of_cell? w _ h.s1)).trans h.s1, cs, (hb.block _ (heap_lt h1)).trans h1, h2⟩

set_option maxHeartbeats 6400000 in
set_option maxRecDepth 100000 in
theorem come_any (w : World) (ad : Addr) (c : Nat) (x : Iv) (As : Option Addr) (ns cs : Nat) (cl : List Int) (s : Nat) (h : Reads w (some ad) (4 + x.k) (ints (dints (digs (4 + x.k) x.L)))) (hx : x.Good) (hk : x.k ≤ 100000) (hr : Reads w As ns (ints cl)) (ok : Ok cl) (hs : s < cl.length) :
    Calls Tryd.prog 16 #[.agg #[.slice (some ad) (4 + x.k) c, .int .i64 (x.R : Int)], .agg #[.slice As ns cs, .int .i64 (s : Int)]] w (GotIv w (come x cl s)) := by
  obtain ⟨i0, hi, hz0, hz1, hz2⟩ := info_parts Tryd.infoInt
  have hl := hr.len
  obtain ⟨k1, k2, k3, k4, k5⟩ := three w #[.slice (some ad) (4 + x.k) c, .int .i64 (x.R : Int)] #[.slice As ns cs, .int .i64 (s : Int)] #[.slice none 0 0, .int .i64 0] 29 36 29
  have BX := Lib.hid (show Boxes w.heap.size (.slice (some ad) (4 + x.k) c) (.int .i64 (x.R : Int)) (.slice As ns cs) (.int .i64 (s : Int)) _ from
    ⟨by rw [cell_in k1]; rfl, by rw [cell_in k1]; rfl, by rw [cell_in k2]; rfl, by rw [cell_in k2]; rfl, _, k3, rfl⟩)
  have B0 := Lib.hid (⟨k4, k5⟩ : Below w.heap.size w (((w.alloc (.cells #[.slice (some ad) (4 + x.k) c, .int .i64 (x.R : Int)] 29)).alloc (.cells #[.slice As ns cs, .int .i64 (s : Int)] 36)).alloc (.cells #[.slice none 0 0, .int .i64 0] 29)) ∧ (((w.alloc (.cells #[.slice (some ad) (4 + x.k) c, .int .i64 (x.R : Int)] 29)).alloc (.cells #[.slice As ns cs, .int .i64 (s : Int)] 36)).alloc (.cells #[.slice none 0 0, .int .i64 0] 29)).heap.size = w.heap.size + 3)
  have RD := Lib.hid (⟨h.below k4, hr.below k4⟩ : Reads (((w.alloc (.cells #[.slice (some ad) (4 + x.k) c, .int .i64 (x.R : Int)] 29)).alloc (.cells #[.slice As ns cs, .int .i64 (s : Int)] 36)).alloc (.cells #[.slice none 0 0, .int .i64 0] 29)) (some ad) (4 + x.k) (ints (dints (digs (4 + x.k) x.L))) ∧ Reads (((w.alloc (.cells #[.slice (some ad) (4 + x.k) c, .int .i64 (x.R : Int)] 29)).alloc (.cells #[.slice As ns cs, .int .i64 (s : Int)] 36)).alloc (.cells #[.slice none 0 0, .int .i64 0] 29)) As ns (ints cl))
  have hall : ∀ y ∈ cl, 1 ≤ y ∧ y ≤ 65536 := fun y hy => ⟨ok.one y hy, by
    obtain ⟨j, hj, rfl⟩ := List.mem_iff_getElem.1 hy
    have h1 := low_succ cl j
    have h2 := low_nonneg ok.zero j
    have h3 := low_sum ok.zero (j + 1)
    have h4 := ok.total
    rw [List.getD_eq_getElem?_getD, List.getElem?_eq_getElem hj] at h1
    simp only [Option.getD_some] at h1
    omega⟩
  have hns : ns ≤ 256 := by have := ok.few; omega
  have hsn : s < ns := by omega
  have KS := Lib.hid (fun W (hW : Reads W As ns (ints cl)) => sum4_any W As ns cs cl ns hW (Nat.le_refl _) hns hall)
  have KL := Lib.hid (fun W (hW : Reads W As ns (ints cl)) => sum4_any W As ns cs cl s hW (by omega) hns hall)
  rw [show low cl ns = cl.sum from low_all cl ns (by omega)] at KS
  -- the numbers
  have f1 := part_R hx ok s hs
  have f2 := part_top (x := x) ok s
  have f3 := stp_cast (x := x) ok s
  have f4 := newSz_cast (x := x) ok s hs
  have f5 := hx.top
  have f6 := hx.hi
  have f7 := tot_cast ok
  have f8 := tot_bd ok
  have f9 := mul_unit_le (x := x) ok s
  have CUT := Lib.hid (⟨f1, f2, f5, f6, come_cut x cl s⟩ : _ ∧ _ ∧ x.L + x.R ≤ 256 ^ (4 + x.k) ∧ x.R ≤ 4294967296 ∧ come x cl s = norm 3 (cut x cl s))
  have hst : stp x cl s ≤ x.R := f9
  have hlast := last_iff ok s hs
  have hL1 := cnt_cast ok s
  have hcnt1 : (cl.getD s 0) * ((x.R : Int) / cl.sum) ≤ (x.R : Int) ∧ 0 ≤ (cl.getD s 0) * ((x.R : Int) / cl.sum) := by
    have g1 := one_at ok.one s hs
    have g2 : 0 ≤ (x.R : Int) / cl.sum := Int.ediv_nonneg (by omega) (by omega)
    have g3 : cl.sum * ((x.R : Int) / cl.sum) ≤ (x.R : Int) := Int.mul_ediv_self_le (by omega)
    have g4 : low cl s + cl.getD s 0 ≤ cl.sum := by rw [← low_succ]; exact low_sum ok.zero (s + 1)
    have g5 := (ok.low_le' s).1
    have g6 : cl.getD s 0 * ((x.R : Int) / cl.sum) ≤ cl.sum * ((x.R : Int) / cl.sum) := Int.mul_le_mul_of_nonneg_right (by omega) g2
    exact ⟨by omega, Int.mul_nonneg (by omega) g2⟩
  clear h hr k1 k2 k3 k4 k5 f1 f2
  go_enter Tryd.func16, Tryd.ntmps16
  go_wp2_with fail
  generalize ((w.alloc (.cells #[.slice (some ad) (4 + x.k) c, .int .i64 (x.R : Int)] 29)).alloc (.cells #[.slice As ns cs, .int .i64 (s : Int)] 36)).alloc (.cells #[.slice none 0 0, .int .i64 0] 29) = W at *
  refine (KS.out W RD.out.2).mono ?_
  rintro e w1 ⟨rfl, b1⟩
  have BX1 := Lib.hid (BX.out.below b1.below)
  have RD1 := Lib.hid (⟨RD.out.1.read b1, RD.out.2.read b1⟩ : Reads w1 (some ad) (4 + x.k) (ints (dints (digs (4 + x.k) x.L))) ∧ Reads w1 As ns (ints cl))
  have B1 := Lib.hid b1
  clear b1
  have p3 := BX1.out.s0
  have p4 := BX1.out.s1
  go_wp2_with fail
  refine (KL.out w1 RD1.out.2).mono ?_
  rintro e w2 ⟨rfl, b2⟩
  have BX2 := Lib.hid (BX1.out.below b2.below)
  have RD2 := Lib.hid (⟨RD1.out.1.read b2, RD1.out.2.read b2⟩ : Reads w2 (some ad) (4 + x.k) (ints (dints (digs (4 + x.k) x.L))) ∧ Reads w2 As ns (ints cl))
  have B2 := Lib.hid (B1.out.trans b2)
  clear b2 p3 p4
  have p1 := BX2.out.i0
  have p2 := BX2.out.i1
  have p3 := BX2.out.s0
  have p4 := BX2.out.s1
  obtain ⟨adc, rfl, pc⟩ := RD2.out.2.int s hsn
  have HF3 := Lib.hid f3
  have HF4 := Lib.hid f4
  have hrp : 0 ≤ (x.R : Int) / cl.sum := Int.ediv_nonneg (by omega) (by omega)
  have hrl : (x.R : Int) / cl.sum ≤ (x.R : Int) := Int.ediv_le_self _ (by omega)
  obtain ⟨RI, hRI⟩ : ∃ RI : Int, RI = (x.R : Int) := ⟨_, rfl⟩
  obtain ⟨nI, hnI⟩ : ∃ nI : Int, nI = cl.sum := ⟨_, rfl⟩
  obtain ⟨lI, hlI⟩ : ∃ lI : Int, lI = low cl s := ⟨_, rfl⟩
  obtain ⟨fI, hfI⟩ : ∃ fI : Int, fI = cl.getD s 0 := ⟨_, rfl⟩
  obtain ⟨rI, hrI⟩ : ∃ rI : Int, rI = (x.R : Int) / cl.sum := ⟨_, rfl⟩
  obtain ⟨lp, hlp⟩ : ∃ lp : Int, lp = ((stp x cl s : Nat) : Int) := ⟨_, rfl⟩
  obtain ⟨fp, hfp⟩ : ∃ fp : Int, fp = cl.getD s 0 * ((x.R : Int) / cl.sum) := ⟨_, rfl⟩
  have KA := Lib.hid (add_any w2 (some ad) (4 + x.k) c (digs (4 + x.k) x.L) (stp x cl s) RD2.out.1 (fun e => (nomatch e)) (dig_digs _ _) (by omega) (by omega) (by omega) (by
    have g1 : 256 ≤ (cut x cl s).R := CUT.out.1.1
    have g2 : (cut x cl s).L + (cut x cl s).R ≤ x.L + x.R := CUT.out.2.1
    rw [cut_L] at g2
    rw [val_digs _ _ (by omega)]
    omega))
  rw [← hlp] at KA
  rw [← hRI] at p2
  rw [← hfI] at pc
  have q1 : lI * rI = lp := by rw [hlI, hrI, hlp]; exact f3
  have q2 : fI * rI = fp := by rw [hfI, hrI, hfp]
  have q3 : nI ≠ 0 := by omega
  have q4 : (nI == 0) = false := by simp [q3]
  have q5 : RI.tdiv nI = rI := by rw [hrI, hRI, hnI]; exact Int.tdiv_eq_ediv_of_nonneg (by omega)
  have q5' : RI / nI = rI := by rw [hrI, hRI, hnI]
  have q6 : 0 ≤ rI ∧ rI ≤ 4294967296 := by omega
  have q7 : 0 ≤ lp ∧ lp ≤ RI := by omega
  have q8 : 0 ≤ fp ∧ fp ≤ RI := by omega
  have q9 : 0 < RI ∧ RI ≤ 4294967296 := by have := hx.lo; omega
  have m1 : IntKind.i64.wrap rI = rI := IntWalk.i64_in _ (by omega)
  have m2 : IntKind.i64.wrap lp = lp := IntWalk.i64_in _ (by omega)
  have m3 : IntKind.i64.wrap fp = fp := IntWalk.i64_in _ (by omega)
  have m4 : IntKind.i64.wrap (RI - lp) = RI - lp := IntWalk.i64_in _ (by omega)
  have m5 : IntKind.i64.wrap ((ns : Int) - 1) = (ns : Int) - 1 := IntWalk.i64_in _ (by omega)
  have t4 : (s : Int) < (ns : Int) := by omega
  have hq10 : 0 < nI := by omega
  rw [← hnI, ← hlI]
  have NW := Lib.hid (show newSz (x.R : Int) cl.sum (low cl s) (cl.getD s 0) = if s + 1 = ns then RI - lp else fp by
    unfold newSz
    rw [← hrI, ← hlI, hlI, ← hlI, q1, ← hfI, q2, ← hRI, hlI, hfI]
    by_cases hh : s + 1 = ns
    · rw [if_pos (hlast.2 (by omega)), if_pos hh]
    · rw [if_neg (fun e => hh (by have := hlast.1 e; omega)), if_neg hh])
  clear hRI hnI hlI hfI hrI hlp hfp f3 f4 hlast hL1 hcnt1 f5 f6 f7 f8 f9 hst hrp hrl hall ok hx hs hl
  by_cases hla : s + 1 = ns
  · have t5 : ((s : Int) == (ns : Int) - 1) = true := by simp; omega
    obtain ⟨sz, hsz⟩ : ∃ sz : Int, sz = RI - lp := ⟨_, rfl⟩
    have HSZ := Lib.hid (show sz = (((cut x cl s).R : Nat) : Int) by rw [← HF4.out, NW.out, if_pos hla, hsz])
    have HLA := Lib.hid hla
    rw [← hsz] at m4
    have q11 : RI - lp = sz := hsz.symm
    clear hla hsz
    go_wp2_with fail
    refine KA.out.mono ?_
    rintro e w3 ⟨v3, rfl, o3, b3⟩
    have BX3 := Lib.hid (BX2.out.below b3)
    have B3 := Lib.hid (show Below w.heap.size w w3 from (B0.out.1.trans B2.out.below).trans (b3.mono (Nat.le_trans B0.out.1.size (by rw [B2.out.heap]; exact Nat.le_refl _))))
    obtain ⟨A3, c3, rfl, _, _⟩ := Reads.of_own o3
    have a4 := alloc_below w3 (.cells #[.slice A3 (4 + x.k) c3, .int .i64 sz] 29)
    have h4 : (w3.alloc (.cells #[.slice A3 (4 + x.k) c3, .int .i64 sz] 29)).heap[w3.heap.size]? = some (.cells #[.slice A3 (4 + x.k) c3, .int .i64 sz] 29 (0, 0)) := (Array.getElem?_push_size : (w3.heap.push _)[w3.heap.size]? = some _)
    have L4 := Lib.hid (show ComeAt w w.heap.size (w.heap.size + 1 + 1) w3.heap.size (come x cl s) 3 (w3.alloc (.cells #[.slice A3 (4 + x.k) c3, .int .i64 sz] 29)) from by
      obtain ⟨g1, g2, g3, g4, g5⟩ := CUT.out
      have g1' : 256 ≤ (cut x cl s).R ∧ (cut x cl s).R ≤ x.R := g1
      have g2' : (cut x cl s).L + (cut x cl s).R ≤ x.L + x.R := g2
      refine ⟨.slice A3 (4 + x.k) c3, cut x cl s, g5.symm, by rw [cut_k]; omega, by omega, by omega, by omega, by rw [cut_k]; omega, ⟨?_, ?_⟩, B3.out.trans (a4.mono B3.out.size), (BX3.out.below a4).out⟩
      · rw [← HSZ.out]; exact h4
      · rw [cut_k, cut_L]
        have h5 := own_keep (S := fun _ => False) o3 (.of_below a4) (fun _ _ => id)
        rw [val_digs _ _ (by have := g3; omega)] at h5
        exact own_base h5 (by rw [B2.out.heap]; exact B0.out.1.size))
    clear o3 b3 a4 h4
    go_wp2_with fail
    generalize w3.alloc (.cells #[.slice A3 (4 + x.k) c3, .int .i64 sz] 29) = w4 at *
    generalize hg : w3.heap.size = g at *
    have HG := Lib.hid (show w.heap.size + 1 + 1 < g ∧ w.heap.size ≤ g from by
      obtain ⟨cs', hcs, _⟩ := BX3.out.out
      have := heap_lt hcs
      omega)
    clear hg
    go_loopg [] 3 (ComeAt w w.heap.size (w.heap.size + 1 + 1) g (come x cl s))
    case atStart => exact L4.out
    case round =>
      obtain ⟨v1, z, hz, zT, zH, zP, zL, zk, zb, zc, ⟨cz, hcz, hcs2⟩⟩ := hrel
      obtain ⟨A1, cp1, hv1, hA1, hR1⟩ := Reads.of_own zb.row
      subst hv1
      have r0 : wr.cell? ⟨g, 0, none⟩ = some (.slice A1 (4 + z.k) cp1) := by rw [cell_in zb.blk]; rfl
      have r1 : wr.cell? ⟨g, 1, none⟩ = some (.int .i64 (z.R : Int)) := by rw [cell_in zb.blk]; rfl
      have fr0 := frozen_in zb.blk 0
      have fr1 := frozen_in zb.blk 1
      have Z := Lib.hid (⟨hz, zT, zL, zk, zb, zc, hcz⟩ : norm gk z = come x cl s ∧ z.L + z.R ≤ 256 ^ (4 + z.k) ∧ 16777216 ≤ z.R * 256 ^ gk ∧ z.k + gk ≤ 100003 ∧ RBuf wr w.heap.size g (.slice A1 (4 + z.k) cp1) z ∧ Below w.heap.size w wr ∧ wr.heap[w.heap.size + 1 + 1]? = some (.cells cz 29 (0, 0)))
      clear hz zT zL
      by_cases hrr : z.R < 16777216
      · have t8 : (z.R : Int) < 16777216 := by omega
        obtain ⟨t, ht⟩ : ∃ t, gk = t + 1 := ⟨gk - 1, by
          rcases Nat.eq_zero_or_pos gk with h0 | h0
          · have := Z.out.2.2.1
            rw [h0] at this
            omega
          · omega⟩
        subst ht
        have HO := Lib.hid (zb.row.alloc (.cells #[.int .i64 0] 3))
        have hsz := zc.size
        have hgw : g < wr.heap.size := heap_lt zb.blk
        have HR := Lib.hid hrr
        have CS := Lib.hid hcs2
        have G1 := Lib.hid (own_neT zb.row zb.blk (by decide))
        have G2 := Lib.hid (own_neT zb.row hcz (by decide))
        have HB4 := Lib.hid (heap_lt hcz)
        clear zb zc hcz hcs2 hR1 hA1 hrr
        go_wp2_with (at_builtin; refine wpList_append_lies _ rfl (.tmp 58) (.tmp 59) 27 rfl w.heap.size 3 i0 (.int .i64 0) 1 8 Tryd.underlying27 hi hz0 hz1 hz2 rfl (by decide) (.slice A1 (4 + z.k) cp1) (4 + z.k) (ints (dints (digs (4 + z.k) z.L))) rfl HO.out ⟨wr.heap.size, 0, none⟩ 1 1 [.int .i64 0] rfl rfl (cell_one_new _ _ _) (by intro u hu; simp at hu; subst hu; rfl) (by decide) (by unfold maxLen; omega) (by omega) (by have := hsz; simp; omega) (wr.heap.size + 1) (by simp) ?_)
        intro q5 cap5 w5 hown hgr hq5 hlt5
        have hblk : ∀ b o, wr.heap[b]? = some o → (Value.slice A1 (4 + z.k) cp1).ownBlock ≠ some b → w5.heap[b]? = some o := fun b o hb hne =>
          (hgr.block b (by have := heap_lt hb; simp; omega) (fun e => hne e.symm)).trans ((Below.heap_alloc _ _ _ (heap_lt hb)).trans hb)
        have k5 := hblk g _ Z.out.2.2.2.2.1.blk G1.out
        have k6 := hblk (w.heap.size + 1 + 1) _ Z.out.2.2.2.2.2.2 G2.out
        have x0 : w5.cell? ⟨g, 0, none⟩ = some (.slice A1 (4 + z.k) cp1) := by rw [cell_in k5]; rfl
        have x1 : w5.cell? ⟨g, 1, none⟩ = some (.int .i64 (z.R : Int)) := by rw [cell_in k5]; rfl
        have xf0 := frozen_in k5 0
        have xf1 := frozen_in k5 1
        have eT : digs (4 + (up z).k) (up z).L = digs (4 + z.k) z.L ++ [0] := digs_up z (by have := Z.out.2.1; omega)
        have e0 : ints (dints (digs (4 + z.k) z.L)) ++ [.int .i64 0] = ints (dints (digs (4 + (up z).k) (up z).L)) := by rw [eT, ← ints_snoc]; rfl
        rw [e0] at hown
        have hqg : q5 ≠ g := by
          rcases hq5 with h' | h'
          · intro e; subst e; exact G1.out h'
          · omega
        have B5 := Lib.hid (show Below w.heap.size w w5 from own_grown_below (Z.out.2.2.2.2.2.1.alloc hsz _) hgr (by simp; omega) (fun p hp => (ownI_lt Z.out.2.2.2.2.1.row p hp)))
        have O5 := Lib.hid (⟨hown, k5, k6, hqg⟩ : w5.ownsRow w.heap.size 3 1 (.slice (some ⟨q5, 0, none⟩) (4 + z.k + 1) cap5) (4 + z.k + 1) (ints (dints (digs (4 + (up z).k) (up z).L))) ∧ w5.heap[g]? = _ ∧ w5.heap[w.heap.size + 1 + 1]? = _ ∧ q5 ≠ g)
        clear hown hgr hq5 hlt5 hblk k5 k6 eT e0 hqg
        have m20 : IntKind.i64.wrap ((z.R : Int) * 256) = (z.R : Int) * 256 := IntWalk.i64_in _ (by omega)
        go_wp2_with fail
        go_roundg t
        case measure => omega
        case rel =>
          obtain ⟨hz, zT, zL, zk', zb, zc, hcz⟩ := Z.out
          have hr := HR.out
          have hch : Chg (· = g) w5 ((w5.setCell ⟨g, 0, none⟩ (.slice (some ⟨q5, 0, none⟩) (4 + z.k + 1) cap5)).setCell ⟨g, 1, none⟩ (.int .i64 ((z.R : Int) * 256))) := ((Chg.refl _ w5).set _ _ (by exact rfl)).set _ _ (by exact rfl)
          refine ⟨.slice (some ⟨q5, 0, none⟩) (4 + z.k + 1) cap5, up z, by rw [← norm_small t z hr]; exact hz, ?_, ?_, ?_, ?_, ?_, ⟨?_, ?_⟩, B5.out.trans (hch.below B5.out.size (fun p hp => by rw [hp]; exact HG.out.2)), cz, ?_, CS.out⟩
          · show z.L * 256 + z.R * 256 ≤ 256 ^ (4 + (z.k + 1))
            rw [← Nat.add_assoc, Nat.pow_succ, ← Nat.add_mul]
            exact Nat.mul_le_mul_right _ zT
          · show z.R * 256 ≤ 4294967296
            omega
          · show 0 < z.R * 256
            omega
          · show 16777216 ≤ z.R * 256 * 256 ^ t
            rw [Nat.mul_assoc, Nat.mul_comm 256, ← Nat.pow_succ]
            exact zL
          · show z.k + 1 + t ≤ 100003
            omega
          · have h8 := heap_set (heap_set O5.out.2.1 0 (.slice (some ⟨q5, 0, none⟩) (4 + z.k + 1) cap5)) 1 (.int .i64 ((z.R : Int) * 256))
            rw [h8]
            simp [up]
          · have h8 := own_keep O5.out.1 hch (fun p hp e => O5.out.2.2.2 (by injection hp with hp; exact hp.trans e))
            have e9 : 4 + (up z).k = 4 + z.k + 1 := rfl
            rw [e9] at h8 ⊢
            exact h8
          · exact (hch.far _ (heap_lt O5.out.2.2.1) (fun e => by have := HG.out.1; omega)).trans O5.out.2.2.1
      · have t8 : ¬ (z.R : Int) < 16777216 := by omega
        have ce : ∃ u0 u1, cz = #[u0, u1] := by
          obtain ⟨l⟩ := cz
          match l, hcs2 with
          | [u0, u1], _ => exact ⟨u0, u1, rfl⟩
        obtain ⟨u0, u1, rfl⟩ := ce
        have y0 : wr.cell? ⟨w.heap.size + 1 + 1, 0, none⟩ = some u0 := by rw [cell_in hcz]; rfl
        have y1 : wr.cell? ⟨w.heap.size + 1 + 1, 1, none⟩ = some u1 := by rw [cell_in hcz]; rfl
        have yf0 := frozen_in hcz 0
        have yf1 := frozen_in hcz 1
        have HR := Lib.hid hrr
        clear zb zc hcz hcs2 hR1 hA1 hrr
        go_wp2_with fail
        have h9 := heap_set (heap_set Z.out.2.2.2.2.2.2 0 (.slice A1 (4 + z.k) cp1)) 1 (.int .i64 (z.R : Int))
        have j0 : ((wr.setCell ⟨w.heap.size + 1 + 1, 0, none⟩ (.slice A1 (4 + z.k) cp1)).setCell ⟨w.heap.size + 1 + 1, 1, none⟩ (.int .i64 (z.R : Int))).cell? ⟨w.heap.size + 1 + 1, 0, none⟩ = some (.slice A1 (4 + z.k) cp1) := by rw [cell_in h9]; rfl
        have j1 : ((wr.setCell ⟨w.heap.size + 1 + 1, 0, none⟩ (.slice A1 (4 + z.k) cp1)).setCell ⟨w.heap.size + 1 + 1, 1, none⟩ (.int .i64 (z.R : Int))).cell? ⟨w.heap.size + 1 + 1, 1, none⟩ = some (.int .i64 (z.R : Int)) := by rw [cell_in h9]; rfl
        have hch : Chg (· = w.heap.size + 1 + 1) wr ((wr.setCell ⟨w.heap.size + 1 + 1, 0, none⟩ (.slice A1 (4 + z.k) cp1)).setCell ⟨w.heap.size + 1 + 1, 1, none⟩ (.int .i64 (z.R : Int))) := ((Chg.refl _ wr).set _ _ (by exact rfl)).set _ _ (by exact rfl)
        generalize (wr.setCell ⟨w.heap.size + 1 + 1, 0, none⟩ (.slice A1 (4 + z.k) cp1)).setCell ⟨w.heap.size + 1 + 1, 1, none⟩ (.int .i64 (z.R : Int)) = W9 at *
        refine bodyPost_ret (v := .agg #[.slice A1 (4 + z.k) cp1, .int .i64 (z.R : Int)]) (by simp [results, Tryd.results16, go_sem, j0, j1]; try rfl) rfl ?_
        obtain ⟨hz, zT, zL, zk', zb, zc, hcz⟩ := Z.out
        have hzz : come x cl s = z := by rw [← hz, norm_big gk z (by have := HR.out; omega)]
        have ho := own_keep zb.row hch (fun p hp e => own_neT zb.row hcz (by decide) (by rw [hp, e]))
        obtain ⟨A5, c5, hv5, _, hR5⟩ := Reads.of_own ho
        injection hv5 with hA5 _ hc5
        subst hA5 hc5
        rw [hzz]
        obtain ⟨ad5, rfl, _⟩ := hR5.2 (by omega)
        exact ⟨_, rfl, ⟨ad5, cp1, rfl, own_base ho (Nat.zero_le _)⟩, zc.trans (hch.below zc.size (fun p hp => by omega))⟩
  · have t5 : ((s : Int) == (ns : Int) - 1) = false := by simp; omega
    have HSZ := Lib.hid (show fp = (((cut x cl s).R : Nat) : Int) by rw [← HF4.out, NW.out, if_neg hla])
    have HLA := Lib.hid hla
    clear hla
    go_wp2_with fail
    refine KA.out.mono ?_
    rintro e w3 ⟨v3, rfl, o3, b3⟩
    have BX3 := Lib.hid (BX2.out.below b3)
    have B3 := Lib.hid (show Below w.heap.size w w3 from (B0.out.1.trans B2.out.below).trans (b3.mono (Nat.le_trans B0.out.1.size (by rw [B2.out.heap]; exact Nat.le_refl _))))
    obtain ⟨A3, c3, rfl, _, _⟩ := Reads.of_own o3
    have a4 := alloc_below w3 (.cells #[.slice A3 (4 + x.k) c3, .int .i64 fp] 29)
    have h4 : (w3.alloc (.cells #[.slice A3 (4 + x.k) c3, .int .i64 fp] 29)).heap[w3.heap.size]? = some (.cells #[.slice A3 (4 + x.k) c3, .int .i64 fp] 29 (0, 0)) := (Array.getElem?_push_size : (w3.heap.push _)[w3.heap.size]? = some _)
    have L4 := Lib.hid (show ComeAt w w.heap.size (w.heap.size + 1 + 1) w3.heap.size (come x cl s) 3 (w3.alloc (.cells #[.slice A3 (4 + x.k) c3, .int .i64 fp] 29)) from by
      obtain ⟨g1, g2, g3, g4, g5⟩ := CUT.out
      have g1' : 256 ≤ (cut x cl s).R ∧ (cut x cl s).R ≤ x.R := g1
      have g2' : (cut x cl s).L + (cut x cl s).R ≤ x.L + x.R := g2
      refine ⟨.slice A3 (4 + x.k) c3, cut x cl s, g5.symm, by rw [cut_k]; omega, by omega, by omega, by omega, by rw [cut_k]; omega, ⟨?_, ?_⟩, B3.out.trans (a4.mono B3.out.size), (BX3.out.below a4).out⟩
      · rw [← HSZ.out]; exact h4
      · rw [cut_k, cut_L]
        have h5 := own_keep (S := fun _ => False) o3 (.of_below a4) (fun _ _ => id)
        rw [val_digs _ _ (by have := g3; omega)] at h5
        exact own_base h5 (by rw [B2.out.heap]; exact B0.out.1.size))
    clear o3 b3 a4 h4
    go_wp2_with fail
    generalize w3.alloc (.cells #[.slice A3 (4 + x.k) c3, .int .i64 fp] 29) = w4 at *
    generalize hg : w3.heap.size = g at *
    have HG := Lib.hid (show w.heap.size + 1 + 1 < g ∧ w.heap.size ≤ g from by
      obtain ⟨cs', hcs, _⟩ := BX3.out.out
      have := heap_lt hcs
      omega)
    clear hg
    go_loopg [] 3 (ComeAt w w.heap.size (w.heap.size + 1 + 1) g (come x cl s))
    case atStart => exact L4.out
    case round =>
      obtain ⟨v1, z, hz, zT, zH, zP, zL, zk, zb, zc, ⟨cz, hcz, hcs2⟩⟩ := hrel
      obtain ⟨A1, cp1, hv1, hA1, hR1⟩ := Reads.of_own zb.row
      subst hv1
      have r0 : wr.cell? ⟨g, 0, none⟩ = some (.slice A1 (4 + z.k) cp1) := by rw [cell_in zb.blk]; rfl
      have r1 : wr.cell? ⟨g, 1, none⟩ = some (.int .i64 (z.R : Int)) := by rw [cell_in zb.blk]; rfl
      have fr0 := frozen_in zb.blk 0
      have fr1 := frozen_in zb.blk 1
      have Z := Lib.hid (⟨hz, zT, zL, zk, zb, zc, hcz⟩ : norm gk z = come x cl s ∧ z.L + z.R ≤ 256 ^ (4 + z.k) ∧ 16777216 ≤ z.R * 256 ^ gk ∧ z.k + gk ≤ 100003 ∧ RBuf wr w.heap.size g (.slice A1 (4 + z.k) cp1) z ∧ Below w.heap.size w wr ∧ wr.heap[w.heap.size + 1 + 1]? = some (.cells cz 29 (0, 0)))
      clear hz zT zL
      by_cases hrr : z.R < 16777216
      · have t8 : (z.R : Int) < 16777216 := by omega
        obtain ⟨t, ht⟩ : ∃ t, gk = t + 1 := ⟨gk - 1, by
          rcases Nat.eq_zero_or_pos gk with h0 | h0
          · have := Z.out.2.2.1
            rw [h0] at this
            omega
          · omega⟩
        subst ht
        have HO := Lib.hid (zb.row.alloc (.cells #[.int .i64 0] 3))
        have hsz := zc.size
        have hgw : g < wr.heap.size := heap_lt zb.blk
        have HR := Lib.hid hrr
        have CS := Lib.hid hcs2
        have G1 := Lib.hid (own_neT zb.row zb.blk (by decide))
        have G2 := Lib.hid (own_neT zb.row hcz (by decide))
        have HB4 := Lib.hid (heap_lt hcz)
        clear zb zc hcz hcs2 hR1 hA1 hrr
        go_wp2_with (at_builtin; refine wpList_append_lies _ rfl (.tmp 58) (.tmp 59) 27 rfl w.heap.size 3 i0 (.int .i64 0) 1 8 Tryd.underlying27 hi hz0 hz1 hz2 rfl (by decide) (.slice A1 (4 + z.k) cp1) (4 + z.k) (ints (dints (digs (4 + z.k) z.L))) rfl HO.out ⟨wr.heap.size, 0, none⟩ 1 1 [.int .i64 0] rfl rfl (cell_one_new _ _ _) (by intro u hu; simp at hu; subst hu; rfl) (by decide) (by unfold maxLen; omega) (by omega) (by have := hsz; simp; omega) (wr.heap.size + 1) (by simp) ?_)
        intro q5 cap5 w5 hown hgr hq5 hlt5
        have hblk : ∀ b o, wr.heap[b]? = some o → (Value.slice A1 (4 + z.k) cp1).ownBlock ≠ some b → w5.heap[b]? = some o := fun b o hb hne =>
          (hgr.block b (by have := heap_lt hb; simp; omega) (fun e => hne e.symm)).trans ((Below.heap_alloc _ _ _ (heap_lt hb)).trans hb)
        have k5 := hblk g _ Z.out.2.2.2.2.1.blk G1.out
        have k6 := hblk (w.heap.size + 1 + 1) _ Z.out.2.2.2.2.2.2 G2.out
        have x0 : w5.cell? ⟨g, 0, none⟩ = some (.slice A1 (4 + z.k) cp1) := by rw [cell_in k5]; rfl
        have x1 : w5.cell? ⟨g, 1, none⟩ = some (.int .i64 (z.R : Int)) := by rw [cell_in k5]; rfl
        have xf0 := frozen_in k5 0
        have xf1 := frozen_in k5 1
        have eT : digs (4 + (up z).k) (up z).L = digs (4 + z.k) z.L ++ [0] := digs_up z (by have := Z.out.2.1; omega)
        have e0 : ints (dints (digs (4 + z.k) z.L)) ++ [.int .i64 0] = ints (dints (digs (4 + (up z).k) (up z).L)) := by rw [eT, ← ints_snoc]; rfl
        rw [e0] at hown
        have hqg : q5 ≠ g := by
          rcases hq5 with h' | h'
          · intro e; subst e; exact G1.out h'
          · omega
        have B5 := Lib.hid (show Below w.heap.size w w5 from own_grown_below (Z.out.2.2.2.2.2.1.alloc hsz _) hgr (by simp; omega) (fun p hp => (ownI_lt Z.out.2.2.2.2.1.row p hp)))
        have O5 := Lib.hid (⟨hown, k5, k6, hqg⟩ : w5.ownsRow w.heap.size 3 1 (.slice (some ⟨q5, 0, none⟩) (4 + z.k + 1) cap5) (4 + z.k + 1) (ints (dints (digs (4 + (up z).k) (up z).L))) ∧ w5.heap[g]? = _ ∧ w5.heap[w.heap.size + 1 + 1]? = _ ∧ q5 ≠ g)
        clear hown hgr hq5 hlt5 hblk k5 k6 eT e0 hqg
        have m20 : IntKind.i64.wrap ((z.R : Int) * 256) = (z.R : Int) * 256 := IntWalk.i64_in _ (by omega)
        go_wp2_with fail
        go_roundg t
        case measure => omega
        case rel =>
          obtain ⟨hz, zT, zL, zk', zb, zc, hcz⟩ := Z.out
          have hr := HR.out
          have hch : Chg (· = g) w5 ((w5.setCell ⟨g, 0, none⟩ (.slice (some ⟨q5, 0, none⟩) (4 + z.k + 1) cap5)).setCell ⟨g, 1, none⟩ (.int .i64 ((z.R : Int) * 256))) := ((Chg.refl _ w5).set _ _ (by exact rfl)).set _ _ (by exact rfl)
          refine ⟨.slice (some ⟨q5, 0, none⟩) (4 + z.k + 1) cap5, up z, by rw [← norm_small t z hr]; exact hz, ?_, ?_, ?_, ?_, ?_, ⟨?_, ?_⟩, B5.out.trans (hch.below B5.out.size (fun p hp => by rw [hp]; exact HG.out.2)), cz, ?_, CS.out⟩
          · show z.L * 256 + z.R * 256 ≤ 256 ^ (4 + (z.k + 1))
            rw [← Nat.add_assoc, Nat.pow_succ, ← Nat.add_mul]
            exact Nat.mul_le_mul_right _ zT
          · show z.R * 256 ≤ 4294967296
            omega
          · show 0 < z.R * 256
            omega
          · show 16777216 ≤ z.R * 256 * 256 ^ t
            rw [Nat.mul_assoc, Nat.mul_comm 256, ← Nat.pow_succ]
            exact zL
          · show z.k + 1 + t ≤ 100003
            omega
          · have h8 := heap_set (heap_set O5.out.2.1 0 (.slice (some ⟨q5, 0, none⟩) (4 + z.k + 1) cap5)) 1 (.int .i64 ((z.R : Int) * 256))
            rw [h8]
            simp [up]
          · have h8 := own_keep O5.out.1 hch (fun p hp e => O5.out.2.2.2 (by injection hp with hp; exact hp.trans e))
            have e9 : 4 + (up z).k = 4 + z.k + 1 := rfl
            rw [e9] at h8 ⊢
            exact h8
          · exact (hch.far _ (heap_lt O5.out.2.2.1) (fun e => by have := HG.out.1; omega)).trans O5.out.2.2.1
      · have t8 : ¬ (z.R : Int) < 16777216 := by omega
        have ce : ∃ u0 u1, cz = #[u0, u1] := by
          obtain ⟨l⟩ := cz
          match l, hcs2 with
          | [u0, u1], _ => exact ⟨u0, u1, rfl⟩
        obtain ⟨u0, u1, rfl⟩ := ce
        have y0 : wr.cell? ⟨w.heap.size + 1 + 1, 0, none⟩ = some u0 := by rw [cell_in hcz]; rfl
        have y1 : wr.cell? ⟨w.heap.size + 1 + 1, 1, none⟩ = some u1 := by rw [cell_in hcz]; rfl
        have yf0 := frozen_in hcz 0
        have yf1 := frozen_in hcz 1
        have HR := Lib.hid hrr
        clear zb zc hcz hcs2 hR1 hA1 hrr
        go_wp2_with fail
        have h9 := heap_set (heap_set Z.out.2.2.2.2.2.2 0 (.slice A1 (4 + z.k) cp1)) 1 (.int .i64 (z.R : Int))
        have j0 : ((wr.setCell ⟨w.heap.size + 1 + 1, 0, none⟩ (.slice A1 (4 + z.k) cp1)).setCell ⟨w.heap.size + 1 + 1, 1, none⟩ (.int .i64 (z.R : Int))).cell? ⟨w.heap.size + 1 + 1, 0, none⟩ = some (.slice A1 (4 + z.k) cp1) := by rw [cell_in h9]; rfl
        have j1 : ((wr.setCell ⟨w.heap.size + 1 + 1, 0, none⟩ (.slice A1 (4 + z.k) cp1)).setCell ⟨w.heap.size + 1 + 1, 1, none⟩ (.int .i64 (z.R : Int))).cell? ⟨w.heap.size + 1 + 1, 1, none⟩ = some (.int .i64 (z.R : Int)) := by rw [cell_in h9]; rfl
        have hch : Chg (· = w.heap.size + 1 + 1) wr ((wr.setCell ⟨w.heap.size + 1 + 1, 0, none⟩ (.slice A1 (4 + z.k) cp1)).setCell ⟨w.heap.size + 1 + 1, 1, none⟩ (.int .i64 (z.R : Int))) := ((Chg.refl _ wr).set _ _ (by exact rfl)).set _ _ (by exact rfl)
        generalize (wr.setCell ⟨w.heap.size + 1 + 1, 0, none⟩ (.slice A1 (4 + z.k) cp1)).setCell ⟨w.heap.size + 1 + 1, 1, none⟩ (.int .i64 (z.R : Int)) = W9 at *
        refine bodyPost_ret (v := .agg #[.slice A1 (4 + z.k) cp1, .int .i64 (z.R : Int)]) (by simp [results, Tryd.results16, go_sem, j0, j1]; try rfl) rfl ?_
        obtain ⟨hz, zT, zL, zk', zb, zc, hcz⟩ := Z.out
        have hzz : come x cl s = z := by rw [← hz, norm_big gk z (by have := HR.out; omega)]
        have ho := own_keep zb.row hch (fun p hp e => own_neT zb.row hcz (by decide) (by rw [hp, e]))
        obtain ⟨A5, c5, hv5, _, hR5⟩ := Reads.of_own ho
        injection hv5 with hA5 _ hc5
        subst hA5 hc5
        rw [hzz]
        obtain ⟨ad5, rfl, _⟩ := hR5.2 (by omega)
        exact ⟨_, rfl, ⟨ad5, cp1, rfl, own_base ho (Nat.zero_le _)⟩, zc.trans (hch.below zc.size (fun p hp => by omega))⟩
end Go.Proofs.YtbkjfblmdilchaaDoor
