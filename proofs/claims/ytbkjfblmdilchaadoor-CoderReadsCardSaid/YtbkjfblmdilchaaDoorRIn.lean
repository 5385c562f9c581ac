/- The document's In: do the bytes lie in an interval? -/
import Derived.Test.YtbkjfblmdilchaaDoorRCome
import Derived.Deep.RegionHeld3
import Derived.BigFrame
namespace Go.Proofs.YtbkjfblmdilchaaDoor
open Go.RowKit

instance (x : Iv) (b : List Nat) : Decidable (Inside x b) := by unfold Inside; exact inferInstance
theorem one_int (w : World) : (w.alloc (.cells #[.int .i64 0] 3)).ownsRow w.heap.size 3 1 (.slice (some ⟨w.heap.size, 0, none⟩) 1 1) 1 (ints (dints [0])) :=
  ownI_of_block (l := [0]) (rest := []) (Array.getElem?_push_size : (w.heap.push _)[w.heap.size]? = some _) rfl (Nat.le_refl _) (by unfold maxLen; omega) rfl (Nat.le_refl _)
theorem val_zero_cons (l : List Nat) : val (0 :: l) = val l := by rw [val_cons, Nat.zero_mul, Nat.zero_add]
theorem dig_zero_cons {l : List Nat} (h : Dig l) : Dig (0 :: l) := fun d hd => by
  rcases List.mem_cons.1 hd with rfl | hd
  · omega
  · exact h d hd
theorem ints_zero_cons (l : List Nat) : ints (dints [0]) ++ ints (dints l) = ints (dints (0 :: l)) := by rw [← ints_append, ← dints_append]; rfl

/-- append, where the operation's guard says yes. -/
theorem wpList_append_want {P : Program} {w : World} {ops : Array Oper} {rest : List Oper} {o : Oper} {a : Act} {Q : Exit → Act → World → Prop} (hw : Region.wanted o (yielded ops a.tmps) = true) (s x : Operand) (t : TypeId)
    (ho : o.op = .call { callee := .builtin .append, args := #[s, x], argTypes := #[t, t] }) (base : Nat) (e : TypeId) (i : TypeInfo) (z : Value) (bytes : Nat) (ht : P.underlying t = some (.slice e)) (hi : P.info? e = some i)
    (hz : i.zero = some z ∧ i.size = 1 ∧ i.bytes = bytes) (hzs : z.cells.size = 1) (v : Value) (n : Nat) (xs : List Value) (hs : a.eval s = v) (hown : w.ownsRow base e 1 v n xs) (ad : Addr) (m c : Nat) (news : List Value) (hx : a.eval x = .slice (some ad) m c)
    (hr : Reads w (some ad) m news) (h1 : ∀ u ∈ news, u.oneCell' = true) (hm : 0 < m) (h63 : n + m ≤ maxLen) (hbytes : (n + m) * bytes ≤ 140737488355328) (hbase : base ≤ w.heap.size)
    (h : ∀ v' w', w'.ownsRow base e 1 v' (n + m) (xs ++ news) → w.grownBy w' v.ownBlock → wpList P ops Q rest (a.put o.dst v') w') : wpList P ops Q (o :: rest) a w := by
  refine BigFrame.wpList_want hw fun K hK => wp_append_lies w s x t ho base e i z 1 bytes ht hi hz.1 hz.2.1 hz.2.2 hzs (by decide) v n xs hs hown ad m c news hx (by have := hr.1; omega) ?_ h1 hm h63 hbytes hbase w.heap.size rfl fun g cap w' h2 h3 _ _ => hK _ _ (h _ w' h2 h3)
  obtain ⟨ad', he, hc⟩ := hr.2 hm
  injection he with he
  subst he
  exact hc

/-- R on top of L with a nought ahead. -/
theorem add0 {w : World} {B q cap : Nat} {x : Iv} (ho : w.ownsRow B 3 1 (.slice (some ⟨q, 0, none⟩) (1 + (4 + x.k)) cap) (1 + (4 + x.k)) (ints (dints [0]) ++ ints (dints (digs (4 + x.k) x.L)))) (hv : val (digs (4 + x.k) x.L) = x.L) (hT : x.L + x.R ≤ 256 ^ (4 + x.k)) (hp : 256 ^ (4 + x.k) < 256 ^ (5 + x.k)) (hH : x.R ≤ 4294967296) (hk : x.k ≤ 100000) :
    Calls Tryd.prog 34 #[.slice (some ⟨q, 0, none⟩) (1 + (4 + x.k)) cap, .int .i64 (x.R : Int)] w (OwnD w (5 + x.k) (digs (5 + x.k) (x.L + x.R))) := by
  rw [ints_zero_cons] at ho
  obtain ⟨A, c, hv1, _, hr⟩ := Reads.of_own ho
  injection hv1 with h1 _ h3
  subst h1 h3
  have := add_any w (some ⟨q, 0, none⟩) (1 + (4 + x.k)) cap (0 :: digs (4 + x.k) x.L) x.R hr (fun e => (nomatch e)) (dig_zero_cons (dig_digs _ _)) (by omega) (by omega) hH (by rw [val_zero_cons, hv, show 1 + (4 + x.k) = 5 + x.k by omega]; omega)
  rw [val_zero_cons, hv, show 1 + (4 + x.k) = 5 + x.k by omega] at this
  rw [show 1 + (4 + x.k) = 5 + x.k by omega]
  exact this

set_option maxHeartbeats 6400000 in
set_option maxRecDepth 100000 in
theorem in_any (w : World) (ad : Addr) (c : Nat) (x : Iv) (A : Option Addr) (n cb : Nat) (b : List Nat) (h : Reads w (some ad) (4 + x.k) (ints (dints (digs (4 + x.k) x.L)))) (hx : x.Good) (hk : x.k ≤ 100000) (hr : Reads w A n (bts b)) (hb : Dig b) :
    Calls Tryd.prog 38 #[.agg #[.slice (some ad) (4 + x.k) c, .int .i64 (x.R : Int)], .slice A n cb] w fun e w' => e = .returned (.bool (decide (Inside x b))) ∧ Below w.heap.size w w' := by
  obtain ⟨i0, hi, hz0, hz1, hz2⟩ := info_parts Tryd.infoInt
  have a0 := alloc_below w (.cells #[.slice (some ad) (4 + x.k) c, .int .i64 (x.R : Int)] 29)
  have k0 : (w.alloc (.cells #[.slice (some ad) (4 + x.k) c, .int .i64 (x.R : Int)] 29)).heap[w.heap.size]? = some (.cells #[.slice (some ad) (4 + x.k) c, .int .i64 (x.R : Int)] 29 (0, 0)) := (Array.getElem?_push_size : (w.heap.push _)[w.heap.size]? = some _)
  have hlt0 : w.heap.size < (w.alloc (.cells #[.slice (some ad) (4 + x.k) c, .int .i64 (x.R : Int)] 29)).heap.size := heap_lt k0
  have c0 : (w.alloc (.cells #[.slice (some ad) (4 + x.k) c, .int .i64 (x.R : Int)] 29)).cell? ⟨w.heap.size, 0, none⟩ = some (.slice (some ad) (4 + x.k) c) := by rw [cell_in k0]; rfl
  have c1 : (w.alloc (.cells #[.slice (some ad) (4 + x.k) c, .int .i64 (x.R : Int)] 29)).cell? ⟨w.heap.size, 1, none⟩ = some (.int .i64 (x.R : Int)) := by rw [cell_in k0]; rfl
  have HB := Lib.hid a0
  have RD := Lib.hid (⟨h.below a0, hr.below a0⟩ : Reads (w.alloc (.cells #[.slice (some ad) (4 + x.k) c, .int .i64 (x.R : Int)] 29)) (some ad) (4 + x.k) (ints (dints (digs (4 + x.k) x.L))) ∧ Reads (w.alloc (.cells #[.slice (some ad) (4 + x.k) c, .int .i64 (x.R : Int)] 29)) A n (bts b))
  have hT := hx.top
  have hH := hx.hi
  have hvL : val (digs (4 + x.k) x.L) = x.L := val_digs _ _ (by have := hx.lo; omega)
  have hvW : val (widen b (4 + x.k)) = scale b (4 + x.k) := rfl
  have hpow : 256 ^ (4 + x.k) < 256 ^ (5 + x.k) := Nat.pow_lt_pow_right (by omega) (by omega)
  have hvE : val (digs (5 + x.k) (x.L + x.R)) = x.L + x.R := val_digs _ _ (by omega)
  have VAL := Lib.hid (⟨hvL, hvW, hvE, hT, hpow⟩ : val (digs (4 + x.k) x.L) = x.L ∧ val (widen b (4 + x.k)) = scale b (4 + x.k) ∧ val (digs (5 + x.k) (x.L + x.R)) = x.L + x.R ∧ x.L + x.R ≤ 256 ^ (4 + x.k) ∧ 256 ^ (4 + x.k) < 256 ^ (5 + x.k))
  have HBD := Lib.hid hb
  have e4 : ((4 + x.k : Nat) : Int) = 4 + (x.k : Int) := by omega
  have KW := Lib.hid (fun W (hW : Reads W A n (bts b)) => wide_any W A n cb b (4 + x.k) hW hb (by omega))
  rw [e4] at KW
  clear h hr a0 k0 hx hT hvL hvW hpow hvE hb e4
  go_enter Tryd.func38, Tryd.ntmps38
  go_wp2_with fail
  generalize w.alloc (.cells #[.slice (some ad) (4 + x.k) c, .int .i64 (x.R : Int)] 29) = w0 at *
  refine (KW.out w0 RD.out.2).mono ?_
  rintro e w1 ⟨v1, rfl, o1, b1⟩
  have d0 := (b1.cell (p := ⟨w.heap.size, 0, none⟩) hlt0).trans c0
  have d1 := (b1.cell (p := ⟨w.heap.size, 1, none⟩) hlt0).trans c1
  have hlt1 : w.heap.size < w1.heap.size := Nat.lt_of_lt_of_le hlt0 b1.size
  obtain ⟨A1, cc1, rfl, hA1, r1⟩ := Reads.of_own o1
  obtain ⟨ad1, rfl, _⟩ := r1.2 (by omega)
  have B1 := Lib.hid (HB.out.trans (b1.mono HB.out.size))
  have R1 := Lib.hid (⟨r1, RD.out.1.below b1, hA1⟩ : Reads w1 (some ad1) (4 + x.k) (ints (dints (widen b (4 + x.k)))) ∧ Reads w1 (some ad) (4 + x.k) (ints (dints (digs (4 + x.k) x.L))) ∧ ((some ad1 : Option Addr) = none → cc1 = 0))
  clear o1 b1 hA1 r1
  -- the region that draws
  have e0 : w1.drew.cell? ⟨w.heap.size, 0, none⟩ = some (.slice (some ad) (4 + x.k) c) := d0
  have e1 : w1.drew.cell? ⟨w.heap.size, 1, none⟩ = some (.int .i64 (x.R : Int)) := d1
  have N2 := Lib.hid (one_int w1.drew)
  have a2 := alloc_below w1.drew (.cells #[.int .i64 0] 3)
  have f0 := (a2.cell (p := ⟨w.heap.size, 0, none⟩) hlt1).trans e0
  have f1 := (a2.cell (p := ⟨w.heap.size, 1, none⟩) hlt1).trans e1
  have r2 : Reads (w1.drew.alloc (.cells #[.int .i64 0] 3)) (some ad) (4 + x.k) (ints (dints (digs (4 + x.k) x.L))) := (R1.out.2.1.read ⟨1, rfl⟩).below a2
  have hnews := Lib.hid (show ∀ j u, (ints (dints (digs (4 + x.k) x.L)))[j]? = some u → (w1.drew.alloc (.cells #[.int .i64 0] 3)).cell? (ad.add j) = some u from by
    obtain ⟨ad', he, hc'⟩ := r2.2 (by omega)
    injection he with he
    subst he
    exact hc')
  have hnl := Lib.hid (show (ints (dints (digs (4 + x.k) x.L))).length = (4 + x.k) * 1 from by rw [length_ints, length_dints, length_digs]; omega)
  have A2 := Lib.hid a2
  clear a2 r2
  go_wp2_with fail
  go_region_held3 (fun w' => w'.cell? ⟨w.heap.size, 0, none⟩ = some (.slice (some ad) (4 + x.k) c) ∧ w'.cell? ⟨w.heap.size, 1, none⟩ = some (.int .i64 (x.R : Int)))
    (first | exact ⟨h0, h1⟩ | exact ⟨g0, g1⟩ | exact ⟨f0, f1⟩ | exact ⟨e0, e1⟩)
    (first
      | (go_at_call 34; refine (add0 O3.out VAL.out.1 VAL.out.2.2.2.1 VAL.out.2.2.2.2 hH hk).mono ?_; rintro e w4 ⟨v4, rfl, o4, b4⟩; have h0 := (b4.cell (p := ⟨w.heap.size, 0, none⟩) (Nat.lt_of_lt_of_le hlt1 BW3.out.size)).trans g0; have h1 := (b4.cell (p := ⟨w.heap.size, 1, none⟩) (Nat.lt_of_lt_of_le hlt1 BW3.out.size)).trans g1; have O4 := Lib.hid o4; have B4 := Lib.hid b4; clear o4 b4)
      | (refine step_append_lies _ (by rfl) (.tmp 12) (.tmp 14) 27 (by rfl) w1.drew.heap.size 3 i0 (.int .i64 0) 1 8 Tryd.underlying27 hi hz0 hz1 hz2 (by rfl) (by decide) (.slice (some ⟨w1.drew.heap.size, 0, none⟩) 1 1) 1 (ints (dints [0])) (by rfl) N2.out ad (4 + x.k) c (ints (dints (digs (4 + x.k) x.L))) (by rfl) hnl.out hnews.out (ints_one _) (by omega) (by unfold maxLen; omega) (by omega) (by simp) (w1.drew.heap.size + 1) (by simp) ?_; intro q3 cap3 w3 hown hgr hq3 hlt3; have bw3 : Below w1.drew.heap.size w1.drew w3 := own_grown_below A2.out hgr A2.out.size (fun p hp => by have e9 : w1.drew.heap.size = w1.heap.size := rfl; simp [Value.ownBlock] at hp; omega); have g0 := (bw3.cell (p := ⟨w.heap.size, 0, none⟩) hlt1).trans e0; have g1 := (bw3.cell (p := ⟨w.heap.size, 1, none⟩) hlt1).trans e1; have O3 := Lib.hid hown; have BW3 := Lib.hid bw3; clear hown hgr hq3 hlt3 bw3))
  have B4' := Lib.hid (show Below w1.heap.size w1 w4 from (Reading.below (B := w1.heap.size) (⟨1, rfl⟩ : Reading w1 w1.drew)).trans (BW3.out.trans (B4.out.mono BW3.out.size)))
  have R4 := Lib.hid (⟨R1.out.1.below B4'.out, R1.out.2.1.below B4'.out⟩ : Reads w4 (some ad1) (4 + x.k) (ints (dints (widen b (4 + x.k)))) ∧ Reads w4 (some ad) (4 + x.k) (ints (dints (digs (4 + x.k) x.L))))
  obtain ⟨A4, c4, rfl, _, r4⟩ := Reads.of_own O4.out
  have E4 := Lib.hid r4
  have B5 := Lib.hid (show Below w.heap.size w w4 from B1.out.trans (B4'.out.mono B1.out.size))
  have KL := Lib.hid (less_any w4 (some ad1) (some ad) (4 + x.k) cc1 c (widen b (4 + x.k)) (digs (4 + x.k) x.L) R4.out.1 R4.out.2 (by omega) (dig_widen HBD.out _) (dig_digs _ _))
  rw [VAL.out.1, VAL.out.2.1] at KL
  clear r4 e0 e1 f0 f1 d0 d1 c0 c1 g0 g1
  by_cases hlo : scale b (4 + x.k) < x.L
  · have hin : decide (Inside x b) = false := by
      rw [decide_eq_false_iff_not]
      intro hI
      have := hI.1
      omega
    have HIN := Lib.hid hin
    rw [decide_eq_true hlo] at KL
    clear hin hlo
    go_wp2_with fail
    refine KL.out.mono ?_
    rintro e w5 ⟨rfl, b5⟩
    have B6 := Lib.hid (B5.out.trans b5.below)
    clear b5
    go_wp2
    go_ret
    exact ⟨by rw [HIN.out]; rfl, B6.out⟩
  · have hin : decide (Inside x b) = decide (scale b (4 + x.k) < x.L + x.R) := by
      apply decide_eq_decide.2
      unfold Inside
      constructor
      · exact fun hI => hI.2
      · exact fun hI => ⟨by omega, hI⟩
    have HIN := Lib.hid hin
    rw [decide_eq_false hlo] at KL
    clear hin hlo
    go_wp2_with fail
    refine KL.out.mono ?_
    rintro e w5 ⟨rfl, b5⟩
    have B6 := Lib.hid (B5.out.trans b5.below)
    have R5 := Lib.hid (⟨R4.out.1.read b5, E4.out.read b5⟩ : Reads w5 (some ad1) (4 + x.k) (ints (dints (widen b (4 + x.k)))) ∧ Reads w5 A4 (5 + x.k) (ints (dints (digs (5 + x.k) (x.L + x.R)))))
    have N5 := Lib.hid (one_int w5)
    have a5 := alloc_below w5 (.cells #[.int .i64 0] 3)
    have R6 := Lib.hid (R5.out.1.below a5)
    have A5 := Lib.hid a5
    clear b5 a5
    go_wp2_with (at_builtin; refine wpList_append_want (by rfl) (.tmp 25) (.tmp 26) 27 rfl w5.heap.size 3 i0 (.int .i64 0) 8 Tryd.underlying27 hi ⟨hz0, hz1, hz2⟩ rfl (.slice (some ⟨w5.heap.size, 0, none⟩) 1 1) 1 (ints (dints [0])) rfl N5.out ad1 (4 + x.k) cc1 (ints (dints (widen b (4 + x.k)))) rfl R6.out (ints_one _) (by omega) (by unfold maxLen; omega) (by omega) (by simp) ?_)
    intro v6 w6 hown hgr
    have bw6 : Below w5.heap.size w5 w6 := own_grown_below A5.out hgr A5.out.size (fun p hp => by simp [Value.ownBlock] at hp; omega)
    rw [ints_zero_cons, show 1 + (4 + x.k) = 5 + x.k by omega] at hown
    obtain ⟨A6, c6, rfl, _, r6⟩ := Reads.of_own hown
    have KL2 := Lib.hid (less_any w6 A6 A4 (5 + x.k) c6 c4 (0 :: widen b (4 + x.k)) (digs (5 + x.k) (x.L + x.R)) r6 (R5.out.2.below bw6) (by omega) (dig_zero_cons (dig_widen HBD.out _)) (dig_digs _ _))
    rw [val_zero_cons, VAL.out.2.1, VAL.out.2.2.1] at KL2
    have B7 := Lib.hid (B6.out.trans (bw6.mono B6.out.size))
    clear hown hgr bw6 r6
    go_wp2_with fail
    refine KL2.out.mono ?_
    rintro e w7 ⟨rfl, b7⟩
    have B8 := Lib.hid (B7.out.trans b7.below)
    clear b7
    go_wp2
    go_ret
    exact ⟨by rw [HIN.out]; rfl, B8.out⟩
end Go.Proofs.YtbkjfblmdilchaaDoor
