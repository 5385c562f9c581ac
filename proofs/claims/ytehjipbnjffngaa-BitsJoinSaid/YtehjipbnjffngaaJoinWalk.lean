/- BitsJoin's walk: what two writers wrote, one behind the other, is what one writes of both; what is told may be written into. -/
import Derived.Test.YtehjipbnjffngaaBackWalk
import Derived.Test.YtehjipbnjffngaaApart
import Derived.Test.YtehjipbnjffngaaSame
import Derived.Deep.LoopGhost
namespace Go.Proofs.Ytehjipbnjffngaa
open Go.RowKit
theorem num_inj : ∀ (l m : List Bool), l.length = m.length → num l = num m → l = m
  | [], [], _, _ => rfl
  | b :: l, c :: m, hl, hn => by
    have hl' : l.length = m.length := by simpa using hl
    rw [num_cons, num_cons, hl'] at hn
    have h1 := num_lt l
    have h2 := num_lt m
    rw [hl'] at h1
    have hp : 0 < 2 ^ m.length := Nat.two_pow_pos _
    have hb : b = c ∧ num l = num m := by
      cases b <;> cases c <;> simp at hn ⊢ <;> omega
    rw [hb.1, num_inj l m hl' hb.2]
theorem bitsOf_num (l : List Bool) : bitsOf (num l) l.length = l :=
  num_inj _ _ (length_bitsOf _ _) (by rw [num_bitsOf, Nat.mod_eq_of_lt (num_lt l)])
theorem WIs.far {w : World} {B g q i : Nat} {v u : Value} {bs : List Bool} (h : WIs w B g v bs) (h1 : q ≠ g) (h2 : v.ownBlock ≠ some q) : WIs (w.setCell ⟨q, i, none⟩ u) B g v bs :=
  h.keep (Below.heap_setCell _ _ _ _ (fun e => h1 e.symm)) (fun j e => Below.heap_setCell _ _ _ _ (by rintro rfl; exact h2 e))

namespace bitsJoin
/-- A reader, and two writers beside it. -/
def St (w : World) (r p g1 g3 : Nat) (bb : List Bool) (k : Nat) (cs ds : List Bool) (wr : World) : Prop :=
  ∃ v1 v3, RW wr w.heap.size r p bb k g1 v1 cs ∧ RW wr w.heap.size r p bb k g3 v3 ds ∧ Apart g1 v1 g3 v3 ∧ Below w.heap.size w wr
section
variable {w wr wx : World} {r p g1 g3 : Nat} {bb cs cs' ds : List Bool} {k j : Nat}
theorem St.same (h : St w r p g1 g3 bb k cs ds wr) (hs : Same wr wr wx) : St w r p g1 g3 bb k cs ds wx := by
  obtain ⟨v1, v3, h1, h3, ha, hb⟩ := h
  exact ⟨v1, v3, (h1.same hs).1, (h3.same hs).1, ha, hb.trans (h1.same hs).2⟩
theorem St.read (h : St w r p g1 g3 bb k cs ds wr) (hr : RIs wx r p bb j) (hg : wr.grownBy wx (some r)) : St w r p g1 g3 bb j cs ds wx := by
  obtain ⟨v1, v3, h1, h3, ha, hb⟩ := h
  exact ⟨v1, v3, (h1.read hr hg).1, (h3.read hr hg).1, ha, hb.trans (h1.read hr hg).2⟩
end

theorem refused (w : World) (A C : Option Addr) (n c m d : Nat) (l t : List (Nat × Int)) (hn : n ≤ 9223372036854775807) (hm : m ≤ 9223372036854775807) (h : Items w A n l) (ht : Items w C m t)
    (hf : (l.all okItem && decide (n ≤ 60)) = false ∨ ((l.all okItem && decide (n ≤ 60)) = true ∧ (t.all okItem && decide (m ≤ 60)) = false)) :
    Calls Try.prog 8 #[.slice A n c, .slice C m d] w fun e w' => e = .returned (.bool true) ∧ Below w.heap.size w w' := by
  have HI := Lib.hid h
  have HT := Lib.hid ht
  clear h ht
  go_enter Try.func8, Try.ntmps8
  go_wp2_with fail
  refine (awake_true w).mono ?_
  rintro e w1 ⟨rfl, b1⟩
  have B1 := Lib.hid b1
  clear b1
  go_wp2_with fail
  refine (fits_any w1 A n c l hn (HI.out.below B1.out)).mono ?_
  rintro e w2 ⟨rfl, h2⟩
  have B2 := Lib.hid (B1.out.trans h2.below)
  clear h2
  rcases hf with hf | ⟨hf, hf2⟩
  · rw [hf]
    clear hf
    go_wp2_with fail
    refine (awake_true w2).mono ?_
    rintro e w3 ⟨rfl, b3⟩
    have B3 := Lib.hid (B2.out.trans (b3.mono B2.out.size))
    clear b3
    go_wp2
    go_ret
    exact ⟨rfl, B3.out⟩
  · rw [hf]
    have HF := Lib.hid hf2
    clear hf hf2
    go_wp2_with fail
    refine (fits_any w2 C m d t hm (HT.out.below B2.out)).mono ?_
    rintro e w3 ⟨rfl, h3⟩
    rw [HF.out]
    have B3 := Lib.hid (B2.out.trans h3.below)
    clear h3
    go_wp2_with fail
    refine (awake_true w3).mono ?_
    rintro e w4 ⟨rfl, b4⟩
    have B4 := Lib.hid (B3.out.trans (b4.mono B3.out.size))
    clear b4
    go_wp2
    go_ret
    exact ⟨rfl, B4.out⟩

theorem write3 {wr wx : World} {B g1 g2 g3 : Nat} {v1 v2 v3 : Value} {c1 c2 c3 cs : List Bool} (h1 : WIs wr B g1 v1 c1) (h2 : WIs wr B g2 v2 c2) (h3 : WIs wr B g3 v3 c3) (a12 : Apart g1 v1 g2 v2) (a13 : Apart g1 v1 g3 v3) (hB : B ≤ wr.heap.size) (hg : B ≤ g1)
    (h : Wrote wr wx B g1 v1 cs) : ∃ v, WIs wx B g1 v cs ∧ WIs wx B g2 v2 c2 ∧ WIs wx B g3 v3 c3 ∧ Apart g1 v g2 v2 ∧ Apart g1 v g3 v3 ∧ Below B wr wx := by
  obtain ⟨v, hw, hk, hm⟩ := h
  exact ⟨v, hw, h2.aside a12.symm hk, h3.aside a13.symm hk, (a12.symm.moved h2 hm).symm, (a13.symm.moved h3 hm).symm, hk.below hg hB h1.own_ge⟩
theorem new3 (w : World) (B : Nat) :
    WIs (((w.alloc (.cells #[.slice none 0 0, .int .i64 0] 26)).alloc (.cells #[.slice none 0 0, .int .i64 0] 26)).alloc (.cells #[.slice none 0 0, .int .i64 0] 26)) B w.heap.size (.slice none 0 0) [] ∧
    WIs (((w.alloc (.cells #[.slice none 0 0, .int .i64 0] 26)).alloc (.cells #[.slice none 0 0, .int .i64 0] 26)).alloc (.cells #[.slice none 0 0, .int .i64 0] 26)) B (w.heap.size + 1) (.slice none 0 0) [] ∧
    WIs (((w.alloc (.cells #[.slice none 0 0, .int .i64 0] 26)).alloc (.cells #[.slice none 0 0, .int .i64 0] 26)).alloc (.cells #[.slice none 0 0, .int .i64 0] 26)) B (w.heap.size + 1 + 1) (.slice none 0 0) [] := by
  have up : ∀ W : World, Below W.heap.size W (W.alloc (.cells #[.slice none 0 0, .int .i64 0] 26)) := fun W => (Below.refl _ _).alloc (Nat.le_refl _) _
  refine ⟨((WIs.new w B).below (up _)).below (up _), ?_, ?_⟩
  · have := (WIs.new (w.alloc (.cells #[.slice none 0 0, .int .i64 0] 26)) B).below (up _)
    simpa using this
  · have := WIs.new ((w.alloc (.cells #[.slice none 0 0, .int .i64 0] 26)).alloc (.cells #[.slice none 0 0, .int .i64 0] 26)) B
    simpa using this

theorem left_nat (w : World) (r p : Nat) (bs : List Bool) (k : Nat) (h : RIs w r p bs k) :
    Calls Try.prog 24 #[.pointer (some ⟨r, 0, none⟩)] w fun e w' => e = .returned (.int .i64 ((bs.length - k : Nat) : Int)) ∧ Same w w w' := by
  have := left_any w r p bs k h
  have hk := h.le
  rwa [show (bs.length : Int) - (k : Int) = ((bs.length - k : Nat) : Int) by omega] at this

/-- What was told has been written into; the writers stand as they did. -/
structure Out (w : World) (q g1 g3 : Nat) (v1 v3 : Value) (cc : List Bool) (wr : World) : Prop where
  row : ∃ ys : List Nat, ys.length = (pack cc).length ∧ wr.heap[q]? = some (.cells (u8s ys).toArray 5 (0, 0))
  w1 : WIs wr w.heap.size g1 v1 cc
  w3 : WIs wr w.heap.size g3 v3 cc
  n1 : q ≠ g1
  n3 : q ≠ g3
  o1 : v1.ownBlock ≠ some q
  o3 : v3.ownBlock ≠ some q
  bq : w.heap.size ≤ q
  bl : Below w.heap.size w wr
theorem Out.set {w wr : World} {q g1 g3 j z : Nat} {v1 v3 : Value} {cc : List Bool} {ys : List Nat} (h : Out w q g1 g3 v1 v3 cc wr) (hl : ys.length = (pack cc).length) (hc : wr.heap[q]? = some (.cells (u8s ys).toArray 5 (0, 0))) :
    Out w q g1 g3 v1 v3 cc (wr.setCell ⟨q, j, none⟩ (.int .u8 (z : Int))) := by
  refine ⟨⟨ys.set j z, by simpa using hl, ?_⟩, h.w1.far h.n1 h.o1, h.w3.far h.n3 h.o3, h.n1, h.n3, h.o1, h.o3, h.bq, h.bl.setCell h.bq _⟩
  rw [heap_set hc, ← u8s_set]; simp
def OutAt (w : World) (q g1 g3 : Nat) (v1 v3 : Value) (cc : List Bool) (i : Value) (wr : World) : Prop :=
  ∃ k : Nat, k ≤ (pack cc).length ∧ i = .int .i64 k ∧ Out w q g1 g3 v1 v3 cc wr

def LoopAt (w : World) (r p g1 g3 : Nat) (ba bb : List Bool) (gk : Nat) (wr : World) : Prop :=
  ∃ k, k + gk = bb.length ∧ St w r p g1 g3 bb k (ba ++ bb.take k) (ba ++ bb) wr

set_option maxHeartbeats 3200000 in
set_option maxRecDepth 100000 in
theorem taken (w : World) (A C : Option Addr) (n c m d : Nat) (l t : List (Nat × Int)) (hn : n ≤ 60) (hm : m ≤ 60) (h : Items w A n l) (ht : Items w C m t) (hok : l.all okItem = true) (hot : t.all okItem = true) :
    Calls Try.prog 8 #[.slice A n c, .slice C m d] w fun e w' => e = .returned (.bool true) ∧ Below w.heap.size w w' := by
  have hf : (l.all okItem && decide (n ≤ 60)) = true := by rw [hok]; simpa using hn
  have hf2 : (t.all okItem && decide (m ≤ 60)) = true := by rw [hot]; simpa using hm
  have hlen := bitsAll_len l hok
  have hlen2 := bitsAll_len t hot
  have hl := h.1
  have hl2 := ht.1
  have hsz : (bitsAll l).length ≤ 3840 := by omega
  have hsz2 : (bitsAll t).length ≤ 3840 := by omega
  have HI := Lib.hid h
  have HT := Lib.hid ht
  have HO := Lib.hid hok
  have HP := Lib.hid hot
  have HF := Lib.hid hf
  have HF2 := Lib.hid hf2
  clear h ht hok hot hlen hlen2 hl hl2 hf hf2
  go_enter Try.func8, Try.ntmps8
  go_wp2_with fail
  refine (awake_true w).mono ?_
  rintro e w1 ⟨rfl, b1⟩
  have B1 := Lib.hid b1
  clear b1
  go_wp2_with fail
  refine (fits_any w1 A n c l (by omega) (HI.out.below B1.out)).mono ?_
  rintro e w2 ⟨rfl, h2⟩
  rw [HF.out]
  have B2 := Lib.hid (B1.out.trans h2.below)
  clear h2
  go_wp2_with fail
  refine (fits_any w2 C m d t (by omega) (HT.out.below B2.out)).mono ?_
  rintro e w3 ⟨rfl, h3⟩
  rw [HF2.out]
  have B3 := Lib.hid (B2.out.trans h3.below)
  clear h3
  go_wp2_with fail
  have B4 := Lib.hid (((B3.out.alloc B3.out.size (.cells #[.slice none 0 0, .int .i64 0] 26)).alloc (by have := B3.out.size; simp; omega) (.cells #[.slice none 0 0, .int .i64 0] 26)).alloc (by have := B3.out.size; simp; omega) (.cells #[.slice none 0 0, .int .i64 0] 26))
  have N3 := Lib.hid (new3 w3 w.heap.size)
  have Z3 := B3.out.size
  have A12 := Lib.hid (Apart.nil (show w3.heap.size ≠ w3.heap.size + 1 by omega))
  have A13 := Lib.hid (Apart.nil (show w3.heap.size ≠ w3.heap.size + 1 + 1 by omega))
  have A23 := Lib.hid (Apart.nil (show w3.heap.size + 1 ≠ w3.heap.size + 1 + 1 by omega))
  refine (put1_any _ w.heap.size w3.heap.size (.slice none 0 0) [] A n c l hn HO.out (HI.out.below B4.out) HI.out.lt N3.out.1 Z3 B4.out.size (by simp)).mono ?_
  rintro e w5 ⟨rfl, h5⟩
  obtain ⟨v1, x1, x2, x3, y12, y13, z5⟩ := write3 N3.out.1 N3.out.2.1 N3.out.2.2 A12.out A13.out B4.out.size Z3 h5
  have X1 := Lib.hid x1
  have X2 := Lib.hid x2
  have X3 := Lib.hid x3
  have Y12 := Lib.hid y12
  have Y13 := Lib.hid y13
  have B5 := Lib.hid (B4.out.trans z5)
  clear h5 x1 x2 x3 y12 y13 z5
  go_wp2_with fail
  refine (put1_any w5 w.heap.size (w3.heap.size + 1) (.slice none 0 0) [] C m d t hm HP.out (HT.out.below B5.out) HT.out.lt X2.out (by omega) B5.out.size (by simp)).mono ?_
  rintro e w6 ⟨rfl, h6⟩
  obtain ⟨v2, x2, x1, x3, y12, y23, z6⟩ := write3 X2.out X1.out X3.out Y12.out.symm A23.out B5.out.size (by omega) h6
  have X1a := Lib.hid x1
  have X2a := Lib.hid x2
  have X3a := Lib.hid x3
  have Y12a := Lib.hid y12
  have Y23a := Lib.hid y23
  have B6 := Lib.hid (B5.out.trans z6)
  clear h6 x1 x2 x3 y12 y23 z6
  go_wp2_with fail
  refine (put1_any w6 w.heap.size (w3.heap.size + 1 + 1) (.slice none 0 0) [] A n c l hn HO.out (HI.out.below B6.out) HI.out.lt X3a.out (by omega) B6.out.size (by simp)).mono ?_
  rintro e w7 ⟨rfl, h7⟩
  obtain ⟨v3, x3, x1, x2, y13, y23, z7⟩ := write3 X3a.out X1a.out X2a.out Y13.out.symm Y23a.out.symm B6.out.size (by omega) h7
  have X1b := Lib.hid x1
  have X2b := Lib.hid x2
  have X3b := Lib.hid x3
  have Y13b := Lib.hid y13
  have Y23b := Lib.hid y23
  have B7 := Lib.hid (B6.out.trans z7)
  clear h7 x1 x2 x3 y13 y23 z7
  go_wp2_with fail
  refine (put1_any w7 w.heap.size (w3.heap.size + 1 + 1) v3 _ C m d t hm HP.out (HT.out.below B7.out) HT.out.lt X3b.out (by omega) B7.out.size (by simp; omega)).mono ?_
  rintro e w8 ⟨rfl, h8⟩
  obtain ⟨v3', x3, x1, x2, y13, y23, z8⟩ := write3 X3b.out X1b.out X2b.out Y13b.out Y23b.out B7.out.size (by omega) h8
  have X1c := Lib.hid (show WIs w8 w.heap.size w3.heap.size v1 (bitsAll l) from x1)
  have X2c := Lib.hid (show WIs w8 w.heap.size (w3.heap.size + 1) v2 (bitsAll t) from x2)
  have X3c := Lib.hid (show WIs w8 w.heap.size (w3.heap.size + 1 + 1) v3' (bitsAll l ++ bitsAll t) from x3)
  have Y13c := Lib.hid y13.symm
  have B8 := Lib.hid (B7.out.trans z8)
  clear h8 x1 x2 x3 y13 y23 z8
  go_wp2_with fail
  refine (bytes_any w8 w.heap.size _ v2 (bitsAll t) X2c.out (by omega)).mono ?_
  rintro e w9 ⟨rfl, h9, b9⟩
  have X1d := Lib.hid (X1c.out.below b9)
  have X2d := Lib.hid (X2c.out.below b9)
  have X3d := Lib.hid (X3c.out.below b9)
  have B9 := Lib.hid (B8.out.trans (b9.mono B8.out.size))
  have E9 := Lib.hid (Reads.of_bytes h9)
  clear h9 b9
  go_wp2_with fail
  refine (len_any w9 w.heap.size _ v2 (bitsAll t) X2d.out).mono ?_
  rintro e w10 ⟨rfl, rfl⟩
  go_wp2_with fail
  refine (nr_ok w9 _ _ (bitsAll t) (by omega) E9.out).mono ?_
  rintro e w10 ⟨r, p, rfl, h10, b10, hr, hp⟩
  have B10 := Lib.hid (B9.out.trans (b10.mono B9.out.size))
  have S10 := Lib.hid (show St w r p w3.heap.size (w3.heap.size + 1 + 1) (bitsAll t) 0 (bitsAll l ++ (bitsAll t).take 0) (bitsAll l ++ bitsAll t) w10 from
    ⟨v1, v3', ⟨h10, by simpa using X1d.out.below b10, by have := X1d.out.lt; omega, by have := X1d.out.lt; omega, fun e => by have := (X1d.out.row.lt r e).2; omega, fun e => by have := (X1d.out.row.lt p e).2; omega, Nat.le_trans B9.out.size hr, Z3, B10.out.size⟩,
      ⟨h10, X3d.out.below b10, by have := X3d.out.lt; omega, by have := X3d.out.lt; omega, fun e => by have := (X3d.out.row.lt r e).2; omega, fun e => by have := (X3d.out.row.lt p e).2; omega, Nat.le_trans B9.out.size hr, by omega, B10.out.size⟩, Y13c.out, B10.out⟩)
  clear h10 b10 hr hp
  go_wp2_with fail
  go_loopg [] (bitsAll t).length (LoopAt w r p w3.heap.size (w3.heap.size + 1 + 1) (bitsAll l) (bitsAll t))
  case atStart => exact ⟨0, by omega, S10.out⟩
  case round =>
    obtain ⟨k, hk, hst⟩ := hrel
    have S := Lib.hid hst
    clear hst
    go_wp2_with fail
    refine (left_nat wr r p (bitsAll t) k S.out.choose_spec.choose_spec.1.rd).mono ?_
    rintro e w11 ⟨rfl, h11⟩
    have S11 := Lib.hid (S.out.same h11)
    clear h11
    obtain ⟨s, hs⟩ : ∃ s, (bitsAll t).length - k = s := ⟨_, rfl⟩
    have HL := Lib.hid (fun W (h : RIs W r p (bitsAll t) k) => left_nat W r p (bitsAll t) k h)
    rw [hs] at HL ⊢
    have HS := Lib.hid hs
    by_cases hlt : 0 < s
    · have t0 : (0 : Int) < (s : Int) := by omega
      have hks : k + s = (bitsAll t).length := by omega
      have HK := Lib.hid hks
      have HG := Lib.hid hk
      clear hs hks hk
      go_wp2_with fail
      refine (HL.out w11 S11.out.choose_spec.choose_spec.1.rd).mono ?_
      rintro e w12 ⟨rfl, h12⟩
      have S12 := Lib.hid (S11.out.same h12)
      clear h12
      by_cases h13 : s ≤ 13
      · have d13 : (s : Int) ≤ 13 := by omega
        go_wp2_with fail
        refine (get_ok w12 r p (bitsAll t) k s S12.out.choose_spec.choose_spec.1.rd (by omega) (by have := HK.out; omega)).mono ?_
        rintro e w13 ⟨rfl, h13r, g13⟩
        have S13 := Lib.hid (S12.out.read h13r g13)
        obtain ⟨x, hx⟩ : ∃ x, num (((bitsAll t).drop k).take s) = x := ⟨_, rfl⟩
        have hxl : (((bitsAll t).drop k).take s).length = s := by have := HK.out; simp; omega
        have hxb : bitsOf x s = ((bitsAll t).drop k).take s := by
          have := bitsOf_num (((bitsAll t).drop k).take s)
          rwa [hxl, hx] at this
        have hxn : x < 2 ^ s := by
          have := num_lt (((bitsAll t).drop k).take s)
          rwa [hxl, hx] at this
        rw [hx]
        have HX := Lib.hid hxb
        have HN := Lib.hid hxn
        clear h13r g13 hx hxl hxb hxn
        go_wp2_with fail
        obtain ⟨v1', v3x, q1, q3, qa, qb⟩ := S13.out
        have Q1 := Lib.hid q1
        have Q3 := Lib.hid q3
        have QA := Lib.hid qa
        have QB := Lib.hid qb
        clear q1 q3 qa qb
        refine (put_ok w13 w.heap.size w3.heap.size v1' _ x s (by omega) HN.out Q1.out.wr QB.out.size (by have := HK.out; simp; omega)).mono ?_
        rintro e w14 ⟨rfl, h14⟩
        have hw14 := h14
        obtain ⟨v1n, m1, m2, m3⟩ := h14
        obtain ⟨v1m, q1, qb⟩ := Q1.out.write hw14
        have P3 := Lib.hid (Q3.out.wr.aside QA.out.symm m2)
        have PA := Lib.hid ((QA.out.symm.moved Q3.out.wr m3).symm)
        have P1 := Lib.hid m1
        have PR := Lib.hid q1.rd
        have PB := Lib.hid (QB.out.trans qb)
        have FAR := Lib.hid (show v1n.ownBlock ≠ some r ∧ v1n.ownBlock ≠ some p from ⟨fun e => by
          rcases m3 with m3 | ⟨i, m3, hi⟩
          · exact Q1.out.n3 (m3.symm.trans e)
          · rw [m3] at e; injection e with e; have := Q1.out.rd.lt; omega, fun e => by
          rcases m3 with m3 | ⟨i, m3, hi⟩
          · exact Q1.out.n4 (m3.symm.trans e)
          · rw [m3] at e; injection e with e; have := Q1.out.rd.lt'; omega⟩)
        clear hw14 m1 m2 m3 q1 qb
        go_wp2_with fail
        refine (len_any w14 w.heap.size _ v1n _ P1.out).mono ?_
        rintro e w15 ⟨rfl, rfl⟩
        generalize hy2 : ((bitsAll l ++ (bitsAll t).take k) ++ bitsOf x s).length = y2
        have HY2 := Lib.hid hy2
        clear hy2
        go_wp2_with fail
        refine (len_any w14 w.heap.size _ v3x _ P3.out).mono ?_
        rintro e w15 ⟨rfl, rfl⟩
        generalize hy1 : (bitsAll l ++ bitsAll t).length = y1
        have t9 : ¬ (y1 : Int) < (y2 : Int) := by
          have h1 := HK.out
          have h2 := length_bitsOf x s
          have h3 := HY2.out
          simp [h2] at h3
          simp at hy1; omega
        clear hy1
        go_wp2_with fail
        go_roundg (gk - s)
        case measure => have := HG.out; have := HK.out; omega
        case rel =>
          refine ⟨k + s, by have := HG.out; have := HK.out; omega, v1n, v3x, ?_, ?_, PA.out, PB.out⟩
          · refine ⟨PR.out, ?_, Q1.out.n1, Q1.out.n2, FAR.out.1, FAR.out.2, Q1.out.b1, Q1.out.b2, PB.out.size⟩
            have := P1.out
            rw [HX.out, List.append_assoc, ← List.take_add] at this
            exact this
          · exact ⟨PR.out, P3.out, Q3.out.n1, Q3.out.n2, Q3.out.n3, Q3.out.n4, Q3.out.b1, Q3.out.b2, PB.out.size⟩
      · have d13 : ¬ (s : Int) ≤ 13 := by omega
        go_wp2_with fail
        refine (get_ok w12 r p (bitsAll t) k 13 S12.out.choose_spec.choose_spec.1.rd (by omega) (by have := HK.out; omega)).mono ?_
        rintro e w13 ⟨rfl, h13r, g13⟩
        have S13 := Lib.hid (S12.out.read h13r g13)
        obtain ⟨x, hx⟩ : ∃ x, num (((bitsAll t).drop k).take 13) = x := ⟨_, rfl⟩
        have hxl : (((bitsAll t).drop k).take 13).length = 13 := by have := HK.out; simp; omega
        have hxb : bitsOf x 13 = ((bitsAll t).drop k).take 13 := by
          have := bitsOf_num (((bitsAll t).drop k).take 13)
          rwa [hxl, hx] at this
        have hxn : x < 2 ^ 13 := by
          have := num_lt (((bitsAll t).drop k).take 13)
          rwa [hxl, hx] at this
        rw [hx]
        have HX := Lib.hid hxb
        have HN := Lib.hid hxn
        clear h13r g13 hx hxl hxb hxn
        go_wp2_with fail
        obtain ⟨v1', v3x, q1, q3, qa, qb⟩ := S13.out
        have Q1 := Lib.hid q1
        have Q3 := Lib.hid q3
        have QA := Lib.hid qa
        have QB := Lib.hid qb
        clear q1 q3 qa qb
        refine (put_ok w13 w.heap.size w3.heap.size v1' _ x 13 (by omega) HN.out Q1.out.wr QB.out.size (by have := HK.out; simp; omega)).mono ?_
        rintro e w14 ⟨rfl, h14⟩
        have hw14 := h14
        obtain ⟨v1n, m1, m2, m3⟩ := h14
        obtain ⟨v1m, q1, qb⟩ := Q1.out.write hw14
        have P3 := Lib.hid (Q3.out.wr.aside QA.out.symm m2)
        have PA := Lib.hid ((QA.out.symm.moved Q3.out.wr m3).symm)
        have P1 := Lib.hid m1
        have PR := Lib.hid q1.rd
        have PB := Lib.hid (QB.out.trans qb)
        have FAR := Lib.hid (show v1n.ownBlock ≠ some r ∧ v1n.ownBlock ≠ some p from ⟨fun e => by
          rcases m3 with m3 | ⟨i, m3, hi⟩
          · exact Q1.out.n3 (m3.symm.trans e)
          · rw [m3] at e; injection e with e; have := Q1.out.rd.lt; omega, fun e => by
          rcases m3 with m3 | ⟨i, m3, hi⟩
          · exact Q1.out.n4 (m3.symm.trans e)
          · rw [m3] at e; injection e with e; have := Q1.out.rd.lt'; omega⟩)
        clear hw14 m1 m2 m3 q1 qb
        go_wp2_with fail
        refine (len_any w14 w.heap.size _ v1n _ P1.out).mono ?_
        rintro e w15 ⟨rfl, rfl⟩
        generalize hy2 : ((bitsAll l ++ (bitsAll t).take k) ++ bitsOf x 13).length = y2
        have HY2 := Lib.hid hy2
        clear hy2
        go_wp2_with fail
        refine (len_any w14 w.heap.size _ v3x _ P3.out).mono ?_
        rintro e w15 ⟨rfl, rfl⟩
        generalize hy1 : (bitsAll l ++ bitsAll t).length = y1
        have t9 : ¬ (y1 : Int) < (y2 : Int) := by
          have h1 := HK.out
          have h2 := length_bitsOf x 13
          have h3 := HY2.out
          simp [h2] at h3
          simp at hy1; omega
        clear hy1
        go_wp2_with fail
        go_roundg (gk - 13)
        case measure => have := HG.out; have := HK.out; omega
        case rel =>
          refine ⟨k + 13, by have := HG.out; have := HK.out; omega, v1n, v3x, ?_, ?_, PA.out, PB.out⟩
          · refine ⟨PR.out, ?_, Q1.out.n1, Q1.out.n2, FAR.out.1, FAR.out.2, Q1.out.b1, Q1.out.b2, PB.out.size⟩
            have := P1.out
            rw [HX.out, List.append_assoc, ← List.take_add] at this
            exact this
          · exact ⟨PR.out, P3.out, Q3.out.n1, Q3.out.n2, Q3.out.n3, Q3.out.n4, Q3.out.b1, Q3.out.b2, PB.out.size⟩
    · have t0 : ¬ (0 : Int) < (s : Int) := by omega
      have hk0 : (bitsAll t).take k = bitsAll t := List.take_of_length_le (by omega)
      obtain ⟨v1', v3x, q1, q3, _, qb⟩ := S11.out
      have X1 := q1.wr
      rw [hk0] at X1
      generalize hcc : bitsAll l ++ bitsAll t = cc at *
      have hcl : cc.length ≤ 33554432 := by rw [← hcc]; simp; omega
      have hpl : (pack cc).length ≤ 140737488355328 := by rw [length_pack]; omega
      have X1 := Lib.hid X1
      have X3 := Lib.hid q3.wr
      have QB := Lib.hid qb
      clear q1 q3 qb hcc hk0 hs hk hsz hsz2 hn hm hlt
      go_wp2_with fail
      refine (bytes_any w11 w.heap.size _ v1' cc X1.out hcl).mono ?_
      rintro e w12 ⟨rfl, h12, b12⟩
      have X1a := Lib.hid (X1.out.below b12)
      have X3a := Lib.hid (X3.out.below b12)
      have B12 := Lib.hid (QB.out.trans (b12.mono QB.out.size))
      have H12 := Lib.hid h12
      clear h12 b12
      go_wp2_with fail
      refine (bytes_any w12 w.heap.size _ v3x cc X3a.out hcl).mono ?_
      rintro e w13 ⟨rfl, h13, b13⟩
      have X1b := Lib.hid (X1a.out.below b13)
      have X3b := Lib.hid (X3a.out.below b13)
      have B13 := Lib.hid (B12.out.trans (b13.mono B12.out.size))
      have H13 := Lib.hid ((b13.block _ (heap_lt H12.out)).trans H12.out)
      have E13 := Lib.hid (Reads.of_bytes h13)
      clear h13 b13
      go_wp2_with fail
      refine (same_any w13 _ _ _ _ _ (pack cc) hpl (Reads.of_bytes H13.out) E13.out).mono ?_
      rintro e w14 ⟨rfl, h14⟩
      have O14 := Lib.hid (show Out w w11.heap.size w3.heap.size (w3.heap.size + 1 + 1) v1' v3x cc w14 from
        ⟨⟨pack cc, rfl, by rw [h14.heap]; exact H13.out⟩, X1b.out.same h14, X3b.out.same h14, by have := X1.out.lt; omega, by have := X3.out.lt; omega, fun e => by have := (X1.out.row.lt _ e).2; omega, fun e => by have := (X3.out.row.lt _ e).2; omega, QB.out.size, B13.out.trans h14.below⟩)
      clear h14
      go_wp2_with fail
      go_loopw [69] (OutAt w w11.heap.size w3.heap.size (w3.heap.size + 1 + 1) v1' v3x cc) (fun i _ => (pack cc).length - (intOf i).toNat)
      case atStart => exact ⟨0, Nat.zero_le _, rfl, O14.out⟩
      case round =>
        obtain ⟨j, hj, rfl, ho⟩ := hrel
        have OR := Lib.hid ho
        clear ho
        by_cases hjl : j < (pack cc).length
        · obtain ⟨⟨ys, hyl, hyc⟩, _⟩ := OR.out
          have hjy : j < ys.length := by omega
          have d0 : wr.cell? ⟨w11.heap.size, j, none⟩ = some (.int .u8 (ys[j] : Nat)) := by
            rw [cell_in hyc]; simp [u8s, List.getElem?_eq_getElem hjy]
          have f0 := frozen_in hyc j
          have HY := Lib.hid (show ∀ z : Nat, Out w w11.heap.size w3.heap.size (w3.heap.size + 1 + 1) v1' v3x cc (wr.setCell ⟨w11.heap.size, j, none⟩ (.int .u8 (z : Int))) from fun z => OR.out.set hyl hyc)
          generalize ys[j] = y at *
          clear hyc hyl hjy
          have b1 : (j : Int) < ((pack cc).length : Nat) := by omega
          go_wp2_with fail
          refine ⟨⟨j + 1, by omega, by go_num, ?_⟩, by simp [intOf]; omega⟩
          have := HY.out ((y + 1) % 256)
          rwa [show (((y + 1) % 256 : Nat) : Int) = ((y : Int) + 1) % 256 by omega] at this
        · go_wp2_with fail
          refine (bytes_any wr w.heap.size _ v1' cc OR.out.w1 hcl).mono ?_
          rintro e w15 ⟨rfl, h15, b15⟩
          have Y1 := Lib.hid (OR.out.w1.below b15)
          have Y3 := Lib.hid (OR.out.w3.below b15)
          have B15 := Lib.hid (OR.out.bl.trans (b15.mono OR.out.bl.size))
          have E15 := Lib.hid (Reads.of_bytes h15)
          clear h15 b15
          go_wp2_with fail
          refine (bytes_any w15 w.heap.size _ v3x cc Y3.out hcl).mono ?_
          rintro e w16 ⟨rfl, h16, b16⟩
          have Y1a := Lib.hid (Y1.out.below b16)
          have Y3a := Lib.hid (Y3.out.below b16)
          have B16 := Lib.hid (B15.out.trans (b16.mono B15.out.size))
          have E15a := Lib.hid (E15.out.below b16)
          have E16 := Lib.hid (Reads.of_bytes h16)
          clear h16 b16
          go_wp2_with fail
          refine (same_any w16 _ _ _ _ _ (pack cc) hpl E15a.out E16.out).mono ?_
          rintro e w17 ⟨rfl, h17⟩
          have Y1b := Lib.hid (Y1a.out.same h17)
          have Y3b := Lib.hid (Y3a.out.same h17)
          have B17 := Lib.hid (B16.out.trans h17.below)
          clear h17
          go_wp2_with fail
          refine (len_any w17 w.heap.size _ v1' cc Y1b.out).mono ?_
          rintro e w18 ⟨rfl, rfl⟩
          go_wp2_with fail
          refine (len_any w17 w.heap.size _ v3x cc Y3b.out).mono ?_
          rintro e w18 ⟨rfl, rfl⟩
          have t9 : ((cc.length : Int) == (cc.length : Int)) = true := by simp
          go_wp2
          go_ret
          exact ⟨rfl, B17.out⟩
end bitsJoin
end Go.Proofs.Ytehjipbnjffngaa
