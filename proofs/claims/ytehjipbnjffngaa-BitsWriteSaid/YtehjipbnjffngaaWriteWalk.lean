/- BitsWrite's walk: whatever is put, of whatever width, what was written, and whether it could be, is the document's. -/
import Derived.Test.YtehjipbnjffngaaAwake
import Derived.Test.YtehjipbnjffngaaRef
import Derived.Test.YtehjipbnjffngaaSame
import Derived.Deep.RegionHeld3
import Derived.StillTailTactics
import Derived.Deep.LoopGhost
namespace Go.Proofs.Ytehjipbnjffngaa.bitsWrite
open Go.RowKit

theorem many (w : World) (A : Option Addr) (n c : Nat) (hn : 60 < n) :
    Calls Try.prog 3 #[.slice A n c] w fun e w' => e = .returned (.bool true) ∧ Below w.heap.size w w' := by
  have b : (60 : Int) < n := by omega
  go_enter Try.func3, Try.ntmps3
  go_wp2_with fail
  refine (awake_true w).mono ?_
  rintro e w1 ⟨rfl, b1⟩
  go_wp2_with fail
  refine (awake_true w1).mono ?_
  rintro e w2 ⟨rfl, b2⟩
  go_wp2
  go_ret
  exact ⟨rfl, b1.trans (b2.mono b1.size)⟩

theorem step_append_row {P : Program} {w : World} {ops : Array Oper} {o : Oper} {a : Act} {K : Act → World → Prop} {Q : Exit → Act → World → Prop} {E : Prop} (hgd : o.guard = none) (s x : Operand) (t : TypeId)
    (ho : o.op = .call { callee := .builtin .append, args := #[s, x], argTypes := #[t, t] }) (base : Nat) (e : TypeId) (i : TypeInfo) (z : Value) (bytes : Nat) (ht : P.underlying t = some (.slice e)) (hi : P.info? e = some i)
    (hz : i.zero = some z ∧ i.size = 1 ∧ i.bytes = bytes) (hzs : z.cells.size = 1) (v : Value) (n : Nat) (xs : List Value) (hs : a.eval s = v) (hown : w.ownsRow base e 1 v n xs) (ad : Addr) (m c : Nat) (news : List Value) (hx : a.eval x = .slice (some ad) m c)
    (hl : news.length = m) (hnews : ∀ j u, news[j]? = some u → w.cell? (ad.add j) = some u) (h1 : ∀ u ∈ news, u.oneCell' = true) (h63 : n + m ≤ maxLen) (hbytes : (n + m) * bytes ≤ 140737488355328) (hbase : base ≤ w.heap.size)
    (h : ∀ v' w', w'.ownsRow base e 1 v' (n + m) (xs ++ news) → w.grownBy w' v.ownBlock → K (a.put o.dst v') w') : if Region.wanted o (yielded ops a.tmps) = true then Oper.wp P o a w K Q else E := by
  have hw : Region.wanted o (yielded ops a.tmps) = true := by simp [Region.wanted, hgd]
  rw [if_pos hw]
  exact wp_append_own w s x t ho base e i z 1 bytes ht hi hz.1 hz.2.1 hz.2.2 hzs (by omega) v n xs hs hown ad m c news hx (by omega) hnews h1 h63 hbytes hbase fun v' w' h2 h3 _ => h v' w' h2 h3

/-- The bits of those items that may be written. -/
def okBits (l : List (Nat × Int)) : List Bool := bitsAll (l.filter okItem)
theorem okBits_bad (l : List (Nat × Int)) (x : Nat × Int) (h : okItem x = false) : okBits (l ++ [x]) = okBits l := by simp [okBits, h]
theorem okBits_ok (l : List (Nat × Int)) (x : Nat × Int) (h : okItem x = true) : okBits (l ++ [x]) = okBits l ++ bitsOf x.1 x.2.toNat := by
  simp [okBits, List.filter_append, h, bitsAll]
theorem okBits_len (l : List (Nat × Int)) : (okBits l).length ≤ 64 * l.length := by
  have h1 := bitsAll_len (l.filter okItem) (by simp [List.all_eq_true])
  have h2 := List.length_filter_le okItem l
  unfold okBits; omega

/-- What stands at a round's head: the bits bs, as the writer and as the list of the document's have them. -/
structure St (w : World) (g : Nat) (bs : List Bool) (all : Value) (v : Value) (wr : World) : Prop where
  row : wr.ownsRow w.heap.size 3 1 all bs.length (i64s bs)
  wrt : WIs wr w.heap.size g v bs
  bel : Below w.heap.size w wr
  gb : w.heap.size ≤ g
theorem St.same {w wr wx : World} {g : Nat} {bs : List Bool} {all v : Value} (h : St w g bs all v wr) (hs : Same wr wr wx) : St w g bs all v wx := ⟨own_congr hs.heap h.row, h.wrt.same hs, h.bel.trans hs.below, h.gb⟩
theorem St.below {w wr wx : World} {g : Nat} {bs : List Bool} {all v : Value} (h : St w g bs all v wr) (hs : Below wr.heap.size wr wx) : St w g bs all v wx :=
  ⟨⟨h.row.1, by
    rcases h.row.2 with h2 | ⟨q, cap, cur, rfl, hq, hh, rest⟩
    · exact .inl h2
    · exact .inr ⟨q, cap, cur, rfl, hq, (hs.block q (heap_lt hh)).trans hh, rest⟩⟩, h.wrt.below hs, h.bel.trans (hs.mono h.bel.size), h.gb⟩
theorem St.reads {w wr : World} {g n c : Nat} {bs : List Bool} {A : Option Addr} {v : Value} (h : St w g bs (.slice A n c) v wr) : Reads wr A bs.length (i64s bs) := by
  obtain ⟨A', c', e, hr⟩ := reads_own h.row
  injection e with e1 e2 e3
  rw [e1]; exact hr
theorem row_far {wr : World} {B g : Nat} {n : Nat} {xs : List Value} {bs : List Bool} {all v : Value} (h : wr.ownsRow B 3 1 all n xs) (hw : WIs wr B g v bs) : all.ownBlock ≠ some g ∧ ∀ q, v.ownBlock = some q → all.ownBlock ≠ some q := by
  rcases h.2 with ⟨rfl, _⟩ | ⟨p, cap, cur, rfl, _, hh, _⟩
  · exact ⟨by simp [Value.ownBlock], fun q _ => by simp [Value.ownBlock]⟩
  · refine ⟨fun e => ?_, fun q hq e => ?_⟩
    · have e' : p = g := by simpa [Value.ownBlock] using e
      subst e'
      have := hw.blk
      rw [hh] at this
      injection this with this
      injection this with _ ht
      exact absurd ht (by decide)
    · have e' : p = q := by simpa [Value.ownBlock] using e
      subst e'
      rcases hw.row.2 with ⟨rfl, _⟩ | ⟨p', cap', cur', rfl, _, hh', _⟩
      · simp [Value.ownBlock] at hq
      · have e2 : p' = p := by simpa [Value.ownBlock] using hq
        subst e2
        rw [hh] at hh'
        injection hh' with hh'
        injection hh' with _ ht
        exact absurd ht (by decide)
theorem St.appended {w wv wa : World} {g q : Nat} {bs cs cc : List Bool} {all all' v : Value} (h : St w g bs all v wv) (hq : cs.length = q) (hcc : cc = bs ++ cs) (hown : wa.ownsRow w.heap.size 3 1 all' (bs.length + q) (i64s bs ++ i64s cs)) (hg : wv.grownBy wa all.ownBlock) :
    wa.ownsRow w.heap.size 3 1 all' cc.length (i64s cc) ∧ WIs wa w.heap.size g v bs ∧ Below w.heap.size w wa := by
  have hf := row_far h.row h.wrt
  refine ⟨?_, h.wrt.keep (hg.block g h.wrt.lt (fun e => hf.1 e.symm)) (fun p hp => hg.block p (h.wrt.row.lt p hp).2 (fun e => hf.2 p hp e.symm)), h.bel.grown hg h.bel.size (fun p e => (h.row.lt p e).1)⟩
  rw [hcc, List.length_append, hq, i64s_append]; exact hown
theorem St.put {w wa wx : World} {g : Nat} {bs cc : List Bool} {all v : Value} (row : wa.ownsRow w.heap.size 3 1 all cc.length (i64s cc)) (hw : WIs wa w.heap.size g v bs) (hb : Below w.heap.size w wa) (hg : w.heap.size ≤ g) (h : Wrote wa wx w.heap.size g v cc) :
    ∃ v', St w g cc all v' wx ∧ Below w.heap.size wa wx := by
  obtain ⟨v', h1, h2, _⟩ := h
  have hf := row_far row hw
  have hbx := h2.below hg hb.size hw.own_ge
  refine ⟨v', ⟨⟨row.1, ?_⟩, h1, hb.trans hbx, hg⟩, hbx⟩
  rcases row.2 with r | ⟨p, cap, cur, rfl, hp, hh, rest⟩
  · exact .inl r
  · exact .inr ⟨p, cap, cur, rfl, hp, (h2.block p (heap_lt hh) (fun e => hf.1 (by rw [← e]; rfl)) (fun e => hf.2 p e.symm rfl)).trans hh, rest⟩
def At (w : World) (g : Nat) (l : List (Nat × Int)) (n : Nat) (all i : Value) (wr : World) : Prop :=
  ∃ k v, k ≤ n ∧ i = .int .i64 (k : Nat) ∧ St w g (okBits (l.take k)) all v wr

set_option maxHeartbeats 6400000 in
set_option maxRecDepth 100000 in
theorem few_some (w : World) (b off n c : Nat) (l : List (Nat × Int)) (hn : n ≤ 60) (h : Items w (some ⟨b, off, none⟩) n l) :
    Calls Try.prog 3 #[.slice (some ⟨b, off, none⟩) n c] w fun e w' => e = .returned (.bool true) ∧ Below w.heap.size w w' := by
  have b0 : ¬ (60 : Int) < n := by omega
  have HI := Lib.hid h
  clear h
  go_enter Try.func3, Try.ntmps3
  go_wp2_with fail
  refine (awake_true w).mono ?_
  rintro e w1 ⟨rfl, b1⟩
  have S1 := Lib.hid (show St w w1.heap.size [] (.slice none 0 0) (.slice none 0 0) (w1.alloc (.cells #[.slice none 0 0, .int .i64 0] 26)) from
    ⟨World.ownsRow_nil _ _ _ _, WIs.new w1 _, b1.alloc b1.size _, b1.size⟩)
  clear b1
  go_wp2_with fail
  go_loopw [4, 5] (At w w1.heap.size l n) (fun _ i _ => n - (intOf i).toNat)
  case atStart => exact ⟨0, _, Nat.zero_le _, rfl, by simpa [okBits, bitsAll] using S1.out⟩
  case round =>
    obtain ⟨k, v, hk, rfl, hst⟩ := hrel
    obtain ⟨A2, c2, rfl, _⟩ := reads_own hst.row
    have S := Lib.hid hst
    clear hst
    by_cases hlt : k < n
    · have hkl : k < l.length := by rw [HI.out.1]; exact hlt
      obtain ⟨b', off', hA, hc⟩ := (HI.out.below S.out.bel).2 (by omega)
      obtain ⟨rfl, rfl⟩ : b = b' ∧ off = off' := by
        injection hA with hA; injection hA with h1 h2; exact ⟨h1, h2⟩
      obtain ⟨d0, d1, hv⟩ := hc k l[k] (List.getElem?_eq_getElem hkl)
      have HX := Lib.hid (List.getElem?_eq_getElem hkl)
      have hbl : b < w.heap.size := HI.out.lt _ rfl (by omega)
      generalize l[k] = x at *
      obtain ⟨x0, m⟩ := x
      have b1 : (k : Int) < n := by omega
      clear hc hA
      have hL := okBits_len (l.take k)
      have hlk : (l.take k).length ≤ k := List.length_take_le _ _
      generalize hbs : okBits (l.take k) = bs at *
      have HBS := Lib.hid hbs
      clear hbs
      by_cases m0 : m < 0
      · have HF := Lib.hid (show okItem (x0, m) = false by simp [okItem]; omega)
        have HP := Lib.hid (fun W => put_width W w1.heap.size (x0 : Int) m (.inl m0))
        go_wp2_with fail
        go_quiet (fail)
        go_wp2_with fail
        have S2 := Lib.hid (S.out.same (wx := wr.drewN nq) ⟨rfl, rfl, rfl, rfl⟩)
        have e0 : (wr.drewN nq).cell? ⟨b, off + k * 2, none⟩ = some (.int .u64 (x0 : Int)) := d0
        have e1 : (wr.drewN nq).cell? ⟨b, off + k * 2 + 1, none⟩ = some (.int .i64 m) := d1
        generalize wr.drewN nq = W at *
        clear d0 d1 S
        have hbW : b < W.heap.size := Nat.lt_of_lt_of_le hbl S2.out.bel.size
        have t2 : ((bs.length : Int) != (bs.length : Int)) = false := by simp
        have hpl : (pack bs).length ≤ 140737488355328 := by rw [length_pack]; omega
        have S3 := Lib.hid (S2.out.same (wx := W.drew) ⟨rfl, rfl, rfl, rfl⟩)
        have HLen := Lib.hid (len_any W.drew w.heap.size w1.heap.size v bs S3.out.wrt)
        have HByt := Lib.hid (bytes_any W.drew w.heap.size w1.heap.size v bs S3.out.wrt (by omega))
        have HRef := Lib.hid (fun (X : World) (hX : Below W.drew.heap.size W.drew X) => refBytes_any X A2 bs.length c2 bs (by omega) (S3.out.below hX).reads)
        have t1 : ((2 : Int) != 2) = false := by decide
        go_region_held3 (fun w' => w'.cell? ⟨b, off + k * 2, none⟩ = some (.int .u64 (x0 : Int)) ∧ w'.cell? ⟨b, off + k * 2 + 1, none⟩ = some (.int .i64 m))
          (first | exact ⟨i0, i1⟩ | exact ⟨h0, h1⟩ | exact ⟨f0, f1⟩ | exact ⟨e0, e1⟩)
          (first
            | (go_at_call 14; refine (HP.out _).mono ?_; rintro e w' ⟨rfl, rfl⟩)
            | (go_at_call 15; refine HLen.out.mono ?_; rintro e w' ⟨rfl, rfl⟩)
            | (go_at_call 17; refine HByt.out.mono ?_; rintro e w5 ⟨rfl, h5, b5⟩; have f0 := (b5.cell (p := ⟨b, off + k * 2, none⟩) hbW).trans e0; have f1 := (b5.cell (p := ⟨b, off + k * 2 + 1, none⟩) hbW).trans e1; have H5 := Lib.hid h5; have B5 := Lib.hid b5; clear h5 b5)
            | (go_at_call 18; refine (HRef.out w5 B5.out).mono ?_; rintro e w6 ⟨A6, c6, rfl, r6, b6⟩; have hb5 : b < w5.heap.size := Nat.lt_of_lt_of_le hbW B5.out.size; have h0 := (b6.cell (p := ⟨b, off + k * 2, none⟩) hb5).trans f0; have h1 := (b6.cell (p := ⟨b, off + k * 2 + 1, none⟩) hb5).trans f1; have R6 := Lib.hid r6; have B6 := Lib.hid b6; clear r6 b6)
            | (go_at_call 16; refine (same_any w6 _ A6 (pack bs).length _ c6 (pack bs) hpl ((Reads.of_bytes H5.out).below B6.out) R6.out).mono ?_; rintro e w7 ⟨rfl, h7⟩; have i0 := (same_cell h7 _).trans h0; have i1 := (same_cell h7 _).trans h1; have H7 := Lib.hid h7; clear h7))
        go_wp2_with fail
        refine ⟨⟨k + 1, v, by omega, by go_num, ?_⟩, by simp [intOf]; omega⟩
        rw [take_item HX.out, okBits_bad _ _ HF.out, HBS.out]
        exact ((S3.out.below B5.out).below B6.out).same H7.out
      · by_cases m1 : 64 < m
        · have HF := Lib.hid (show okItem (x0, m) = false by simp [okItem]; omega)
          have HP := Lib.hid (fun W => put_width W w1.heap.size (x0 : Int) m (.inr m1))
          have z0 : decide (m < 0) = false := by simp; omega
          go_wp2_with fail
          go_quiet (fail)
          go_wp2_with fail
          have S2 := Lib.hid (S.out.same (wx := wr.drewN nq) ⟨rfl, rfl, rfl, rfl⟩)
          have e0 : (wr.drewN nq).cell? ⟨b, off + k * 2, none⟩ = some (.int .u64 (x0 : Int)) := d0
          have e1 : (wr.drewN nq).cell? ⟨b, off + k * 2 + 1, none⟩ = some (.int .i64 m) := d1
          generalize wr.drewN nq = W at *
          clear d0 d1 S
          have hbW : b < W.heap.size := Nat.lt_of_lt_of_le hbl S2.out.bel.size
          have t2 : ((bs.length : Int) != (bs.length : Int)) = false := by simp
          have hpl : (pack bs).length ≤ 140737488355328 := by rw [length_pack]; omega
          have S3 := Lib.hid (S2.out.same (wx := W.drew) ⟨rfl, rfl, rfl, rfl⟩)
          have HLen := Lib.hid (len_any W.drew w.heap.size w1.heap.size v bs S3.out.wrt)
          have HByt := Lib.hid (bytes_any W.drew w.heap.size w1.heap.size v bs S3.out.wrt (by omega))
          have HRef := Lib.hid (fun (X : World) (hX : Below W.drew.heap.size W.drew X) => refBytes_any X A2 bs.length c2 bs (by omega) (S3.out.below hX).reads)
          have t1 : ((2 : Int) != 2) = false := by decide
          go_region_held3 (fun w' => w'.cell? ⟨b, off + k * 2, none⟩ = some (.int .u64 (x0 : Int)) ∧ w'.cell? ⟨b, off + k * 2 + 1, none⟩ = some (.int .i64 m))
            (first | exact ⟨i0, i1⟩ | exact ⟨h0, h1⟩ | exact ⟨f0, f1⟩ | exact ⟨e0, e1⟩)
            (first
              | (go_at_call 14; refine (HP.out _).mono ?_; rintro e w' ⟨rfl, rfl⟩)
              | (go_at_call 15; refine HLen.out.mono ?_; rintro e w' ⟨rfl, rfl⟩)
              | (go_at_call 17; refine HByt.out.mono ?_; rintro e w5 ⟨rfl, h5, b5⟩; have f0 := (b5.cell (p := ⟨b, off + k * 2, none⟩) hbW).trans e0; have f1 := (b5.cell (p := ⟨b, off + k * 2 + 1, none⟩) hbW).trans e1; have H5 := Lib.hid h5; have B5 := Lib.hid b5; clear h5 b5)
              | (go_at_call 18; refine (HRef.out w5 B5.out).mono ?_; rintro e w6 ⟨A6, c6, rfl, r6, b6⟩; have hb5 : b < w5.heap.size := Nat.lt_of_lt_of_le hbW B5.out.size; have h0 := (b6.cell (p := ⟨b, off + k * 2, none⟩) hb5).trans f0; have h1 := (b6.cell (p := ⟨b, off + k * 2 + 1, none⟩) hb5).trans f1; have R6 := Lib.hid r6; have B6 := Lib.hid b6; clear r6 b6)
              | (go_at_call 16; refine (same_any w6 _ A6 (pack bs).length _ c6 (pack bs) hpl ((Reads.of_bytes H5.out).below B6.out) R6.out).mono ?_; rintro e w7 ⟨rfl, h7⟩; have i0 := (same_cell h7 _).trans h0; have i1 := (same_cell h7 _).trans h1; have H7 := Lib.hid h7; clear h7))
          go_wp2_with fail
          refine ⟨⟨k + 1, v, by omega, by go_num, ?_⟩, by simp [intOf]; omega⟩
          rw [take_item HX.out, okBits_bad _ _ HF.out, HBS.out]
          exact ((S3.out.below B5.out).below B6.out).same H7.out
        · obtain ⟨q, rfl⟩ : ∃ q : Nat, m = (q : Int) := ⟨m.toNat, by omega⟩
          have z0 : decide ((q : Int) < 0) = false := by simp
          have z1 : decide ((64 : Int) < (q : Int)) = false := by simp; omega
          have HC := Lib.hid (fun W => refFits_any x0 q W (by omega) hv)
          by_cases hq : x0 < 2 ^ q
          · have HF := Lib.hid (show okItem (x0, (q : Int)) = true by simp [okItem]; omega)
            have z2 : decide (x0 < 2 ^ q) = true := by simpa using hq
            have H2 := Lib.hid hq
            clear hq
            go_wp2_with fail
            go_quiet ((go_at_call 12; exact Calls.quiet_of_same (HC.out _)))
            go_wp2_with fail
            have S2 := Lib.hid (S.out.same (wx := wr.drewN nq) ⟨rfl, rfl, rfl, rfl⟩)
            have e0 : (wr.drewN nq).cell? ⟨b, off + k * 2, none⟩ = some (.int .u64 (x0 : Int)) := d0
            have e1 : (wr.drewN nq).cell? ⟨b, off + k * 2 + 1, none⟩ = some (.int .i64 (q : Int)) := d1
            generalize wr.drewN nq = W at *
            clear d0 d1 S
            have S3 := Lib.hid (S2.out.same (wx := W.drew) ⟨rfl, rfl, rfl, rfl⟩)
            have hbW : b < W.heap.size := Nat.lt_of_lt_of_le hbl S2.out.bel.size
            obtain ⟨i0, hi, hz0, hz1, hz2⟩ := info_parts Try.info3
            have HI0 := Lib.hid hi
            have HZ0 := Lib.hid (And.intro hz0 (And.intro hz1 hz2))
            have HVal := Lib.hid (refValue_any W.drew x0 q (by omega) hv)
            have HB1 := Lib.hid (show bs.length + q ≤ maxLen by unfold maxLen; omega)
            have HB2 := Lib.hid (show (bs.length + q) * 8 ≤ 140737488355328 by omega)
            have HC0 := Lib.hid (show (i64s (bitsOf x0 q)).length = q by rw [length_i64s, length_bitsOf])
            clear hi hz0 hz1 hz2
            go_region_held3 (fun w' => w'.cell? ⟨b, off + k * 2, none⟩ = some (.int .u64 (x0 : Int)) ∧ w'.cell? ⟨b, off + k * 2 + 1, none⟩ = some (.int .i64 (q : Int)))
              (first | exact ⟨a0, a1⟩ | exact ⟨f0, f1⟩ | exact ⟨e0, e1⟩)
              (first
                | (go_at_call 13; refine HVal.out.mono ?_; rintro e wv ⟨rfl, hrv, hbv⟩; have SV := Lib.hid (S3.out.below hbv); have f0 := (hbv.cell (p := ⟨b, off + k * 2, none⟩) hbW).trans e0; have f1 := (hbv.cell (p := ⟨b, off + k * 2 + 1, none⟩) hbW).trans e1; have NW := Lib.hid (show ∀ j u, (i64s (bitsOf x0 q))[j]? = some u → wv.cell? ((⟨W.drew.heap.size, 0, none⟩ : Addr).add j) = some u from fun j u hj => World.news_of_block hrv j u (by simpa using hj)); clear hrv hbv)
                | (refine step_append_row (by rfl) (.tmp 49) (.tmp 60) 27 (by rfl) w.heap.size 3 i0 (.int .i64 0) 8 Try.underlying27 HI0.out HZ0.out (by rfl) (.slice A2 bs.length c2) bs.length (i64s bs) (by rfl) SV.out.row ⟨W.drew.heap.size, 0, none⟩ q q (i64s (bitsOf x0 q)) (by rfl) HC0.out NW.out (i64s_one _) HB1.out HB2.out SV.out.bel.size ?_; intro all' wa hown hgr; have a0 := ((Below.refl w.heap.size wv).grown hgr SV.out.bel.size (fun p e => (SV.out.row.lt p e).1) |>.cell (p := ⟨b, off + k * 2, none⟩) hbl).trans f0; have a1 := ((Below.refl w.heap.size wv).grown hgr SV.out.bel.size (fun p e => (SV.out.row.lt p e).1) |>.cell (p := ⟨b, off + k * 2 + 1, none⟩) hbl).trans f1; have HOwn := Lib.hid hown; have HGr := Lib.hid hgr; clear hown hgr))
            have hown := HOwn.out
            have hgr := HGr.out
            have e0 := a0
            have e1 := a1
            clear a0 a1
            obtain ⟨cc, hcc⟩ : ∃ cc, cc = bs ++ bitsOf x0 q := ⟨_, rfl⟩
            obtain ⟨r1, r2, r3⟩ := SV.out.appended (length_bitsOf x0 q) hcc hown hgr
            have hcl : cc.length ≤ 33554432 := by rw [hcc, List.length_append, length_bitsOf]; omega
            obtain ⟨A3, c3, rfl, _⟩ := reads_own r1
            have HSt := Lib.hid (show ∀ w4, Wrote wa.drew w4 w.heap.size w1.heap.size v cc → ∃ v4, St w w1.heap.size cc (.slice A3 cc.length c3) v4 w4 ∧ Below w.heap.size wa.drew w4 from
              fun w4 h4 => St.put (wa := wa.drew) (own_congr rfl r1) (r2.same ⟨rfl, rfl, rfl, rfl⟩) r3.drew SV.out.gb h4)
            have HPut := Lib.hid (show Calls Try.prog 14 #[.pointer (some ⟨w1.heap.size, 0, none⟩), .int .u64 x0, .int .i64 q] wa.drew fun e w' => e = .returned (.int .i64 0) ∧ Wrote wa.drew w' w.heap.size w1.heap.size v cc by
              rw [hcc]
              exact put_ok wa.drew w.heap.size w1.heap.size v bs x0 q (by omega) H2.out (r2.same ⟨rfl, rfl, rfl, rfl⟩) r3.size (by omega))
            have HCC := Lib.hid hcc
            have hpl : (pack cc).length ≤ 140737488355328 := by rw [length_pack]; omega
            have t1 : ((0 : Int) != 0) = false := by decide
            have t2 : ((cc.length : Int) != (cc.length : Int)) = false := by simp
            clear hown hgr hcc r1 r2 r3 f0 f1
            go_wp2_with fail
            go_region_held3 (fun w' => w'.cell? ⟨b, off + k * 2, none⟩ = some (.int .u64 (x0 : Int)) ∧ w'.cell? ⟨b, off + k * 2 + 1, none⟩ = some (.int .i64 (q : Int)))
              (first | exact ⟨i0, i1⟩ | exact ⟨h0, h1⟩ | exact ⟨f0, f1⟩ | exact ⟨p0, p1⟩ | exact ⟨e0, e1⟩)
              (first
                | (go_at_call 14; refine HPut.out.mono ?_; rintro e w4 ⟨rfl, h4⟩; obtain ⟨v4, s4, b4⟩ := HSt.out w4 h4; have p0 := (b4.cell (p := ⟨b, off + k * 2, none⟩) hbl).trans e0; have p1 := (b4.cell (p := ⟨b, off + k * 2 + 1, none⟩) hbl).trans e1; have S4 := Lib.hid s4; have hb4 : b < w4.heap.size := Nat.lt_of_lt_of_le hbl S4.out.bel.size; clear h4 s4 b4)
                | (go_at_call 15; refine (len_any w4 w.heap.size w1.heap.size v4 cc S4.out.wrt).mono ?_; rintro e w' ⟨rfl, rfl⟩)
                | (go_at_call 17; refine (bytes_any w4 w.heap.size w1.heap.size v4 cc S4.out.wrt hcl).mono ?_; rintro e w5 ⟨rfl, h5, b5⟩; have f0 := (b5.cell (p := ⟨b, off + k * 2, none⟩) hb4).trans p0; have f1 := (b5.cell (p := ⟨b, off + k * 2 + 1, none⟩) hb4).trans p1; have H5 := Lib.hid h5; have B5 := Lib.hid b5; clear h5 b5)
                | (go_at_call 18; refine (refBytes_any w5 A3 cc.length c3 cc hcl (S4.out.below B5.out).reads).mono ?_; rintro e w6 ⟨A6, c6, rfl, r6, b6⟩; have hb5 : b < w5.heap.size := Nat.lt_of_lt_of_le hb4 B5.out.size; have h0 := (b6.cell (p := ⟨b, off + k * 2, none⟩) hb5).trans f0; have h1 := (b6.cell (p := ⟨b, off + k * 2 + 1, none⟩) hb5).trans f1; have R6 := Lib.hid r6; have B6 := Lib.hid b6; clear r6 b6)
                | (go_at_call 16; refine (same_any w6 _ A6 (pack cc).length _ c6 (pack cc) hpl ((Reads.of_bytes H5.out).below B6.out) R6.out).mono ?_; rintro e w7 ⟨rfl, h7⟩; have i0 := (same_cell h7 _).trans h0; have i1 := (same_cell h7 _).trans h1; have H7 := Lib.hid h7; clear h7))
            go_wp2_with fail
            refine ⟨⟨k + 1, v4, by omega, by go_num, ?_⟩, by simp [intOf]; omega⟩
            rw [take_item HX.out, okBits_ok _ _ HF.out, HBS.out, show bs ++ bitsOf (x0, (q : Int)).1 (x0, (q : Int)).2.toNat = cc from HCC.out.symm]
            exact ((S4.out.below B5.out).below B6.out).same H7.out
          · have HF := Lib.hid (show okItem (x0, (q : Int)) = false by simp [okItem]; omega)
            have HP := Lib.hid (fun W => put_wide W w1.heap.size x0 q (by omega) (by omega))
            have z2 : decide (x0 < 2 ^ q) = false := by simpa using hq
            clear hq
            go_wp2_with fail
            go_quiet ((go_at_call 12; exact Calls.quiet_of_same (HC.out _)))
            go_wp2_with fail
            have S2 := Lib.hid (S.out.same (wx := wr.drewN nq) ⟨rfl, rfl, rfl, rfl⟩)
            have e0 : (wr.drewN nq).cell? ⟨b, off + k * 2, none⟩ = some (.int .u64 (x0 : Int)) := d0
            have e1 : (wr.drewN nq).cell? ⟨b, off + k * 2 + 1, none⟩ = some (.int .i64 (q : Int)) := d1
            generalize wr.drewN nq = W at *
            clear d0 d1 S
            have hbW : b < W.heap.size := Nat.lt_of_lt_of_le hbl S2.out.bel.size
            have t2 : ((bs.length : Int) != (bs.length : Int)) = false := by simp
            have hpl : (pack bs).length ≤ 140737488355328 := by rw [length_pack]; omega
            have S3 := Lib.hid (S2.out.same (wx := W.drew) ⟨rfl, rfl, rfl, rfl⟩)
            have HLen := Lib.hid (len_any W.drew w.heap.size w1.heap.size v bs S3.out.wrt)
            have HByt := Lib.hid (bytes_any W.drew w.heap.size w1.heap.size v bs S3.out.wrt (by omega))
            have HRef := Lib.hid (fun (X : World) (hX : Below W.drew.heap.size W.drew X) => refBytes_any X A2 bs.length c2 bs (by omega) (S3.out.below hX).reads)
            have t1 : ((2 : Int) != 2) = false := by decide
            go_region_held3 (fun w' => w'.cell? ⟨b, off + k * 2, none⟩ = some (.int .u64 (x0 : Int)) ∧ w'.cell? ⟨b, off + k * 2 + 1, none⟩ = some (.int .i64 (q : Int)))
              (first | exact ⟨i0, i1⟩ | exact ⟨h0, h1⟩ | exact ⟨f0, f1⟩ | exact ⟨e0, e1⟩)
              (first
                | (go_at_call 14; refine (HP.out _).mono ?_; rintro e w' ⟨rfl, rfl⟩)
                | (go_at_call 15; refine HLen.out.mono ?_; rintro e w' ⟨rfl, rfl⟩)
                | (go_at_call 17; refine HByt.out.mono ?_; rintro e w5 ⟨rfl, h5, b5⟩; have f0 := (b5.cell (p := ⟨b, off + k * 2, none⟩) hbW).trans e0; have f1 := (b5.cell (p := ⟨b, off + k * 2 + 1, none⟩) hbW).trans e1; have H5 := Lib.hid h5; have B5 := Lib.hid b5; clear h5 b5)
                | (go_at_call 18; refine (HRef.out w5 B5.out).mono ?_; rintro e w6 ⟨A6, c6, rfl, r6, b6⟩; have hb5 : b < w5.heap.size := Nat.lt_of_lt_of_le hbW B5.out.size; have h0 := (b6.cell (p := ⟨b, off + k * 2, none⟩) hb5).trans f0; have h1 := (b6.cell (p := ⟨b, off + k * 2 + 1, none⟩) hb5).trans f1; have R6 := Lib.hid r6; have B6 := Lib.hid b6; clear r6 b6)
                | (go_at_call 16; refine (same_any w6 _ A6 (pack bs).length _ c6 (pack bs) hpl ((Reads.of_bytes H5.out).below B6.out) R6.out).mono ?_; rintro e w7 ⟨rfl, h7⟩; have i0 := (same_cell h7 _).trans h0; have i1 := (same_cell h7 _).trans h1; have H7 := Lib.hid h7; clear h7))
            go_wp2_with fail
            refine ⟨⟨k + 1, v, by omega, by go_num, ?_⟩, by simp [intOf]; omega⟩
            rw [take_item HX.out, okBits_bad _ _ HF.out, HBS.out]
            exact ((S3.out.below B5.out).below B6.out).same H7.out
    · go_wp2
      go_ret
      exact ⟨rfl, S.out.bel⟩

theorem few_none (w : World) (A : Option Addr) (c : Nat) : Calls Try.prog 3 #[.slice A 0 c] w fun e w' => e = .returned (.bool true) ∧ Below w.heap.size w w' := by
  go_enter Try.func3, Try.ntmps3
  go_wp2_with fail
  refine (awake_true w).mono ?_
  rintro e w1 ⟨rfl, b1⟩
  have B1 := Lib.hid (b1.alloc b1.size (.cells #[.slice none 0 0, .int .i64 0] 26))
  clear b1
  go_wp2_with fail
  go_loop [5] (fun i => i = .int .i64 0) (fun _ => 0)
  case atStart => rfl
  case round =>
    subst hrel
    go_wp2
    go_ret
    exact ⟨rfl, B1.out⟩
end Go.Proofs.Ytehjipbnjffngaa.bitsWrite
