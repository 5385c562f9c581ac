/- CoderReads: of any bytes (at most 60) and any steps' tables (at most 40, of at most 20 counts), what is decoded, and whether all is done then, is the document's. Its listed tables of the library are not read. No condition. -/
import Derived.Test.YtbkjfblmdilchaaDoorRBytes
import Derived.Test.YtbkjfblmdilchaaDoorCSide
import Derived.Test.YtbkjfblmdilchaaDoorCArgs
import Derived.Test.YtbkjfblmdilchaaDoorCards
import Derived.Test.YtbkjfblmdilchaaDoorTie
import Derived.LaidMore
import Derived.Lay
import Derived.SevenTiedAt
import Derived.Stop.Joined
import Derived.StillTailTactics
namespace Go.Proofs.YtbkjfblmdilchaaDoor.coderReads
open Go.ChangeShapes Go.WideShapes Go.ChangeAt Go.RowKit

/-- The document's interval lies in the box bx. -/
structure XBox (w : World) (bx : Nat) (ad : Addr) (c : Nat) (x : Iv) : Prop where
  blk : w.heap[bx]? = some (.cells #[.slice (some ad) (4 + x.k) c, .int .i64 (x.R : Int)] 29 (0, 0))
  row : w.ownsRow 0 3 1 (.slice (some ad) (4 + x.k) c) (4 + x.k) (ints (dints (digs (4 + x.k) x.L)))
theorem XBox.c0 {w : World} {bx : Nat} {ad : Addr} {c : Nat} {x : Iv} (h : XBox w bx ad c x) : w.cell? ⟨bx, 0, none⟩ = some (.slice (some ad) (4 + x.k) c) := by rw [cell_in h.blk]; rfl
theorem XBox.c1 {w : World} {bx : Nat} {ad : Addr} {c : Nat} {x : Iv} (h : XBox w bx ad c x) : w.cell? ⟨bx, 1, none⟩ = some (.int .i64 (x.R : Int)) := by rw [cell_in h.blk]; rfl
theorem XBox.lt {w : World} {bx : Nat} {ad : Addr} {c : Nat} {x : Iv} (h : XBox w bx ad c x) : bx < w.heap.size := heap_lt h.blk
theorem XBox.below {w w' : World} {bx : Nat} {ad : Addr} {c : Nat} {x : Iv} (h : XBox w bx ad c x) (hb : Below w.heap.size w w') : XBox w' bx ad c x :=
  ⟨(hb.block bx h.lt).trans h.blk, own_keep (S := fun _ => False) h.row (.of_below hb) (fun _ _ => id)⟩
/-- A new interval is laid into the box. -/
theorem XBox.lay {w w1 : World} {bx : Nat} {ad ad1 : Addr} {c c1 : Nat} {x y : Iv} (h : XBox w bx ad c x) (hb : Below w.heap.size w w1) (ho : w1.ownsRow 0 3 1 (.slice (some ad1) (4 + y.k) c1) (4 + y.k) (ints (dints (digs (4 + y.k) y.L)))) :
    XBox ((w1.setCell ⟨bx, 0, none⟩ (.slice (some ad1) (4 + y.k) c1)).setCell ⟨bx, 1, none⟩ (.int .i64 (y.R : Int))) bx ad1 c1 y ∧ Chg (· = bx) w1 ((w1.setCell ⟨bx, 0, none⟩ (.slice (some ad1) (4 + y.k) c1)).setCell ⟨bx, 1, none⟩ (.int .i64 (y.R : Int))) := by
  have h1 := (h.below hb).blk
  have hch : Chg (· = bx) w1 ((w1.setCell ⟨bx, 0, none⟩ (.slice (some ad1) (4 + y.k) c1)).setCell ⟨bx, 1, none⟩ (.int .i64 (y.R : Int))) := ((Chg.refl _ w1).set _ _ (by exact rfl)).set _ _ (by exact rfl)
  refine ⟨⟨?_, own_keep ho hch (fun p hp e => own_neT ho h1 (by decide) (by rw [hp, e]))⟩, hch⟩
  rw [heap_set (heap_set h1 0 _) 1 _]
  simp
theorem XBox.dec {w w' : World} {B g bx : Nat} {pk : Value} {y : Iv} {b : List Nat} {ad : Addr} {c : Nat} {x : Iv} (h : XBox w bx ad c x) (he : DIs w B g pk y b) (hc : Chg (· = g) w w') : XBox w' bx ad c x := by
  have h2 : w.heap[g]? = _ := he.cell
  exact ⟨(hc.far bx h.lt (fun e => block_ne h.blk h2 (by decide) e)).trans h.blk, own_keep h.row hc (fun q hq e => own_neT h.row h2 (by decide) (by rw [hq, e]))⟩
theorem dbox {w w' : World} {B g bx : Nat} {pk : Value} {y : Iv} {b : List Nat} {ad : Addr} {c : Nat} {x : Iv} (he : DIs w B g pk y b) (h : XBox w bx ad c x) (hc : Chg (· = bx) w w') : DIs w' B g pk y b := by
  have h2 : w.heap[g]? = _ := he.cell
  exact he.keep hc (fun e => block_ne h2 h.blk (by decide) e) (fun q hq e => own_ne he.row h.blk (by decide) (by rw [hq, e]))

structure Rd (w : World) (b : List Nat) (g bx k : Nat) (pk : Value) (ad : Addr) (c : Nat) (x : Iv) (wr : World) : Prop where
  dec : DIs wr w.heap.size g pk x b
  box : XBox wr bx ad c x
  good : x.Good
  kk : x.k ≤ 3 * k
  bel : Below w.heap.size w wr
def RdAt (w : World) (b : List Nat) (n g bx : Nat) (pk : Value) (i : Value) (wr : World) : Prop :=
  ∃ (k : Nat) (ad : Addr) (c : Nat) (x : Iv), k ≤ n ∧ i = .int .i64 (k : Int) ∧ Rd w b g bx k pk ad c x wr

set_option maxHeartbeats 9600000 in
set_option maxRecDepth 100000 in
theorem walk (A0 : Option Addr) (nb cb : Nat) (bs : List Nat) (A : Option Addr) (n c : Nat) (l : List (List Int × Int)) (w : World) (_ : (A0 = none → cb = 0) ∧ nb ≤ cb) (hd : Dig bs) (hb : Reads w A0 nb (bts bs)) (h : Steps w A n l) :
    Calls Tryd.prog 4 #[.slice A0 nb cb, .slice A n c] w fun e w' => e = .returned (.bool true) ∧ Below w.heap.size w w' := by
  have HS := Lib.hid h
  have HB := Lib.hid (⟨hb, hd, hb.lenB⟩ : Reads w A0 nb (bts bs) ∧ Dig bs ∧ bs.length = nb)
  clear h hb hd
  go_enter Tryd.func4, Tryd.ntmps4
  go_wp2_with fail
  refine (awake_true w).mono ?_
  rintro e w1 ⟨rfl, b1⟩
  have B1 := Lib.hid b1
  clear b1
  go_wp2_with fail
  refine (great_any w1 A n c l (HS.out.below B1.out)).mono ?_
  rintro e w2 ⟨r, rfl, h2, b2⟩
  have B2 := Lib.hid (B1.out.trans (b2.mono B1.out.size))
  cases r with
  | true =>
    clear h2 b2
    go_wp2
    go_ret
    exact ⟨rfl, B2.out⟩
  | false =>
    obtain ⟨hn, hall⟩ := h2 rfl
    have HA := Lib.hid hall
    clear h2 b2 hall
    by_cases h40 : 40 < n
    · have t1 : (40 : Int) < n := by omega
      go_wp2
      go_ret
      exact ⟨rfl, B2.out⟩
    have t1 : ¬ (40 : Int) < n := by omega
    by_cases h60 : 60 < nb
    · have t2 : (60 : Int) < nb := by omega
      go_wp2
      go_ret
      exact ⟨rfl, B2.out⟩
    have t2 : ¬ (60 : Int) < nb := by omega
    have hnb : nb ≤ 60 := by omega
    clear h40 h60
    go_wp2_with fail
    refine (newDec_any w2 w.heap.size A0 nb cb bs (HB.out.1.below B2.out) (by omega) HB.out.2.1 B2.out.size).mono ?_
    rintro e w3 ⟨g, pk, rfl, d3, b3, _, _⟩
    have D3 := Lib.hid d3
    have B3 := Lib.hid (B2.out.trans (b3.mono B2.out.size))
    clear d3 b3
    go_wp2_with fail
    refine (first_any w3).mono ?_
    rintro e w4 ⟨v4, rfl, ⟨ad4, c4, rfl, o4⟩, b4⟩
    have D4 := Lib.hid (D3.out.below b4)
    have B4 := Lib.hid (B3.out.trans (b4.mono B3.out.size))
    have a5 := alloc_below w4 (.cells #[.slice (some ad4) (4 + firstIv.k) c4, .int .i64 (firstIv.R : Int)] 29)
    have k5 : (w4.alloc (.cells #[.slice (some ad4) (4 + firstIv.k) c4, .int .i64 (firstIv.R : Int)] 29)).heap[w4.heap.size]? = some (.cells #[.slice (some ad4) (4 + firstIv.k) c4, .int .i64 (firstIv.R : Int)] 29 (0, 0)) := (Array.getElem?_push_size : (w4.heap.push _)[w4.heap.size]? = some _)
    have L5 := Lib.hid (show Rd w bs g w4.heap.size 0 pk ad4 c4 firstIv (w4.alloc (.cells #[.slice (some ad4) (4 + firstIv.k) c4, .int .i64 (firstIv.R : Int)] 29)) from
      ⟨D4.out.below a5, ⟨k5, own_keep (S := fun _ => False) o4 (.of_below a5) (fun _ _ => id)⟩, good_first, Nat.zero_le _, B4.out.trans (a5.mono B4.out.size)⟩)
    have HBX := Lib.hid B4.out.size
    clear o4 b4 a5 k5
    go_wp2_with fail
    generalize hbx : w4.heap.size = bx at *
    clear hbx
    go_loopw [7] (RdAt w bs n g bx pk) (fun i _ => n - (intOf i).toNat)
    case atStart => exact ⟨0, ad4, c4, firstIv, Nat.zero_le _, rfl, L5.out⟩
    case round =>
      obtain ⟨k, ax, cx, x, hk, rfl, hg⟩ := hrel
      by_cases hlt : k < n
      · obtain ⟨b, off, rfl⟩ := HS.out.ad (by omega)
        obtain ⟨p, Ai, ni, ci, hp, c0, c1, hr⟩ := HS.out.at k hlt
        have hbl : b < w.heap.size := World.block_lt_of_cell? w _ c0
        obtain ⟨cl, s⟩ := p
        obtain ⟨⟨ok, _, _⟩, _⟩ := HA.out _ (List.mem_of_getElem? hp)
        have R := Lib.hid (⟨hg, hr, ok, c0⟩ : Rd w bs g bx k pk ax cx x wr ∧ Reads w Ai ni (ints cl) ∧ Ok cl ∧ w.cell? ⟨b, off + k * 2, none⟩ = some (.slice Ai ni ci))
        have b1 : (k : Int) < n := by omega
        have hkx := hg.kk
        have d0 : wr.drew.cell? ⟨b, off + k * 2, none⟩ = some (.slice Ai ni ci) := (hg.bel.cell hbl).trans c0
        have m0 : wr.drew.cell? ⟨bx, 0, none⟩ = some (.slice (some ax) (4 + x.k) cx) := hg.box.c0
        have m1 : wr.drew.cell? ⟨bx, 1, none⟩ = some (.int .i64 (x.R : Int)) := hg.box.c1
        have m0' : wr.cell? ⟨bx, 0, none⟩ = some (.slice (some ax) (4 + x.k) cx) := hg.box.c0
        have m1' : wr.cell? ⟨bx, 1, none⟩ = some (.int .i64 (x.R : Int)) := hg.box.c1
        have d0' : wr.cell? ⟨b, off + k * 2, none⟩ = some (.slice Ai ni ci) := (hg.bel.cell hbl).trans c0
        have KD := Lib.hid (rdec_any wr.drew ax cx x Ai ni ci cl A0 nb cb bs (own_reads (hg.box.below (Reading.below (⟨1, rfl⟩ : Reading wr wr.drew))).row) hg.good (by omega) ((hr.below hg.bel).read ⟨1, rfl⟩) ok ((HB.out.1.below hg.bel).read ⟨1, rfl⟩) HB.out.2.1 hg.dec.inside)
        clear hg hr ok c0 c1 hp
        go_wp2_with fail
        go_still_tail 7, (by kernel_rfl)
        change wpList _ _ _ _ _ wr.drew
        go_wp2_with fail
        refine KD.out.mono ?_
        rintro e w5 ⟨s5, hs5, rfl, hin5, b5⟩
        have R5 := Lib.hid (⟨(R.out.1.dec.read ⟨1, rfl⟩).below b5, (R.out.1.box.below (Reading.below (⟨1, rfl⟩ : Reading wr wr.drew))).below b5, (R.out.1.bel.trans (Reading.below ⟨1, rfl⟩)).trans (b5.mono R.out.1.bel.size), hs5, hin5⟩ : DIs w5 w.heap.size g pk x bs ∧ XBox w5 bx ax cx x ∧ Below w.heap.size w w5 ∧ s5 < cl.length ∧ Inside (come x cl s5) bs)
        have e0 : w5.cell? ⟨b, off + k * 2, none⟩ = some (.slice Ai ni ci) := (R5.out.2.2.1.cell hbl).trans R.out.2.2.2
        have KM := Lib.hid (made_ok w5 Ai ni ci cl (R.out.2.1.below R5.out.2.2.1) R.out.2.2.1)
        clear hs5 hin5 b5 d0 m0 m1 d0' m0' m1'
        go_wp2_with fail
        refine KM.out.mono ?_
        rintro e w6 ⟨gt, q, cap, rfl, t6, b6, _, _⟩
        have R6 := Lib.hid (⟨R5.out.1.below b6, R5.out.2.1.below b6, R5.out.2.2.1.trans (b6.mono R5.out.2.2.1.size)⟩ : DIs w6 w.heap.size g pk x bs ∧ XBox w6 bx ax cx x ∧ Below w.heap.size w w6)
        have KE := Lib.hid (decode_ok w6 w.heap.size g pk x bs R6.out.1 R.out.1.good (by omega) gt q cap cl t6 R.out.2.2.1)
        clear t6 b6 e0
        go_wp2_with fail
        refine KE.out.mono ?_
        rintro e w7 ⟨s7, hs7, rfl, d7, c7⟩
        have hss : s7 = s5 := by
          rcases Nat.lt_trichotomy s7 s5 with h3 | h3 | h3
          · exact absurd R5.out.2.2.2.2 (come_apart HB.out.2.1 R.out.2.2.1 s7 s5 h3 R5.out.2.2.2.1 d7.inside)
          · exact h3
          · exact absurd d7.inside (come_apart HB.out.2.1 R.out.2.2.1 s5 s7 h3 hs7 R5.out.2.2.2.2)
        subst hss
        have hB7 := c7.below (B := w.heap.size) R6.out.2.2.size (fun p hp => by rw [hp]; exact R6.out.1.low)
        have X7 := Lib.hid (R6.out.2.1.dec R6.out.1 c7)
        have D7 := Lib.hid d7
        have B7 := Lib.hid (R6.out.2.2.trans hB7)
        have hyg := R.out.1.good.come R.out.2.2.1 s7 hs7
        have hyk := come_k x cl s7
        have KC := Lib.hid (fun W (hW : Reading w7 W) => come_any W ax cx x Ai ni ci cl s7 (own_reads (X7.out.below hW.below).row) R.out.1.good (by omega) ((R.out.2.1.below B7.out).read hW) R.out.2.2.1 hs7)
        generalize hY : come x cl s7 = y at *
        have HY := Lib.hid (⟨hyg, hyk⟩ : y.Good ∧ y.k ≤ x.k + 3)
        have y0 := X7.out.c0
        have y1 := X7.out.c1
        have yf0 := frozen_in X7.out.blk 0
        have yf1 := frozen_in X7.out.blk 1
        have f0 : w7.cell? ⟨b, off + k * 2, none⟩ = some (.slice Ai ni ci) := (B7.out.cell hbl).trans R.out.2.2.2
        have u1 : ((s7 : Int) != (s7 : Int)) = false := by simp
        have u2 : ((0 : Int) != 0) = false := by decide
        have u3 : ¬ (s7 : Int) < 0 := by omega
        clear hs7 d7 c7 hB7 hyg hyk hY
        go_wp2_with fail
        go_still_tail 8, (by kernel_rfl)
        change wpList _ _ _ _ _ w7.drew
        go_wp2_with fail
        refine (KC.out w7.drew ⟨1, rfl⟩).mono ?_
        rintro e w8 ⟨v8, rfl, ⟨ad8, c8, rfl, o8⟩, b8⟩
        have X7d := Lib.hid (X7.out.below (Reading.below (⟨1, rfl⟩ : Reading w7 w7.drew)))
        have X8 := Lib.hid (X7d.out.lay b8 o8)
        have h8 := (X7d.out.below b8)
        have z0 := h8.c0
        have z1 := h8.c1
        have zf0 := frozen_in h8.blk 0
        have zf1 := frozen_in h8.blk 1
        have D8 := Lib.hid (dbox (((D7.out.read ⟨1, rfl⟩).below b8)) h8 X8.out.2)
        have B8 := Lib.hid (show Below w.heap.size w _ from ((B7.out.trans (Reading.below ⟨1, rfl⟩)).trans (b8.mono B7.out.size)).trans (X8.out.2.below (Nat.le_trans B7.out.size b8.size) (fun p hp => by rw [hp]; exact HBX.out)))
        clear o8 b8 h8 y0 y1 yf0 yf1 f0
        go_wp2_with fail
        exact ⟨⟨k + 1, ad8, c8, y, by omega, by go_num, ⟨D8.out, X8.out.1, HY.out.1, by have := HY.out.2; omega, B8.out⟩⟩, by simp [intOf]; omega⟩
      · obtain rfl : k = n := by omega
        have b1 : ¬ (k : Int) < k := by omega
        have hkx := hg.kk
        have R := Lib.hid hg
        have KO := Lib.hid (done_any wr.drew w.heap.size g pk x bs (hg.dec.read ⟨1, rfl⟩) hg.good (by omega) (by have := HB.out.2.2; omega))
        have XRd := Lib.hid (hg.box.below (Reading.below (⟨1, rfl⟩ : Reading wr wr.drew)))
        have m0 : wr.drew.cell? ⟨bx, 0, none⟩ = some (.slice (some ax) (4 + x.k) cx) := XRd.out.c0
        have m1 : wr.drew.cell? ⟨bx, 1, none⟩ = some (.int .i64 (x.R : Int)) := XRd.out.c1
        have hbxw : bx < wr.drew.heap.size := XRd.out.lt
        have KB := Lib.hid (fun W' (hW : Below wr.drew.heap.size wr.drew W') => rbytes_any W' ax cx x (own_reads (XRd.out.below hW).row) R.out.good (by omega))
        have RB := Lib.hid (show Reads wr.drew A0 nb (bts bs) from (HB.out.1.below hg.bel).read ⟨1, rfl⟩)
        have DI := Lib.hid (fun (b9 : List Nat) (h9 : IsCode x b9) => show doneOf x bs = decide (bs = b9) from by
          have h1 := done_iff R.out.good HB.out.2.1 R.out.dec.inside
          by_cases h2 : bs = b9
          · rw [decide_eq_true h2]
            exact h1.2 (by rw [h2]; exact h9)
          · rw [decide_eq_false h2]
            cases h3 : doneOf x bs
            · rfl
            · exact absurd (isCode_one (h1.1 h3) h9) h2)
        have KLN := Lib.hid (fun b' (hb' : IsCode x b') => show b'.length ≤ 140737488355328 by have h1 := isCode_len R.out.good hb'; omega)
        have HNB : nb ≤ 140737488355328 := by omega
        clear hg
        generalize hdn : doneOf x bs = dn at *
        have HDN := Lib.hid hdn
        clear hdn
        go_wp2_with fail
        go_region_held3 (fun w' => w'.cell? ⟨bx, 0, none⟩ = some (.slice (some ax) (4 + x.k) cx) ∧ w'.cell? ⟨bx, 1, none⟩ = some (.int .i64 (x.R : Int)))
          (first | exact ⟨q0, q1⟩ | exact ⟨p0, p1⟩ | exact ⟨n0, n1⟩ | exact ⟨m0, m1⟩)
          (first
            | (go_at_call 23; refine KO.out.mono ?_; rintro e w8 ⟨rfl, bb8⟩; have n0 := ((bb8.below (B := wr.drew.heap.size)).cell (p := ⟨bx, 0, none⟩) hbxw).trans m0; have n1 := ((bb8.below (B := wr.drew.heap.size)).cell (p := ⟨bx, 1, none⟩) hbxw).trans m1; have C8 := Lib.hid (bb8.below (B := wr.drew.heap.size)); clear bb8)
            | (go_at_call 19; refine (KB.out w8 C8.out).mono ?_; rintro e w9 ⟨b9, r9, rfl, i9, o9, bb9⟩; obtain ⟨A9, c9, rfl, _, rd9⟩ := Reads.of_own o9; have p0 := (bb9.cell (p := ⟨bx, 0, none⟩) (Nat.lt_of_lt_of_le hbxw C8.out.size)).trans n0; have p1 := (bb9.cell (p := ⟨bx, 1, none⟩) (Nat.lt_of_lt_of_le hbxw C8.out.size)).trans n1; have C9 := Lib.hid (⟨rd9, (RB.out.below C8.out).below bb9, C8.out.trans (bb9.mono C8.out.size), KLN.out b9 i9, DI.out b9 i9⟩ : Reads w9 A9 b9.length (bts b9) ∧ Reads w9 A0 nb (bts bs) ∧ Below wr.drew.heap.size wr.drew w9 ∧ b9.length ≤ 140737488355328 ∧ dn = decide (bs = b9)); clear i9 o9 bb9 rd9)
            | (go_at_call 17; refine (same4_any w9 A0 A9 nb b9.length cb c9 bs b9 C9.out.2.1 C9.out.1 HNB C9.out.2.2.2.1).mono ?_; rintro e w10 ⟨rfl, bb10⟩; have q0 : w10.cell? ⟨bx, 0, none⟩ = some (.slice (some ax) (4 + x.k) cx) := (bb10.below (B := w9.heap.size)).cell (World.block_lt_of_cell? w9 _ p0) |>.trans p0; have q1 : w10.cell? ⟨bx, 1, none⟩ = some (.int .i64 (x.R : Int)) := (bb10.below (B := w9.heap.size)).cell (World.block_lt_of_cell? w9 _ p1) |>.trans p1; have C10 := Lib.hid (C9.out.2.2.1.trans bb10.below); clear bb10))
        go_wp2
        go_ret
        refine ⟨?_, (R.out.bel.trans (Reading.below ⟨1, rfl⟩)).trans (C10.out.mono R.out.bel.size)⟩
        have h5 := C9.out.2.2.2.2
        show Ending.returned (.bool (dn == decide (bs = b9))) = _
        rw [← h5, beq_self_eq_true]

set_option maxRecDepth 100000 in
theorem lifted (os : Os) (started : os.Started) (H : Type) (enc : TypeId × Value → H) :
    ReturnsInHanded {} Tryd.checked os 4 .any (fun w args => (Rows.coderReadsSpec.pre enc Tryd.prog Tryd.f4 Rows.coderReadsRow.domain false w args ∧ laidMetH Tryd.prog Rows.coderReadsRow.laid w) ∧ sizedMet enc Tryd.prog Tryd.f4 (OpenSpec.ofChange Rows.coderReadsSpec) false w args)
      (Rows.coderReadsSpec.post enc Tryd.prog Tryd.f4 false true false false) := by
  refine returnsInHanded_of_change_and (C := Tryd.checked) (X := fun w _ => laidMetH Tryd.prog Rows.coderReadsRow.laid w) (fun _ _ _ hh h => h.of_heap hh) own_knob started (by kernel_rfl) Tryd.func4
    (ChangeSpec.witness_shaped (enc := enc) (C := Tryd.checked) (os := os) (X := fun w _ => laidMetH Tryd.prog Rows.coderReadsRow.laid w) false (World.laidAll Tryd.prog os Rows.coderReadsRow.laid) #[.slice none 0 0, .slice none 0 0] 8 (World.laidAll_os _ _ _)
      (World.shaped_of_ZipB (by kernel_rfl) (by kernel_rfl)) (by kernel_rfl) (by kernel_rfl) (by kernel_rfl)
      (by rw [MakeChecks.laidMetH_plain _ _ _ (by kernel_rfl)]; exact laidMet_laidAll _ (by kernel_rfl) (by kernel_rfl))) ?_
  intro W base args ds gs before hval0 hW hc _ _ _
  have hval : ∀ (j : Nat) t v, Tryd.f4.params[j]? = some t → args[j]? = some v → Value.okWide Tryd.prog W .any base t v := hval0
  have hW' := hW
  obtain ⟨p, q, hA0, hV, rfl, _, _⟩ := hW
  have hA : DataW.TrodAll enc Tryd.prog W 0 (fun _ => true) true Tryd.f4.params.toList args.toList ds p := hA0
  rw [Tryd.params4] at hA hval
  obtain ⟨v0, vs0, d0, ds0, p0, q0, hargs, rfl, rfl, h0, r0⟩ := trodAll_cons hA
  obtain ⟨v1, vs1, d1, ds1, p1, q1, rfl, rfl, rfl, h1, r1⟩ := trodAll_cons r0
  obtain ⟨rfl, rfl, rfl⟩ := trodAll_nil r1
  obtain rfl : args = #[v0, v1] := by cases args; simp_all
  obtain ⟨rfl, rfl⟩ := trodVars_none hV
  have lt0 : ∀ x ∈ p0, x.block < W.heap.size := by obtain ⟨m, hm⟩ := h0; exact DataW.trod_lt m _ _ _ hm
  obtain ⟨a0, len0, cap0, rfl⟩ := okWide_slice Tryd.underlying39 (hval 0 39 v0 rfl rfl)
  obtain ⟨hc0, xs0, hx0, hr0⟩ := arg_bytes4 h0
  have lt1 : ∀ x ∈ p1, x.block < W.heap.size := by obtain ⟨m, hm⟩ := h1; exact DataW.trod_lt m _ _ _ hm
  obtain ⟨a1, len1, cap1, rfl⟩ := okWide_slice Tryd.underlying22 (hval 1 22 v1 rfl rfl)
  obtain ⟨xs1, hr1⟩ := arg_steps h1
  clear hA0 hval0
  refine (walk a0 len0 cap0 xs0 a1 len1 cap1 xs1 W hc0 hx0 hr0 hr1).mono fun e W' ⟨he, bel⟩ => ?_
  subst he
  exact ⟨_, rfl, _, _, _, [], _, [], hW', trodAll_mk1 (shut_bool Tryd.underlying4 _), (trodAll_cons_mk (Below.trod laid_out (by kernel_rfl) (of_decide_eq_true (by kernel_rfl)) h0 bel lt0) (trodAll_cons_mk (Below.trod laid_out (by kernel_rfl) (of_decide_eq_true (by kernel_rfl)) h1 bel lt1) trodAll_mk0)), rfl, bel.frame _, fun h => by cases h⟩

theorem over : Rows.CoderReadsSaid :=
  OpenClaim.holds_of_wide 4 Tryd.f4 rfl rfl rfl rfl rfl rfl rfl ⟨rfl, rfl, rfl, rfl, rfl⟩ rfl rfl rfl rfl rfl (by kernel_rfl) Tryd.func4 (by kernel_rfl)
    (of_decide_eq_true (by kernel_rfl)) (by unfold Func.isWrapper; first | (rw [if_pos (by decide +kernel)]; kernel_rfl) | (rw [if_neg (by decide +kernel)]; exact ⟨rfl, rfl⟩))
    (fun os started H enc _ => lifted os started H enc)

theorem plain (f : FuncId) (fn : Func) (hf : Tryd.pinned.checked.prog.funcNamed "gypsum/gypsumlaw04.CoderReads" = some f) (hfn : Tryd.pinned.checked.prog.funcs[f]? = some fn) :
    false = Tryd.pinned.checked.prog.looks [] ∧ ∀ (j : Nat) t, fn.params[j]? = some t → Tryd.pinned.checked.prog.wantsStandIn t = false := by
  obtain rfl : f = 4 := Option.some.inj ((show Tryd.prog.funcNamed "gypsum/gypsumlaw04.CoderReads" = some 4 by kernel_rfl).symm.trans hf) |>.symm
  obtain rfl : fn = Tryd.f4 := (Option.some.inj (Tryd.func4.symm.trans hfn)).symm
  refine ⟨by kernel_rfl, fun j t ht => ?_⟩
  rw [Tryd.params4] at ht
  have hm : t ∈ [39, 22] := by simpa using Array.mem_of_getElem? ht
  have hall : ([39, 22].all fun u => !Tryd.prog.wantsStandIn u) = true := by kernel_rfl
  exact (show Tryd.prog.wantsStandIn t = false by simpa using List.all_eq_true.1 hall t hm)

theorem proved : Rows.CoderReadsCardSaid :=
  Claim7.holds_tied_plain_at .later [] _ _ _ _ over (fun _ h => by cases h) (by kernel_rfl) (fun _ h => by cases h) coderReads_row_tie rfl ⟨rfl, rfl⟩ (by kernel_rfl) rfl plain (by kernel_rfl)
end Go.Proofs.YtbkjfblmdilchaaDoor.coderReads
