/- CoderBytes: of any steps (at most 60, of at most 20 counts), the bytes that the encoder tells, behind each eighth of them and at the end, are the document's. Its listed tables of the library are not read. No condition. -/
import Derived.Test.YtbkjfblmdilchaaDoorRBytes
import Derived.Test.YtbkjfblmdilchaaDoorCSide
import Derived.Test.YtbkjfblmdilchaaDoorCArgs
import Derived.Test.YtbkjfblmdilchaaDoorCards
import Derived.Test.YtbkjfblmdilchaaDoorTie
import Derived.LaidMore
import Derived.Lay
import Derived.SevenTiedAt
import Derived.Stop.Joined
import Derived.StillTailTactics
namespace Go.Proofs.YtbkjfblmdilchaaDoor.coderBytes
open Go.ChangeShapes Go.WideShapes Go.ChangeAt Go.RowKit

def xk (l : List (List Int × Int)) (k : Nat) : Iv := runIv firstIv (nats (l.take k))
theorem xk_good {l : List (List Int × Int)} (h : AllRight l) (k : Nat) : (xk l k).Good := (h.take k).good
theorem xk_k (l : List (List Int × Int)) (k n : Nat) (hl : l.length = n) (hn : n ≤ 60) : (xk l k).k ≤ 180 := by
  have := run_first_k (l.take k) 60 (by have := List.length_take_le' k l; omega)
  exact this
theorem xk_succ {l : List (List Int × Int)} {k : Nat} {c : List Int} {sn : Nat} (h : l[k]? = some (c, (sn : Int))) : xk l (k + 1) = come (xk l k) c sn := by
  have := run_succ h
  rw [show ((sn : Int)).toNat = sn by omega] at this
  exact this

/-- The document's interval lies in the box bx. -/
structure XBox (w : World) (bx : Nat) (ad : Addr) (c : Nat) (x : Iv) : Prop where
  blk : w.heap[bx]? = some (.cells #[.slice (some ad) (4 + x.k) c, .int .i64 (x.R : Int)] 29 (0, 0))
  row : w.ownsRow 0 3 1 (.slice (some ad) (4 + x.k) c) (4 + x.k) (ints (dints (digs (4 + x.k) x.L)))
theorem XBox.c0 {w : World} {bx : Nat} {ad : Addr} {c : Nat} {x : Iv} (h : XBox w bx ad c x) : w.cell? ⟨bx, 0, none⟩ = some (.slice (some ad) (4 + x.k) c) := by rw [cell_in h.blk]; rfl
theorem XBox.c1 {w : World} {bx : Nat} {ad : Addr} {c : Nat} {x : Iv} (h : XBox w bx ad c x) : w.cell? ⟨bx, 1, none⟩ = some (.int .i64 (x.R : Int)) := by rw [cell_in h.blk]; rfl
theorem XBox.lt {w : World} {bx : Nat} {ad : Addr} {c : Nat} {x : Iv} (h : XBox w bx ad c x) : bx < w.heap.size := heap_lt h.blk
theorem XBox.below {w w' : World} {bx : Nat} {ad : Addr} {c : Nat} {x : Iv} (h : XBox w bx ad c x) (hb : Below w.heap.size w w') : XBox w' bx ad c x :=
  ⟨(hb.block bx h.lt).trans h.blk, own_keep (S := fun _ => False) h.row (.of_below hb) (fun _ _ => id)⟩
theorem XBox.enc {w w' : World} {B g bx : Nat} {v : Value} {y : Iv} {ad : Addr} {c : Nat} {x : Iv} (h : XBox w bx ad c x) (he : EIs w B g v y) (hc : Chg (ESet g v) w w') : XBox w' bx ad c x := by
  refine ⟨(hc.far bx h.lt ?_).trans h.blk, own_keep h.row hc ?_⟩
  · rintro (e | e)
    · exact block_ne h.blk he.sp (by decide) e
    · exact own_ne he.row h.blk (by decide) e
  · rintro q hq (e | e)
    · exact own_neT h.row he.sp (by decide) (by rw [hq, e])
    · obtain ⟨_, _, cur, h1⟩ := own_lt h.row q hq
      exact own_ne he.row h1 (by decide) e
/-- A new interval is laid into the box. -/
theorem XBox.lay {w w1 : World} {bx : Nat} {ad ad1 : Addr} {c c1 : Nat} {x y : Iv} (h : XBox w bx ad c x) (hb : Below w.heap.size w w1) (ho : w1.ownsRow 0 3 1 (.slice (some ad1) (4 + y.k) c1) (4 + y.k) (ints (dints (digs (4 + y.k) y.L)))) :
    XBox ((w1.setCell ⟨bx, 0, none⟩ (.slice (some ad1) (4 + y.k) c1)).setCell ⟨bx, 1, none⟩ (.int .i64 (y.R : Int))) bx ad1 c1 y ∧ Chg (· = bx) w1 ((w1.setCell ⟨bx, 0, none⟩ (.slice (some ad1) (4 + y.k) c1)).setCell ⟨bx, 1, none⟩ (.int .i64 (y.R : Int))) := by
  have h1 := (h.below hb).blk
  have hch : Chg (· = bx) w1 ((w1.setCell ⟨bx, 0, none⟩ (.slice (some ad1) (4 + y.k) c1)).setCell ⟨bx, 1, none⟩ (.int .i64 (y.R : Int))) := ((Chg.refl _ w1).set _ _ (by exact rfl)).set _ _ (by exact rfl)
  refine ⟨⟨?_, own_keep ho hch (fun p hp e => own_neT ho h1 (by decide) (by rw [hp, e]))⟩, hch⟩
  rw [heap_set (heap_set h1 0 _) 1 _]
  simp
theorem EIs.box {w w' : World} {B g bx : Nat} {v : Value} {y : Iv} {ad : Addr} {c : Nat} {x : Iv} (he : EIs w B g v y) (h : XBox w bx ad c x) (hc : Chg (· = bx) w w') : EIs w' B g v y :=
  he.keep hc (fun e => block_ne he.sp h.blk (by decide) e) (fun q hq e => own_ne he.row h.blk (by decide) (by rw [hq, e]))

theorem same_true (w : World) (A A' : Option Addr) (n c c' : Nat) (b : List Nat) (h : Reads w A n (bts b)) (h' : Reads w A' n (bts b)) (hn : n ≤ 140737488355328) :
    Calls Tryd.prog 17 #[.slice A n c, .slice A' n c'] w fun e w' => e = .returned (.bool true) ∧ Reading w w' := by
  have := same4_any w A A' n n c c' b b h h' hn hn
  rw [decide_eq_true (rfl : b = b)] at this
  exact this
structure By (w : World) (l : List (List Int × Int)) (g bx k : Nat) (v : Value) (ad : Addr) (c : Nat) (wr : World) : Prop where
  enc : EIs wr w.heap.size g v (xk l k)
  box : XBox wr bx ad c (xk l k)
  bel : Below w.heap.size w wr
def ByAt (w : World) (l : List (List Int × Int)) (n g bx : Nat) (i : Value) (wr : World) : Prop :=
  ∃ (k : Nat) (v : Value) (ad : Addr) (c : Nat), k ≤ n ∧ i = .int .i64 (k : Int) ∧ By w l g bx k v ad c wr

set_option maxHeartbeats 9600000 in
set_option maxRecDepth 100000 in
theorem walk (A : Option Addr) (n c : Nat) (l : List (List Int × Int)) (w : World) (h : Steps w A n l) :
    Calls Tryd.prog 3 #[.slice A n c] w fun e w' => e = .returned (.bool true) ∧ Below w.heap.size w w' := by
  have HS := Lib.hid h
  clear h
  go_enter Tryd.func3, Tryd.ntmps3
  go_wp2_with fail
  refine (awake_true w).mono ?_
  rintro e w1 ⟨rfl, b1⟩
  have B1 := Lib.hid b1
  clear b1
  go_wp2_with fail
  refine (great_any w1 A n c l (HS.out.below B1.out)).mono ?_
  rintro e w2 ⟨r, rfl, h2, b2⟩
  have B2 := Lib.hid (B1.out.trans (b2.mono B1.out.size))
  cases r with
  | true =>
    clear h2 b2
    go_wp2
    go_ret
    exact ⟨rfl, B2.out⟩
  | false =>
    obtain ⟨hn, hall⟩ := h2 rfl
    have HA := Lib.hid hall
    clear h2 b2 hall
    go_wp2_with fail
    refine (cnew_any w2 w.heap.size B2.out.size).mono ?_
    rintro e w3 ⟨g, v, rfl, e3, b3, _, _⟩
    have E3 := Lib.hid e3
    have B3 := Lib.hid (B2.out.trans (b3.mono B2.out.size))
    clear e3 b3
    go_wp2_with fail
    refine (first_any w3).mono ?_
    rintro e w4 ⟨v4, rfl, ⟨ad4, c4, rfl, o4⟩, b4⟩
    have E4 := Lib.hid (E3.out.below b4)
    have B4 := Lib.hid (B3.out.trans (b4.mono B3.out.size))
    have a5 := alloc_below w4 (.cells #[.slice (some ad4) (4 + firstIv.k) c4, .int .i64 (firstIv.R : Int)] 29)
    have k5 : (w4.alloc (.cells #[.slice (some ad4) (4 + firstIv.k) c4, .int .i64 (firstIv.R : Int)] 29)).heap[w4.heap.size]? = some (.cells #[.slice (some ad4) (4 + firstIv.k) c4, .int .i64 (firstIv.R : Int)] 29 (0, 0)) := (Array.getElem?_push_size : (w4.heap.push _)[w4.heap.size]? = some _)
    have L5 := Lib.hid (show By w l g w4.heap.size 0 v ad4 c4 (w4.alloc (.cells #[.slice (some ad4) (4 + firstIv.k) c4, .int .i64 (firstIv.R : Int)] 29)) from
      ⟨E4.out.below a5, ⟨k5, own_keep (S := fun _ => False) o4 (.of_below a5) (fun _ _ => id)⟩, B4.out.trans (a5.mono B4.out.size)⟩)
    have HBX := Lib.hid B4.out.size
    clear o4 b4 a5 k5
    go_wp2_with fail
    generalize hbx : w4.heap.size = bx at *
    clear hbx
    go_loopw [5] (ByAt w l n g bx) (fun i _ => n - (intOf i).toNat)
    case atStart => exact ⟨0, v, ad4, c4, Nat.zero_le _, rfl, L5.out⟩
    case round =>
      obtain ⟨k, v, ax, cx, hk, rfl, hg⟩ := hrel
      by_cases hlt : k < n
      · obtain ⟨b, off, rfl⟩ := HS.out.ad (by omega)
        obtain ⟨p, Ai, ni, ci, hp, c0, c1, hr⟩ := HS.out.at k hlt
        have hbl : b < w.heap.size := World.block_lt_of_cell? w _ c0
        obtain ⟨cl, s⟩ := p
        obtain ⟨⟨ok, s0, s1⟩, _⟩ := HA.out _ (List.mem_of_getElem? hp)
        obtain ⟨sn, rfl⟩ : ∃ sn : Nat, s = (sn : Int) := ⟨s.toNat, by have : 0 ≤ s := s0; omega⟩
        have hsn : sn < cl.length := by have : (sn : Int) < cl.length := s1; omega
        have hx := xk_good HA.out k
        have hkx := xk_k l k n HS.out.1 hn
        have hx2 := xk_good HA.out (k + 1)
        have hkx2 := xk_k l (k + 1) n HS.out.1 hn
        have hsu := xk_succ hp
        generalize hX : xk l k = x at *
        generalize hY : xk l (k + 1) = y at *
        have he : EIs wr w.heap.size g v x := by rw [← hX]; exact hg.enc
        have hbo : XBox wr bx ax cx x := by rw [← hX]; exact hg.box
        have hb := hg.bel
        have R := Lib.hid (⟨he, hb, hr, ok, hx, hkx, hsu, hbo, c0, c1⟩ : EIs wr w.heap.size g v x ∧ Below w.heap.size w wr ∧ Reads w Ai ni (ints cl) ∧ Ok cl ∧ x.Good ∧ x.k ≤ 180 ∧ y = come x cl sn ∧ XBox wr bx ax cx x ∧ w.cell? ⟨b, off + k * 2, none⟩ = some (.slice Ai ni ci) ∧ w.cell? ⟨b, off + k * 2 + 1, none⟩ = some (.int .i64 (sn : Int)))
        have RY := Lib.hid (⟨hx2, hkx2, hY⟩ : y.Good ∧ y.k ≤ 180 ∧ xk l (k + 1) = y)
        have b1 : (k : Int) < n := by omega
        have d0 : wr.drew.cell? ⟨b, off + k * 2, none⟩ = some (.slice Ai ni ci) := (hb.cell hbl).trans c0
        have d1 : wr.drew.cell? ⟨b, off + k * 2 + 1, none⟩ = some (.int .i64 (sn : Int)) := (hb.cell hbl).trans c1
        have KM := Lib.hid (made_ok wr.drew Ai ni ci cl ((hr.below hb).read ⟨1, rfl⟩) ok)
        have hbw : b < wr.drew.heap.size := Nat.lt_of_lt_of_le hbl hb.size
        have t0 : ((0 : Int) != 0) = false := by decide
        clear he hb hr ok hx hkx hsu hX hp s0 s1 hg hx2 hkx2 hY hbo c0 c1
        go_wp2_with fail
        go_region_held3 (fun w' => w'.cell? ⟨b, off + k * 2, none⟩ = some (.slice Ai ni ci) ∧ w'.cell? ⟨b, off + k * 2 + 1, none⟩ = some (.int .i64 (sn : Int)))
          (first | exact ⟨f0, f1⟩ | exact ⟨e0, e1⟩ | exact ⟨d0, d1⟩)
          (first
            | (go_at_call 15; refine KM.out.mono ?_; rintro e w4 ⟨gt, q, cap, rfl, t2, b2, _, _⟩; have e0 := (b2.cell (p := ⟨b, off + k * 2, none⟩) hbw).trans d0; have e1 := (b2.cell (p := ⟨b, off + k * 2 + 1, none⟩) hbw).trans d1; have T2 := Lib.hid (⟨t2, b2⟩ : TIs w4 gt q cap cl ∧ Below wr.drew.heap.size wr.drew w4); have E2 := Lib.hid ((R.out.1.read ⟨1, rfl⟩).below b2); clear t2 b2)
            | (go_at_call 14; refine (encode_ok w4 w.heap.size g v x E2.out R.out.2.2.2.2.1 (by have := R.out.2.2.2.2.2.1; omega) gt q cap cl T2.out.1 R.out.2.2.2.1 sn hsn).mono ?_; rintro e w5 ⟨rfl, h3⟩; have b3 := h3.below E2.out; have f0 := (b3.cell (p := ⟨b, off + k * 2, none⟩) hbl).trans e0; have f1 := (b3.cell (p := ⟨b, off + k * 2 + 1, none⟩) hbl).trans e1; have H3 := Lib.hid h3; have B3 := Lib.hid b3; clear h3 b3))
        have B5 := Lib.hid (show Below w.heap.size w w5 from ((R.out.2.1.trans (Reading.below ⟨1, rfl⟩)).trans (T2.out.2.mono R.out.2.1.size)).trans B3.out)
        obtain ⟨v5, e5, k5, _⟩ := H3.out
        rw [← R.out.2.2.2.2.2.2.1] at e5
        have X5 := Lib.hid (((R.out.2.2.2.2.2.2.2.1.below (Reading.below (⟨1, rfl⟩ : Reading wr wr.drew))).below T2.out.2).enc E2.out k5)
        have E5 := Lib.hid e5
        have y0 := X5.out.c0
        have y1 := X5.out.c1
        have yf0 := frozen_in X5.out.blk 0
        have yf1 := frozen_in X5.out.blk 1
        have KC := Lib.hid (fun W (hW : Reading w5 W) => come_any W ax cx x Ai ni ci cl sn (own_reads (X5.out.below hW.below).row) R.out.2.2.2.2.1 (by have := R.out.2.2.2.2.2.1; omega) ((R.out.2.2.1.below B5.out).read hW) R.out.2.2.2.1 hsn)
        rw [← R.out.2.2.2.2.2.2.1] at KC
        clear e5 k5 e0 e1 d0 d1
        go_wp2_with fail
        go_still_tail 5, (by kernel_rfl)
        change wpList _ _ _ _ _ w5.drew
        go_wp2_with fail
        refine (KC.out w5.drew ⟨1, rfl⟩).mono ?_
        rintro e w6 ⟨v6, rfl, ⟨ad6, c6, rfl, o6⟩, b6⟩
        have X5d := Lib.hid (X5.out.below (Reading.below (⟨1, rfl⟩ : Reading w5 w5.drew)))
        have X6 := Lib.hid (X5d.out.lay b6 o6)
        have h6 := (X5d.out.below b6)
        have z0 := h6.c0
        have z1 := h6.c1
        have zf0 := frozen_in h6.blk 0
        have zf1 := frozen_in h6.blk 1
        have E6 := Lib.hid (EIs.box (((E5.out.read ⟨1, rfl⟩).below b6)) h6 X6.out.2)
        have B6 := Lib.hid (show Below w.heap.size w _ from ((B5.out.trans (Reading.below ⟨1, rfl⟩)).trans (b6.mono B5.out.size)).trans (X6.out.2.below (Nat.le_trans B5.out.size b6.size) (fun p hp => by rw [hp]; exact HBX.out)))
        clear o6 b6 h6 y0 y1 yf0 yf1 f0 f1
        go_wp2_with fail
        generalize (w6.setCell ⟨bx, 0, none⟩ (.slice (some ad6) (4 + y.k) c6)).setCell ⟨bx, 1, none⟩ (.int .i64 (y.R : Int)) = w7 at *
        have X7d := Lib.hid (X6.out.1.below (Reading.below (⟨1, rfl⟩ : Reading w7 w7.drew)))
        by_cases h8 : (k : Int) % 8 = 0
        · have t8 : ((k : Int) % 8 == 0) = true := by simp [h8]
          have t8t : ((k : Int).tmod 8 == 0) = true := by rw [Int.tmod_eq_emod_of_nonneg (by omega)]; exact t8
          have H8 := Lib.hid h8
          clear h8
          have KF := Lib.hid (finish_any w7.drew w.heap.size g v5 y (E6.out.read ⟨1, rfl⟩) RY.out.1 (by have := RY.out.2.1; omega))
          have m0 : w7.drew.cell? ⟨bx, 0, none⟩ = some (.slice (some ad6) (4 + y.k) c6) := X7d.out.c0
          have m1 : w7.drew.cell? ⟨bx, 1, none⟩ = some (.int .i64 (y.R : Int)) := X7d.out.c1
          have hbxw : bx < w7.drew.heap.size := X7d.out.lt
          have KB := Lib.hid (fun W' (hW : Below w7.drew.heap.size w7.drew W') => rbytes_any W' ad6 c6 y (own_reads (X7d.out.below hW).row) RY.out.1 (by have := RY.out.2.1; omega))
          have KLN := Lib.hid (fun b' (hb' : IsCode y b') => show b'.length ≤ 140737488355328 by have h1 := isCode_len RY.out.1 hb'; have h2 := RY.out.2.1; omega)
          go_wp2_with fail
          go_region_held3 (fun w' => w'.cell? ⟨bx, 0, none⟩ = some (.slice (some ad6) (4 + y.k) c6) ∧ w'.cell? ⟨bx, 1, none⟩ = some (.int .i64 (y.R : Int)))
            (first | exact ⟨q0, q1⟩ | exact ⟨p0, p1⟩ | exact ⟨n0, n1⟩ | exact ⟨m0, m1⟩)
            (first
              | (go_at_call 18; refine KF.out.mono ?_; rintro e w8 ⟨b8, r8, rfl, i8, o8, bb8⟩; obtain ⟨A8, c8, rfl, _, rd8⟩ := Reads.of_own o8; have n0 := (bb8.cell (p := ⟨bx, 0, none⟩) hbxw).trans m0; have n1 := (bb8.cell (p := ⟨bx, 1, none⟩) hbxw).trans m1; have C8 := Lib.hid (⟨i8, rd8, bb8⟩ : IsCode y b8 ∧ Reads w8 A8 b8.length (bts b8) ∧ Below w7.drew.heap.size w7.drew w8); clear i8 o8 bb8 rd8)
              | (go_at_call 19; refine (KB.out w8 C8.out.2.2).mono ?_; rintro e w9 ⟨b9, r9, rfl, i9, o9, bb9⟩; obtain rfl := isCode_one i9 C8.out.1; obtain ⟨A9, c9, rfl, _, rd9⟩ := Reads.of_own o9; have p0 := (bb9.cell (p := ⟨bx, 0, none⟩) (Nat.lt_of_lt_of_le hbxw C8.out.2.2.size)).trans n0; have p1 := (bb9.cell (p := ⟨bx, 1, none⟩) (Nat.lt_of_lt_of_le hbxw C8.out.2.2.size)).trans n1; have C9 := Lib.hid (⟨rd9, C8.out.2.1.below bb9, C8.out.2.2.trans (bb9.mono C8.out.2.2.size), KLN.out b9 i9⟩ : Reads w9 A9 b9.length (bts b9) ∧ Reads w9 A8 b9.length (bts b9) ∧ Below w7.drew.heap.size w7.drew w9 ∧ b9.length ≤ 140737488355328); clear i9 o9 bb9 rd9)
              | (go_at_call 17; refine (same_true w9 A8 A9 b9.length c8 c9 b9 C9.out.2.1 C9.out.1 C9.out.2.2.2).mono ?_; rintro e w10 ⟨rfl, bb10⟩; have q0 : w10.cell? ⟨bx, 0, none⟩ = some (.slice (some ad6) (4 + y.k) c6) := (bb10.below (B := w9.heap.size)).cell (World.block_lt_of_cell? w9 _ p0) |>.trans p0; have q1 : w10.cell? ⟨bx, 1, none⟩ = some (.int .i64 (y.R : Int)) := (bb10.below (B := w9.heap.size)).cell (World.block_lt_of_cell? w9 _ p1) |>.trans p1; have C10 := Lib.hid (C9.out.2.2.1.trans bb10.below); clear bb10))
          go_wp2_with fail
          have bd : Below w7.drew.heap.size w7.drew w10 := C10.out
          refine ⟨⟨k + 1, v5, ad6, c6, by omega, by go_num, ⟨?_, ?_, (B6.out.trans (Reading.below ⟨1, rfl⟩)).trans (bd.mono B6.out.size)⟩⟩, by simp [intOf]; omega⟩
          · rw [RY.out.2.2]; exact (E6.out.read ⟨1, rfl⟩).below bd
          · rw [RY.out.2.2]; exact X7d.out.below bd
        · have t8 : ((k : Int) % 8 == 0) = false := by simp [h8]
          have H8 := Lib.hid h8
          clear h8
          go_wp2_with fail
          go_quiet (fail)
          go_wp2_with fail
          refine ⟨⟨k + 1, v5, ad6, c6, by omega, by go_num, ⟨?_, ?_, B6.out.trans (Reading.below ⟨_, rfl⟩)⟩⟩, by simp [intOf]; omega⟩
          · rw [RY.out.2.2]; exact E6.out.read ⟨_, rfl⟩
          · rw [RY.out.2.2]; exact X6.out.1.below (Reading.below ⟨_, rfl⟩)
      · obtain rfl : k = n := by omega
        have b1 : ¬ (k : Int) < k := by omega
        have hx := xk_good HA.out k
        have hkx := xk_k l k k HS.out.1 hn
        have he := hg.enc
        have hbo := hg.box
        generalize xk l k = x at *
        have HE := Lib.hid he
        have RX := Lib.hid (⟨hx, hkx⟩ : x.Good ∧ x.k ≤ 180)
        have XRd := Lib.hid (hbo.below (Reading.below (⟨1, rfl⟩ : Reading wr wr.drew)))
        have BR := Lib.hid hg.bel
        clear hg he hbo hx hkx
        have KF := Lib.hid (finish_any wr.drew w.heap.size g v x (HE.out.read ⟨1, rfl⟩) RX.out.1 (by have := RX.out.2; omega))
        have m0 : wr.drew.cell? ⟨bx, 0, none⟩ = some (.slice (some ax) (4 + x.k) cx) := XRd.out.c0
        have m1 : wr.drew.cell? ⟨bx, 1, none⟩ = some (.int .i64 (x.R : Int)) := XRd.out.c1
        have hbxw : bx < wr.drew.heap.size := XRd.out.lt
        have KB := Lib.hid (fun W' (hW : Below wr.drew.heap.size wr.drew W') => rbytes_any W' ax cx x (own_reads (XRd.out.below hW).row) RX.out.1 (by have := RX.out.2; omega))
        have KLN := Lib.hid (fun b' (hb' : IsCode x b') => show b'.length ≤ 140737488355328 by have h1 := isCode_len RX.out.1 hb'; have h2 := RX.out.2; omega)
        go_wp2_with fail
        go_region_held3 (fun w' => w'.cell? ⟨bx, 0, none⟩ = some (.slice (some ax) (4 + x.k) cx) ∧ w'.cell? ⟨bx, 1, none⟩ = some (.int .i64 (x.R : Int)))
          (first | exact ⟨q0, q1⟩ | exact ⟨p0, p1⟩ | exact ⟨n0, n1⟩ | exact ⟨m0, m1⟩)
          (first
            | (go_at_call 18; refine KF.out.mono ?_; rintro e w8 ⟨b8, r8, rfl, i8, o8, bb8⟩; obtain ⟨A8, c8, rfl, _, rd8⟩ := Reads.of_own o8; have n0 := (bb8.cell (p := ⟨bx, 0, none⟩) hbxw).trans m0; have n1 := (bb8.cell (p := ⟨bx, 1, none⟩) hbxw).trans m1; have C8 := Lib.hid (⟨i8, rd8, bb8⟩ : IsCode x b8 ∧ Reads w8 A8 b8.length (bts b8) ∧ Below wr.drew.heap.size wr.drew w8); clear i8 o8 bb8 rd8)
            | (go_at_call 19; refine (KB.out w8 C8.out.2.2).mono ?_; rintro e w9 ⟨b9, r9, rfl, i9, o9, bb9⟩; obtain rfl := isCode_one i9 C8.out.1; obtain ⟨A9, c9, rfl, _, rd9⟩ := Reads.of_own o9; have p0 := (bb9.cell (p := ⟨bx, 0, none⟩) (Nat.lt_of_lt_of_le hbxw C8.out.2.2.size)).trans n0; have p1 := (bb9.cell (p := ⟨bx, 1, none⟩) (Nat.lt_of_lt_of_le hbxw C8.out.2.2.size)).trans n1; have C9 := Lib.hid (⟨rd9, C8.out.2.1.below bb9, C8.out.2.2.trans (bb9.mono C8.out.2.2.size), KLN.out b9 i9⟩ : Reads w9 A9 b9.length (bts b9) ∧ Reads w9 A8 b9.length (bts b9) ∧ Below wr.drew.heap.size wr.drew w9 ∧ b9.length ≤ 140737488355328); clear i9 o9 bb9 rd9)
            | (go_at_call 17; refine (same_true w9 A8 A9 b9.length c8 c9 b9 C9.out.2.1 C9.out.1 C9.out.2.2.2).mono ?_; rintro e w10 ⟨rfl, bb10⟩; have q0 : w10.cell? ⟨bx, 0, none⟩ = some (.slice (some ax) (4 + x.k) cx) := (bb10.below (B := w9.heap.size)).cell (World.block_lt_of_cell? w9 _ p0) |>.trans p0; have q1 : w10.cell? ⟨bx, 1, none⟩ = some (.int .i64 (x.R : Int)) := (bb10.below (B := w9.heap.size)).cell (World.block_lt_of_cell? w9 _ p1) |>.trans p1; have C10 := Lib.hid (C9.out.2.2.1.trans bb10.below); clear bb10))
        go_wp2
        go_ret
        exact ⟨rfl, (BR.out.trans (Reading.below ⟨1, rfl⟩)).trans (C10.out.mono BR.out.size)⟩

set_option maxRecDepth 100000 in
theorem lifted (os : Os) (started : os.Started) (H : Type) (enc : TypeId × Value → H) :
    ReturnsInHanded {} Tryd.checked os 3 .any (fun w args => (Rows.coderBytesSpec.pre enc Tryd.prog Tryd.f3 Rows.coderBytesRow.domain false w args ∧ laidMetH Tryd.prog Rows.coderBytesRow.laid w) ∧ sizedMet enc Tryd.prog Tryd.f3 (OpenSpec.ofChange Rows.coderBytesSpec) false w args)
      (Rows.coderBytesSpec.post enc Tryd.prog Tryd.f3 false true false false) := by
  refine returnsInHanded_of_change_and (C := Tryd.checked) (X := fun w _ => laidMetH Tryd.prog Rows.coderBytesRow.laid w) (fun _ _ _ hh h => h.of_heap hh) own_knob started (by kernel_rfl) Tryd.func3
    (ChangeSpec.witness_shaped (enc := enc) (C := Tryd.checked) (os := os) (X := fun w _ => laidMetH Tryd.prog Rows.coderBytesRow.laid w) false (World.laidAll Tryd.prog os Rows.coderBytesRow.laid) #[.slice none 0 0] 8 (World.laidAll_os _ _ _)
      (World.shaped_of_ZipB (by kernel_rfl) (by kernel_rfl)) (by kernel_rfl) (by kernel_rfl) (by kernel_rfl)
      (by rw [MakeChecks.laidMetH_plain _ _ _ (by kernel_rfl)]; exact laidMet_laidAll _ (by kernel_rfl) (by kernel_rfl))) ?_
  intro W base args ds gs before hval0 hW hc _ _ _
  have hval : ∀ (j : Nat) t v, Tryd.f3.params[j]? = some t → args[j]? = some v → Value.okWide Tryd.prog W .any base t v := hval0
  have hW' := hW
  obtain ⟨p, q, hA0, hV, rfl, _, _⟩ := hW
  have hA : DataW.TrodAll enc Tryd.prog W 0 (fun _ => true) true Tryd.f3.params.toList args.toList ds p := hA0
  rw [Tryd.params3] at hA hval
  obtain ⟨v0, vs0, d0, ds0, p0, q0, hargs, rfl, rfl, h0, r0⟩ := trodAll_cons hA
  obtain ⟨rfl, rfl, rfl⟩ := trodAll_nil r0
  obtain rfl : args = #[v0] := by cases args; simp_all
  obtain ⟨rfl, rfl⟩ := trodVars_none hV
  have lt0 : ∀ x ∈ p0, x.block < W.heap.size := by obtain ⟨m, hm⟩ := h0; exact DataW.trod_lt m _ _ _ hm
  obtain ⟨a0, len0, cap0, rfl⟩ := okWide_slice Tryd.underlying22 (hval 0 22 v0 rfl rfl)
  obtain ⟨xs0, hr0⟩ := arg_steps h0
  clear hA0 hval0
  refine (walk a0 len0 cap0 xs0 W hr0).mono fun e W' ⟨he, bel⟩ => ?_
  subst he
  exact ⟨_, rfl, _, _, _, [], _, [], hW', trodAll_mk1 (shut_bool Tryd.underlying4 _), (trodAll_cons_mk (Below.trod laid_out (by kernel_rfl) (of_decide_eq_true (by kernel_rfl)) h0 bel lt0) trodAll_mk0), rfl, bel.frame _, fun h => by cases h⟩

theorem over : Rows.CoderBytesSaid :=
  OpenClaim.holds_of_wide 3 Tryd.f3 rfl rfl rfl rfl rfl rfl rfl ⟨rfl, rfl, rfl, rfl, rfl⟩ rfl rfl rfl rfl rfl (by kernel_rfl) Tryd.func3 (by kernel_rfl)
    (of_decide_eq_true (by kernel_rfl)) (by unfold Func.isWrapper; first | (rw [if_pos (by decide +kernel)]; kernel_rfl) | (rw [if_neg (by decide +kernel)]; exact ⟨rfl, rfl⟩))
    (fun os started H enc _ => lifted os started H enc)

theorem plain (f : FuncId) (fn : Func) (hf : Tryd.pinned.checked.prog.funcNamed "gypsum/gypsumlaw04.CoderBytes" = some f) (hfn : Tryd.pinned.checked.prog.funcs[f]? = some fn) :
    false = Tryd.pinned.checked.prog.looks [] ∧ ∀ (j : Nat) t, fn.params[j]? = some t → Tryd.pinned.checked.prog.wantsStandIn t = false := by
  obtain rfl : f = 3 := Option.some.inj ((show Tryd.prog.funcNamed "gypsum/gypsumlaw04.CoderBytes" = some 3 by kernel_rfl).symm.trans hf) |>.symm
  obtain rfl : fn = Tryd.f3 := (Option.some.inj (Tryd.func3.symm.trans hfn)).symm
  refine ⟨by kernel_rfl, fun j t ht => ?_⟩
  rw [Tryd.params3] at ht
  have hm : t ∈ [22] := by simpa using Array.mem_of_getElem? ht
  have hall : ([22].all fun u => !Tryd.prog.wantsStandIn u) = true := by kernel_rfl
  exact (show Tryd.prog.wantsStandIn t = false by simpa using List.all_eq_true.1 hall t hm)

theorem proved : Rows.CoderBytesCardSaid :=
  Claim7.holds_tied_plain_at .later [] _ _ _ _ over (fun _ h => by cases h) (by kernel_rfl) (fun _ h => by cases h) coderBytes_row_tie rfl ⟨rfl, rfl⟩ (by kernel_rfl) rfl plain (by kernel_rfl)
end Go.Proofs.YtbkjfblmdilchaaDoor.coderBytes
