/- A header, read from either end (layer 7): readHeader. -/
import Derived.Test.YtngambkbpdjddaaBoxRow
namespace Go.Proofs.Ytngambkbpdjddaa
open Go.RowKit

/-- Where z bytes lie that are taken behind s bytes: from the start, from the end of n bytes. -/
def psS (s _ : Nat) : Nat := s
def psE (n s z : Nat) : Nat := n - s - z
/-- A header of k rows, at one end. -/
def HeadAt (ps : Nat → Nat → Nat) (l : List Nat) (k : Nat) : Prop := 14 + 9 * k ≤ l.length ∧ k < 65536 ∧ seg l (ps 0 10) 10 = fixedPart k ∧ Guarded (seg l (ps 10 (9 * k + 4)) (9 * k + 4))
theorem headS_iff (l : List Nat) (k : Nat) : HeadAt psS l k ↔ First l k := by
  unfold HeadAt First psS
  rw [Nat.add_comm (9 * k) 4]
theorem headE_iff (l : List Nat) (k : Nat) : HeadAt (psE l.length) l k ↔ Second l k := by
  unfold HeadAt Second psE
  rw [Nat.add_comm (9 * k) 4, show l.length - 10 - (4 + 9 * k) = l.length - 14 - 9 * k by omega]
  exact Iff.rfl
theorem fixed_head (k : Nat) : seg (fixedPart k) 0 4 = magic := rfl
/-- Rows that have been read, j of k, lie in block q. -/
def RowsIs (w : World) (q k j : Nat) (t : List Nat) : Prop :=
  ∃ C : Array Value, w.heap[q]? = some (.cells C 82 (0, 0)) ∧ C.size = k * 3 ∧ ∀ i, i < j → C[i * 3]? = some (.int .u8 ((t.getD (9 * i) 0 : Nat) : Int)) ∧ C[i * 3 + 1]? = some (.int .i64 ((val (seg t (9 * i + 1) 4) : Nat) : Int)) ∧ C[i * 3 + 2]? = some (.int .u32 ((leNum (seg t (9 * i + 5) 4) : Nat) : Int))
theorem RowsIs.below {w w' : World} {q k j : Nat} {t : List Nat} (h : RowsIs w q k j t) (hb : Below w.heap.size w w') : RowsIs w' q k j t := by
  obtain ⟨C, h1, h2⟩ := h
  exact ⟨C, (hb.block q (heap_lt h1)).trans h1, h2⟩
theorem RowsIs.cells {w : World} {q k j : Nat} {t : List Nat} (h : RowsIs w q k j t) (i : Nat) (hi : i < j) : w.cell? ⟨q, i * 3, none⟩ = some (.int .u8 ((t.getD (9 * i) 0 : Nat) : Int)) ∧ w.cell? ⟨q, i * 3 + 1, none⟩ = some (.int .i64 ((val (seg t (9 * i + 1) 4) : Nat) : Int)) ∧ w.cell? ⟨q, i * 3 + 2, none⟩ = some (.int .u32 ((leNum (seg t (9 * i + 5) 4) : Nat) : Int)) := by
  obtain ⟨C, h1, h2, h3⟩ := h
  rw [cell_in h1, cell_in h1, cell_in h1]
  exact h3 i hi
theorem RowsIs.room {w : World} {q k j : Nat} {t : List Nat} (h : RowsIs w q k j t) (i : Nat) (hi : i < k) : ∃ u0 u1 u2, w.cell? ⟨q, i * 3, none⟩ = some u0 ∧ w.cell? ⟨q, i * 3 + 1, none⟩ = some u1 ∧ w.cell? ⟨q, i * 3 + 2, none⟩ = some u2 ∧ w.frozen? ⟨q, i * 3, none⟩ = false ∧ w.frozen? ⟨q, i * 3 + 1, none⟩ = false ∧ w.frozen? ⟨q, i * 3 + 2, none⟩ = false := by
  obtain ⟨C, h1, h2, h3⟩ := h
  rw [cell_in h1, cell_in h1, cell_in h1]
  have e0 : i * 3 < C.size := by omega
  have e1 : i * 3 + 1 < C.size := by omega
  have e2 : i * 3 + 2 < C.size := by omega
  exact ⟨_, _, _, Array.getElem?_eq_getElem e0, Array.getElem?_eq_getElem e1, Array.getElem?_eq_getElem e2, frozen_in h1 _, frozen_in h1 _, frozen_in h1 _⟩
theorem RowsIs.set {w : World} {q k j : Nat} {t : List Nat} (h : RowsIs w q k j t) (hj : j < k) {u0 u1 u2 : Value} (e0 : u0 = .int .u8 ((t.getD (9 * j) 0 : Nat) : Int)) (e1 : u1 = .int .i64 ((val (seg t (9 * j + 1) 4) : Nat) : Int)) (e2 : u2 = .int .u32 ((leNum (seg t (9 * j + 5) 4) : Nat) : Int)) :
    RowsIs (((w.setCell ⟨q, j * 3, none⟩ u0).setCell ⟨q, j * 3 + 1, none⟩ u1).setCell ⟨q, j * 3 + 2, none⟩ u2) q k (j + 1) t := by
  obtain ⟨C, h1, h2, h3⟩ := h
  refine ⟨_, heap_set (heap_set (heap_set h1 _ u0) _ u1) _ u2, by simpa using h2, fun i hi => ?_⟩
  subst e0 e1 e2
  rcases Nat.lt_or_ge i j with hlt | hge
  · obtain ⟨k0, k1, k2⟩ := h3 i hlt
    refine ⟨?_, ?_, ?_⟩
    · rw [Array.getElem?_setIfInBounds_ne (by omega), Array.getElem?_setIfInBounds_ne (by omega), Array.getElem?_setIfInBounds_ne (by omega)]; exact k0
    · rw [Array.getElem?_setIfInBounds_ne (by omega), Array.getElem?_setIfInBounds_ne (by omega), Array.getElem?_setIfInBounds_ne (by omega)]; exact k1
    · rw [Array.getElem?_setIfInBounds_ne (by omega), Array.getElem?_setIfInBounds_ne (by omega), Array.getElem?_setIfInBounds_ne (by omega)]; exact k2
  · obtain rfl : i = j := by omega
    refine ⟨?_, ?_, ?_⟩
    · rw [Array.getElem?_setIfInBounds_ne (by omega), Array.getElem?_setIfInBounds_ne (by omega), Array.getElem?_setIfInBounds_self_of_lt (by omega)]
    · rw [Array.getElem?_setIfInBounds_ne (by omega), Array.getElem?_setIfInBounds_self_of_lt (by simp; omega)]
    · rw [Array.getElem?_setIfInBounds_self_of_lt (by simp; omega)]

def HdrAt (w : World) (q k : Nat) (t : List Nat) (i : Value) (wr : World) : Prop := ∃ j : Nat, j ≤ k ∧ i = .int .i64 (j : Int) ∧ RowsIs wr q k j t ∧ Below w.heap.size w wr
def HeadTold (w : World) (ps : Nat → Nat → Nat) (l : List Nat) (e : Ending) (w' : World) : Prop :=
  (∃ k q, HeadAt ps l k ∧ e = .returned (.tuple #[.slice (some ⟨q, 0, none⟩) k k, .bool true]) ∧ RowsIs w' q k k (seg l (ps 10 (9 * k + 4)) (9 * k + 4)) ∧ w.heap.size ≤ q ∧ Below w.heap.size w w')
  ∨ ((∀ k, ¬ HeadAt ps l k) ∧ e = .returned (.tuple #[.slice none 0 0, .bool false]) ∧ Below w.heap.size w w')

set_option maxHeartbeats 3200000 in
set_option maxRecDepth 100000 in
theorem readHeadS (w : World) (bx : Nat) (A : Option Addr) (n c : Nat) (l : List Nat) (h : Reads w A n (bts l)) (hd : Dig l) (hc : n ≤ c) (hn : n ≤ 1000000) (hx : w.cell? ⟨bx, 0, none⟩ = some (.slice A n c)) :
    Calls Try.prog 27 #[.func (.func 48) #[] #[.pointer (some ⟨bx, 0, none⟩)]] w (HeadTold w psS l) := by
  have hl := h.lenB
  have hps : ∀ s z, s + z ≤ n → psS s z + z ≤ n := fun s z h => h
  have HPS := Lib.hid hps
  have HL := Lib.hid hl
  have HD := Lib.hid hd
  have HR := Lib.hid h
  have KT := Lib.hid (fun w' (b : Below w.heap.size w w') (S Z : Int) (s z : Nat) (hS : S = s) (hZ : Z = z) (hs : s ≤ 10000000) (hz : z ≤ 10000000) => show Calls Try.prog 48 #[.int .i64 S, .int .i64 Z, .pointer (some ⟨bx, 0, none⟩)] w' (Took w' A n c s z (psS s z)) from takeS_any w' bx A n c s z S Z hS hZ hs hz hc ((b.cell (World.block_lt_of_cell? _ _ hx)).trans hx))
  have KP := Lib.hid (fun w' A' c' (hm : Reads w' A' 4 (bts magic)) (b : Below w.heap.size w w') (h10 : 10 ≤ n) => hasPre_any w' (cutA A c (psS 0 10)) A' 10 (c - psS 0 10) c' (seg l (psS 0 10) 10) magic ((h.cut hc _ 10 (hps 0 10 (by omega))).below b) hm (dig_seg hd _ _) dig_magic (by omega) (by have := hps 0 10 (by omega); omega))
  have KS := Lib.hid (fun w' (b : Below w.heap.size w w') s z (hz4 : 4 ≤ z) (hz : s + z ≤ n) => isSealed_any w' (cutA A c (psS s z)) z (c - psS s z) (seg l (psS s z) z) ((h.cut hc _ z (hps s z hz)).below b) (dig_seg hd _ _) hz4 (by have := hps s z hz; omega) (by omega))
  have kc := fun (w : World) (C : Array Value) (n c : Nat) => Lib.run_convert_bytes_const (P := Try.prog) w 25 5 C n c Try.underlying25 Try.underlying5
  clear h hd hps hl
  by_cases h10 : 10 ≤ n
  · have hp10 := HPS.out 0 10 (by omega)
    have c10 : 10 ≤ c - psS 0 10 := by omega
    have HF := Lib.hid (HR.out.cut hc (psS 0 10) 10 hp10)
    generalize hfu : seg l (psS 0 10) 10 = u at *
    generalize hAf : cutA A c (psS 0 10) = Af at *
    generalize hcf : c - psS 0 10 = cf at *
    have HU := Lib.hid (And.intro hfu (And.intro hAf hcf))
    have DU : Dig u := hfu ▸ dig_seg HD.out _ _
    have LU : u.length = 10 := by rw [← hfu]; exact length_seg _ _ _ (by rw [HL.out]; omega)
    have HDU := Lib.hid (And.intro DU LU)
    have HX := Lib.hid hx
    clear hfu hAf hcf hp10 DU LU
    go_enter Try.func27, Try.ntmps27
    go_wp2_with fail
    refine (KT.out w (Below.refl _ _) 0 10 0 10 rfl rfl (by omega) (by omega)).mono ?_
    rintro e w1 ⟨rfl, hyes, -⟩
    obtain rfl := hyes (by omega)
    rw [HU.out.2.1, HU.out.2.2]
    clear hyes
    have B1 := mk_below w (.cells #[.int .u8 71, .int .u8 89, .int .u8 80, .int .u8 83] 5 (4, 5))
    have M1 := Lib.hid (show Reads (w.alloc (.cells #[.int .u8 71, .int .u8 89, .int .u8 80, .int .u8 83] 5 (4, 5))) (some ⟨w.heap.size, 0, none⟩) 4 (bts magic) from Reads.of_marked (xs := bts magic) (heap_alloc_last _ _))
    have HB1 := Lib.hid B1
    clear B1
    go_wp2_with fail
    refine (KP.out _ _ 4 M1.out HB1.out h10).mono ?_
    rintro e w2 ⟨rfl, rfl⟩
    have K9 := KS.out _ HB1.out 0 10 (by omega) (by omega)
    rw [HU.out.2.1, HU.out.2.2, HU.out.1] at K9
    have KS9 := Lib.hid K9
    clear K9
    generalize w.alloc (.cells #[.int .u8 71, .int .u8 89, .int .u8 80, .int .u8 83] 5 (4, 5)) = w2 at *
    by_cases hm : seg u 0 4 = magic
    · rw [show decide (seg u 0 4 = magic) = true from decide_eq_true hm]
      have HM := Lib.hid hm
      clear hm
      go_wp2_with fail
      refine KS9.out.mono ?_
      rintro e w3 ⟨r, hr, rfl, b3⟩
      have B3 := Lib.hid (up2 HB1.out b3)
      cases r with
      | false =>
        have HNG := Lib.hid (show ¬ Guarded u from fun h => by have := hr.2 h; cases this)
        clear hr b3
        go_wp2
        go_ret2
        exact .inr ⟨fun k hk => HNG.out (by have := hk.2.2.1; rw [HU.out.1] at this; rw [this]; exact fixed_guarded k), rfl, B3.out⟩
      | true =>
        obtain ⟨hfx, hk6⟩ := fixed_of HDU.out.1 HDU.out.2 (by have := HM.out; simpa [seg] using this) (hr.1 rfl)
        obtain ⟨b, off, rfl, hcell⟩ := (HF.out.below B3.out).cellB (by omega)
        have k4 := hcell 4 (by omega)
        have k5 := hcell 5 (by omega)
        have d4 := dig_at HDU.out.1 4
        have d5 := dig_at HDU.out.1 5
        have hkv : val (seg u 4 2) = u.getD 4 0 * 256 + u.getD 5 0 := by
          have e : seg u 4 2 = [u.getD 4 0, u.getD 5 0] := by
            have := HDU.out.2
            match u, this with
            | [a0, a1, a2, a3, a4, a5, a6, a7, a8, a9], _ => rfl
          rw [e]; simp [val]
        generalize u.getD 4 0 = x4 at *
        generalize u.getD 5 0 = x5 at *
        have e9 : bits .or .i64 ((x4 : Int) * 256) (x5 : Int) = ((val (seg u 4 2) : Nat) : Int) := by
          rw [hkv, show (x4 : Int) * 256 = ((x4 * 256 : Nat) : Int) by omega, i64_or_nat _ _ (by omega) (by omega)]
          exact congrArg _ (add_or x4 x5 8 (by omega))
        generalize val (seg u 4 2) = k at *
        obtain ⟨X4, hX4⟩ : ∃ X4 : Int, X4 = x4 := ⟨_, rfl⟩
        obtain ⟨X5, hX5⟩ : ∃ X5 : Int, X5 = x5 := ⟨_, rfl⟩
        rw [← hX4] at e9 k4
        rw [← hX5] at e9 k5
        have bX4 : 0 ≤ X4 ∧ X4 < 256 := by omega
        have bX5 : 0 ≤ X5 ∧ X5 < 256 := by omega
        have HFX := Lib.hid hfx
        have KZ := Lib.hid (fun w' => tsize_any w' k (by omega))
        have hk6' := Lib.hid hk6
        have hkI : (0 : Int) ≤ (k : Int) ∧ (k : Int) < 65536 := by omega
        obtain ⟨N, hN⟩ : ∃ N, 9 * k + 4 = N := ⟨_, rfl⟩
        have HN := Lib.hid hN
        have hN9 : N ≤ 1000000 := by omega
        have ONE := Lib.hid (fun k' (h : HeadAt psS l k') => show k' = k from fixed_inj h.2.1 hk6 (by rw [← h.2.2.1, HU.out.1]; exact hfx))
        clear hcell hkv hX4 hX5 d4 d5 hfx hr b3 hk6
        rw [hN] at KZ
        clear hN
        go_wp2_with fail
        go_quiet (fail)
        go_wp2_with fail
        have B4 := B3.out.trans (Reading.below (B := w.heap.size) (w' := w3.drewN nq) ⟨nq, rfl⟩)
        generalize w3.drewN nq = w4 at *
        have HB4 := Lib.hid B4
        clear B4
        refine (KZ.out _).mono ?_
        rintro e w5 ⟨rfl, rfl⟩
        go_wp2_with fail
        refine (KT.out _ HB4.out 10 (N : Int) 10 N rfl rfl (by omega) (by omega)).mono ?_
        rintro e w5 ⟨rfl, hyes, hno⟩
        by_cases h14 : 10 + N ≤ n
        · obtain rfl := hyes h14
          clear hyes hno
          have hpN := HPS.out 10 N h14
          have KS2 := Lib.hid (KS.out _ HB4.out 10 N (by have := HN.out; omega) h14)
          have RT := Lib.hid (HR.out.cut hc (psS 10 N) N hpN)
          have hcN : N ≤ c - psS 10 N := by omega
          generalize htt : seg l (psS 10 N) N = t at *
          generalize cutA A c (psS 10 N) = At at *
          generalize c - psS 10 N = ct at *
          have DT := Lib.hid (show Dig t from htt ▸ dig_seg HD.out _ _)
          have LT := Lib.hid (show t.length = N by rw [← htt]; exact length_seg _ _ _ (by rw [HL.out]; omega))
          have HTT := Lib.hid htt
          clear htt hpN
          go_wp2_with fail
          refine KS2.out.mono ?_
          rintro e w6 ⟨r, hr, rfl, b6⟩
          have B6 := Lib.hid (up2 HB4.out b6)
          cases r with
          | false =>
            have HNG := Lib.hid (show ¬ Guarded t from fun h => by have := hr.2 h; cases this)
            clear hr b6
            go_wp2
            go_ret2
            refine .inr ⟨fun k' hk => HNG.out ?_, rfl, B6.out⟩
            have e := ONE.out k' hk
            subst e
            have := hk.2.2.2
            rwa [HN.out, HTT.out] at this
          | true =>
            have HG := Lib.hid (hr.1 rfl)
            clear hr b6
            obtain ⟨i0, hi, hz0, hz1, hz2⟩ := info_parts Try.infoRow
            have HI := Lib.hid (And.intro hi (And.intro hz0 (And.intro hz1 (show i0.bytes * k ≤ 281474976710656 by rw [hz2]; omega))))
            clear hi hz0 hz1 hz2
            go_wp2_with (refine wpList_make_full w6 rfl (.tmp 53) (.tmp 53) 59 rfl w6.heap.size 82 i0 (.agg #[.int .u8 0, .int .i64 0, .int .u32 0]) 3 Try.underlying59 HI.out.1 HI.out.2.1 HI.out.2.2.1 .i64 .i64 (k : Int) (k : Int) k rfl rfl rfl rfl HI.out.2.2.2 ?m1 ?m2 ?_)
            case m1 => unfold maxLen; omega
            case m2 => exact Nat.le_refl _
            intro w7 own7 gr7
            have B7 := Lib.hid (up2 B6.out (show Below w6.heap.size w6 w7 from ⟨gr7.os, gr7.tape, gr7.output, gr7.size, fun j hj => gr7.block j hj (fun e => (nomatch e))⟩))
            have R7 := Lib.hid (show RowsIs w7 w6.heap.size k 0 t by
              rcases own7.2 with ⟨h1, h2⟩ | ⟨q, cap, cur, h1, hq, hh, h3, hm, hs, ht⟩
              · cases h1
              · injection h1 with h1 _ h3
                injection h1 with h1
                injection h1 with h1
                subst h1 h3
                exact ⟨cur, hh, hs, fun i hi => absurd hi (by omega)⟩)
            have SQ := Lib.hid B6.out.size
            generalize w6.heap.size = q at *
            clear own7 gr7
            go_wp2_with fail
            go_loopw [57] (HdrAt w q k t) (fun i _ => k - (intOf i).toNat)
            case atStart => exact ⟨0, Nat.zero_le _, rfl, R7.out, B7.out⟩
            case round =>
              obtain ⟨i, hik, rfl, hro, hbw⟩ := hrel
              by_cases hlt : i < k
              · have hnn := HN.out
                have hs := fun W => run_tail At N ct (9 * i) (N - 9 * i) ((i : Int) * 9) (by omega) (by omega) W
                have K9 := readRow_any wr (cutA At ct (9 * i)) (N - 9 * i) (ct - 9 * i) (seg t (9 * i) (N - 9 * i)) (((RT.out.cut hcN (9 * i) (N - 9 * i) (by omega)).below hbw)) (dig_seg DT.out _ _) (by omega) (by omega)
                have lt := LT.out
                unfold rowV at K9
                rw [seg_sub _ _ _ _ _ (by omega), seg_sub _ _ _ _ _ (by omega), show (seg t (9 * i) (N - 9 * i)).getD 0 0 = t.getD (9 * i) 0 by rw [seg, getD_take, if_pos (by omega), getD_drop, Nat.add_zero]] at K9
                generalize cutA At ct (9 * i) = Ai at *
                generalize ct - 9 * i = ci at *
                generalize N - 9 * i = Ni at *
                obtain ⟨V0, hV0⟩ : ∃ V : Int, V = ((t.getD (9 * i) 0 : Nat) : Int) := ⟨_, rfl⟩
                obtain ⟨V1, hV1⟩ : ∃ V : Int, V = ((val (seg t (9 * i + 1) 4) : Nat) : Int) := ⟨_, rfl⟩
                obtain ⟨V2, hV2⟩ : ∃ V : Int, V = ((leNum (seg t (9 * i + 5) 4) : Nat) : Int) := ⟨_, rfl⟩
                rw [← hV0, ← hV1, ← hV2] at K9
                have KR := Lib.hid K9
                have HV := Lib.hid (And.intro hV0 (And.intro hV1 hV2))
                have HRO := Lib.hid (And.intro hro hbw)
                have b1 : (i : Int) < k := by omega
                clear K9 hV0 hV1 hV2 hro hbw lt hnn
                go_wp2_with fail
                refine KR.out.mono ?_
                rintro e w8 ⟨rfl, b8⟩
                have ro8 := HRO.out.1.below b8
                have B8 := Lib.hid (up2 HRO.out.2 b8)
                have R8 := Lib.hid ro8
                obtain ⟨u0, u1, u2, y0, y1, y2, z0, z1, z2⟩ := ro8.room i hlt
                clear b8 ro8
                go_wp2_with fail
                refine ⟨⟨i + 1, by omega, by go_num, R8.out.set hlt (by rw [HV.out.1]) (by rw [HV.out.2.1]) (by rw [HV.out.2.2]), ?_⟩, by simp [intOf]; omega⟩
                exact ((B8.out.setCell (p := ⟨q, i * 3, none⟩) SQ.out _).setCell (p := ⟨q, i * 3 + 1, none⟩) SQ.out _).setCell (p := ⟨q, i * 3 + 2, none⟩) SQ.out _
              · obtain rfl : i = k := by omega
                have b1 : ¬ (i : Int) < i := by omega
                have HRO := Lib.hid (And.intro hro hbw)
                clear hro hbw
                go_wp2
                go_ret2
                refine .inl ⟨i, q, ⟨by have := HN.out; rw [HL.out]; omega, hk6'.out, by rw [HU.out.1]; exact HFX.out, by rw [HN.out, HTT.out]; exact HG.out⟩, rfl, by rw [HN.out, HTT.out]; exact HRO.out.1, SQ.out, HRO.out.2⟩
        · obtain rfl := hno (by omega)
          clear hyes hno
          go_wp2
          go_ret2
          refine .inr ⟨fun k' hk => h14 ?_, rfl, HB4.out⟩
          have e := ONE.out k' hk
          subst e
          have := hk.1
          rw [HL.out] at this
          have := HN.out
          omega
    · rw [show decide (seg u 0 4 = magic) = false from decide_eq_false hm]
      have HM := Lib.hid hm
      clear hm
      go_wp2
      go_ret2
      exact .inr ⟨fun k hk => HM.out (by have := hk.2.2.1; rw [HU.out.1] at this; rw [this]; exact fixed_head k), rfl, HB1.out⟩
  · have HX := Lib.hid hx
    clear hx
    go_enter Try.func27, Try.ntmps27
    go_wp2_with fail
    refine (KT.out w (Below.refl _ _) 0 10 0 10 rfl rfl (by omega) (by omega)).mono ?_
    rintro e w1 ⟨rfl, -, hno⟩
    obtain rfl := hno (by omega)
    clear hno
    go_wp2
    go_ret2
    exact .inr ⟨fun k hk => by have := hk.1; rw [HL.out] at this; omega, rfl, Below.refl _ _⟩

set_option maxHeartbeats 3200000 in
set_option maxRecDepth 100000 in
theorem readHeadE (w : World) (bx : Nat) (A : Option Addr) (n c : Nat) (l : List Nat) (h : Reads w A n (bts l)) (hd : Dig l) (hc : n ≤ c) (hn : n ≤ 1000000) (hx : w.cell? ⟨bx, 0, none⟩ = some (.slice A n c)) :
    Calls Try.prog 27 #[.func (.func 50) #[] #[.pointer (some ⟨bx, 0, none⟩)]] w (HeadTold w (psE n) l) := by
  have hl := h.lenB
  have hps : ∀ s z, s + z ≤ n → (psE n) s z + z ≤ n := fun s z h => by unfold psE; omega
  have HPS := Lib.hid hps
  have HL := Lib.hid hl
  have HD := Lib.hid hd
  have HR := Lib.hid h
  have KT := Lib.hid (fun w' (b : Below w.heap.size w w') (S Z : Int) (s z : Nat) (hS : S = s) (hZ : Z = z) (hs : s ≤ 10000000) (hz : z ≤ 10000000) => show Calls Try.prog 50 #[.int .i64 S, .int .i64 Z, .pointer (some ⟨bx, 0, none⟩)] w' (Took w' A n c s z ((psE n) s z)) from takeE_any w' bx A n c s z S Z hS hZ hs hz (by omega) hc ((b.cell (World.block_lt_of_cell? _ _ hx)).trans hx))
  have KP := Lib.hid (fun w' A' c' (hm : Reads w' A' 4 (bts magic)) (b : Below w.heap.size w w') (h10 : 10 ≤ n) => hasPre_any w' (cutA A c ((psE n) 0 10)) A' 10 (c - (psE n) 0 10) c' (seg l ((psE n) 0 10) 10) magic ((h.cut hc _ 10 (hps 0 10 (by omega))).below b) hm (dig_seg hd _ _) dig_magic (by omega) (by have := hps 0 10 (by omega); omega))
  have KS := Lib.hid (fun w' (b : Below w.heap.size w w') s z (hz4 : 4 ≤ z) (hz : s + z ≤ n) => isSealed_any w' (cutA A c ((psE n) s z)) z (c - (psE n) s z) (seg l ((psE n) s z) z) ((h.cut hc _ z (hps s z hz)).below b) (dig_seg hd _ _) hz4 (by have := hps s z hz; omega) (by omega))
  have kc := fun (w : World) (C : Array Value) (n c : Nat) => Lib.run_convert_bytes_const (P := Try.prog) w 25 5 C n c Try.underlying25 Try.underlying5
  clear h hd hps hl
  by_cases h10 : 10 ≤ n
  · have hp10 := HPS.out 0 10 (by omega)
    have c10 : 10 ≤ c - (psE n) 0 10 := by omega
    have HF := Lib.hid (HR.out.cut hc ((psE n) 0 10) 10 hp10)
    generalize hfu : seg l ((psE n) 0 10) 10 = u at *
    generalize hAf : cutA A c ((psE n) 0 10) = Af at *
    generalize hcf : c - (psE n) 0 10 = cf at *
    have HU := Lib.hid (And.intro hfu (And.intro hAf hcf))
    have DU : Dig u := hfu ▸ dig_seg HD.out _ _
    have LU : u.length = 10 := by rw [← hfu]; exact length_seg _ _ _ (by rw [HL.out]; omega)
    have HDU := Lib.hid (And.intro DU LU)
    have HX := Lib.hid hx
    clear hfu hAf hcf hp10 DU LU
    go_enter Try.func27, Try.ntmps27
    go_wp2_with fail
    refine (KT.out w (Below.refl _ _) 0 10 0 10 rfl rfl (by omega) (by omega)).mono ?_
    rintro e w1 ⟨rfl, hyes, -⟩
    obtain rfl := hyes (by omega)
    rw [HU.out.2.1, HU.out.2.2]
    clear hyes
    have B1 := mk_below w (.cells #[.int .u8 71, .int .u8 89, .int .u8 80, .int .u8 83] 5 (4, 5))
    have M1 := Lib.hid (show Reads (w.alloc (.cells #[.int .u8 71, .int .u8 89, .int .u8 80, .int .u8 83] 5 (4, 5))) (some ⟨w.heap.size, 0, none⟩) 4 (bts magic) from Reads.of_marked (xs := bts magic) (heap_alloc_last _ _))
    have HB1 := Lib.hid B1
    clear B1
    go_wp2_with fail
    refine (KP.out _ _ 4 M1.out HB1.out h10).mono ?_
    rintro e w2 ⟨rfl, rfl⟩
    have K9 := KS.out _ HB1.out 0 10 (by omega) (by omega)
    rw [HU.out.2.1, HU.out.2.2, HU.out.1] at K9
    have KS9 := Lib.hid K9
    clear K9
    generalize w.alloc (.cells #[.int .u8 71, .int .u8 89, .int .u8 80, .int .u8 83] 5 (4, 5)) = w2 at *
    by_cases hm : seg u 0 4 = magic
    · rw [show decide (seg u 0 4 = magic) = true from decide_eq_true hm]
      have HM := Lib.hid hm
      clear hm
      go_wp2_with fail
      refine KS9.out.mono ?_
      rintro e w3 ⟨r, hr, rfl, b3⟩
      have B3 := Lib.hid (up2 HB1.out b3)
      cases r with
      | false =>
        have HNG := Lib.hid (show ¬ Guarded u from fun h => by have := hr.2 h; cases this)
        clear hr b3
        go_wp2
        go_ret2
        exact .inr ⟨fun k hk => HNG.out (by have := hk.2.2.1; rw [HU.out.1] at this; rw [this]; exact fixed_guarded k), rfl, B3.out⟩
      | true =>
        obtain ⟨hfx, hk6⟩ := fixed_of HDU.out.1 HDU.out.2 (by have := HM.out; simpa [seg] using this) (hr.1 rfl)
        obtain ⟨b, off, rfl, hcell⟩ := (HF.out.below B3.out).cellB (by omega)
        have k4 := hcell 4 (by omega)
        have k5 := hcell 5 (by omega)
        have d4 := dig_at HDU.out.1 4
        have d5 := dig_at HDU.out.1 5
        have hkv : val (seg u 4 2) = u.getD 4 0 * 256 + u.getD 5 0 := by
          have e : seg u 4 2 = [u.getD 4 0, u.getD 5 0] := by
            have := HDU.out.2
            match u, this with
            | [a0, a1, a2, a3, a4, a5, a6, a7, a8, a9], _ => rfl
          rw [e]; simp [val]
        generalize u.getD 4 0 = x4 at *
        generalize u.getD 5 0 = x5 at *
        have e9 : bits .or .i64 ((x4 : Int) * 256) (x5 : Int) = ((val (seg u 4 2) : Nat) : Int) := by
          rw [hkv, show (x4 : Int) * 256 = ((x4 * 256 : Nat) : Int) by omega, i64_or_nat _ _ (by omega) (by omega)]
          exact congrArg _ (add_or x4 x5 8 (by omega))
        generalize val (seg u 4 2) = k at *
        obtain ⟨X4, hX4⟩ : ∃ X4 : Int, X4 = x4 := ⟨_, rfl⟩
        obtain ⟨X5, hX5⟩ : ∃ X5 : Int, X5 = x5 := ⟨_, rfl⟩
        rw [← hX4] at e9 k4
        rw [← hX5] at e9 k5
        have bX4 : 0 ≤ X4 ∧ X4 < 256 := by omega
        have bX5 : 0 ≤ X5 ∧ X5 < 256 := by omega
        have HFX := Lib.hid hfx
        have KZ := Lib.hid (fun w' => tsize_any w' k (by omega))
        have hk6' := Lib.hid hk6
        have hkI : (0 : Int) ≤ (k : Int) ∧ (k : Int) < 65536 := by omega
        obtain ⟨N, hN⟩ : ∃ N, 9 * k + 4 = N := ⟨_, rfl⟩
        have HN := Lib.hid hN
        have hN9 : N ≤ 1000000 := by omega
        have ONE := Lib.hid (fun k' (h : HeadAt (psE n) l k') => show k' = k from fixed_inj h.2.1 hk6 (by rw [← h.2.2.1, HU.out.1]; exact hfx))
        clear hcell hkv hX4 hX5 d4 d5 hfx hr b3 hk6
        rw [hN] at KZ
        clear hN
        go_wp2_with fail
        go_quiet (fail)
        go_wp2_with fail
        have B4 := B3.out.trans (Reading.below (B := w.heap.size) (w' := w3.drewN nq) ⟨nq, rfl⟩)
        generalize w3.drewN nq = w4 at *
        have HB4 := Lib.hid B4
        clear B4
        refine (KZ.out _).mono ?_
        rintro e w5 ⟨rfl, rfl⟩
        go_wp2_with fail
        refine (KT.out _ HB4.out 10 (N : Int) 10 N rfl rfl (by omega) (by omega)).mono ?_
        rintro e w5 ⟨rfl, hyes, hno⟩
        by_cases h14 : 10 + N ≤ n
        · obtain rfl := hyes h14
          clear hyes hno
          have hpN := HPS.out 10 N h14
          have KS2 := Lib.hid (KS.out _ HB4.out 10 N (by have := HN.out; omega) h14)
          have RT := Lib.hid (HR.out.cut hc ((psE n) 10 N) N hpN)
          have hcN : N ≤ c - (psE n) 10 N := by omega
          generalize htt : seg l ((psE n) 10 N) N = t at *
          generalize cutA A c ((psE n) 10 N) = At at *
          generalize c - (psE n) 10 N = ct at *
          have DT := Lib.hid (show Dig t from htt ▸ dig_seg HD.out _ _)
          have LT := Lib.hid (show t.length = N by rw [← htt]; exact length_seg _ _ _ (by rw [HL.out]; omega))
          have HTT := Lib.hid htt
          clear htt hpN
          go_wp2_with fail
          refine KS2.out.mono ?_
          rintro e w6 ⟨r, hr, rfl, b6⟩
          have B6 := Lib.hid (up2 HB4.out b6)
          cases r with
          | false =>
            have HNG := Lib.hid (show ¬ Guarded t from fun h => by have := hr.2 h; cases this)
            clear hr b6
            go_wp2
            go_ret2
            refine .inr ⟨fun k' hk => HNG.out ?_, rfl, B6.out⟩
            have e := ONE.out k' hk
            subst e
            have := hk.2.2.2
            rwa [HN.out, HTT.out] at this
          | true =>
            have HG := Lib.hid (hr.1 rfl)
            clear hr b6
            obtain ⟨i0, hi, hz0, hz1, hz2⟩ := info_parts Try.infoRow
            have HI := Lib.hid (And.intro hi (And.intro hz0 (And.intro hz1 (show i0.bytes * k ≤ 281474976710656 by rw [hz2]; omega))))
            clear hi hz0 hz1 hz2
            go_wp2_with (refine wpList_make_full w6 rfl (.tmp 53) (.tmp 53) 59 rfl w6.heap.size 82 i0 (.agg #[.int .u8 0, .int .i64 0, .int .u32 0]) 3 Try.underlying59 HI.out.1 HI.out.2.1 HI.out.2.2.1 .i64 .i64 (k : Int) (k : Int) k rfl rfl rfl rfl HI.out.2.2.2 ?m1 ?m2 ?_)
            case m1 => unfold maxLen; omega
            case m2 => exact Nat.le_refl _
            intro w7 own7 gr7
            have B7 := Lib.hid (up2 B6.out (show Below w6.heap.size w6 w7 from ⟨gr7.os, gr7.tape, gr7.output, gr7.size, fun j hj => gr7.block j hj (fun e => (nomatch e))⟩))
            have R7 := Lib.hid (show RowsIs w7 w6.heap.size k 0 t by
              rcases own7.2 with ⟨h1, h2⟩ | ⟨q, cap, cur, h1, hq, hh, h3, hm, hs, ht⟩
              · cases h1
              · injection h1 with h1 _ h3
                injection h1 with h1
                injection h1 with h1
                subst h1 h3
                exact ⟨cur, hh, hs, fun i hi => absurd hi (by omega)⟩)
            have SQ := Lib.hid B6.out.size
            generalize w6.heap.size = q at *
            clear own7 gr7
            go_wp2_with fail
            go_loopw [57] (HdrAt w q k t) (fun i _ => k - (intOf i).toNat)
            case atStart => exact ⟨0, Nat.zero_le _, rfl, R7.out, B7.out⟩
            case round =>
              obtain ⟨i, hik, rfl, hro, hbw⟩ := hrel
              by_cases hlt : i < k
              · have hnn := HN.out
                have hs := fun W => run_tail At N ct (9 * i) (N - 9 * i) ((i : Int) * 9) (by omega) (by omega) W
                have K9 := readRow_any wr (cutA At ct (9 * i)) (N - 9 * i) (ct - 9 * i) (seg t (9 * i) (N - 9 * i)) (((RT.out.cut hcN (9 * i) (N - 9 * i) (by omega)).below hbw)) (dig_seg DT.out _ _) (by omega) (by omega)
                have lt := LT.out
                unfold rowV at K9
                rw [seg_sub _ _ _ _ _ (by omega), seg_sub _ _ _ _ _ (by omega), show (seg t (9 * i) (N - 9 * i)).getD 0 0 = t.getD (9 * i) 0 by rw [seg, getD_take, if_pos (by omega), getD_drop, Nat.add_zero]] at K9
                generalize cutA At ct (9 * i) = Ai at *
                generalize ct - 9 * i = ci at *
                generalize N - 9 * i = Ni at *
                obtain ⟨V0, hV0⟩ : ∃ V : Int, V = ((t.getD (9 * i) 0 : Nat) : Int) := ⟨_, rfl⟩
                obtain ⟨V1, hV1⟩ : ∃ V : Int, V = ((val (seg t (9 * i + 1) 4) : Nat) : Int) := ⟨_, rfl⟩
                obtain ⟨V2, hV2⟩ : ∃ V : Int, V = ((leNum (seg t (9 * i + 5) 4) : Nat) : Int) := ⟨_, rfl⟩
                rw [← hV0, ← hV1, ← hV2] at K9
                have KR := Lib.hid K9
                have HV := Lib.hid (And.intro hV0 (And.intro hV1 hV2))
                have HRO := Lib.hid (And.intro hro hbw)
                have b1 : (i : Int) < k := by omega
                clear K9 hV0 hV1 hV2 hro hbw lt hnn
                go_wp2_with fail
                refine KR.out.mono ?_
                rintro e w8 ⟨rfl, b8⟩
                have ro8 := HRO.out.1.below b8
                have B8 := Lib.hid (up2 HRO.out.2 b8)
                have R8 := Lib.hid ro8
                obtain ⟨u0, u1, u2, y0, y1, y2, z0, z1, z2⟩ := ro8.room i hlt
                clear b8 ro8
                go_wp2_with fail
                refine ⟨⟨i + 1, by omega, by go_num, R8.out.set hlt (by rw [HV.out.1]) (by rw [HV.out.2.1]) (by rw [HV.out.2.2]), ?_⟩, by simp [intOf]; omega⟩
                exact ((B8.out.setCell (p := ⟨q, i * 3, none⟩) SQ.out _).setCell (p := ⟨q, i * 3 + 1, none⟩) SQ.out _).setCell (p := ⟨q, i * 3 + 2, none⟩) SQ.out _
              · obtain rfl : i = k := by omega
                have b1 : ¬ (i : Int) < i := by omega
                have HRO := Lib.hid (And.intro hro hbw)
                clear hro hbw
                go_wp2
                go_ret2
                refine .inl ⟨i, q, ⟨by have := HN.out; rw [HL.out]; omega, hk6'.out, by rw [HU.out.1]; exact HFX.out, by rw [HN.out, HTT.out]; exact HG.out⟩, rfl, by rw [HN.out, HTT.out]; exact HRO.out.1, SQ.out, HRO.out.2⟩
        · obtain rfl := hno (by omega)
          clear hyes hno
          go_wp2
          go_ret2
          refine .inr ⟨fun k' hk => h14 ?_, rfl, HB4.out⟩
          have e := ONE.out k' hk
          subst e
          have := hk.1
          rw [HL.out] at this
          have := HN.out
          omega
    · rw [show decide (seg u 0 4 = magic) = false from decide_eq_false hm]
      have HM := Lib.hid hm
      clear hm
      go_wp2
      go_ret2
      exact .inr ⟨fun k hk => HM.out (by have := hk.2.2.1; rw [HU.out.1] at this; rw [this]; exact fixed_head k), rfl, HB1.out⟩
  · have HX := Lib.hid hx
    clear hx
    go_enter Try.func27, Try.ntmps27
    go_wp2_with fail
    refine (KT.out w (Below.refl _ _) 0 10 0 10 rfl rfl (by omega) (by omega)).mono ?_
    rintro e w1 ⟨rfl, -, hno⟩
    obtain rfl := hno (by omega)
    clear hno
    go_wp2
    go_ret2
    exact .inr ⟨fun k hk => by have := hk.1; rw [HL.out] at this; omega, rfl, Below.refl _ _⟩
end Go.Proofs.Ytngambkbpdjddaa
