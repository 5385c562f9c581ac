/- Right (layer 7). -/
import Derived.Test.YtngambkbpdjddaaBoxTell
namespace Go.Proofs.Ytngambkbpdjddaa
open Go.RowKit

/-- A part, read. -/
theorem PartsIs.cells {w : World} {B q k j : Nat} {P : Nat → PartV} (h : PartsIs w B q k j P) (i : Nat) (hi : i < j) : ∃ A c, w.cell? ⟨q, i * 4, none⟩ = some (.int .u8 (((P i).kind : Nat) : Int)) ∧ w.cell? ⟨q, i * 4 + 1, none⟩ = some (.slice A (P i).data.length c) ∧ w.cell? ⟨q, i * 4 + 2, none⟩ = some (.int .i64 (P i).at') ∧ w.cell? ⟨q, i * 4 + 3, none⟩ = some (.bool (P i).whole) ∧ (A = none → c = 0) ∧ Reads w A (P i).data.length (bts (P i).data) := by
  obtain ⟨C, h1, h2, h3⟩ := h
  obtain ⟨v, c0, c1, c2, c3, ho⟩ := h3 i hi
  obtain ⟨A, c, rfl, hA, hr⟩ := Reads.of_own ho
  rw [cell_in h1, cell_in h1, cell_in h1, cell_in h1]
  exact ⟨A, c, c0, c1, c2, c3, hA, hr⟩

/-- Chunks, j of k, are being laid into block q. -/
def Laid7 (wo wr : World) (q k j : Nat) (P : Nat → PartV) : Prop :=
  ∃ C : Array Value, wr.heap[q]? = some (.cells C 40 (0, 0)) ∧ C.size = k * 2 ∧ ∀ i, i < j → ∃ A c, C[i * 2]? = some (.int .u8 (((P i).kind : Nat) : Int)) ∧ C[i * 2 + 1]? = some (.slice A (P i).data.length c) ∧ (A = none → c = 0) ∧ Reads wo A (P i).data.length (bts (P i).data)
theorem Laid7.below {wo wr w' : World} {q k j : Nat} {P : Nat → PartV} (h : Laid7 wo wr q k j P) (hb : Below wr.heap.size wr w') : Laid7 wo w' q k j P := by
  obtain ⟨C, h1, h2⟩ := h
  exact ⟨C, (hb.block q (heap_lt h1)).trans h1, h2⟩
theorem Laid7.room {wo w : World} {q k j : Nat} {P : Nat → PartV} (h : Laid7 wo w q k j P) (i : Nat) (hi : i < k) : ∃ u0 u1, w.cell? ⟨q, i * 2, none⟩ = some u0 ∧ w.cell? ⟨q, i * 2 + 1, none⟩ = some u1 ∧ w.frozen? ⟨q, i * 2, none⟩ = false ∧ w.frozen? ⟨q, i * 2 + 1, none⟩ = false := by
  obtain ⟨C, h1, h2, h3⟩ := h
  rw [cell_in h1, cell_in h1]
  have e0 : i * 2 < C.size := by omega
  have e1 : i * 2 + 1 < C.size := by omega
  exact ⟨_, _, Array.getElem?_eq_getElem e0, Array.getElem?_eq_getElem e1, frozen_in h1 _, frozen_in h1 _⟩
theorem Laid7.set {wo w : World} {q k j : Nat} {P : Nat → PartV} (h : Laid7 wo w q k j P) (hj : j < k) {u0 u1 : Value} (A : Option Addr) (c : Nat) (e0 : u0 = .int .u8 (((P j).kind : Nat) : Int)) (e1 : u1 = .slice A (P j).data.length c) (hA : A = none → c = 0) (hr : Reads wo A (P j).data.length (bts (P j).data)) :
    Laid7 wo ((w.setCell ⟨q, j * 2, none⟩ u0).setCell ⟨q, j * 2 + 1, none⟩ u1) q k (j + 1) P := by
  obtain ⟨C, h1, h2, h3⟩ := h
  refine ⟨_, heap_set (heap_set h1 _ u0) _ u1, by simpa using h2, fun i hi => ?_⟩
  subst e0 e1
  rcases Nat.lt_or_ge i j with hlt | hge
  · obtain ⟨A', c', k0, k1, k2⟩ := h3 i hlt
    refine ⟨A', c', ?_, ?_, k2⟩
    · rw [Array.getElem?_setIfInBounds_ne (by omega), Array.getElem?_setIfInBounds_ne (by omega)]; exact k0
    · rw [Array.getElem?_setIfInBounds_ne (by omega), Array.getElem?_setIfInBounds_ne (by omega)]; exact k1
  · obtain rfl : i = j := by omega
    refine ⟨A, c, ?_, ?_, hA, hr⟩
    · rw [Array.getElem?_setIfInBounds_ne (by omega), Array.getElem?_setIfInBounds_self_of_lt (by omega)]
    · rw [Array.getElem?_setIfInBounds_self_of_lt (by simp; omega)]
theorem Laid7.chunks {wo w : World} {q k : Nat} {P : Nat → PartV} (h : Laid7 wo w q k k P) (hb : Below wo.heap.size wo w) (hs : ∀ i, i < k → (P i).data.length ≤ 140737488351232) : Chunks w (some ⟨q, 0, none⟩) k (csOf P k) := by
  obtain ⟨C, h1, h2, h3⟩ := h
  refine ⟨length_csOf _ _, fun _ => ⟨q, 0, rfl, fun i hi => ?_⟩⟩
  obtain ⟨A, c, c0, c1, hA, hr⟩ := h3 i hi
  rw [getD_csOf _ _ _ hi, Nat.zero_add, cell_in h1, cell_in h1]
  exact ⟨A, c, c0, c1, hA, hs i hi, hr.below hb⟩
theorem Try.infoChunk : (Try.prog.info? 40).map (fun i => (i.zero, i.size, i.bytes)) = some (some (.agg #[.int .u8 0, .slice none 0 0]), 2, 32) := by kernel_rfl

def RightTold (w : World) (l : List Nat) (e : Ending) (w' : World) : Prop := ∃ r : Bool, (r = true ↔ IsBox l) ∧ e = .returned (.bool r) ∧ Below w.heap.size w w'
def RightAt (wo : World) (q k : Nat) (P : Nat → PartV) (i : Value) (wr : World) : Prop :=
  ∃ j : Nat, j ≤ k ∧ i = .int .i64 (j : Int) ∧ Laid7 wo wr q k j P ∧ Below wo.heap.size wo wr

set_option maxHeartbeats 3200000 in
set_option maxRecDepth 100000 in
theorem bright_any (w : World) (A : Option Addr) (n c : Nat) (l : List Nat) (h : Reads w A n (bts l)) (hd : Dig l) (hc : n ≤ c) (hn : n ≤ 2000) :
    Calls Try.prog 15 #[.slice A n c] w (RightTold w l) := by
  obtain ⟨i0, hi, hz0, hz1, hz2⟩ := info_parts Try.infoChunk
  have HI := Lib.hid (And.intro hi (And.intro hz0 (And.intro hz1 hz2)))
  have hl := h.lenB
  have HL := Lib.hid hl
  have HD := Lib.hid hd
  have HR := Lib.hid h
  have K1 := Lib.hid (bopen_any w A n c l h hd hc (by omega))
  clear h hd hl hi hz0 hz1 hz2
  go_enter Try.func15, Try.ntmps15
  go_wp2_with fail
  refine K1.out.mono ?_
  rintro e w1 (⟨k, P, q, hO, rfl, hP, hq, b1⟩ | ⟨hno, rfl, b1⟩)
  · have hkl := hO.le
    rw [HL.out] at hkl
    have hk : k ≤ 220 := by omega
    have HO := Lib.hid hO
    have HP := Lib.hid hP
    have B1 := Lib.hid b1
    have HK := Lib.hid (show i0.bytes * k ≤ 281474976710656 by rw [HI.out.2.2.2]; omega)
    clear hO hP b1 hkl
    go_wp2_with (refine wpList_make_full w1 rfl (.tmp 17) (.tmp 17) 22 rfl w1.heap.size 40 i0 (.agg #[.int .u8 0, .slice none 0 0]) 2 Try.underlying22 HI.out.1 HI.out.2.1 HI.out.2.2.1 .i64 .i64 (k : Int) (k : Int) k rfl rfl rfl rfl HK.out ?m1 ?m2 ?_)
    case m1 => unfold maxLen; omega
    case m2 => exact Nat.le_refl _
    intro w7 own7 gr7
    have B7 := Lib.hid (show Below w1.heap.size w1 w7 from ⟨gr7.os, gr7.tape, gr7.output, gr7.size, fun j hj => gr7.block j hj (fun e => (nomatch e))⟩)
    have R7 := Lib.hid (show Laid7 w1 w7 w1.heap.size k 0 P by
      rcases own7.2 with ⟨h1, h2⟩ | ⟨q, cap, cur, h1, hq, hh, h3, hm, hs, ht⟩
      · cases h1
      · injection h1 with h1 _ h3
        injection h1 with h1
        injection h1 with h1
        subst h1 h3
        exact ⟨cur, hh, hs, fun i hi => absurd hi (by omega)⟩)
    obtain ⟨q2, hq2⟩ : ∃ q2, w1.heap.size = q2 := ⟨_, rfl⟩
    have HQ := Lib.hid hq2
    rw [hq2] at R7 ⊢
    clear own7 gr7 hq2
    go_wp2_with fail
    go_loopw [21] (RightAt w1 q2 k P) (fun i _ => k - (intOf i).toNat)
    case atStart => exact ⟨0, Nat.zero_le _, rfl, R7.out, B7.out⟩
    case round =>
      obtain ⟨j, hj, rfl, hp, hb⟩ := hrel
      by_cases hlt : j < k
      · obtain ⟨Ad, cd, c0, c1, c2, c3, hA, hr⟩ := HP.out.cells j hlt
        replace c0 := (hb.cell (World.block_lt_of_cell? _ _ c0)).trans c0
        replace c1 := (hb.cell (World.block_lt_of_cell? _ _ c1)).trans c1
        replace c2 := (hb.cell (World.block_lt_of_cell? _ _ c2)).trans c2
        replace c3 := (hb.cell (World.block_lt_of_cell? _ _ c3)).trans c3
        obtain ⟨V0, hV0⟩ : ∃ V : Int, (((P j).kind : Nat) : Int) = V := ⟨_, rfl⟩
        obtain ⟨m, hm⟩ : ∃ m, (P j).data.length = m := ⟨_, rfl⟩
        rw [hV0] at c0
        rw [hm] at c1
        generalize (P j).at' = F at *
        generalize (P j).whole = wh at *
        have P1 := hp.below (mk_below wr (.cells #[.int .u8 V0, .slice Ad m cd, .int .i64 F, .bool wh] 42))
        have B1' := up1 hb (.cells #[.int .u8 V0, .slice Ad m cd, .int .i64 F, .bool wh] 42)
        obtain ⟨u0, u1, r0, r1, f0, f1⟩ := P1.room j hlt
        have Z := Lib.hid (And.intro (P1.set hlt (u0 := .int .u8 V0) (u1 := .slice Ad m cd) Ad cd (by rw [hV0]) (by rw [hm]) hA hr) ((B1'.setCell (p := ⟨q2, j * 2, none⟩) (by rw [HQ.out]; exact Nat.le_refl _) (.int .u8 V0)).setCell (p := ⟨q2, j * 2 + 1, none⟩) (by rw [HQ.out]; exact Nat.le_refl _) (.slice Ad m cd)))
        have b1 : (j : Int) < k := by omega
        clear hV0 hm hp hb hA hr P1 B1'
        go_wp2_with fail
        exact ⟨⟨j + 1, by omega, by go_num, Z.out.1, Z.out.2⟩, by simp [intOf]; omega⟩
      · obtain rfl : j = k := by omega
        have b1 : ¬ (j : Int) < j := by omega
        have hdat := fun i => HO.out.data HD.out i
        have hll := HL.out
        have hch := hp.chunks hb (fun i hi => by have := (hdat i).2.2; omega)
        have hall : ∀ x ∈ csOf P j, x.1 < 256 ∧ Dig x.2 ∧ x.2.length ≤ 2000 := fun x hx => by
          obtain ⟨i, hi, rfl⟩ := getD_of_mem hx
          rw [length_csOf] at hi
          rw [getD_csOf _ _ _ hi]
          have := hdat i
          exact ⟨this.1, this.2.1, by have := this.2.2; show (P i).data.length ≤ 2000; omega⟩
        have hof := offs_bound (fun x hx => (hall x hx).2.2) j (by rw [length_csOf]; exact Nat.le_refl _)
        have K2 := Lib.hid (bpack_ok wr (some ⟨q2, 0, none⟩) j j (csOf P j) hch (fun x hx => ⟨(hall x hx).1, (hall x hx).2.1⟩) (by omega) (by omega) (fun x hx => by have := (hall x hx).2.2; omega))
        have DB := Lib.hid (dig_box (fun x hx => ⟨(hall x hx).1, (hall x hx).2.1⟩ : DigC (csOf P j)))
        have IFF := Lib.hid (isBox_iff HD.out (by rw [HL.out]; omega) HO.out)
        have BW := Lib.hid (up2 B1.out hb)
        clear hp hb hch hall hof hdat hll
        go_wp2_with fail
        refine K2.out.mono ?_
        rintro e w8 ⟨v8, rfl, o8, b8⟩
        have B8 := Lib.hid (up2 BW.out b8)
        obtain ⟨A8, c8, rfl, hA8, r8⟩ := Reads.of_own o8
        have K3 := Lib.hid (bequal_any w8 A8 A (boxB (csOf P j)).length n c8 c (boxB (csOf P j)) l r8 (HR.out.below B8.out) DB.out HD.out)
        generalize (boxB (csOf P j)).length = M at *
        have IFF2 := Lib.hid (show decide (boxB (csOf P j) = l) = true ↔ IsBox l by rw [decide_eq_true_iff]; exact IFF.out.symm)
        generalize decide (boxB (csOf P j) = l) = r at *
        clear o8 b8 r8
        go_wp2_with fail
        refine K3.out.mono ?_
        rintro e w9 ⟨rfl, rfl⟩
        go_wp2
        go_ret
        exact ⟨r, IFF2.out, rfl, B8.out⟩
  · have HN := Lib.hid (noHead_box (by rw [HL.out]; exact hn) hno)
    have B1 := Lib.hid b1
    clear hno b1
    go_wp2
    go_ret
    exact ⟨false, ⟨fun e => (nomatch e), fun e => absurd e HN.out⟩, rfl, B1.out⟩
end Go.Proofs.Ytngambkbpdjddaa
