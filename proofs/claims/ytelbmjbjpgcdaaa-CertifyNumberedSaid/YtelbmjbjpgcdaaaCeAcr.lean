/- Layer 9: which triangles stand on the other side of each edge. -/
import Derived.Test.YtelbmjbjpgcdaaaCePinP
import Derived.Test.YtelbmjbjpgcdaaaCeMirr
import Derived.Deep.DeepCutAuto
namespace Go.Proofs.Ytelbmjbjpgcdaaa
open Go.RowKit

def halfI (f : Nat → Int) (n k : Nat) : List Int := (List.range n).map fun i => if i < k then f i else 0
theorem halfI_zero (f : Nat → Int) (n : Nat) : halfI f n 0 = List.replicate n 0 := by
  unfold halfI
  apply List.ext_getElem? ; intro i; by_cases h : i < n <;> simp [h]
theorem halfI_len (f : Nat → Int) (n k : Nat) : (halfI f n k).length = n := by simp [halfI]
theorem halfI_set (f : Nat → Int) (n k : Nat) : (halfI f n k).set k (f k) = halfI f n (k + 1) := by
  unfold halfI
  apply List.ext_getElem?
  intro i
  by_cases h : i < n
  · by_cases e : k = i
    · subst e; simp [h]
    · have : (i < k + 1) ↔ i < k := by omega
      simp [e, h, this]
  · simp [h]
theorem halfI_at (f : Nat → Int) (n : Nat) {i : Nat} (hi : i < n) : (halfI f n n).getD i 0 = f i := by
  unfold halfI
  rw [List.getD_eq_getElem?_getD]
  simp [hi]
/-- Numbers in a block of triples. -/
def TripRow (w : World) (q : Nat) (l : List Int) : Prop := w.heap[q]? = some (.cells (ints l).toArray 40 (0, 0))
theorem TripRow.cell {w : World} {q : Nat} {l : List Int} (h : TripRow w q l) (k : Nat) (hk : k < l.length) : w.cell? ⟨q, k, none⟩ = some (.int .i64 (l.getD k 0)) := by
  rw [cell_in h, List.getElem?_toArray, ints_at, List.getD_eq_getElem?_getD, List.getElem?_eq_getElem hk]; rfl
theorem TripRow.set {w : World} {q : Nat} {l : List Int} (h : TripRow w q l) (k : Nat) (v : Int) : TripRow (w.setCell ⟨q, k, none⟩ (.int .i64 v)) q (l.set k v) := by
  unfold TripRow
  rw [heap_set h k _, ints_set]
  simp
theorem Try.infoArr : (Try.prog.info? 40).map (fun i => (i.zero, i.size, i.bytes)) = some (some (.agg #[.int .i64 0, .int .i64 0, .int .i64 0]), 3, 24) := by kernel_rfl
theorem makeR9 (n : Nat) (hn : n ≤ 1000000) (W : World) : (Instr.makeSlice 70 (.int .i64 (n : Int)) (.int .i64 (n : Int))).run Try.prog W = .ok (.slice (some ⟨W.heap.size, 0, none⟩) n n) (W.alloc (.cells (ints (List.replicate (3 * n) 0)).toArray 40)) := by
  obtain ⟨i0, hi, hz0, hz1, hz2⟩ := info_parts Try.infoArr
  have := run_make (P := Try.prog) W 70 40 i0 _ Try.underlying70 hi hz0 .i64 .i64 (n : Int) (n : Int) (by omega) (by omega) (by rw [hz2]; omega) (by omega)
  rw [this, hz1]
  have e : madeCells (Value.agg #[.int .i64 0, .int .i64 0, .int .i64 0]).cells ((n : Int).toNat * 3) = (ints (List.replicate (3 * n) 0)).toArray := by
    apply Array.toList_inj.1
    show (madeCells #[.int .i64 0, .int .i64 0, .int .i64 0] (n * 3)).toList = _
    rw [made_zero, Nat.mul_comm]; simp [ints]
  rw [e]
  rfl
def AcOut (w : World) (ab n : Nat) (tl : List Tr) (i : Value) (wr : World) : Prop := ∃ k : Nat, k ≤ n ∧ i = .int .i64 (k : Int) ∧ Below w.heap.size w wr ∧ TripRow wr ab (halfI (acr tl) (3 * n) (3 * k))
def AcIn (w : World) (ab n r : Nat) (tl : List Tr) (k : Nat) (x : Tr) (j : Value) (wr : World) : Prop := ∃ m : Nat, m ≤ 3 ∧ j = .int .i64 (m : Int) ∧ Below w.heap.size w wr ∧ TripRow wr ab (halfI (acr tl) (3 * n) (3 * k + m)) ∧ wr.heap[r]? = some (.cells #[.int .i64 x.1, .int .i64 x.2.1, .int .i64 x.2.2] 41 (0, 0)) ∧ ab < r
def AcTold (w : World) (n : Nat) (tl : List Tr) (e : Ending) (w' : World) : Prop := ∃ ab, e = .returned (.slice (some ⟨ab, 0, none⟩) n n) ∧ TripRow w' ab (halfI (acr tl) (3 * n) (3 * n)) ∧ Below w.heap.size w w' ∧ w.heap.size ≤ ab

set_option maxHeartbeats 8000000 in
set_option maxRecDepth 100000 in
theorem cacross_any (S : Nat → Prop) (w : World) (g b : Nat) (N : Int) (A : Option Addr) (n c : Nat) (tl : List Tr) (hs : Full S g N A n c b tl w) (hn : n ≤ 8192) (hN : N ≤ 4096) (hin : ∀ t ∈ tl, inN N t.1 ∧ inN N t.2.1 ∧ inN N t.2.2) : Calls Try.prog 45 #[.pointer (some ⟨g, 0, none⟩)] w (AcTold w n tl) := by
  have HL := Lib.hid hs.seen.t3.1
  have HS := Lib.hid hs
  have HIN := Lib.hid hin
  have c1 := hs.seen.c1
  have KE := Lib.hid (fun W (h : W.heap[g]? = some (.cells #[.int .i64 N, .slice A n c, .map (some b)] 56 (0, 0))) => cedges_set W g b N A n c h)
  have hmk := fun W => makeR9 n (by omega) W
  obtain ⟨ab, hab⟩ : ∃ ab, w.heap.size = ab := ⟨_, rfl⟩
  obtain ⟨w1, hw1⟩ : ∃ w1, w.alloc (.cells (ints (List.replicate (3 * n) 0)).toArray 40) = w1 := ⟨_, rfl⟩
  have b1 : Below w.heap.size w w1 := by rw [← hw1]; exact (Below.refl _ w).alloc (Nat.le_refl _) _
  have row1 : TripRow w1 ab (halfI (acr tl) (3 * n) (3 * 0)) := by rw [halfI_zero, ← hw1, ← hab]; exact heap_alloc_new w _
  have c2 := (hs.chg (.of_below b1)).seen.c1
  have ST := Lib.hid (And.intro b1 row1)
  have HAB := Lib.hid hab
  clear hs hin b1 row1
  go_enter Try.func45, Try.ntmps45
  go_wp2_with fail
  clear hw1 hab hmk c1 c2
  go_loopw [23] (AcOut w ab n tl) (fun i _ => n - (intOf i).toNat)
  case atStart => exact ⟨0, Nat.zero_le _, rfl, ST.out⟩
  case round =>
    obtain ⟨k, hk, rfl, hbw, hrow⟩ := hrel
    have HR := Lib.hid (And.intro hbw hrow)
    clear hbw hrow
    by_cases hlt : k < n
    case neg =>
      obtain rfl : k = n := by omega
      have b1 : ¬ (k : Int) < k := by omega
      go_wp2
      go_ret
      exact ⟨ab, rfl, HR.out.2, HR.out.1, by rw [HAB.out]; exact Nat.le_refl _⟩
    have b1 : (k : Int) < n := by omega
    have fr := HS.out.chg (.of_below HR.out.1)
    obtain ⟨bA, off, rfl, hat⟩ := fr.seen.t3.2 (by omega)
    obtain ⟨c0, c1, c2⟩ := hat k hlt
    clear hat
    obtain ⟨x, hx⟩ : ∃ x, tl.getD k z3 = x := ⟨_, rfl⟩
    rw [hx] at c0 c1 c2
    have hinx := HIN.out _ (show x ∈ tl by rw [← hx]; exact getD3_mem (by rw [HL.out]; exact hlt))
    have HX := Lib.hid (And.intro hx hinx)
    clear hx hinx fr
    obtain ⟨x0, x1, x2⟩ := x
    obtain ⟨w2, hw2⟩ : ∃ w2, wr.alloc (.cells #[.int .i64 x0, .int .i64 x1, .int .i64 x2] 41) = w2 := ⟨_, rfl⟩
    have b2 : Below wr.heap.size wr w2 := by rw [← hw2]; exact (Below.refl _ wr).alloc (Nat.le_refl _) _
    obtain ⟨r, hr⟩ : ∃ r, wr.heap.size = r := ⟨_, rfl⟩
    have r0 : w2.heap[r]? = some (.cells #[.int .i64 x0, .int .i64 x1, .int .i64 x2] 41 (0, 0)) := by rw [← hw2, ← hr]; exact heap_alloc_new wr _
    have hrab : ab < r := by rw [← hr]; exact heap_lt HR.out.2
    have T2 := Lib.hid (show Below w.heap.size w w2 ∧ TripRow w2 ab (halfI (acr tl) (3 * n) (3 * k)) ∧ w2.heap[r]? = some (.cells #[.int .i64 x0, .int .i64 x1, .int .i64 x2] 41 (0, 0)) ∧ ab < r from ⟨HR.out.1.trans (b2.mono HR.out.1.size), (b2.block ab (heap_lt HR.out.2)).trans HR.out.2, r0, hrab⟩)
    clear b2 r0 hrab
    go_wp2_with fail
    clear hw2 hr c0 c1 c2
    go_loopw [28] (AcIn w ab n r tl k (x0, x1, x2)) (fun j _ => 3 - (intOf j).toNat)
    case atStart => exact ⟨0, by omega, rfl, T2.out⟩
    case round =>
      obtain ⟨m, hm, rfl, hbw, hrow, r0, hrab⟩ := hrel
      by_cases hm3 : m < 3
      case neg =>
        obtain rfl : m = 3 := by omega
        have HM := Lib.hid (And.intro hbw hrow)
        clear hbw hrow r0 hrab
        go_wp2_with fail
        refine ⟨⟨k + 1, by omega, by go_num, HM.out.1, ?_⟩, by simp [intOf]; omega⟩
        rw [Nat.mul_add]
        exact HM.out.2
      have m1 : (m : Int) < 3 := by omega
      have q0 : wr.cell? ⟨r, 0, none⟩ = some (.int .i64 x0) := by rw [cell_in r0]; rfl
      have q1 : wr.cell? ⟨r, 1, none⟩ = some (.int .i64 x1) := by rw [cell_in r0]; rfl
      have q2 : wr.cell? ⟨r, 2, none⟩ = some (.int .i64 x2) := by rw [cell_in r0]; rfl
      have K2 := Lib.hid (cedge_any wr x0 x1 x2 m hm3)
      have HM := Lib.hid (And.intro hbw (And.intro hrow (And.intro r0 hrab)))
      clear hbw hrow r0 hrab
      go_wp2_with fail
      refine K2.out.mono ?_
      rintro e w9 ⟨rfl, b9⟩
      have hwf := edE_wf (x := (x0, x1, x2)) HX.out.2 hN m
      obtain ⟨d, hd⟩ : ∃ d, edE (x0, x1, x2) m = d := ⟨_, rfl⟩
      rw [hd] at hwf
      have HD := Lib.hid hd
      simp only [hd]
      clear hd q0 q1 q2
      obtain ⟨d0, d1⟩ := d
      obtain ⟨w10, hw10⟩ : ∃ w10, w9.alloc (.cells #[.int .i64 d0, .int .i64 d1] 66) = w10 := ⟨_, rfl⟩
      have b10 : Below w9.heap.size w9 w10 := by rw [← hw10]; exact (Below.refl _ w9).alloc (Nat.le_refl _) _
      obtain ⟨q, hq⟩ : ∃ q, w9.heap.size = q := ⟨_, rfl⟩
      have e0 : w10.heap[q]? = some (.cells #[.int .i64 d0, .int .i64 d1] 66 (0, 0)) := by rw [← hw10, ← hq]; exact heap_alloc_new w9 _
      have b11 := b9.trans (b10.mono b9.size)
      have B11 := Lib.hid (HM.out.1.trans (b11.mono HM.out.1.size))
      have row11 : TripRow w10 ab (halfI (acr tl) (3 * n) (3 * k + m)) := (b11.block ab (heap_lt HM.out.2.1)).trans HM.out.2.1
      have r11 := (b11.block r (heap_lt HM.out.2.2.1)).trans HM.out.2.2.1
      have fr := HS.out.chg (.of_below B11.out)
      have hlk := fun s => (show MapL (w10.drewN s) b (edL tl (3 * n)) from fr.mp.kept rfl).look (d1, d0) ⟨hwf.2, hwf.1⟩
      have KE1 := Lib.hid (fun s => KE.out (w10.drewN s) fr.seen.lb)
      have E0 : w10.cell? ⟨q, 0, none⟩ = some (.int .i64 d0) := by rw [cell_in e0]; rfl
      have E1 : w10.cell? ⟨q, 1, none⟩ = some (.int .i64 d1) := by rw [cell_in e0]; rfl
      have hac : acr tl (3 * k + m) = (lastV (edL tl (3 * n)) (d1, d0)).getD (-1) := by
        unfold acr
        rw [show (3 * k + m) / 3 = k by omega, show (3 * k + m) % 3 = m by omega, HX.out.1, HD.out, HL.out]
      obtain ⟨v, hv⟩ : ∃ v, lastV (edL tl (3 * n)) (d1, d0) = v := ⟨_, rfl⟩
      simp only [hv] at hlk
      rw [hv] at hac
      have N11 := Lib.hid (And.intro row11 (And.intro r11 hac))
      clear row11 r11 fr e0 b9 b10 b11 hwf hac hv
      go_wp2_with fail
      go_quiet ((go_at_call 42; exact Calls.quiet_of_same (KE1.out _)))
      obtain ⟨W, hW⟩ : ∃ W, w10.drewN nq = W := ⟨_, rfl⟩
      have rW : Reading w10 W := ⟨nq, hW.symm⟩
      have rowW : TripRow W ab (halfI (acr tl) (3 * n) (3 * k + m)) := (rW.below.block (B := w10.heap.size) ab (heap_lt N11.out.1)).trans N11.out.1
      have rW0 := (rW.below.block (B := w10.heap.size) r (heap_lt N11.out.2.1)).trans N11.out.2.1
      have y0 := rowW.cell (k * 3 + m) (by rw [halfI_len]; omega)
      have y1 := frozen_in rowW (k * 3 + m)
      have BW := Lib.hid (B11.out.trans rW.below)
      have R12 := Lib.hid (And.intro rowW rW0)
      simp only [hW]
      clear hW rW rowW rW0 hlk KE1
      have m2 : 0 ≤ (m : Int) := by omega
      have N12 : ∀ z : Int, acr tl (3 * k + m) = z → Below w.heap.size w (W.setCell ⟨ab, k * 3 + m, none⟩ (.int .i64 z)) ∧ TripRow (W.setCell ⟨ab, k * 3 + m, none⟩ (.int .i64 z)) ab (halfI (acr tl) (3 * n) (3 * k + (m + 1))) ∧ (W.setCell ⟨ab, k * 3 + m, none⟩ (.int .i64 z)).heap[r]? = some (.cells #[.int .i64 x0, .int .i64 x1, .int .i64 x2] 41 (0, 0)) ∧ ab < r := fun z hz => by
        refine ⟨BW.out.setCell (p := ⟨ab, k * 3 + m, none⟩) (by have := HAB.out; show w.heap.size ≤ ab; omega) _, ?_, heap_far R12.out.2 (p := ⟨ab, k * 3 + m, none⟩) (show r ≠ ab by have := HM.out.2.2.2; omega) _, HM.out.2.2.2⟩
        have := R12.out.1.set (k * 3 + m) z
        rw [show k * 3 + m = 3 * k + m by omega] at this ⊢
        rw [← hz, halfI_set] at this
        rw [← hz]
        exact this
      cases v with
      | none =>
        have N12 := Lib.hid (N12 (-1) N11.out.2.2)
        simp only [Option.getD_none, Option.isSome_none]
        go_wp2_with fail
        exact ⟨⟨m + 1, by omega, by go_num, N12.out⟩, by simp [intOf]; omega⟩
      | some z =>
        have N12 := Lib.hid (N12 z N11.out.2.2)
        simp only [Option.getD_some, Option.isSome_some]
        go_wp2_with fail
        exact ⟨⟨m + 1, by omega, by go_num, N12.out⟩, by simp [intOf]; omega⟩
end Go.Proofs.Ytelbmjbjpgcdaaa
