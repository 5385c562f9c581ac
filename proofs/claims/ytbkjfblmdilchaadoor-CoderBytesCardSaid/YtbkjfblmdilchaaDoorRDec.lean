/- The document's Decode: the symbol in whose interval the bytes lie. -/
import Derived.Test.YtbkjfblmdilchaaDoorRIn
namespace Go.Proofs.YtbkjfblmdilchaaDoor
open Go.RowKit

def RDecoded (w : World) (x : Iv) (cl : List Int) (b : List Nat) (e : Ending) (w' : World) : Prop := ∃ s : Nat, s < cl.length ∧ e = .returned (.int .i64 (s : Int)) ∧ Inside (come x cl s) b ∧ Below w.heap.size w w'
def RDecAt (w : World) (x : Iv) (cl : List Int) (b : List Nat) (n : Nat) (i : Value) (wr : World) : Prop := ∃ k : Nat, k ≤ n ∧ i = .int .i64 (k : Int) ∧ (∀ j, j < k → ¬ Inside (come x cl j) b) ∧ Below w.heap.size w wr

set_option maxHeartbeats 6400000 in
set_option maxRecDepth 100000 in
theorem rdec_any (w : World) (ad : Addr) (c : Nat) (x : Iv) (As : Option Addr) (ns cs : Nat) (cl : List Int) (A : Option Addr) (n cb : Nat) (b : List Nat) (h : Reads w (some ad) (4 + x.k) (ints (dints (digs (4 + x.k) x.L)))) (hx : x.Good) (hk : x.k ≤ 50000) (hr : Reads w As ns (ints cl)) (ok : Ok cl) (hrb : Reads w A n (bts b)) (hb : Dig b) (hi : Inside x b) :
    Calls Tryd.prog 21 #[.agg #[.slice (some ad) (4 + x.k) c, .int .i64 (x.R : Int)], .slice As ns cs, .slice A n cb] w (RDecoded w x cl b) := by
  have hl := hr.len
  have hns : ns ≤ 256 := by have := ok.few; omega
  have a0 := alloc_below w (.cells #[.slice (some ad) (4 + x.k) c, .int .i64 (x.R : Int)] 29)
  have k0 : (w.alloc (.cells #[.slice (some ad) (4 + x.k) c, .int .i64 (x.R : Int)] 29)).heap[w.heap.size]? = some (.cells #[.slice (some ad) (4 + x.k) c, .int .i64 (x.R : Int)] 29 (0, 0)) := (Array.getElem?_push_size : (w.heap.push _)[w.heap.size]? = some _)
  have hlt0 : w.heap.size < (w.alloc (.cells #[.slice (some ad) (4 + x.k) c, .int .i64 (x.R : Int)] 29)).heap.size := heap_lt k0
  have c0 : (w.alloc (.cells #[.slice (some ad) (4 + x.k) c, .int .i64 (x.R : Int)] 29)).cell? ⟨w.heap.size, 0, none⟩ = some (.slice (some ad) (4 + x.k) c) := by rw [cell_in k0]; rfl
  have c1 : (w.alloc (.cells #[.slice (some ad) (4 + x.k) c, .int .i64 (x.R : Int)] 29)).cell? ⟨w.heap.size, 1, none⟩ = some (.int .i64 (x.R : Int)) := by rw [cell_in k0]; rfl
  have HB := Lib.hid a0
  have RD := Lib.hid (⟨h.below a0, hr.below a0, hrb.below a0⟩ : Reads (w.alloc (.cells #[.slice (some ad) (4 + x.k) c, .int .i64 (x.R : Int)] 29)) (some ad) (4 + x.k) (ints (dints (digs (4 + x.k) x.L))) ∧ Reads (w.alloc (.cells #[.slice (some ad) (4 + x.k) c, .int .i64 (x.R : Int)] 29)) As ns (ints cl) ∧ Reads (w.alloc (.cells #[.slice (some ad) (4 + x.k) c, .int .i64 (x.R : Int)] 29)) A n (bts b))
  have HX := Lib.hid (⟨hx, ok, hb, come_some hb ok hi, hl⟩ : x.Good ∧ Ok cl ∧ Dig b ∧ (∃ s, s < cl.length ∧ Inside (come x cl s) b) ∧ cl.length = ns)
  clear h hr hrb a0 k0 hx ok hb hi hl
  go_enter Tryd.func21, Tryd.ntmps21
  go_wp2_with fail
  generalize w.alloc (.cells #[.slice (some ad) (4 + x.k) c, .int .i64 (x.R : Int)] 29) = w0 at *
  go_loopw [7] (RDecAt w0 x cl b ns) (fun i _ => ns - (intOf i).toNat)
  case atStart => exact ⟨0, Nat.zero_le _, rfl, fun j hj => by omega, Below.refl _ _⟩
  case round =>
    obtain ⟨k, hkn, rfl, hno, hbl⟩ := hrel
    by_cases hlt : k < ns
    · have d0 := (hbl.cell (p := ⟨w.heap.size, 0, none⟩) hlt0).trans c0
      have d1 := (hbl.cell (p := ⟨w.heap.size, 1, none⟩) hlt0).trans c1
      have b1 : (k : Int) < ns := by omega
      have hkl : k < cl.length := by rw [HX.out.2.2.2.2]; exact hlt
      have Z := Lib.hid (⟨hno, hbl, hkl⟩ : (∀ j, j < k → ¬ Inside (come x cl j) b) ∧ Below w0.heap.size w0 wr ∧ k < cl.length)
      have KC := Lib.hid (come_any wr ad c x As ns cs cl k (RD.out.1.below hbl) HX.out.1 (by omega) (RD.out.2.1.below hbl) HX.out.2.1 hkl)
      clear hno hbl hkl
      go_wp2_with fail
      refine KC.out.mono ?_
      rintro e w1 ⟨v1, rfl, ⟨ad1, cc1, rfl, o1⟩, bb1⟩
      have r1 := own_reads o1
      have B1 := Lib.hid (Z.out.2.1.trans (bb1.mono Z.out.2.1.size))
      have hgood := HX.out.1.come HX.out.2.1 k Z.out.2.2
      have hck := come_k x cl k
      have KI := Lib.hid (in_any w1 ad1 cc1 (come x cl k) A n cb b r1 hgood (by omega) (RD.out.2.2.below B1.out) HX.out.2.2.1)
      generalize hY : come x cl k = y at *
      have HY := Lib.hid hY
      clear hY r1 o1 bb1 hgood hck d0 d1
      go_wp2_with fail
      refine KI.out.mono ?_
      rintro e w2 ⟨rfl, bb2⟩
      have B2 := Lib.hid (B1.out.trans (bb2.mono B1.out.size))
      clear bb2
      by_cases hI : Inside y b
      · rw [decide_eq_true hI]
        have HI := Lib.hid hI
        clear hI
        go_wp2
        go_ret
        exact ⟨k, Z.out.2.2, rfl, by rw [HY.out]; exact HI.out, HB.out.trans (B2.out.mono HB.out.size)⟩
      · rw [decide_eq_false hI]
        have HI := Lib.hid hI
        clear hI
        go_wp2_with fail
        refine ⟨⟨k + 1, by omega, by go_num, fun j hj => ?_, B2.out⟩, by simp [intOf]; omega⟩
        rcases Nat.lt_or_ge j k with h1 | h1
        · exact Z.out.1 j h1
        · obtain rfl : j = k := by omega
          rw [HY.out]; exact HI.out
    · exfalso
      obtain ⟨s, hs, hI⟩ := HX.out.2.2.2.1
      exact hno s (by rw [HX.out.2.2.2.2] at hs; omega) hI
end Go.Proofs.YtbkjfblmdilchaaDoor
