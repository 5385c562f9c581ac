/- The document's Right; a table made of counts that are in order; a slice of steps; great. -/
import Derived.Test.YtbkjfblmdilchaaDoorCSame
namespace Go.Proofs.YtbkjfblmdilchaaDoor
open Go.RowKit

/-- A step that may come. -/
def OkStep (c : List Int) (s : Int) : Prop := Ok c ∧ 0 ≤ s ∧ s < c.length
def Righted (w : World) (l : List Int) (s : Int) (e : Ending) (w' : World) : Prop := ∃ r : Bool, e = .returned (.bool r) ∧ (r = true → OkStep l s) ∧ Below w.heap.size w w'

def RightAt (w : World) (l : List Int) (n : Nat) (i : Value) (wr : World) : Prop := ∃ k : Nat, k ≤ n ∧ i = .int .i64 (k : Int) ∧ (∀ j, j < k → 1 ≤ l.getD j 0 ∧ l.getD j 0 ≤ 65536) ∧ Reading w wr

set_option maxHeartbeats 3200000 in
set_option maxRecDepth 100000 in
theorem right4_any (w : World) (A : Option Addr) (n c : Nat) (l : List Int) (s : Int) (h : Reads w A n (ints l)) :
    Calls Tryd.prog 26 #[.agg #[.slice A n c, .int .i64 s]] w (Righted w l s) := by
  have hl := h.len
  have hb : Below w.heap.size w (w.alloc (.cells #[.slice A n c, .int .i64 s] 36)) := ⟨rfl, rfl, rfl, by simp, fun b hb => Below.heap_alloc _ _ _ hb⟩
  have hN : (w.alloc (.cells #[.slice A n c, .int .i64 s] 36)).heap[w.heap.size]? = some (.cells #[.slice A n c, .int .i64 s] 36 (0, 0)) := (Array.getElem?_push_size : (w.heap.push _)[w.heap.size]? = some _)
  have c0 : (w.alloc (.cells #[.slice A n c, .int .i64 s] 36)).cell? ⟨w.heap.size, 0, none⟩ = some (.slice A n c) := by rw [cell_in hN]; rfl
  have c1 : (w.alloc (.cells #[.slice A n c, .int .i64 s] 36)).cell? ⟨w.heap.size, 1, none⟩ = some (.int .i64 s) := by rw [cell_in hN]; rfl
  have HB := Lib.hid hb
  have HR := Lib.hid (h.below hb)
  have HL := Lib.hid hl
  clear h hb hN hl
  by_cases g1 : n < 1
  · have t1 : (n : Int) < 1 := by omega
    go_enter Tryd.func26, Tryd.ntmps26
    go_wp2
    go_ret
    exact ⟨false, rfl, fun e => (nomatch e), HB.out⟩
  have t1 : ¬ (n : Int) < 1 := by omega
  by_cases g2 : 256 < n
  · have t2 : (256 : Int) < (n : Int) := by omega
    clear g1 g2
    go_enter Tryd.func26, Tryd.ntmps26
    go_wp2
    go_ret
    exact ⟨false, rfl, fun e => (nomatch e), HB.out⟩
  have t2 : ¬ (256 : Int) < (n : Int) := by omega
  by_cases g3 : s < 0
  · clear g1 g2
    go_enter Tryd.func26, Tryd.ntmps26
    go_wp2
    go_ret
    exact ⟨false, rfl, fun e => (nomatch e), HB.out⟩
  by_cases g4 : (n : Int) ≤ s
  · clear g1 g2
    go_enter Tryd.func26, Tryd.ntmps26
    go_wp2
    go_ret
    exact ⟨false, rfl, fun e => (nomatch e), HB.out⟩
  have hn : n ≤ 256 := by omega
  have hn1 : 0 < n := by omega
  clear g1 g2
  go_enter Tryd.func26, Tryd.ntmps26
  go_wp2_with fail
  generalize hW : w.alloc (.cells #[.slice A n c, .int .i64 s] 36) = W at *
  have HW := Lib.hid hW
  clear hW
  go_loopw [3] (RightAt W l n) (fun i _ => n - (intOf i).toNat)
  case atStart => exact ⟨0, Nat.zero_le _, rfl, fun j hj => by omega, Reading.refl W⟩
  case round =>
    obtain ⟨k, hk, rfl, ha, hr⟩ := hrel
    have d0 : wr.cell? ⟨w.heap.size, 0, none⟩ = some (.slice A n c) := by obtain ⟨m, rfl⟩ := hr; exact c0
    have AL := Lib.hid (⟨ha, hr⟩ : (∀ j, j < k → 1 ≤ l.getD j 0 ∧ l.getD j 0 ≤ 65536) ∧ Reading W wr)
    by_cases hlt : k < n
    · obtain ⟨ad, rfl, dx⟩ := (HR.out.read hr).int k hlt
      generalize hx : l.getD k 0 = x at *
      have HX := Lib.hid hx
      have b1 : (k : Int) < n := by omega
      clear hx ha hr
      by_cases x1 : x < 1
      · go_wp2
        go_ret
        exact ⟨false, rfl, fun e => (nomatch e), HB.out.trans AL.out.2.below⟩
      · by_cases x2 : 65536 < x
        · go_wp2
          go_ret
          exact ⟨false, rfl, fun e => (nomatch e), HB.out.trans AL.out.2.below⟩
        · go_wp2_with fail
          refine ⟨⟨k + 1, by omega, by go_num, fun j hj => ?_, AL.out.2⟩, by simp [intOf]; omega⟩
          rcases Nat.lt_or_ge j k with h1 | h1
          · exact AL.out.1 j h1
          · obtain rfl : j = k := by omega
            rw [HX.out]; omega
    · obtain rfl : k = n := by omega
      have hall : ∀ x ∈ l, 1 ≤ x ∧ x ≤ 65536 := by
        intro x hx
        obtain ⟨j, hj, rfl⟩ := List.mem_iff_getElem.1 hx
        have := AL.out.1 j (by have := HL.out; omega)
        simpa [List.getElem?_eq_getElem hj] using this
      have KS := Lib.hid (sum4_any wr A k c l k (HR.out.read hr) (Nat.le_refl _) hn hall)
      have HA := Lib.hid hall
      have b1 : ¬ (k : Int) < k := by omega
      have hlo := low_all l k (by rw [HL.out]; exact Nat.le_refl _)
      rw [hlo] at KS
      clear ha hr hall hlo
      generalize hS : l.sum = S at *
      have HS := Lib.hid hS
      clear hS
      go_wp2_with fail
      refine KS.out.mono ?_
      rintro e w5 ⟨rfl, b5⟩
      have B5 := Lib.hid b5
      clear b5
      go_wp2
      go_ret
      refine ⟨decide (S ≤ 65536), rfl, fun hd => ?_, (HB.out.trans AL.out.2.below).trans B5.out.below⟩
      have hS := of_decide_eq_true hd
      have hll := HL.out
      exact ⟨⟨by omega, by omega, fun x hx => (HA.out x hx).1, by rw [HS.out]; exact hS⟩, by omega, by rw [hll]; omega⟩

def MadeTab (w : World) (l : List Int) (e : Ending) (w' : World) : Prop :=
  ∃ g q cap, e = .returned (.pointer (some ⟨g, 0, none⟩)) ∧ TIs w' g q cap l ∧ Below w.heap.size w w' ∧ w.heap.size ≤ g ∧ w.heap.size ≤ q
set_option maxHeartbeats 800000 in
set_option maxRecDepth 100000 in
theorem made_ok (w : World) (A : Option Addr) (n c : Nat) (l : List Int) (h : Reads w A n (ints l)) (ok : Ok l) :
    Calls Tryd.prog 15 #[.slice A n c] w (MadeTab w l) := by
  have hl := h.len
  have K := Lib.hid ((new_any w A n c l h (by have := ok.pos; omega) (by have := ok.few; omega) ok.one).mono fun e w' (h : Newly w l e w') => (show ∃ g q cap, e = .returned (.tuple #[.pointer (some ⟨g, 0, none⟩), .int .i64 0]) ∧ TIs w' g q cap l ∧ w.heap.size ≤ g ∧ w.heap.size ≤ q ∧ Below w.heap.size w w' by
    unfold Newly at h
    rwa [if_pos ok.total] at h))
  clear h ok hl
  go_enter Tryd.func15, Tryd.ntmps15
  go_wp2_with fail
  refine K.out.mono ?_
  rintro e w1 ⟨g, q, cap, rfl, t1, g1, q1, b1⟩
  have T1 := Lib.hid (⟨t1, b1, g1, q1⟩ : TIs w1 g q cap l ∧ Below w.heap.size w w1 ∧ w.heap.size ≤ g ∧ w.heap.size ≤ q)
  clear t1 b1 g1 q1
  go_wp2
  go_ret
  exact ⟨g, q, cap, rfl, T1.out⟩

/-- A slice of steps. -/
def Steps (w : World) (A : Option Addr) (n : Nat) (l : List (List Int × Int)) : Prop :=
  l.length = n ∧ (0 < n → ∃ b off, A = some ⟨b, off, none⟩ ∧ ∀ i p, l[i]? = some p → ∃ Ai ni ci, w.cell? ⟨b, off + i * 2, none⟩ = some (.slice Ai ni ci) ∧ w.cell? ⟨b, off + i * 2 + 1, none⟩ = some (.int .i64 p.2) ∧ Reads w Ai ni (ints p.1))
theorem Steps.below {w w' : World} {A : Option Addr} {n : Nat} {l : List (List Int × Int)} (h : Steps w A n l) (hb : Below w.heap.size w w') : Steps w' A n l := by
  refine ⟨h.1, fun hn => ?_⟩
  obtain ⟨b, off, hA, hc⟩ := h.2 hn
  refine ⟨b, off, hA, fun i p hp => ?_⟩
  obtain ⟨Ai, ni, ci, c0, c1, hr⟩ := hc i p hp
  exact ⟨Ai, ni, ci, (hb.cell (World.block_lt_of_cell? w _ c0)).trans c0, (hb.cell (World.block_lt_of_cell? w _ c1)).trans c1, hr.below hb⟩
theorem Steps.at {w : World} {b off n : Nat} {l : List (List Int × Int)} (h : Steps w (some ⟨b, off, none⟩) n l) (k : Nat) (hk : k < n) : ∃ p Ai ni ci, l[k]? = some p ∧ w.cell? ⟨b, off + k * 2, none⟩ = some (.slice Ai ni ci) ∧ w.cell? ⟨b, off + k * 2 + 1, none⟩ = some (.int .i64 p.2) ∧ Reads w Ai ni (ints p.1) := by
  obtain ⟨b', off', hA, hc⟩ := h.2 (by omega)
  injection hA with hA
  injection hA with h1 h2
  subst h1 h2
  have hkl : k < l.length := by have := h.1; omega
  obtain ⟨Ai, ni, ci, h3⟩ := hc k _ (List.getElem?_eq_getElem hkl)
  exact ⟨_, Ai, ni, ci, List.getElem?_eq_getElem hkl, h3⟩
theorem Steps.ad {w : World} {A : Option Addr} {n : Nat} {l : List (List Int × Int)} (h : Steps w A n l) (hn : 0 < n) : ∃ b off, A = some ⟨b, off, none⟩ := by
  obtain ⟨b, off, hA, _⟩ := h.2 hn
  exact ⟨b, off, hA⟩
end Go.Proofs.YtbkjfblmdilchaaDoor
