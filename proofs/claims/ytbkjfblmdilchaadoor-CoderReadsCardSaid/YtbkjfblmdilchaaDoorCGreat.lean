/- great: false only where all is small, and each step may come. -/
import Derived.Test.YtbkjfblmdilchaaDoorCRight
namespace Go.Proofs.YtbkjfblmdilchaaDoor
open Go.RowKit

/-- All steps may come, by few counts. -/
def AllRight (l : List (List Int × Int)) : Prop := ∀ p ∈ l, OkStep p.1 p.2 ∧ p.1.length ≤ 20
def Greated (w : World) (n : Nat) (l : List (List Int × Int)) (e : Ending) (w' : World) : Prop := ∃ r : Bool, e = .returned (.bool r) ∧ (r = false → n ≤ 60 ∧ AllRight l) ∧ Below w.heap.size w w'
def GreatAt (w : World) (n : Nat) (l : List (List Int × Int)) (i : Value) (wr : World) : Prop := ∃ k : Nat, k ≤ n ∧ i = .int .i64 (k : Int) ∧ AllRight (l.take k) ∧ Below w.heap.size w wr

theorem take_mem {α : Type} {l : List α} {k : Nat} {x : α} (h : l[k]? = some x) : l.take (k + 1) = l.take k ++ [x] := by
  obtain ⟨hk, rfl⟩ := List.getElem?_eq_some_iff.1 h
  exact List.take_succ_eq_append_getElem hk

set_option maxHeartbeats 3200000 in
set_option maxRecDepth 100000 in
theorem great_any (w : World) (A : Option Addr) (n c : Nat) (l : List (List Int × Int)) (h : Steps w A n l) :
    Calls Tryd.prog 11 #[.slice A n c] w (Greated w n l) := by
  by_cases hn : 60 < n
  · have t1 : (60 : Int) < n := by omega
    clear h
    go_enter Tryd.func11, Tryd.ntmps11
    go_wp2
    go_ret
    exact ⟨true, rfl, fun e => (nomatch e), Below.refl _ _⟩
  have t1 : ¬ (60 : Int) < n := by omega
  have HS := Lib.hid h
  clear h
  go_enter Tryd.func11, Tryd.ntmps11
  go_wp2_with fail
  go_loopw [3] (GreatAt w n l) (fun i _ => n - (intOf i).toNat)
  case atStart => exact ⟨0, Nat.zero_le _, rfl, fun p hp => by simp at hp, Below.refl _ _⟩
  case round =>
    obtain ⟨k, hk, rfl, ha, hb⟩ := hrel
    by_cases hlt : k < n
    · obtain ⟨b, off, rfl⟩ := HS.out.ad (by omega)
      obtain ⟨p, Ai, ni, ci, hp, c0, c1, hr⟩ := (HS.out.below hb).at k hlt
      obtain ⟨cl, s⟩ := p
      have R := Lib.hid (⟨ha, hb, hp, hr⟩ : AllRight (l.take k) ∧ Below w.heap.size w wr ∧ l[k]? = some (cl, s) ∧ Reads wr Ai ni (ints cl))
      have b1 : (k : Int) < n := by omega
      have KR := Lib.hid (right4_any wr Ai ni ci cl s hr)
      clear ha hb hp hr
      by_cases h20 : 20 < ni
      · have t2 : (20 : Int) < ni := by omega
        go_wp2
        go_ret
        exact ⟨true, rfl, fun e => (nomatch e), R.out.2.1⟩
      · have t2 : ¬ (20 : Int) < ni := by omega
        go_wp2_with fail
        refine KR.out.mono ?_
        rintro e w1 ⟨r, rfl, h1, b1'⟩
        have B1 := Lib.hid (R.out.2.1.trans (b1'.mono R.out.2.1.size))
        cases r with
        | false =>
          clear h1 b1'
          go_wp2
          go_ret
          exact ⟨true, rfl, fun e => (nomatch e), B1.out⟩
        | true =>
          have H1 := Lib.hid (h1 rfl)
          clear h1 b1'
          go_wp2_with fail
          refine ⟨⟨k + 1, by omega, by go_num, ?_, B1.out⟩, by simp [intOf]; omega⟩
          rw [take_mem R.out.2.2.1]
          intro p hp
          rcases List.mem_append.1 hp with hp | hp
          · exact R.out.1 p hp
          · obtain rfl : p = (cl, s) := by simpa using hp
            exact ⟨H1.out, by have := R.out.2.2.2.len; show cl.length ≤ 20; omega⟩
    · obtain rfl : k = n := by omega
      have R := Lib.hid (⟨ha, hb⟩ : AllRight (l.take k) ∧ Below w.heap.size w wr)
      have b1 : ¬ (k : Int) < k := by omega
      clear ha hb
      go_wp2
      go_ret
      refine ⟨false, rfl, fun _ => ⟨by omega, ?_⟩, R.out.2⟩
      have := R.out.1
      rwa [List.take_of_length_le (by rw [HS.out.1]; exact Nat.le_refl _)] at this
end Go.Proofs.YtbkjfblmdilchaaDoor
