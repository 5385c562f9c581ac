/- Words for the memory of layer 7: slices of chunks. -/
import Derived.Test.YtngambkbpdjddaaBoxHead
import Derived.Test.YtngambkbpdjddaaCrcUpd
import Derived.Test.YtngambkbpdjddaaBstr
import Derived.Test.YtngambkbpdjddaaUp
import Derived.BigQuiet
namespace Go.Proofs.Ytngambkbpdjddaa
open Go.RowKit

/-- A slice of chunks that reads so (nil let in, outside and inside). -/
def Chunks (w : World) (A : Option Addr) (n : Nat) (l : List (Nat × List Nat)) : Prop :=
  l.length = n ∧ (0 < n → ∃ b off, A = some ⟨b, off, none⟩ ∧ ∀ i, i < n → ∃ Ai ci, w.cell? ⟨b, off + i * 2, none⟩ = some (.int .u8 (((l.getD i (0, [])).1 : Nat) : Int)) ∧ w.cell? ⟨b, off + i * 2 + 1, none⟩ = some (.slice Ai (l.getD i (0, [])).2.length ci)
    ∧ (Ai = none → ci = 0) ∧ (l.getD i (0, [])).2.length ≤ 140737488351232 ∧ Reads w Ai (l.getD i (0, [])).2.length (bts (l.getD i (0, [])).2))
theorem Chunks.below {w w' : World} {A : Option Addr} {n : Nat} {l : List (Nat × List Nat)} (h : Chunks w A n l) (hb : Below w.heap.size w w') : Chunks w' A n l := by
  refine ⟨h.1, fun hn => ?_⟩
  obtain ⟨b, off, hA, hc⟩ := h.2 hn
  refine ⟨b, off, hA, fun i hi => ?_⟩
  obtain ⟨Ai, ci, c0, c1, h2, h3, hr⟩ := hc i hi
  exact ⟨Ai, ci, (hb.cell (World.block_lt_of_cell? w _ c0)).trans c0, (hb.cell (World.block_lt_of_cell? w _ c1)).trans c1, h2, h3, hr.below hb⟩
theorem Chunks.at {w : World} {b off n : Nat} {l : List (Nat × List Nat)} (h : Chunks w (some ⟨b, off, none⟩) n l) (k : Nat) (hk : k < n) : ∃ Ai ci, w.cell? ⟨b, off + k * 2, none⟩ = some (.int .u8 (((l.getD k (0, [])).1 : Nat) : Int)) ∧ w.cell? ⟨b, off + k * 2 + 1, none⟩ = some (.slice Ai (l.getD k (0, [])).2.length ci)
    ∧ (Ai = none → ci = 0) ∧ (l.getD k (0, [])).2.length ≤ 140737488351232 ∧ Reads w Ai (l.getD k (0, [])).2.length (bts (l.getD k (0, [])).2) := by
  obtain ⟨b', off', hA, hc⟩ := h.2 (by omega)
  injection hA with hA
  injection hA with h1 h2
  subst h1 h2
  exact hc k hk
theorem Chunks.ad {w : World} {A : Option Addr} {n : Nat} {l : List (Nat × List Nat)} (h : Chunks w A n l) (hn : 0 < n) : ∃ b off, A = some ⟨b, off, none⟩ := by
  obtain ⟨b, off, hA, _⟩ := h.2 hn
  exact ⟨b, off, hA⟩
theorem Chunks.len {w : World} {A : Option Addr} {n : Nat} {l : List (Nat × List Nat)} (h : Chunks w A n l) : l.length = n := h.1
theorem Chunks.drew {w : World} {A : Option Addr} {n : Nat} {l : List (Nat × List Nat)} (h : Chunks w A n l) : Chunks w.drew A n l := h.below (Reading.below ⟨1, rfl⟩)

/-- The same, whatever their lengths. -/
def Chunks0 (w : World) (A : Option Addr) (n : Nat) (l : List (Nat × List Nat)) : Prop :=
  l.length = n ∧ (0 < n → ∃ b off, A = some ⟨b, off, none⟩ ∧ ∀ i, i < n → ∃ Ai ci, w.cell? ⟨b, off + i * 2, none⟩ = some (.int .u8 (((l.getD i (0, [])).1 : Nat) : Int)) ∧ w.cell? ⟨b, off + i * 2 + 1, none⟩ = some (.slice Ai (l.getD i (0, [])).2.length ci)
    ∧ (Ai = none → ci = 0) ∧ Reads w Ai (l.getD i (0, [])).2.length (bts (l.getD i (0, [])).2))
theorem Chunks0.below {w w' : World} {A : Option Addr} {n : Nat} {l : List (Nat × List Nat)} (h : Chunks0 w A n l) (hb : Below w.heap.size w w') : Chunks0 w' A n l := by
  refine ⟨h.1, fun hn => ?_⟩
  obtain ⟨b, off, hA, hc⟩ := h.2 hn
  refine ⟨b, off, hA, fun i hi => ?_⟩
  obtain ⟨Ai, ci, c0, c1, h2, hr⟩ := hc i hi
  exact ⟨Ai, ci, (hb.cell (World.block_lt_of_cell? w _ c0)).trans c0, (hb.cell (World.block_lt_of_cell? w _ c1)).trans c1, h2, hr.below hb⟩

/-- Few and small: what the laws of layer 7 look at. -/
def Small (l : List (Nat × List Nat)) : Prop := l.length ≤ 12 ∧ ∀ x ∈ l, x.2.length ≤ 100
theorem getD_of_mem {l : List (Nat × List Nat)} {x : Nat × List Nat} (h : x ∈ l) : ∃ i, i < l.length ∧ l.getD i (0, []) = x := by
  obtain ⟨i, hi, rfl⟩ := List.mem_iff_getElem.1 h
  exact ⟨i, hi, by rw [List.getD_eq_getElem?_getD, List.getElem?_eq_getElem hi]; rfl⟩

def Great7 (w : World) (l : List (Nat × List Nat)) (e : Ending) (w' : World) : Prop := ∃ r : Int, (r = 1 ∨ (r = 0 ∧ Small l)) ∧ e = .returned (.int .i64 r) ∧ w = w'
def Great7At (w : World) (n : Nat) (l : List (Nat × List Nat)) (i : Value) (wr : World) : Prop := w = wr ∧ ∃ k : Nat, k ≤ n ∧ i = .int .i64 (k : Int) ∧ ∀ j, j < k → (l.getD j (0, [])).2.length ≤ 100

set_option maxHeartbeats 1600000 in
set_option maxRecDepth 100000 in
theorem great7_any (w : World) (A : Option Addr) (n c : Nat) (l : List (Nat × List Nat)) (h : Chunks0 w A n l) :
    Calls Try.prog 12 #[.slice A n c] w (Great7 w l) := by
  by_cases hn : 12 < n
  · have t1 : (12 : Int) < n := by omega
    clear h
    go_enter Try.func12, Try.ntmps12
    go_wp2
    go_ret
    exact ⟨1, .inl rfl, rfl, rfl⟩
  have t1 : ¬ (12 : Int) < n := by omega
  have HS := Lib.hid h
  clear h
  go_enter Try.func12, Try.ntmps12
  go_wp2_with fail
  go_loopw [3] (Great7At w n l) (fun i _ => n - (intOf i).toNat)
  case atStart => exact ⟨rfl, 0, Nat.zero_le _, rfl, fun j hj => absurd hj (by omega)⟩
  case round =>
    obtain ⟨rfl, k, hk, rfl, ha⟩ := hrel
    have HA := Lib.hid ha
    clear ha
    by_cases hlt : k < n
    · obtain ⟨b, off, rfl, hat⟩ := HS.out.2 (by omega)
      obtain ⟨Ai, ci, c0, c1, h2, hr⟩ := hat k hlt
      clear hat
      have b1 : (k : Int) < n := by omega
      obtain ⟨m, hm⟩ : ∃ m, (l.getD k (0, [])).2.length = m := ⟨_, rfl⟩
      have HM := Lib.hid hm
      rw [hm] at c1
      clear hr h2 hm c0
      by_cases h100 : 100 < m
      · have t2 : (100 : Int) < m := by omega
        go_wp2
        go_ret
        exact ⟨1, .inl rfl, rfl, rfl⟩
      · have t2 : ¬ (100 : Int) < m := by omega
        go_wp2_with fail
        refine ⟨⟨rfl, k + 1, by omega, by go_num, fun j hj => ?_⟩, by simp [intOf]; omega⟩
        rcases Nat.lt_or_ge j k with h1 | h1
        · exact HA.out j h1
        · obtain rfl : j = k := by omega
          rw [HM.out]; omega
    · obtain rfl : k = n := by omega
      have b1 : ¬ (k : Int) < k := by omega
      go_wp2
      go_ret
      refine ⟨0, .inr ⟨rfl, by rw [HS.out.1]; omega, fun x hx => ?_⟩, rfl, rfl⟩
      obtain ⟨i, hi, rfl⟩ := getD_of_mem hx
      exact HA.out i (by rw [← HS.out.1]; exact hi)
theorem Chunks0.small {w : World} {A : Option Addr} {n : Nat} {l : List (Nat × List Nat)} (h : Chunks0 w A n l) (hs : Small l) : Chunks w A n l := by
  refine ⟨h.1, fun hn => ?_⟩
  obtain ⟨b, off, hA, hc⟩ := h.2 hn
  refine ⟨b, off, hA, fun i hi => ?_⟩
  obtain ⟨Ai, ci, c0, c1, h2, hr⟩ := hc i hi
  have hm : l.getD i (0, []) ∈ l := getD_mem (by rw [h.1]; exact hi)
  exact ⟨Ai, ci, c0, c1, h2, by have := hs.2 _ hm; omega, hr⟩
end Go.Proofs.Ytngambkbpdjddaa
