/- Layer 8: Mirror. -/
import Derived.Test.YtfdoemebongdbaaSouFill
namespace Go.Proofs.Ytfdoemebongdbaa
open Go.RowKit

def NewTold (w : World) (N : Int) (l : List Tr) (e : Ending) (w' : World) : Prop := ∃ v, e = .returned v ∧ NewS w w' N l v

theorem range_map (l : List Tr) (f : Tr → Tr) {n : Nat} (hn : l.length = n) : (List.range n).map (fun i => f (l.getD i z3)) = l.map f := by
  subst hn
  apply List.ext_getElem?
  intro i
  by_cases h : i < l.length <;> simp [h]

set_option maxHeartbeats 4000000 in
set_option maxRecDepth 100000 in
theorem smirror_any (w : World) (N : Int) (A : Option Addr) (n c : Nat) (l : List Tr) (h : T3 w A n l) (hn : n ≤ 1000000) :
    Calls Try.prog 17 #[.agg #[.int .i64 N, .slice A n c]] w (NewTold w N (l.map mirT)) := by
  have HL := Lib.hid h
  clear h
  have hmk := fun W => make3 n n (Nat.le_refl _) hn W
  go_enter Try.func17, Try.ntmps17
  go_wp2_with fail
  have S0 := Lib.hid (Fil.start w N A n c n)
  obtain ⟨w3, hw3⟩ : ∃ w3, (((w.alloc (.cells #[.int .i64 N, .slice A n c] 24)).alloc (.cells #[.int .i64 0, .slice none 0 0] 24)).alloc (zer3 n)) = w3 := ⟨_, rfl⟩
  obtain ⟨g, hg⟩ : ∃ g, w.heap.size = g := ⟨_, rfl⟩
  obtain ⟨q, hq⟩ : ∃ q, g + 1 + 1 = q := ⟨_, rfl⟩
  rw [hw3, hg, hq] at S0
  simp only [hw3, hg, hq]
  have HG := Lib.hid (And.intro hg hq)
  clear hw3 hg hq
  go_loopw [13] (FilAt w g (g + 1) q N A n c (fun i => mirT (l.getD i z3)) n) (fun i _ => n - (intOf i).toNat)
  case atStart => exact ⟨0, Nat.zero_le _, rfl, by rw [half3_zero]; exact S0.out⟩
  case round =>
    obtain ⟨k, hk, rfl, hf⟩ := hrel
    have HF := Lib.hid hf
    clear hf
    by_cases hlt : k < n
    · have b1 : (k : Int) < n := by omega
      obtain ⟨b, off, rfl, hat⟩ := (HL.out.below HF.out.below).2 (by omega)
      obtain ⟨c0, c1, c2⟩ := hat k hlt
      clear hat
      obtain ⟨x, hx⟩ : ∃ x, l.getD k z3 = x := ⟨_, rfl⟩
      have HX := Lib.hid hx
      rw [hx] at c0 c1 c2
      clear hx
      obtain ⟨x0, x1, x2⟩ := x
      have F2 := HF.out.up ((Below.refl _ wr).alloc (Nat.le_refl _) (.cells #[.int .i64 x0, .int .i64 x1, .int .i64 x2] 51))
      obtain ⟨v0, v1, v2, ⟨r0, f0⟩, ⟨r1, f1⟩, r2, f2⟩ := F2.row.cells (k := k) (by rw [half3_len]; exact hlt)
      have F3 := Lib.hid (F2.set (k := k) (by rw [half3_len]; exact hlt) x0 x2 x1)
      clear F2
      go_wp2_with fail
      refine ⟨⟨k + 1, by omega, by go_num, ?_⟩, by simp [intOf]; omega⟩
      rw [← half3_set _ n k hlt, HX.out]
      exact F3.out
    · obtain rfl : k = n := by omega
      have b1 : ¬ (k : Int) < k := by omega
      have e0 := HF.out.bx.c0
      have e1 := HF.out.res.c0
      have e2 := HF.out.res.c1
      have z0 := frozen_in HF.out.res 0
      have z1 := frozen_in HF.out.res 1
      go_wp2_with fail
      obtain ⟨hrow, hnew⟩ := newS_ret (N := N) (m := k) HF.out.below HF.out.res HF.out.row HF.out.wq HF.out.rq (by rw [HG.out.1]; omega) (half3_len _ _ _) hn
      refine bodyPost_ret (results_cell_row rfl _ _ (g + 1) 24 _ (0, 0) _ rfl hrow Try.underlying24 rfl (by kernel_rfl)) rfl ⟨_, rfl, ?_⟩
      rw [half3_full] at hnew
      have : (List.range k).map (fun i => mirT (l.getD i z3)) = l.map mirT := range_map l mirT HL.out.1
      rw [this] at hnew
      exact hnew
end Go.Proofs.Ytfdoemebongdbaa
