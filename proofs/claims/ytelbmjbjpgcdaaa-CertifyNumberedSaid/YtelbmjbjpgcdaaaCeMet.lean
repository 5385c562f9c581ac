/- Layer 9: how many triangles are met on the way around a vertex. -/
import Derived.Test.YtelbmjbjpgcdaaaCeAcr
namespace Go.Proofs.Ytelbmjbjpgcdaaa
open Go.RowKit

/-- The s-th triangle on the way, or what stands at its end. -/
def wayV (tl : List Tr) (v : Int) (L : List Nat) (s : Nat) : Int := if s < L.length then ((L.getD s 0 : Nat) : Int) else ((stepV tl v (L.getD (L.length - 1) 0)).map fun j => (j : Int)).getD (-1)
theorem wayV_next {tl : List Tr} {v : Int} {c0 : Nat} {L : List Nat} (hL : Chain (stepV tl v) (atV tl v) c0 L) {s : Nat} (hs : s < L.length) : ((stepV tl v (L.getD s 0)).map fun j => (j : Int)).getD (-1) = wayV tl v L (s + 1) := by
  unfold wayV
  by_cases h : s + 1 < L.length
  · rw [if_pos h, hL.st s h]; rfl
  · rw [if_neg h, show L.length - 1 = s by omega]
def MetAt (w : World) (tl : List Tr) (v : Int) (L : List Nat) (c i : Value) (wr : World) : Prop := w = wr ∧ ∃ s : Nat, s ≤ L.length ∧ c = .int .i64 (s : Int) ∧ i = .int .i64 (wayV tl v L s)
theorem cont_has (x : Tr) (v : Int) : v ∈ [x.1, x.2.1, x.2.2] ↔ hasV x v := by
  simp only [List.mem_cons, List.not_mem_nil, or_false]
  exact ⟨fun h => h.imp Eq.symm (Or.imp Eq.symm Eq.symm), fun h => h.imp Eq.symm (Or.imp Eq.symm Eq.symm)⟩

set_option maxHeartbeats 4000000 in
set_option maxRecDepth 100000 in
theorem cmet_any (S : Nat → Prop) (w : World) (g b ab : Nat) (N : Int) (A : Option Addr) (n c : Nat) (tl : List Tr) (v : Int) (c0 : Nat) (L : List Nat) (hs : Full S g N A n c b tl w) (hn : n ≤ 8192) (hrow : TripRow w ab (halfI (acr tl) (3 * n) (3 * n))) (hlp : ∀ t ∈ tl, ¬ loopT t)
    (hL : Chain (stepV tl v) (atV tl v) c0 L) (hend : stepV tl v (L.getD (L.length - 1) 0) = none ∨ stepV tl v (L.getD (L.length - 1) 0) = some c0) :
    Calls Try.prog 46 #[.pointer (some ⟨g, 0, none⟩), .int .i64 v, .int .i64 (c0 : Int), .slice (some ⟨ab, 0, none⟩) n n] w fun e w' => e = .returned (.int .i64 (L.length : Int)) ∧ w' = w := by
  have HL := Lib.hid hs.seen.t3.1
  have c1 := hs.seen.c1
  have hle : L.length ≤ n := by
    have h1 := nodup_subN hL.nd hL.sub
    have h2 : (atV tl v).length ≤ tl.length := by
      unfold atV
      have := List.length_filter_le (fun i => decide (hasV (tl.getD i z3) v)) (List.range tl.length)
      rwa [List.length_range] at this
    rw [hs.seen.t3.1] at h2
    omega
  have HS := Lib.hid (And.intro hs (And.intro hrow hlp))
  have HC := Lib.hid (And.intro hL hend)
  have h00 : wayV tl v L 0 = (c0 : Int) := by
    unfold wayV
    rw [if_pos hL.ne, hL.hd]
  have H00 := Lib.hid h00
  clear hs hrow hlp hL hend h00
  go_enter Try.func46, Try.ntmps46
  go_wp2_with fail
  go_loopw [9, 10] (MetAt w tl v L) (fun cc _ _ => L.length - (intOf cc).toNat)
  case atStart => exact ⟨rfl, 0, Nat.zero_le _, rfl, by rw [H00.out]⟩
  case round =>
    obtain ⟨rfl, s, hs, rfl, rfl⟩ := hrel
    by_cases hsl : s < L.length
    case neg =>
      obtain rfl : s = L.length := by omega
      have hne := HC.out.1.ne
      have hz' : ((L.length : Int) == 0) = false := by rw [beq_eq_false_iff_ne]; omega
      have hw : wayV tl v L L.length = ((stepV tl v (L.getD (L.length - 1) 0)).map fun j => (j : Int)).getD (-1) := by unfold wayV; rw [if_neg (by omega)]
      rcases HC.out.2 with h | h
      · have hw' : wayV tl v L L.length = -1 := by rw [hw, h]; rfl
        rw [hw']
        clear hw hw' h
        go_wp2
        go_ret
        exact ⟨rfl, rfl⟩
      · have hw' : wayV tl v L L.length = (c0 : Int) := by rw [hw, h]; rfl
        rw [hw']
        have hc0 : 0 ≤ (c0 : Int) := by omega
        clear hw hw' h
        go_wp2
        go_ret
        exact ⟨rfl, rfl⟩
    have hwt : wayV tl v L s = ((L.getD s 0 : Nat) : Int) := by unfold wayV; rw [if_pos hsl]
    have hmem := mem_atV.1 (HC.out.1.sub _ (getDn_mem hsl))
    have hnx := wayV_next HC.out.1 hsl
    have hne0 : s ≠ 0 → ((L.getD s 0 : Nat) : Int) ≠ (c0 : Int) := fun h0 e => by
      have h1 : L.getD s 0 = L.getD 0 0 := by rw [HC.out.1.hd]; omega
      exact h0 (nodup_at HC.out.1.nd hsl HC.out.1.ne h1)
    rw [hwt]
    obtain ⟨t, ht⟩ : ∃ t, L.getD s 0 = t := ⟨_, rfl⟩
    rw [ht] at hmem hnx hne0 hwt ⊢
    have htn : t < n := by have := hmem.1; rw [HL.out] at this; exact this
    obtain ⟨bA, off, rfl, _⟩ := HS.out.1.seen.t3.2 (by omega)
    have hrd := HS.out.1.seen.t3.slice t htn
    have hnl := HS.out.2.2 _ (getD3_mem hmem.1)
    obtain ⟨x, hx⟩ : ∃ x, tl.getD t z3 = x := ⟨_, rfl⟩
    rw [hx] at hrd hnl
    have hv : v ∈ [x.1, x.2.1, x.2.2] := (cont_has x v).2 (by rw [← hx]; exact hmem.2)
    have KI := Lib.hid (indI_any w (some ⟨bA, off + t * 3, none⟩) 3 3 _ v hrd (by omega))
    have HX := Lib.hid (And.intro hx (And.intro hmem (And.intro hnx hv)))
    have m1 : (t : Int) < n := by omega
    have m2 : 0 ≤ (t : Int) := by omega
    clear hrd hx hmem hnx hv hnl ht hwt
    by_cases h0 : s = 0
    · have hz' : ((s : Int) == 0) = true := by simp; omega
      clear hne0
      go_wp2_with fail
      refine KI.out.mono ?_
      rintro e w1 ⟨kk, rfl, hk, rfl⟩
      obtain ⟨j, hj3, rfl, hjv⟩ : ∃ j : Nat, j < 3 ∧ kk = (j : Int) ∧ vx x j = v := by
        rcases hk with ⟨j, hj, h1, h2, _⟩ | ⟨_, h⟩
        · refine ⟨j, h1, hj, ?_⟩
          match j, h1 with
          | 0, _ => exact h2
          | 1, _ => exact h2
          | 2, _ => exact h2
        · exact absurd HX.out.2.2.2 h
      obtain ⟨j', hj'⟩ : ∃ j', (j + 2) % 3 = j' := ⟨_, rfl⟩
      have hj3' : j' < 3 := by omega
      have wa : IntKind.i64.wrap ((j : Int) + 2) = (j : Int) + 2 := IntWalk.i64_in _ (by omega)
      have pm : ((j : Int) + 2) % 3 = (j' : Int) := by omega
      have tm : ((j : Int) + 2).tmod 3 = (j' : Int) := by rw [Int.tmod_eq_emod_of_nonneg (by omega)]; exact pm
      have y0 := HS.out.2.1.cell (t * 3 + j') (by rw [halfI_len]; omega)
      have hz : (halfI (acr tl) (3 * n) (3 * n)).getD (t * 3 + j') 0 = wayV tl v L (s + 1) := by
        rw [halfI_at _ _ (by omega), ← HX.out.2.2.1, show t * 3 + j' = 3 * t + (j + 2) % 3 by omega, acr_next HS.out.2.2 HX.out.2.1.1 hj3, HX.out.1, hjv]
      rw [hz] at y0
      have m3 : (j' : Int) < 3 := by omega
      have m4 : 0 ≤ (j' : Int) := by omega
      clear hz hk hjv
      obtain ⟨z, hzz⟩ : ∃ z, wayV tl v L (s + 1) = z := ⟨_, rfl⟩
      rw [hzz] at y0
      have HZ := Lib.hid hzz
      clear hzz hj'
      go_wp2_with fail
      exact ⟨⟨rfl, s + 1, by omega, by first | go_num | (congr 1; omega), by rw [HZ.out]⟩, by simp [intOf]; omega⟩
    · have hz' : ((s : Int) == 0) = false := by simp; omega
      have hne1 := hne0 h0
      have hne2 : ((t : Int) == (c0 : Int)) = false := by simpa using hne1
      clear hne0
      go_wp2_with fail
      refine KI.out.mono ?_
      rintro e w1 ⟨kk, rfl, hk, rfl⟩
      obtain ⟨j, hj3, rfl, hjv⟩ : ∃ j : Nat, j < 3 ∧ kk = (j : Int) ∧ vx x j = v := by
        rcases hk with ⟨j, hj, h1, h2, _⟩ | ⟨_, h⟩
        · refine ⟨j, h1, hj, ?_⟩
          match j, h1 with
          | 0, _ => exact h2
          | 1, _ => exact h2
          | 2, _ => exact h2
        · exact absurd HX.out.2.2.2 h
      obtain ⟨j', hj'⟩ : ∃ j', (j + 2) % 3 = j' := ⟨_, rfl⟩
      have hj3' : j' < 3 := by omega
      have wa : IntKind.i64.wrap ((j : Int) + 2) = (j : Int) + 2 := IntWalk.i64_in _ (by omega)
      have pm : ((j : Int) + 2) % 3 = (j' : Int) := by omega
      have tm : ((j : Int) + 2).tmod 3 = (j' : Int) := by rw [Int.tmod_eq_emod_of_nonneg (by omega)]; exact pm
      have y0 := HS.out.2.1.cell (t * 3 + j') (by rw [halfI_len]; omega)
      have hz : (halfI (acr tl) (3 * n) (3 * n)).getD (t * 3 + j') 0 = wayV tl v L (s + 1) := by
        rw [halfI_at _ _ (by omega), ← HX.out.2.2.1, show t * 3 + j' = 3 * t + (j + 2) % 3 by omega, acr_next HS.out.2.2 HX.out.2.1.1 hj3, HX.out.1, hjv]
      rw [hz] at y0
      have m3 : (j' : Int) < 3 := by omega
      have m4 : 0 ≤ (j' : Int) := by omega
      clear hz hk hjv
      obtain ⟨z, hzz⟩ : ∃ z, wayV tl v L (s + 1) = z := ⟨_, rfl⟩
      rw [hzz] at y0
      have HZ := Lib.hid hzz
      clear hzz hj'
      go_wp2_with fail
      exact ⟨⟨rfl, s + 1, by omega, by first | go_num | (congr 1; omega), by rw [HZ.out]⟩, by simp [intOf]; omega⟩
end Go.Proofs.Ytelbmjbjpgcdaaa
