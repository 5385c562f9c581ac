/- The document's answers for layer 3: Total, Check, Low, Count, Find and Bump of a list of counts. -/
import Derived.Test.YtjacjgchbpghiaaTabLow
import Derived.Test.YtjacjgchbpghiaaTabBump
import Derived.Test.YtjacjgchbpghiaaTabClone
namespace Go.Proofs.Ytjacjgchbpghiaa
open Go.RowKit

def SumAt (l : List Int) (n : Nat) (s i : Value) : Prop := ∃ k : Nat, k ≤ n ∧ i = .int .i64 (k : Int) ∧ s = .int .i64 (low l k)

set_option maxHeartbeats 1000000 in
theorem rtotal_any (w : World) (A : Option Addr) (n c : Nat) (l : List Int) (h : Reads w A n (ints l)) (hz : ∀ x ∈ l, 0 ≤ x) (hs : l.sum ≤ 1000000) (hn : n ≤ 1000000) :
    Calls Try.prog 26 #[.slice A n c] w fun e w' => e = .returned (.int .i64 l.sum) ∧ Reading w w' := by
  have HR := Lib.hid h
  have HL := Lib.hid h.len
  have HZ := Lib.hid hz
  have HS := Lib.hid hs
  clear h hz hs
  go_enter Try.func26, Try.ntmps26
  go_wp2_with fail
  go_loop [3, 4] (SumAt l n) (fun _ i => n - (intOf i).toNat)
  case atStart => exact ⟨0, Nat.zero_le _, rfl, by rw [low_zero]⟩
  case round =>
    obtain ⟨k, hk, rfl, rfl⟩ := hrel
    by_cases hlt : k < n
    · obtain ⟨ad, rfl, ck⟩ := HR.out.int k hlt
      have s1 := low_succ l k
      have b1 := low_nonneg HZ.out k
      have b2 := low_sum HZ.out (k + 1)
      have b3 := zero_at HZ.out k
      have b4 := HS.out
      rw [s1] at b2
      have HS1 := Lib.hid s1
      have hkn : (k : Int) < n := by omega
      clear s1
      generalize l.getD k 0 = y at *
      generalize low l k = t at *
      have e6 : IntKind.i64.wrap (t + y) = t + y := IntWalk.i64_in _ (by omega)
      go_wp2_with fail
      exact ⟨⟨k + 1, by omega, by go_num, by rw [HS1.out]⟩, by simp [intOf]; omega⟩
    · obtain rfl : k = n := by omega
      rw [low_all l k (by rw [HL.out]; exact Nat.le_refl _)]
      have hnl : ¬ (k : Int) < k := by omega
      go_wp2
      go_ret
      exact ⟨rfl, 0, rfl⟩

/-- P3.1 of the list l: the error f. -/
def Chk (l : List Int) (f : Int) : Prop :=
  (f = 1 ∧ (l.length = 0 ∨ 256 < l.length)) ∨ (f = 2 ∧ (0 < l.length ∧ l.length ≤ 256) ∧ ∃ j, j < l.length ∧ l.getD j 0 < 1) ∨
  (f = 7 ∧ (0 < l.length ∧ l.length ≤ 256) ∧ (∀ x ∈ l, 1 ≤ x) ∧ 65536 < l.sum) ∨ (f = 0 ∧ Ok l)
theorem chk_exists (l : List Int) : ∃ f, Chk l f := by
  by_cases h1 : l.length = 0 ∨ 256 < l.length
  · exact ⟨1, .inl ⟨rfl, h1⟩⟩
  by_cases h2 : ∃ j, j < l.length ∧ l.getD j 0 < 1
  · exact ⟨2, .inr (.inl ⟨rfl, by omega, h2⟩)⟩
  have h3 : ∀ x ∈ l, 1 ≤ x := one_of fun k hk => by
    by_cases hx : l.getD k 0 < 1
    · exact absurd ⟨k, hk, hx⟩ h2
    · omega
  by_cases h4 : 65536 < l.sum
  · exact ⟨7, .inr (.inr (.inl ⟨rfl, by omega, h3, h4⟩))⟩
  · exact ⟨0, .inr (.inr (.inr ⟨rfl, by omega, by omega, h3, by omega⟩))⟩
theorem Chk.arg {l : List Int} {f : Int} (h : Chk l f) (k : l.length = 0 ∨ 256 < l.length) : f = 1 := by
  rcases h with h | h | h | ⟨h, h2⟩
  · exact h.1
  · omega
  · omega
  · have := h2.pos; have := h2.few; omega
theorem Chk.range {l : List Int} {f : Int} (h : Chk l f) (k : 0 < l.length ∧ l.length ≤ 256) (j : Nat) (hj : j < l.length) (hx : l.getD j 0 < 1) : f = 2 := by
  rcases h with h | h | h | ⟨h, h2⟩
  · omega
  · exact h.1
  · have := one_at h.2.2.1 j hj; omega
  · have := one_at h2.one j hj; omega
theorem Chk.full {l : List Int} {f : Int} (h : Chk l f) (k : 0 < l.length ∧ l.length ≤ 256) (h1 : ∀ x ∈ l, 1 ≤ x) (hx : 65536 < l.sum) : f = 7 := by
  rcases h with h | ⟨h, _, j, hj, hx⟩ | h | ⟨h, h2⟩
  · omega
  · have := one_at h1 j hj; omega
  · exact h.1
  · have := h2.total; omega
theorem Chk.ok {l : List Int} {f : Int} (h : Chk l f) (k : Ok l) : f = 0 := by
  have := k.pos; have := k.few; have := k.total
  rcases h with h | ⟨h, _, j, hj, hx⟩ | h | ⟨h, h2⟩
  · omega
  · have := one_at k.one j hj; omega
  · omega
  · exact h

def CheckAt (l : List Int) (n : Nat) (s f i : Value) : Prop :=
  ∃ (k : Nat) (t : Int) (b : Bool), k ≤ n ∧ i = .int .i64 (k : Int) ∧ s = .int .i64 t ∧ f = .bool b ∧ 0 ≤ t ∧ t ≤ 65536 ∧ Hid ((∀ j, j < k → 1 ≤ l.getD j 0) ∧ (b = false → t = low l k) ∧ (b = true → 65536 < low l k))

set_option maxHeartbeats 2000000 in
theorem rcheck_any (w : World) (A : Option Addr) (n c : Nat) (l : List Int) (f : Int) (h : Reads w A n (ints l)) (hf : Chk l f) :
    Calls Try.prog 13 #[.slice A n c] w fun e w' => e = .returned (.int .i64 f) ∧ Reading w w' := by
  have hl := h.len
  by_cases h1 : n < 1
  · obtain rfl := hf.arg (by omega)
    have e1 : (n : Int) < 1 := by omega
    clear hf h hl
    go_enter Try.func13, Try.ntmps13
    go_wp2
    go_ret
    exact ⟨rfl, 0, rfl⟩
  by_cases h2 : 256 < n
  · obtain rfl := hf.arg (by omega)
    have e1 : ¬ (n : Int) < 1 := by omega
    have e2 : (256 : Int) < n := by omega
    clear hf h hl
    go_enter Try.func13, Try.ntmps13
    go_wp2
    go_ret
    exact ⟨rfl, 0, rfl⟩
  have e1 : ¬ (n : Int) < 1 := by omega
  have e2 : ¬ (256 : Int) < n := by omega
  have HR := Lib.hid h
  have HL := Lib.hid hl
  have HF := Lib.hid hf
  clear h hl hf
  go_enter Try.func13, Try.ntmps13
  go_wp2_with fail
  go_loop [3, 4, 5] (CheckAt l n) (fun _ _ i => n - (intOf i).toNat)
  case atStart => exact ⟨0, 0, false, Nat.zero_le _, rfl, rfl, rfl, by omega, by omega, Lib.hid ⟨fun j hj => absurd hj (by omega), fun _ => by rw [low_zero], fun e => by cases e⟩⟩
  case round =>
    obtain ⟨k, t, b, hk, rfl, rfl, rfl, ht0, ht, H⟩ := hrel
    by_cases hlt : k < n
    · obtain ⟨ad, rfl, ck⟩ := HR.out.int k hlt
      have hkn : (k : Int) < n := by omega
      obtain ⟨y, hy⟩ : ∃ y, l.getD k 0 = y := ⟨_, rfl⟩
      rw [hy] at ck
      have HY := Lib.hid hy
      have s1 := low_succ l k
      rw [hy] at s1
      have HS1 := Lib.hid s1
      clear hy s1
      by_cases hy1 : y < 1
      · obtain rfl := HF.out.range (by rw [HL.out]; omega) k (by rw [HL.out]; exact hlt) (by rw [HY.out]; exact hy1)
        go_wp2
        go_ret
        exact ⟨rfl, 0, rfl⟩
      · have e5 : IntKind.i64.wrap (65536 - t) = 65536 - t := IntWalk.i64_in _ (by omega)
        by_cases hfull : 65536 - t < y
        · go_wp2_with fail
          refine ⟨⟨k + 1, t, true, by omega, by go_num, rfl, rfl, ht0, ht, Lib.hid ⟨fun j hj => ?_, fun e => (nomatch e), fun _ => ?_⟩⟩, by simp [intOf]; omega⟩
          · by_cases hjk : j = k
            · rw [hjk, HY.out]; omega
            · exact H.out.1 j (by omega)
          · rw [HS1.out]
            cases b with
            | false => have := H.out.2.1 rfl; omega
            | true => have := H.out.2.2 rfl; omega
        · have e6 : IntKind.i64.wrap (t + y) = t + y := IntWalk.i64_in _ (by omega)
          go_wp2_with fail
          refine ⟨⟨k + 1, t + y, b, by omega, by go_num, rfl, rfl, by omega, by omega, Lib.hid ⟨fun j hj => ?_, fun e => ?_, fun e => ?_⟩⟩, by simp [intOf]; omega⟩
          · by_cases hjk : j = k
            · rw [hjk, HY.out]; omega
            · exact H.out.1 j (by omega)
          · rw [HS1.out]; have := H.out.2.1 e; omega
          · rw [HS1.out]; have := H.out.2.2 e; omega
    · obtain rfl : k = n := by omega
      have H1 := Lib.hid (show ∀ x ∈ l, 1 ≤ x from one_of fun j hj => H.out.1 j (by rw [HL.out] at hj; exact hj))
      have H2 := H.out.2
      rw [low_all l k (by rw [HL.out]; exact Nat.le_refl _)] at H2
      have hnl : ¬ (k : Int) < k := by omega
      cases b with
      | false =>
        obtain rfl := HF.out.ok ⟨by rw [HL.out]; omega, by rw [HL.out]; omega, H1.out, by have := H2.1 rfl; omega⟩
        clear H2
        go_wp2
        go_ret
        exact ⟨rfl, 0, rfl⟩
      | true =>
        obtain rfl := HF.out.full (by rw [HL.out]; omega) H1.out (H2.2 rfl)
        clear H2
        go_wp2
        go_ret
        exact ⟨rfl, 0, rfl⟩
end Go.Proofs.Ytjacjgchbpghiaa
