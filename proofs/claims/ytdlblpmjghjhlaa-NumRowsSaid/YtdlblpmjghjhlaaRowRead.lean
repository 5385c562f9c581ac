/- A code that stands next is read: gamma codes and fixed-width codes in a row. -/
import Derived.Test.YtdlblpmjghjhlaaNumGet
import Derived.Test.YtdlblpmjghjhlaaPrefixFree
namespace Go.Proofs.Ytdlblpmjghjhlaa
open Go.RowKit

theorem getD_next {bs l : List Bool} {k : Nat} (hd : bs.drop k = l) (j : Nat) : bs.getD (k + j) false = l.getD j false := by
  rw [← hd, List.getD_eq_getElem?_getD, List.getD_eq_getElem?_getD, List.getElem?_drop]
theorem length_next {bs l : List Bool} {k : Nat} (hd : bs.drop k = l) (hk : k ≤ bs.length) : bs.length = k + l.length := by
  rw [← hd, List.length_drop]; omega

theorem nget_row (w : World) (r p : Nat) (bs rest : List Bool) (k n : Nat) (h : RIs w r p bs k) (hn : n ≤ 4294967296) (hd : bs.drop k = gamma n ++ rest) :
    Calls Try.prog 19 #[.pointer (some ⟨r, 0, none⟩)] w fun e w' => e = .returned (.tuple #[.int .u64 (n : Int), .int .i64 0]) ∧ RIs w' r p bs (k + (gamma n).length) ∧ w.grownBy w' (some r) := by
  obtain ⟨z, h1, h2, h3⟩ := digits_step n
  have hz : z ≤ 32 := by have := gamma_small n hn; omega
  have hg := gamma_bits n z h1
  have hl := length_next hd h.le
  rw [List.length_append, hg] at hl
  have f0 : ∀ j, j < z → bs.getD (k + j) false = false := fun j hj => by
    rw [getD_next hd, List.getD_eq_getElem?_getD, List.getElem?_append_left (by omega), gamma_zeros n z j h1 hj]; rfl
  have f1 : bs.getD (k + z) false = true := by
    rw [getD_next hd, List.getD_eq_getElem?_getD, List.getElem?_append_left (by omega), gamma_lead n z h1]; rfl
  have ht : told bs k z = n := by
    have e : (bs.drop (k + z + 1)).take z = bitsOf (n + 1) z := by
      rw [show k + z + 1 = k + (z + 1) by omega, ← List.drop_drop, hd, gamma_eq n z h1]
      have hx : (List.replicate z false ++ true :: bitsOf (n + 1) z ++ rest) = (List.replicate z false ++ [true]) ++ (bitsOf (n + 1) z ++ rest) := by simp
      rw [hx, List.drop_left' (by simp), List.take_left' (length_bitsOf _ _)]
    unfold told
    rw [e]
    have := gamma_back n z h1
    omega
  have := nget_ok w r p bs k h z hz (by omega) f0 f1 (by omega)
  rwa [ht, ← hg] at this

theorem unfixed_row (w : World) (r p : Nat) (bs rest : List Bool) (k v : Nat) (b : Int) (h : RIs w r p bs k) (hb : 1 ≤ b) (hb2 : b < 9223372036854775808) (hv : (v : Int) < b) (hd : bs.drop k = bitsOf v (wide b) ++ rest) :
    Calls Try.prog 26 #[.pointer (some ⟨r, 0, none⟩), .int .i64 b] w fun e w' => e = .returned (.tuple #[.int .i64 (v : Int), .int .i64 0]) ∧ RIs w' r p bs (k + wide b) ∧ w.grownBy w' (some r) := by
  have hl := length_next hd h.le
  rw [List.length_append, length_bitsOf] at hl
  have hlt := wide_lt b v hv (by omega)
  have e : num ((bs.drop k).take (wide b)) = v := by
    rw [hd, List.take_left' (length_bitsOf _ _), num_bitsOf]
    exact Nat.mod_eq_of_lt (by simpa using hlt)
  have := unfixed_ok w r p bs k b h hb hb2 (by omega) (by rw [e]; exact hv)
  rwa [e] at this

/-- The code of one number of a row: fixed-width by a bound, or the gamma code where there is none. -/
def code (n b : Nat) : List Bool := if 0 < b then bitsOf (n % b) (wide b) else gamma n
/-- The codes of the first k numbers. -/
def row (ns bl : List Nat) (k : Nat) : List Bool := (List.range k).flatMap fun i => code (ns.getD i 0) (bl.getD i 0)
theorem row_succ (ns bl : List Nat) (k : Nat) : row ns bl (k + 1) = row ns bl k ++ code (ns.getD k 0) (bl.getD k 0) := by simp [row, List.range_succ]
theorem length_code (n b : Nat) (hn : n ≤ 4294967295) (hb : b ≤ 65535) : (code n b).length ≤ 65 := by
  unfold code
  split
  · rw [length_bitsOf]; have := wide_le b (by omega); omega
  · rw [length_gamma]; have := gamma_small n (by omega); omega
theorem row_next (ns bl : List Nat) (k : Nat) : ∀ m, k < m → ∃ rest, row ns bl m = row ns bl k ++ (code (ns.getD k 0) (bl.getD k 0) ++ rest)
  | 0, h => absurd h (by omega)
  | m + 1, h => by
    by_cases e : k = m
    · subst e; exact ⟨[], by rw [row_succ]; simp⟩
    · obtain ⟨rest, hr⟩ := row_next ns bl k m (by omega)
      exact ⟨rest ++ code (ns.getD m 0) (bl.getD m 0), by rw [row_succ, hr]; simp⟩
theorem drop_row (ns bl : List Nat) (k m : Nat) (h : k < m) : ∃ rest, (row ns bl m).drop (row ns bl k).length = code (ns.getD k 0) (bl.getD k 0) ++ rest := by
  obtain ⟨rest, hr⟩ := row_next ns bl k m h
  exact ⟨rest, by rw [hr, List.drop_left]⟩
theorem length_row (ns bl : List Nat) (hn : ∀ i, ns.getD i 0 ≤ 4294967295) (hb : ∀ i, bl.getD i 0 ≤ 65535) : ∀ k, (row ns bl k).length ≤ 65 * k
  | 0 => by simp [row]
  | k + 1 => by
    have := length_row ns bl hn hb k
    have := length_code (ns.getD k 0) (bl.getD k 0) (hn k) (hb k)
    rw [row_succ, List.length_append]; omega
theorem getD_le (xs : List Nat) (m : Nat) (h : ∀ x ∈ xs, x ≤ m) (i : Nat) : xs.getD i 0 ≤ m := by
  by_cases hi : i < xs.length
  · rw [List.getD_eq_getElem?_getD, List.getElem?_eq_getElem hi]; exact h _ (List.getElem_mem hi)
  · rw [List.getD_eq_getElem?_getD, List.getElem?_eq_none (by omega)]; simp
end Go.Proofs.Ytdlblpmjghjhlaa
