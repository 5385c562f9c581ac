/- Plain facts on bits and bytes, continued: a byte form spells its bits, and which bytes are one. -/
import Derived.Test.YtdlblpmjghjhlaaPlain
namespace Go.Proofs.Ytdlblpmjghjhlaa

theorem byte_free (bs : List Bool) : byteAt bs (bs.length / 8) % 2 ^ (8 - bs.length % 8) = 0 := by
  have hlen : bs.length = 8 * (bs.length / 8) + bs.length % 8 := by omega
  have hu : bs.length % 8 < 8 := by omega
  generalize hk : bs.length / 8 = k at *
  generalize hq : bs.length % 8 = u at *
  simp only [byteAt_eq]
  have z : ∀ i, bs.length ≤ i → bs.getD i false = false := getD_over bs
  rcases (by omega : u = 0 ∨ u = 1 ∨ u = 2 ∨ u = 3 ∨ u = 4 ∨ u = 5 ∨ u = 6 ∨ u = 7) with h | h | h | h | h | h | h | h
  · rw [z (8 * k) (by omega), z (8 * k + 1) (by omega), z (8 * k + 2) (by omega), z (8 * k + 3) (by omega), z (8 * k + 4) (by omega), z (8 * k + 5) (by omega), z (8 * k + 6) (by omega), z (8 * k + 7) (by omega), h]; simp
  · rw [z (8 * k + 1) (by omega), z (8 * k + 2) (by omega), z (8 * k + 3) (by omega), z (8 * k + 4) (by omega), z (8 * k + 5) (by omega), z (8 * k + 6) (by omega), z (8 * k + 7) (by omega), h]; simp
  · rw [z (8 * k + 2) (by omega), z (8 * k + 3) (by omega), z (8 * k + 4) (by omega), z (8 * k + 5) (by omega), z (8 * k + 6) (by omega), z (8 * k + 7) (by omega), h]; simp; omega
  · rw [z (8 * k + 3) (by omega), z (8 * k + 4) (by omega), z (8 * k + 5) (by omega), z (8 * k + 6) (by omega), z (8 * k + 7) (by omega), h]; simp; omega
  · rw [z (8 * k + 4) (by omega), z (8 * k + 5) (by omega), z (8 * k + 6) (by omega), z (8 * k + 7) (by omega), h]; simp; omega
  · rw [z (8 * k + 5) (by omega), z (8 * k + 6) (by omega), z (8 * k + 7) (by omega), h]; simp; omega
  · rw [z (8 * k + 6) (by omega), z (8 * k + 7) (by omega), h]; simp; omega
  · rw [z (8 * k + 7) (by omega), h]; simp; omega

theorem shift_out (x u : Nat) (hu : u < 8) : x * 2 ^ u % 256 = 0 ↔ x % 2 ^ (8 - u) = 0 := by
  rcases (by omega : u = 0 ∨ u = 1 ∨ u = 2 ∨ u = 3 ∨ u = 4 ∨ u = 5 ∨ u = 6 ∨ u = 7) with h | h | h | h | h | h | h | h <;> subst h <;> simp <;> omega

/-- The bit that has i bits before it, out of its byte. -/
theorem bit_of_byte (bs : List Bool) (i : Nat) : byteAt bs (i / 8) / 2 ^ (7 - i % 8) % 2 = (bs.getD i false).toNat := by
  have hi : i = 8 * (i / 8) + i % 8 := by omega
  have hu : i % 8 < 8 := by omega
  generalize hk : i / 8 = k at *
  generalize hq : i % 8 = u at *
  subst hi
  rw [byteAt_eq]
  have h0 := bit_le (bs.getD (8 * k) false); have h1 := bit_le (bs.getD (8 * k + 1) false); have h2 := bit_le (bs.getD (8 * k + 2) false); have h3 := bit_le (bs.getD (8 * k + 3) false)
  have h4 := bit_le (bs.getD (8 * k + 4) false); have h5 := bit_le (bs.getD (8 * k + 5) false); have h6 := bit_le (bs.getD (8 * k + 6) false); have h7 := bit_le (bs.getD (8 * k + 7) false)
  rcases (by omega : u = 0 ∨ u = 1 ∨ u = 2 ∨ u = 3 ∨ u = 4 ∨ u = 5 ∨ u = 6 ∨ u = 7) with h | h | h | h | h | h | h | h <;> subst h <;> simp [-List.getD_eq_getElem?_getD] <;> omega

/-- The first m bits of bytes. -/
def unpack (xs : List Nat) (m : Nat) : List Bool := (List.range m).map fun i => (xs.getD (i / 8) 0).testBit (7 - i % 8)
theorem length_unpack (xs : List Nat) (m : Nat) : (unpack xs m).length = m := by simp [unpack]
theorem getD_unpack (xs : List Nat) (m i : Nat) : (unpack xs m).getD i false = if i < m then (xs.getD (i / 8) 0).testBit (7 - i % 8) else false := by
  simp only [unpack, List.getD_eq_getElem?_getD, List.getElem?_map]
  by_cases h : i < m
  · simp [h]
  · rw [if_neg h, List.getElem?_eq_none (by simp; omega)]; rfl

theorem byte_unpack (xs : List Nat) (m k : Nat) (hx : xs.getD k 0 < 256) (h : 8 * k + 8 ≤ m ∨ (8 * k < m ∧ k = m / 8 ∧ xs.getD k 0 % 2 ^ (8 - m % 8) = 0)) : byteAt (unpack xs m) k = xs.getD k 0 := by
  rw [byteAt_eq]
  simp only [getD_unpack]
  rw [show (8 * k) / 8 = k by omega, show (8 * k + 1) / 8 = k by omega, show (8 * k + 2) / 8 = k by omega, show (8 * k + 3) / 8 = k by omega, show (8 * k + 4) / 8 = k by omega, show (8 * k + 5) / 8 = k by omega, show (8 * k + 6) / 8 = k by omega, show (8 * k + 7) / 8 = k by omega,
    show (8 * k) % 8 = 0 by omega, show (8 * k + 1) % 8 = 1 by omega, show (8 * k + 2) % 8 = 2 by omega, show (8 * k + 3) % 8 = 3 by omega, show (8 * k + 4) % 8 = 4 by omega, show (8 * k + 5) % 8 = 5 by omega, show (8 * k + 6) % 8 = 6 by omega, show (8 * k + 7) % 8 = 7 by omega]
  generalize xs.getD k 0 = x at *
  rcases h with h | ⟨h0, h1, h2⟩
  · rw [if_pos (by omega), if_pos (by omega), if_pos (by omega), if_pos (by omega), if_pos (by omega), if_pos (by omega), if_pos (by omega), if_pos (by omega)]
    simp only [Nat.toNat_testBit]
    simp; omega
  · have hu : m % 8 < 8 := by omega
    generalize hq : m % 8 = u at *
    have hm : m = 8 * k + u := by omega
    subst hm
    rcases (by omega : u = 1 ∨ u = 2 ∨ u = 3 ∨ u = 4 ∨ u = 5 ∨ u = 6 ∨ u = 7) with h | h | h | h | h | h | h <;> subst h <;> simp [Nat.toNat_testBit] at h2 ⊢ <;> omega

theorem pack_unpack (xs : List Nat) (m : Nat) (hx : ∀ x ∈ xs, x < 256) (hl : xs.length = (m + 7) / 8) (h : m % 8 = 0 ∨ xs.getD (m / 8) 0 * 2 ^ (m % 8) % 256 = 0) : pack (unpack xs m) = xs := by
  apply List.ext_getElem?
  intro k
  rw [getElem_pack, length_unpack]
  by_cases hk : k < (m + 7) / 8
  · rw [if_pos hk]
    have hd : xs.getD k 0 < 256 := by
      rw [List.getD_eq_getElem?_getD, List.getElem?_eq_getElem (by omega)]
      exact hx _ (List.getElem_mem _)
    rw [byte_unpack xs m k hd (by
      by_cases h8 : 8 * k + 8 ≤ m
      · exact .inl h8
      · have e : k = m / 8 := by omega
        refine .inr ⟨by omega, e, ?_⟩
        rcases h with h | h
        · omega
        · rw [← e] at h; exact (shift_out _ _ (by omega)).1 h)]
    rw [List.getD_eq_getElem?_getD, List.getElem?_eq_getElem (by omega)]; rfl
  · rw [if_neg hk, List.getElem?_eq_none (by omega)]

theorem num_snoc (l : List Bool) (b : Bool) : num (l ++ [b]) = 2 * num l + b.toNat := by simp [num]
theorem num_from (l : List Bool) (a : Nat) : l.foldl (fun a b => 2 * a + b.toNat) a = a * 2 ^ l.length + num l := by
  induction l generalizing a with
  | nil => simp [num]
  | cons b l ih =>
    rw [num, List.foldl_cons, List.foldl_cons, ih, ih, List.length_cons, Nat.pow_succ]
    have : (2 * a + b.toNat) * 2 ^ l.length = a * (2 ^ l.length * 2) + (2 * 0 + b.toNat) * 2 ^ l.length := by
      rw [Nat.add_mul, Nat.mul_comm 2 a, Nat.mul_assoc, Nat.mul_comm 2 (2 ^ l.length)]; simp
    omega
theorem num_cons (b : Bool) (l : List Bool) : num (b :: l) = b.toNat * 2 ^ l.length + num l := by
  rw [num, List.foldl_cons, num_from]; simp
theorem num_append (l m : List Bool) : num (l ++ m) = num l * 2 ^ m.length + num m := by
  rw [num, List.foldl_append, num_from]; rfl
theorem num_lt (l : List Bool) : num l < 2 ^ l.length := by
  induction l with
  | nil => simp [num]
  | cons b l ih =>
    rw [num_cons, List.length_cons, Nat.pow_succ]
    have := bit_le b
    have h : b.toNat * 2 ^ l.length ≤ 1 * 2 ^ l.length := Nat.mul_le_mul_right _ this
    omega
/-- The bits of a value spell it. -/
theorem num_bitsOf (v n : Nat) : num (bitsOf v n) = v % 2 ^ n := by
  induction n with
  | zero => simp [bitsOf, num, Nat.mod_one]
  | succ n ih =>
    have e : bitsOf v (n + 1) = v.testBit n :: bitsOf v n := by
      unfold bitsOf
      rw [List.range_succ_eq_map, List.map_cons, List.map_map]
      congr 1
      apply List.map_congr_left
      intro i _
      simp only [Function.comp]
      congr 1
      omega
    rw [e, num_cons, ih, Nat.toNat_testBit]
    have hl : (bitsOf v n).length = n := by simp [bitsOf]
    rw [hl, Nat.mod_pow_succ]
    rw [Nat.mul_comm]; omega
end Go.Proofs.Ytdlblpmjghjhlaa
