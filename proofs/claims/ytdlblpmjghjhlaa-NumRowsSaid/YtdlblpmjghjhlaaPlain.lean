/- Plain facts on bits and bytes: no program in sight. -/
import Derived.Test.YtdlblpmjghjhlaaMem
namespace Go.Proofs.Ytdlblpmjghjhlaa

theorem getD_snoc (bs : List Bool) (b : Bool) (i : Nat) : (bs ++ [b]).getD i false = if i < bs.length then bs.getD i false else if i = bs.length then b else false := by
  simp only [List.getD_eq_getElem?_getD, List.getElem?_append]
  split
  · rfl
  · split
    · subst_vars; simp
    · rw [List.getElem?_eq_none (by simp; omega)]; rfl
theorem getD_over (bs : List Bool) (i : Nat) (h : bs.length ≤ i) : bs.getD i false = false := by
  simp [List.getD_eq_getElem?_getD, List.getElem?_eq_none h]

theorem byteAt_eq (bs : List Bool) (k : Nat) : byteAt bs k = 128 * (bs.getD (8 * k) false).toNat + 64 * (bs.getD (8 * k + 1) false).toNat + 32 * (bs.getD (8 * k + 2) false).toNat + 16 * (bs.getD (8 * k + 3) false).toNat
    + 8 * (bs.getD (8 * k + 4) false).toNat + 4 * (bs.getD (8 * k + 5) false).toNat + 2 * (bs.getD (8 * k + 6) false).toNat + (bs.getD (8 * k + 7) false).toNat := by
  show num [bs.getD (8 * k) false, bs.getD (8 * k + 1) false, bs.getD (8 * k + 2) false, bs.getD (8 * k + 3) false, bs.getD (8 * k + 4) false, bs.getD (8 * k + 5) false, bs.getD (8 * k + 6) false, bs.getD (8 * k + 7) false] = _
  simp only [num, List.foldl_cons, List.foldl_nil]
  omega
theorem bit_le (b : Bool) : b.toNat ≤ 1 := by cases b <;> simp
theorem byteAt_lt (bs : List Bool) (k : Nat) : byteAt bs k < 256 := by
  rw [byteAt_eq]
  have h0 := bit_le (bs.getD (8 * k) false); have h1 := bit_le (bs.getD (8 * k + 1) false); have h2 := bit_le (bs.getD (8 * k + 2) false); have h3 := bit_le (bs.getD (8 * k + 3) false)
  have h4 := bit_le (bs.getD (8 * k + 4) false); have h5 := bit_le (bs.getD (8 * k + 5) false); have h6 := bit_le (bs.getD (8 * k + 6) false); have h7 := bit_le (bs.getD (8 * k + 7) false)
  omega
theorem getD_pack (bs : List Bool) (k : Nat) (h : k < (bs.length + 7) / 8) : (pack bs)[k]? = some (byteAt bs k) := by
  simp [pack, h]
theorem pack_lt (bs : List Bool) : ∀ x ∈ pack bs, x < 256 := by
  intro x hx
  simp only [pack, List.mem_map] at hx
  obtain ⟨k, _, rfl⟩ := hx
  exact byteAt_lt _ _

theorem byte_low (bs : List Bool) (b : Bool) (k : Nat) (h : 8 * k + 8 ≤ bs.length) : byteAt (bs ++ [b]) k = byteAt bs k := by
  simp only [byteAt_eq, getD_snoc]
  rw [if_pos (by omega), if_pos (by omega), if_pos (by omega), if_pos (by omega), if_pos (by omega), if_pos (by omega), if_pos (by omega), if_pos (by omega)]

theorem byte_last (bs : List Bool) (b : Bool) : byteAt (bs ++ [b]) (bs.length / 8) = byteAt bs (bs.length / 8) ||| b.toNat * 2 ^ (7 - bs.length % 8) := by
  have hb := bit_le b
  have hlen : bs.length = 8 * (bs.length / 8) + bs.length % 8 := by omega
  have hu : bs.length % 8 < 8 := by omega
  generalize hk : bs.length / 8 = k at *
  generalize hq : bs.length % 8 = u at *
  have key : byteAt bs k % 2 ^ (8 - u) = 0 ∧ byteAt (bs ++ [b]) k = byteAt bs k + b.toNat * 2 ^ (7 - u) := by
    simp only [byteAt_eq, getD_snoc]
    have z : ∀ i, bs.length ≤ i → bs.getD i false = false := getD_over bs
    rcases (by omega : u = 0 ∨ u = 1 ∨ u = 2 ∨ u = 3 ∨ u = 4 ∨ u = 5 ∨ u = 6 ∨ u = 7) with h | h | h | h | h | h | h | h
    · rw [z (8 * k) (by omega), z (8 * k + 1) (by omega), z (8 * k + 2) (by omega), z (8 * k + 3) (by omega), z (8 * k + 4) (by omega), z (8 * k + 5) (by omega), z (8 * k + 6) (by omega), z (8 * k + 7) (by omega)]
      rw [h, hlen, h]; simp; try omega
    · rw [z (8 * k + 1) (by omega), z (8 * k + 2) (by omega), z (8 * k + 3) (by omega), z (8 * k + 4) (by omega), z (8 * k + 5) (by omega), z (8 * k + 6) (by omega), z (8 * k + 7) (by omega)]
      rw [h, hlen, h]; simp; try omega
    · rw [z (8 * k + 2) (by omega), z (8 * k + 3) (by omega), z (8 * k + 4) (by omega), z (8 * k + 5) (by omega), z (8 * k + 6) (by omega), z (8 * k + 7) (by omega)]
      rw [h, hlen, h]; simp; try omega
    · rw [z (8 * k + 3) (by omega), z (8 * k + 4) (by omega), z (8 * k + 5) (by omega), z (8 * k + 6) (by omega), z (8 * k + 7) (by omega)]
      rw [h, hlen, h]; simp; try omega
    · rw [z (8 * k + 4) (by omega), z (8 * k + 5) (by omega), z (8 * k + 6) (by omega), z (8 * k + 7) (by omega)]
      rw [h, hlen, h]; simp; try omega
    · rw [z (8 * k + 5) (by omega), z (8 * k + 6) (by omega), z (8 * k + 7) (by omega)]
      rw [h, hlen, h]; simp; try omega
    · rw [z (8 * k + 6) (by omega), z (8 * k + 7) (by omega)]
      rw [h, hlen, h]; simp; try omega
    · rw [z (8 * k + 7) (by omega)]
      rw [h, hlen, h]; simp; try omega
  rw [key.2, nat_join (8 - u) _ _ key.1]
  have h8 : 8 - u = (7 - u) + 1 := by omega
  rw [h8, Nat.pow_succ]
  have hp : 0 < 2 ^ (7 - u) := Nat.two_pow_pos _
  cases b
  · simp; exact hp
  · simp; omega

theorem byteAt_over (bs : List Bool) (k : Nat) (h : bs.length ≤ 8 * k) : byteAt bs k = 0 := by
  simp only [byteAt_eq]
  rw [getD_over bs (8 * k) (by omega), getD_over bs (8 * k + 1) (by omega), getD_over bs (8 * k + 2) (by omega), getD_over bs (8 * k + 3) (by omega), getD_over bs (8 * k + 4) (by omega), getD_over bs (8 * k + 5) (by omega), getD_over bs (8 * k + 6) (by omega), getD_over bs (8 * k + 7) (by omega)]
  rfl
theorem getElem_pack (bs : List Bool) (k : Nat) : (pack bs)[k]? = if k < (bs.length + 7) / 8 then some (byteAt bs k) else none := by
  split
  · exact getD_pack bs k ‹_›
  · exact List.getElem?_eq_none (by rw [length_pack]; omega)
theorem pack_snoc_none (bs : List Bool) (b : Bool) (h : bs.length % 8 = 0) : pack (bs ++ [b]) = pack bs ++ [0 ||| b.toNat * 2 ^ (7 - bs.length % 8)] := by
  apply List.ext_getElem?
  intro k
  rw [getElem_pack, List.getElem?_append, length_pack, getElem_pack]
  simp only [List.length_append, List.length_singleton]
  by_cases h1 : k < (bs.length + 7) / 8
  · rw [if_pos (by omega), if_pos h1, if_pos h1, byte_low _ _ _ (by omega)]
  · rw [if_neg h1]
    by_cases h2 : k = (bs.length + 7) / 8
    · have h3 : k = bs.length / 8 := by omega
      rw [if_pos (by omega), h3, byte_last, byteAt_over _ _ (by omega), show bs.length / 8 - (bs.length + 7) / 8 = 0 by omega]; rfl
    · rw [if_neg (by omega), List.getElem?_eq_none (by simp; omega)]
theorem pack_snoc_some (bs : List Bool) (b : Bool) (h : bs.length % 8 ≠ 0) : pack (bs ++ [b]) = (pack bs).set (bs.length / 8) (byteAt bs (bs.length / 8) ||| b.toNat * 2 ^ (7 - bs.length % 8)) := by
  apply List.ext_getElem?
  intro k
  rw [getElem_pack, List.getElem?_set, length_pack, getElem_pack]
  simp only [List.length_append, List.length_singleton]
  by_cases h1 : bs.length / 8 = k
  · rw [if_pos h1, if_pos (by omega), if_pos (by omega), ← h1, byte_last]
  · rw [if_neg h1]
    by_cases h2 : k < (bs.length + 7) / 8
    · rw [if_pos (by omega), if_pos h2, byte_low _ _ _ (by omega)]
    · rw [if_neg (by omega), if_neg h2]
end Go.Proofs.Ytdlblpmjghjhlaa
