/- Digits, base 256, the highest first: their number, and what changes it. -/
import Derived.Test.YtelbmjbjpgcdaaaBase
namespace Go.Proofs.Ytelbmjbjpgcdaaa

/-- The number of digits. -/
def val (l : List Nat) : Nat := l.foldl (fun a d => a * 256 + d) 0
/-- The n digits of v. -/
def digs : Nat → Nat → List Nat
  | 0, _ => []
  | n + 1, v => digs n (v / 256) ++ [v % 256]
/-- Digits they are. -/
def Dig (l : List Nat) : Prop := ∀ d ∈ l, d < 256

theorem val_nil : val [] = 0 := rfl
theorem foldl_val (l : List Nat) (a : Nat) : l.foldl (fun a d => a * 256 + d) a = a * 256 ^ l.length + val l := by
  induction l generalizing a with
  | nil => simp [val]
  | cons d l ih =>
    rw [List.foldl_cons, ih, List.length_cons]
    have : val (d :: l) = d * 256 ^ l.length + val l := by
      show l.foldl _ (0 * 256 + d) = _
      rw [ih]; simp
    rw [this, Nat.pow_succ, Nat.add_mul, Nat.mul_assoc, Nat.mul_comm 256, Nat.add_assoc]
theorem val_append (a b : List Nat) : val (a ++ b) = val a * 256 ^ b.length + val b := by
  show (a ++ b).foldl _ 0 = _
  rw [List.foldl_append, foldl_val]
  rfl
theorem val_cons (d : Nat) (l : List Nat) : val (d :: l) = d * 256 ^ l.length + val l := by
  have := val_append [d] l
  simpa [val] using this
theorem val_snoc (l : List Nat) (d : Nat) : val (l ++ [d]) = val l * 256 + d := by
  rw [val_append]; simp [val]
theorem pow_pos' (n : Nat) : 0 < 256 ^ n := Nat.pow_pos (by omega)
theorem val_lt (l : List Nat) (h : Dig l) : val l < 256 ^ l.length := by
  induction l with
  | nil => simp [val]
  | cons d l ih =>
    rw [val_cons, List.length_cons, Nat.pow_succ]
    have h1 := ih (fun x hx => h x (List.mem_cons_of_mem _ hx))
    have h2 := h d (List.mem_cons_self ..)
    have h3 : d * 256 ^ l.length ≤ 255 * 256 ^ l.length := Nat.mul_le_mul_right _ (by omega)
    omega
theorem length_digs (n v : Nat) : (digs n v).length = n := by
  induction n generalizing v with
  | zero => rfl
  | succ n ih => rw [digs, List.length_append, ih]; rfl
theorem dig_digs (n v : Nat) : Dig (digs n v) := by
  induction n generalizing v with
  | zero => intro d hd; cases hd
  | succ n ih =>
    intro d hd
    rcases List.mem_append.1 hd with hd | hd
    · exact ih _ d hd
    · rw [List.mem_singleton.1 hd]; exact Nat.mod_lt _ (by omega)
theorem val_digs (n v : Nat) (h : v < 256 ^ n) : val (digs n v) = v := by
  induction n generalizing v with
  | zero => simp at h; subst h; rfl
  | succ n ih =>
    rw [digs, val_snoc, ih (v / 256) (Nat.div_lt_of_lt_mul (by rw [Nat.mul_comm, ← Nat.pow_succ]; exact h))]
    omega
theorem digs_val (l : List Nat) (h : Dig l) : digs l.length (val l) = l := by
  have key : ∀ n (l : List Nat), l.length = n → Dig l → digs n (val l) = l := by
    intro n
    induction n with
    | zero => intro l hl _; rw [List.eq_nil_of_length_eq_zero hl]; rfl
    | succ n ih =>
      intro l hl h
      have hne : l ≠ [] := by intro e; rw [e] at hl; cases hl
      obtain ⟨a, d, rfl⟩ : ∃ a d, l = a ++ [d] := ⟨l.dropLast, l.getLast hne, (List.dropLast_concat_getLast hne).symm⟩
      have hd : d < 256 := h d (by simp)
      rw [digs, val_snoc, show (val a * 256 + d) / 256 = val a by omega, show (val a * 256 + d) % 256 = d by omega]
      rw [ih a (by simp at hl; exact hl) (fun x hx => h x (List.mem_append_left _ hx))]
  exact key _ l rfl h
theorem val_inj (a b : List Nat) (hl : a.length = b.length) (ha : Dig a) (hb : Dig b) (h : val a = val b) : a = b := by
  rw [← digs_val a ha, ← digs_val b hb, h, hl]
theorem val_set (l : List Nat) (i x : Nat) (hi : i < l.length) : val (l.set i x) + l.getD i 0 * 256 ^ (l.length - 1 - i) = val l + x * 256 ^ (l.length - 1 - i) := by
  induction l generalizing i with
  | nil => simp at hi
  | cons d l ih =>
    cases i with
    | zero =>
      rw [List.set_cons_zero, val_cons, val_cons]
      simp
      omega
    | succ i =>
      have := ih i (by simpa using hi)
      rw [List.set_cons_succ, val_cons, val_cons, List.length_set]
      have e : (d :: l).length - 1 - (i + 1) = l.length - 1 - i := by simp; omega
      rw [e, show (d :: l).getD (i + 1) 0 = l.getD i 0 by simp]
      omega
theorem dig_set (l : List Nat) (i x : Nat) (h : Dig l) (hx : x < 256) : Dig (l.set i x) := by
  intro d hd
  rcases List.mem_or_eq_of_mem_set hd with hd | rfl
  · exact h d hd
  · exact hx
theorem dig_at {l : List Nat} (h : Dig l) (i : Nat) : l.getD i 0 < 256 := by
  by_cases hi : i < l.length
  · have := h l[i] (List.getElem_mem hi)
    simpa [List.getElem?_eq_getElem hi] using this
  · simp [List.getElem?_eq_none (by omega : l.length ≤ i)]
theorem dig_append {a b : List Nat} (ha : Dig a) (hb : Dig b) : Dig (a ++ b) := fun d hd => by
  rcases List.mem_append.1 hd with h | h
  · exact ha d h
  · exact hb d h
theorem dig_take {a : List Nat} (ha : Dig a) (n : Nat) : Dig (a.take n) := fun d hd => ha d (List.mem_of_mem_take hd)
theorem dig_zeros (n : Nat) : Dig (List.replicate n 0) := fun d hd => by rw [List.eq_of_mem_replicate hd]; omega
theorem val_zeros (n : Nat) : val (List.replicate n 0) = 0 := by
  induction n with
  | zero => rfl
  | succ n ih => rw [List.replicate_succ, val_cons, ih]; simp
/-- The first m digits. -/
theorem val_take (l : List Nat) (m : Nat) (h : Dig l) : val (l.take m) = val l / 256 ^ (l.length - m) := by
  have h1 := val_append (l.take m) (l.drop m)
  rw [List.take_append_drop, List.length_drop] at h1
  have h2 := val_lt (l.drop m) (fun d hd => h d (List.mem_of_mem_drop hd))
  rw [List.length_drop] at h2
  rw [h1, Nat.mul_comm, Nat.mul_add_div (pow_pos' _), Nat.div_eq_of_lt h2, Nat.add_zero]
theorem digs_append_zeros (n v e : Nat) (h : v < 256 ^ n) : digs n v ++ List.replicate e 0 = digs (n + e) (v * 256 ^ e) := by
  have hlt : v * 256 ^ e < 256 ^ (n + e) := by rw [Nat.pow_add]; exact Nat.mul_lt_mul_of_pos_right h (pow_pos' e)
  apply val_inj
  · rw [List.length_append, length_digs, length_digs, List.length_replicate]
  · exact dig_append (dig_digs _ _) (dig_zeros _)
  · exact dig_digs _ _
  · rw [val_append, val_digs n v h, val_zeros, List.length_replicate, val_digs _ _ hlt]
    simp
/-- The first place at which two rows differ tells which number is less. -/
theorem val_cmp (p a b : List Nat) (x y : Nat) (hl : a.length = b.length) (ha : Dig a) (h : x < y) : val (p ++ x :: a) < val (p ++ y :: b) := by
  rw [val_append, val_append, val_cons, val_cons, List.length_cons, List.length_cons, hl]
  have h1 := val_lt a ha
  rw [hl] at h1
  have h2 : (x + 1) * 256 ^ b.length ≤ y * 256 ^ b.length := Nat.mul_le_mul_right _ h
  rw [Nat.add_mul] at h2
  omega
end Go.Proofs.Ytelbmjbjpgcdaaa
