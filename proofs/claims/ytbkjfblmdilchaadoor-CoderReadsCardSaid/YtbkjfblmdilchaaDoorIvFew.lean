/- What symbols cost (layer 4): of a table of 256 like counts at most a byte each, and one more. -/
import Derived.Test.YtbkjfblmdilchaaDoorIv
namespace Go.Proofs.YtbkjfblmdilchaaDoor

/-- Multiplying keeps the size, told at T digits; and it ends ahead of T. -/
theorem norm_pot (t : Nat) (x : Iv) (T : Nat) (hk : x.k ≤ T) (hp : 16777216 ≤ x.R * 256 ^ (T - x.k)) :
    (norm t x).k ≤ T ∧ (norm t x).R * 256 ^ (T - (norm t x).k) = x.R * 256 ^ (T - x.k) := by
  induction t generalizing x with
  | zero => exact ⟨hk, rfl⟩
  | succ t ih =>
    by_cases hr : x.R < 16777216
    · rw [norm, if_pos hr]
      have hlt : x.k < T := by
        rcases Nat.lt_or_ge x.k T with h | h
        · exact h
        · rw [show T - x.k = 0 by omega] at hp; omega
      have e : x.R * 256 * 256 ^ (T - (x.k + 1)) = x.R * 256 ^ (T - x.k) := by
        rw [Nat.mul_assoc, Nat.mul_comm 256, ← Nat.pow_succ, show (T - (x.k + 1)).succ = T - x.k by omega]
      have := ih ⟨x.k + 1, x.L * 256, x.R * 256⟩ (by show x.k + 1 ≤ T; omega) (by show _ ≤ x.R * 256 * 256 ^ (T - (x.k + 1)); rw [e]; exact hp)
      rw [show (⟨x.k + 1, x.L * 256, x.R * 256⟩ : Iv).R * 256 ^ (T - (⟨x.k + 1, x.L * 256, x.R * 256⟩ : Iv).k) = x.R * 256 ^ (T - x.k) from e] at this
      exact this
    · rw [norm, if_neg hr]
      exact ⟨hk, rfl⟩

/-- Behind t symbols that cost a byte each, all but. -/
def Few (x : Iv) (t : Nat) : Prop := x.k ≤ t ∧ 4294967296 * (327 - t) ≤ 327 * (x.R * 256 ^ (t - x.k))
theorem few_first : Few firstIv 0 := ⟨Nat.le_refl _, by decide⟩
theorem few_come {x : Iv} (hx : x.Good) {c : List Int} (h : Ok c) (s : Nat) (f : Nat) (hfs : cntN c s = f) (hl : tot c = 256 * f) (hf : f ≤ 200) (t : Nat) (ht : t ≤ 60) (hfew : Few x t) : Few (come x c s) (t + 1) := by
  obtain ⟨hk, hp⟩ := hfew
  have hn := tot_bd h
  have hR1 : f * (x.R / tot c) ≤ (part x (tot c) (lowN c s) (cntN c s) (decide (s + 1 = c.length))).R := by
    unfold part
    by_cases hlast : s + 1 = c.length
    · simp only [hlast, decide_true, if_true]
      have e5 := lowN_succ h s
      rw [lowN_all (s + 1) hlast, hfs] at e5
      have e2 := Nat.mul_div_le x.R (tot c)
      have e6 : tot c * (x.R / tot c) = lowN c s * (x.R / tot c) + f * (x.R / tot c) := by
        rw [← Nat.add_mul, ← e5]
      omega
    · simp only [hlast, decide_false, Bool.false_eq_true, if_false]
      rw [hfs]
      exact Nat.le_refl _
  have hlo := hx.lo
  have hlo2 : x.R < 256 * (f * (x.R / tot c)) + 256 * f := by
    have h1 := Nat.div_add_mod x.R (tot c)
    have h2 := Nat.mod_lt x.R hn.1
    rw [hl] at h1
    rw [hl] at h2 ⊢
    rw [Nat.mul_assoc] at h1
    omega
  unfold come
  generalize hy : part x (tot c) (lowN c s) (cntN c s) (decide (s + 1 = c.length)) = y at *
  have hyk : y.k = x.k := by rw [← hy]; rfl
  generalize f * (x.R / tot c) = u at *
  have e0 : y.R * 256 ^ (t + 1 - y.k) = (256 * y.R) * 256 ^ (t - x.k) := by
    rw [hyk, show t + 1 - x.k = (t - x.k) + 1 by omega, Nat.pow_succ, Nat.mul_comm 256 y.R, Nat.mul_assoc, Nat.mul_comm 256]
  have e1 : 326 * x.R ≤ 327 * (256 * y.R) := by omega
  have e2 := Nat.mul_le_mul_right (256 ^ (t - x.k)) e1
  rw [Nat.mul_assoc, Nat.mul_assoc, ← e0] at e2
  have hpot : 16777216 ≤ y.R * 256 ^ (t + 1 - y.k) := by omega
  obtain ⟨n1, n2⟩ := norm_pot 3 y (t + 1) (by omega) hpot
  exact ⟨n1, by rw [n2]; omega⟩
theorem few_bytes {x : Iv} (hx : x.Good) (t : Nat) (h : Few x t) {b : List Nat} (hb : IsCode x b) : b.length ≤ t + 1 := by
  obtain ⟨a, ha, hl⟩ := isCode_exists hx
  rw [isCode_one hb ha]
  have := h.1
  omega
/-- A symbol that takes all costs nothing. -/
theorem alone_come (x : Iv) (hx : x.Good) {c : List Int} (hc : c.length = 1) : come x c 0 = x := by
  have e : part x (tot c) (lowN c 0) (cntN c 0) (decide (0 + 1 = c.length)) = x := by
    unfold part
    rw [lowN_zero, hc]
    simp
  unfold come
  rw [e]
  have := hx.lo
  show norm (2 + 1) x = x
  rw [norm, if_neg (by omega)]
theorem first_code {b : List Nat} (h : IsCode firstIv b) : b = [] := by
  refine isCode_one h ⟨0, by omega, rfl, by show _ < _; decide, fun j hj => absurd hj (by omega)⟩
end Go.Proofs.YtbkjfblmdilchaaDoor
