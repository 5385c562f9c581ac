/- Layer 9: the triangles at a vertex, flagged round by round, as far as they hang together with the first one. -/
import Derived.Test.YtelbmjbjpgcdaaaCerPure
namespace Go.Proofs.Ytelbmjbjpgcdaaa

theorem adjV_iff {v : Int} {t u : Tr} : adjV v t u ↔ (t.1 ≠ v ∧ hasV u t.1) ∨ (t.2.1 ≠ v ∧ hasV u t.2.1) ∨ (t.2.2 ≠ v ∧ hasV u t.2.2) := by
  constructor
  · rintro ⟨w, hw, (rfl | rfl | rfl), h2⟩
    · exact .inl ⟨hw, h2⟩
    · exact .inr (.inl ⟨hw, h2⟩)
    · exact .inr (.inr ⟨hw, h2⟩)
  · rintro (⟨h1, h2⟩ | ⟨h1, h2⟩ | ⟨h1, h2⟩)
    · exact ⟨_, h1, .inl rfl, h2⟩
    · exact ⟨_, h1, .inr (.inl rfl), h2⟩
    · exact ⟨_, h1, .inr (.inr rfl), h2⟩
instance (v : Int) (t u : Tr) : Decidable (adjV v t u) := decidable_of_iff _ adjV_iff.symm
def Reach (v : Int) (L : List Tr) (i : Nat) : Prop := ∀ P : Nat → Prop, P 0 → (∀ a b, a < L.length → b < L.length → P a → adjV v (L.getD a z3) (L.getD b z3) → P b) → P i
theorem Reach.zero (v : Int) (L : List Tr) : Reach v L 0 := fun _ h0 _ => h0
theorem Reach.step {v : Int} {L : List Tr} {a b : Nat} (h : Reach v L a) (ha : a < L.length) (hb : b < L.length) (hadj : adjV v (L.getD a z3) (L.getD b z3)) : Reach v L b := fun P h0 hs => hs a b ha hb (h P h0 hs) hadj
/-- A triangle with three vertices, one of them v, hangs together with itself. -/
theorem adjV_self {v : Int} {t : Tr} (hn : ¬ loopT t) : adjV v t t := by
  by_cases h : t.1 = v
  · exact ⟨t.2.1, fun e => hn (.inl (h.trans e.symm)), .inr (.inl rfl), .inr (.inl rfl)⟩
  · exact ⟨t.1, h, .inl rfl, .inl rfl⟩
theorem reach_conn {l L : List Tr} {v : Int} (hL : ∀ t, t ∈ L ↔ t ∈ l ∧ hasV t v) (hn : 0 < L.length) (nl : ∀ t ∈ L, ¬ loopT t) : (∀ i, i < L.length → Reach v L i) ↔ Conn l v := by
  constructor
  · intro h P hex hcl u hu huv
    have step : ∀ Q : Tr → Prop, (∀ t ∈ l, ∀ u ∈ l, hasV t v → hasV u v → Q t → adjV v t u → Q u) → Q (L.getD 0 z3) → ∀ u ∈ l, hasV u v → Q u := by
      intro Q hQ h0 u hu huv
      obtain ⟨i, hi, rfl⟩ := mem3_getD ((hL u).2 ⟨hu, huv⟩)
      refine h i hi (fun j => Q (L.getD j z3)) h0 fun a b ha hb hQa hadj => ?_
      obtain ⟨ha1, ha2⟩ := (hL _).1 (getD3_mem ha)
      obtain ⟨hb1, hb2⟩ := (hL _).1 (getD3_mem hb)
      exact hQ _ ha1 _ hb1 ha2 hb2 hQa hadj
    refine Classical.byContradiction fun hnP => ?_
    obtain ⟨t, ht, htv, hP⟩ := hex
    by_cases h0 : P (L.getD 0 z3)
    · exact hnP (step P hcl h0 u hu huv)
    · exact step (fun t => ¬ P t) (fun a ha b hb hav hbv hna hadj hPb => hna (hcl b hb a ha hbv hav hPb (adjV_symm hadj))) h0 t ht htv hP
  · intro h i hi
    have hm := (hL _).1 (getD3_mem hi)
    obtain ⟨h01, h02⟩ := (hL _).1 (getD3_mem hn)
    obtain ⟨j, hj, hr, e⟩ := h (fun t => ∃ j, j < L.length ∧ Reach v L j ∧ L.getD j z3 = t) ⟨_, h01, h02, 0, hn, Reach.zero v L, rfl⟩ (fun t ht u hu htv huv ⟨j, hj, hr, e⟩ hadj => by
      obtain ⟨b, hb, rfl⟩ := mem3_getD ((hL u).2 ⟨hu, huv⟩)
      subst e
      exact ⟨b, hb, hr.step hj hb hadj, rfl⟩) _ hm.1 hm.2
    refine hr.step hj hi ?_
    rw [e]
    exact adjV_self (nl _ (getD3_mem hi))

def cntF (F : Nat → Bool) (n : Nat) : Nat := (List.range n).countP F
theorem cntF_le (F : Nat → Bool) (n : Nat) : cntF F n ≤ n := by
  have := List.countP_le_length (p := F) (l := List.range n)
  rwa [List.length_range] at this
theorem cntF_mono {F G : Nat → Bool} {n : Nat} (h : ∀ i, i < n → F i = true → G i = true) : cntF F n ≤ cntF G n := by
  induction n with
  | zero => exact Nat.le_refl _
  | succ n ih =>
    have := ih (fun i hi => h i (by omega))
    have hn := h n (by omega)
    unfold cntF at *
    rw [List.range_succ, List.countP_append, List.countP_append, List.countP_cons, List.countP_cons, List.countP_nil, List.countP_nil]
    cases hF : F n <;> cases hG : G n <;> simp_all <;> omega
theorem cntF_more {F G : Nat → Bool} {n k : Nat} (h : ∀ i, i < n → F i = true → G i = true) (hk : k < n) (h1 : F k = false) (h2 : G k = true) : cntF F n + 1 ≤ cntF G n := by
  induction n with
  | zero => omega
  | succ n ih =>
    have hn := h n (by omega)
    have hle := cntF_mono (n := n) (fun i hi => h i (by omega))
    have hkn : k = n ∨ k < n := by omega
    unfold cntF at *
    rw [List.range_succ, List.countP_append, List.countP_append, List.countP_cons, List.countP_cons, List.countP_nil, List.countP_nil]
    rcases hkn with rfl | hkn
    · simp [h1, h2]; omega
    · have := ih (fun i hi => h i (by omega)) hkn
      cases hF : F n <;> cases hG : G n <;> simp_all <;> omega
/-- After r rounds: all that is reached is flagged, or more than r are flagged. -/
def Far (v : Int) (L : List Tr) (r : Nat) (F : Nat → Bool) : Prop := (∀ i, i < L.length → Reach v L i → F i = true) ∨ r + 1 ≤ cntF F L.length
theorem Far.start {v : Int} {L : List Tr} {F : Nat → Bool} (hn : 0 < L.length) (h0 : F 0 = true) : Far v L 0 F := by
  refine .inr ?_
  have := cntF_more (F := fun _ => false) (G := F) (n := L.length) (k := 0) (fun i _ h => by cases h) hn rfl h0
  omega
theorem Far.round {v : Int} {L : List Tr} {r : Nat} {F G : Nat → Bool} (h : Far v L r F) (h0 : F 0 = true) (hm : ∀ i, i < L.length → F i = true → G i = true) (hs : ∀ a b, a < L.length → b < L.length → F a = true → adjV v (L.getD a z3) (L.getD b z3) → G b = true) : Far v L (r + 1) G := by
  rcases h with h | h
  · exact .inl fun i hi hr => hm i hi (h i hi hr)
  · by_cases hc : ∀ a b, a < L.length → b < L.length → F a = true → adjV v (L.getD a z3) (L.getD b z3) → F b = true
    · refine .inl fun i hi hr => hm i hi ?_
      have := hr (fun j => j < L.length → F j = true) (fun _ => h0) (fun a b ha hb hP hadj _ => hc a b ha hb (hP ha) hadj)
      exact this hi
    · refine .inr ?_
      obtain ⟨a, b, ha, hb, hFa, hadj, hFb⟩ : ∃ a b, a < L.length ∧ b < L.length ∧ F a = true ∧ adjV v (L.getD a z3) (L.getD b z3) ∧ F b = false := by
        refine Classical.byContradiction fun hn => hc fun a b ha hb hFa hadj => ?_
        cases hFb : F b with
        | true => rfl
        | false => exact absurd ⟨a, b, ha, hb, hFa, hadj, hFb⟩ hn
      have := cntF_more hm hb hFb (hs a b ha hb hFa hadj)
      omega
theorem Far.done {v : Int} {L : List Tr} {F : Nat → Bool} (h : Far v L L.length F) (hs : ∀ i, i < L.length → F i = true → Reach v L i) (i : Nat) (hi : i < L.length) : F i = true ↔ Reach v L i := by
  refine ⟨hs i hi, fun hr => ?_⟩
  rcases h with h | h
  · exact h i hi hr
  · have := cntF_le F L.length
    omega
end Go.Proofs.Ytelbmjbjpgcdaaa
