/- Layer 9: a closed surface with one triangle turned round. -/
import Derived.Test.YtelbmjbjpgcdaaaCerOpen
namespace Go.Proofs.Ytelbmjbjpgcdaaa

theorem count_one {L : List Tr} (h : L.Pairwise fun t u => ¬ twice t u) {a b : Int} (hex : ∃ u ∈ L, hasE u a b) : L.countP (fun u => decide (hasE u a b)) = 1 := by
  induction L with
  | nil => obtain ⟨u, hu, _⟩ := hex; cases hu
  | cons y L ih =>
    rw [List.pairwise_cons] at h
    rw [List.countP_cons]
    by_cases hy : hasE y a b
    · have : L.countP (fun u => decide (hasE u a b)) = 0 := List.countP_eq_zero.2 fun u hu => by
        rw [decide_eq_true_iff]
        exact fun hE => h.1 u hu (twice_iff.2 ⟨a, b, hy, hE⟩)
      rw [this, if_pos (decide_eq_true hy)]
    · obtain ⟨u, hu, hE⟩ := hex
      rcases List.mem_cons.1 hu with rfl | hu
      · exact absurd hE hy
      · rw [ih h.2 ⟨u, hu, hE⟩, decide_eq_false hy]
        rfl
theorem count_three {L : List Tr} {a b c : Tr → Bool} (h : ∀ u ∈ L, ¬ (a u = true ∧ b u = true) ∧ ¬ (b u = true ∧ c u = true) ∧ ¬ (a u = true ∧ c u = true)) : L.countP (fun u => a u || b u || c u) = L.countP a + L.countP b + L.countP c := by
  induction L with
  | nil => rfl
  | cons y L ih =>
    have hy := h y (by simp)
    have := ih (fun u hu => h u (by simp [hu]))
    simp only [List.countP_cons, this]
    cases ha : a y <;> cases hb : b y <;> cases hc : c y <;> simp_all <;> omega
theorem three_mirr {x u : Tr} {p q r : Int} (hx : ∀ v, hasV x v → v = p ∨ v = q ∨ v = r) (h1 : hasE u q p) (h2 : hasE u r q) : mirrd x u :=
  mirrd_iff.2 fun v hv => by
    rcases hx v hv with rfl | rfl | rfl
    · exact (hasE_hasV h1).2
    · exact (hasE_hasV h1).1
    · exact (hasE_hasV h2).1
theorem turn_mid {N : Int} {A B : List Tr} {x : Tr} (h : Surf N (A ++ x :: B)) (hc : Closed (A ++ x :: B)) {ws : List Wt} (ha : IsAll N (A ++ mirT x :: B) ws) : ws.length = 3 ∧ ∃ y r, ws = y :: r ∧ y.1 = 3 ∧ (y.2.1 = (A.length : Int) ∨ y.2.2 = (A.length : Int)) := by
  obtain ⟨p, hp, rfl⟩ := ha
  obtain ⟨tw, twA, twB⟩ := pair_mem h.notwice
  obtain ⟨_, miA, miB⟩ := pair_mem h.nomirr
  have hx : x ∈ A ++ x :: B := mem_mid.2 (.inl rfl)
  have hxl := h.noloop x hx
  have hxb := h.inb x hx
  have sub : ∀ t, t ∈ A ++ B → t ∈ A ++ x :: B := fun t ht => mem_mid.2 (.inr ht)
  have hml : ¬ loopT (mirT x) := fun hm => by
    obtain ⟨v, hv⟩ := loopT_iff.1 hm
    exact hxl (loopT_iff.2 ⟨v, hasE_mir.1 hv⟩)
  have hlen : (A ++ mirT x :: B).length = (A ++ x :: B).length := by simp
  have ex : ∀ a b, hasE x a b → ∃ u ∈ A ++ B, hasE u b a := fun a b hE => by
    obtain ⟨u, hu, hu'⟩ := hc x hx a b hE
    rcases mem_mid.1 hu with rfl | h1
    · exact absurd hu' (edge_back hxl hE)
    · exact ⟨u, h1, hu'⟩
  have nomi : ∀ u ∈ A ++ B, ¬ mirrd x u := fun u hu hm => by
    rcases List.mem_append.1 hu with h1 | h1
    · exact miA u h1 (mirrd_back (h.noloop u (sub u hu)) hxl hm)
    · exact miB u h1 hm
  have e1 : hasE x x.1 x.2.1 := .inl ⟨rfl, rfl⟩
  have e2 : hasE x x.2.1 x.2.2 := .inr (.inl ⟨rfl, rfl⟩)
  have e3 : hasE x x.2.2 x.1 := .inr (.inr ⟨rfl, rfl⟩)
  have s3 : ∀ t u : Tr, decide (twice t u) = decide (twice u t) := fun t u => decide_eq_decide.2 ⟨twice_symm, twice_symm⟩
  have hq : ∀ u, decide (twice (mirT x) u) = (decide (hasE u x.2.1 x.1) || decide (hasE u x.2.2 x.2.1) || decide (hasE u x.1 x.2.2)) := fun u => by
    rw [Bool.eq_iff_iff, Bool.or_eq_true, Bool.or_eq_true, decide_eq_true_iff, decide_eq_true_iff, decide_eq_true_iff, decide_eq_true_iff]
    show (hasE u x.1 x.2.2 ∨ hasE u x.2.2 x.2.1 ∨ hasE u x.2.1 x.1) ↔ _
    constructor
    · rintro (g | g | g)
      · exact .inr g
      · exact .inl (.inr g)
      · exact .inl (.inl g)
    · rintro ((g | g) | g)
      · exact .inr (.inr g)
      · exact .inr (.inl g)
      · exact .inl g
  have hvs : ∀ v, hasV x v → v = x.1 ∨ v = x.2.1 ∨ v = x.2.2 := fun v hv => by rcases hv with g | g | g <;> simp [g]
  have cnt : (A ++ B).countP (fun u => decide (twice (mirT x) u)) = 3 := by
    have : (fun u => decide (twice (mirT x) u)) = fun u => (decide (hasE u x.2.1 x.1) || decide (hasE u x.2.2 x.2.1) || decide (hasE u x.1 x.2.2)) := funext hq
    rw [this, count_three (fun u hu => ?_), count_one tw (ex _ _ e1), count_one tw (ex _ _ e2), count_one tw (ex _ _ e3)]
    have hnm := nomi u hu
    simp only [decide_eq_true_iff]
    refine ⟨fun ⟨g1, g2⟩ => hnm (three_mirr hvs g1 g2), fun ⟨g1, g2⟩ => hnm (three_mirr (p := x.2.1) (q := x.2.2) (r := x.1) (fun v hv => by rcases hvs v hv with g | g | g <;> simp [g]) g1 g2), fun ⟨g1, g2⟩ => hnm (three_mirr (p := x.2.2) (q := x.1) (r := x.2.1) (fun v hv => by rcases hvs v hv with g | g | g <;> simp [g]) g2 g1)⟩
  have hl3 : (pairW 3 (fun t u => decide (twice t u)) (A ++ mirT x :: B)).length = 3 := by
    rw [pairW_len 3 _ _ _ rfl, cntP_perm s3 List.perm_middle, cntP, cnt, ← pairW_len 3 _ _ (A ++ B) rfl, pair3_nil tw]
    rfl
  have g0 : ∀ i, i ≠ A.length → (A ++ mirT x :: B).getD i z3 = (A ++ x :: B).getD i z3 := fun i hi => by
    rw [List.getD_eq_getElem?_getD, List.getD_eq_getElem?_getD]
    congr 1
    rcases Nat.lt_or_ge i A.length with h1 | h1
    · rw [List.getElem?_append_left h1, List.getElem?_append_left h1]
    · obtain ⟨d, hd⟩ : ∃ d, i - A.length = d + 1 := ⟨i - A.length - 1, by omega⟩
      rw [List.getElem?_append_right h1, List.getElem?_append_right h1, hd, List.getElem?_cons_succ, List.getElem?_cons_succ]
  have hmem : ∀ y ∈ pairW 3 (fun t u => decide (twice t u)) (A ++ mirT x :: B), y.1 = 3 ∧ (y.2.1 = (A.length : Int) ∨ y.2.2 = (A.length : Int)) := fun y hy => by
    obtain ⟨b, hb, hy⟩ := List.mem_flatMap.1 hy
    obtain ⟨a, ha, rfl⟩ := List.mem_map.1 hy
    obtain ⟨ha1, ha2⟩ := List.mem_filter.1 ha
    have hb' := List.mem_range.1 hb
    have ha' := List.mem_range.1 ha1
    refine ⟨rfl, ?_⟩
    by_cases c1 : a = A.length
    · exact .inl (by rw [c1])
    · by_cases c2 : b = A.length
      · exact .inr (by rw [c2])
      · exfalso
        rw [g0 a c1, g0 b c2, decide_eq_true_iff] at ha2
        exact pair_at h.notwice (by omega) (by omega) ha' ha2
  have hb1 : ∀ t ∈ A ++ mirT x :: B, inN N t.1 ∧ inN N t.2.1 ∧ inN N t.2.2 := fun t ht => by
    rcases mem_mid.1 ht with rfl | h1
    · exact ⟨hxb.1, hxb.2.2, hxb.2.1⟩
    · exact h.inb t (sub t h1)
  have hb2 : ∀ t ∈ A ++ mirT x :: B, ¬ loopT t := fun t ht => by
    rcases mem_mid.1 ht with rfl | h1
    · exact hml
    · exact h.noloop t (sub t h1)
  rw [stage_first h.n0 h.n1 (by rw [hlen]; exact h.t1)]
  unfold stagesW
  rw [idx1_nil hb1, idx2_nil hb2]
  cases hw : pairW 3 (fun t u => decide (twice t u)) (A ++ mirT x :: B) with
  | nil => rw [hw] at hl3; cases hl3
  | cons y r =>
    rw [hw] at hl3 hmem
    have := hmem y (by simp)
    exact ⟨hl3, y, r, rfl, this.1, this.2⟩
end Go.Proofs.Ytelbmjbjpgcdaaa
