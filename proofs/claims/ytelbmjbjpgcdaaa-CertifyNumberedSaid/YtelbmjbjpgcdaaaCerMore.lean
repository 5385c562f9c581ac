/- Layer 9: triangles turned, mirrored; a vertex more; a triangle once more; two surfaces side by side. -/
import Derived.Test.YtelbmjbjpgcdaaaCerPure
namespace Go.Proofs.Ytelbmjbjpgcdaaa

theorem isAll_turned {N : Int} {l l' : List Tr} (hl : l'.length = l.length) (h : ∀ i, i < l.length → ∃ k, l'.getD i z3 = rotT (l.getD i z3) k) {ws : List Wt} (ha : IsAll N l ws) : IsAll N l' ws := by
  have hE : ∀ i, i < l.length → ∀ a b, hasE (l'.getD i z3) a b ↔ hasE (l.getD i z3) a b := fun i hi a b => by
    obtain ⟨k, e⟩ := h i hi
    rw [e, hasE_rot]
  have hV : ∀ i, i < l.length → ∀ v, hasV (l'.getD i z3) v ↔ hasV (l.getD i z3) v := fun i hi v => by
    obtain ⟨k, e⟩ := h i hi
    rw [e, hasV_rot]
  refine isAll_same hl (fun i hi => ?_) (fun i hi => ?_) (fun i j hi hj => ?_) hV ha
  · rw [badT_iff, badT_iff]
    exact exists_congr fun v => and_congr (hV i hi v) Iff.rfl
  · rw [loopT_iff, loopT_iff]
    exact exists_congr fun v => hE i hi v v
  · rw [twice_iff, twice_iff]
    exact exists_congr fun a => exists_congr fun b => and_congr (hE i hi a b) (hE j hj a b)
theorem isAll_mir {N : Int} {l : List Tr} {ws : List Wt} (ha : IsAll N l ws) : IsAll N (l.map mirT) ws := by
  have e : ∀ i, i < l.length → (l.map mirT).getD i z3 = mirT (l.getD i z3) := fun i hi => by
    rw [List.getD_eq_getElem?_getD, List.getElem?_map, List.getD_eq_getElem?_getD, List.getElem?_eq_getElem hi]; rfl
  refine isAll_same (List.length_map _) (fun i hi => ?_) (fun i hi => ?_) (fun i j hi hj => ?_) (fun i hi v => ?_) ha
  · rw [e i hi, badT_iff, badT_iff]
    exact exists_congr fun v => and_congr hasV_mir Iff.rfl
  · rw [e i hi, loopT_iff, loopT_iff]
    exact exists_congr fun v => hasE_mir
  · rw [e i hi, e j hj, twice_iff, twice_iff]
    constructor
    · rintro ⟨a, b, h1, h2⟩; exact ⟨b, a, hasE_mir.1 h1, hasE_mir.1 h2⟩
    · rintro ⟨a, b, h1, h2⟩; exact ⟨b, a, hasE_mir.2 h1, hasE_mir.2 h2⟩
  · rw [e i hi, hasV_mir]

theorem stage_first {p : Int → Bool} {N : Int} {l : List Tr} (h0 : 0 ≤ N) (h1 : N ≤ 4096) (h2 : l.length ≤ 8192) : wits p N l = firstL (stagesW p N l) := by
  unfold wits
  rw [if_neg (by omega)]
theorem idx1_nil {N : Int} {l : List Tr} (h : ∀ t ∈ l, inN N t.1 ∧ inN N t.2.1 ∧ inN N t.2.2) : idxW 1 (fun t => decide (badT N t)) l = [] := idxW_nil.2 fun t ht => decide_eq_false (fun hb => hb (h t ht))
theorem idx2_nil {l : List Tr} (h : ∀ t ∈ l, ¬ loopT t) : idxW 2 (fun t => decide (loopT t)) l = [] := idxW_nil.2 fun t ht => decide_eq_false (h t ht)
theorem pair3_nil {l : List Tr} (h : l.Pairwise fun t u => ¬ twice t u) : pairW 3 (fun t u => decide (twice t u)) l = [] := pairW_nil.2 (h.imp fun hb => decide_eq_false hb)
theorem pair4_nil {l : List Tr} (h : l.Pairwise fun t u => ¬ mirrd t u) : pairW 4 (fun t u => decide (mirrd t u)) l = [] := pairW_nil.2 (h.imp fun hb => decide_eq_false hb)
theorem inN_more {N M x : Int} (h : inN N x) (hm : N ≤ M) : inN M x := ⟨h.1, Int.lt_of_lt_of_le h.2 hm⟩
theorem has_in {N : Int} {l : List Tr} (h : ∀ t ∈ l, inN N t.1 ∧ inN N t.2.1 ∧ inN N t.2.2) {t : Tr} (ht : t ∈ l) {v : Int} (hv : hasV t v) : inN N v := by
  obtain ⟨h1, h2, h3⟩ := h t ht
  rcases hv with rfl | rfl | rfl
  · exact h1
  · exact h2
  · exact h3
theorem vertW_succ (k : Int) (q : Int → Bool) (N : Nat) : vertW k q ((N + 1 : Nat) : Int) = vertW k q (N : Int) ++ (if q (N : Int) = true then [(k, (N : Int), 0)] else []) := by
  unfold vertW
  rw [show ((N + 1 : Nat) : Int).toNat = N + 1 by omega, show ((N : Nat) : Int).toNat = N by omega, List.range_succ, List.filter_append, List.map_append]
  congr 1
  by_cases h : q (N : Int) = true
  · simp [h]
  · simp [h]
/-- A surface with a vertex more. -/
theorem surf_more {N : Int} {l : List Tr} (h : Surf N l) (hN : N + 1 ≤ 4096) {ws : List Wt} (ha : IsAll (N + 1) l ws) : ws = [(5, N, 0)] := by
  obtain ⟨p, hp, rfl⟩ := ha
  have n0 := h.n0
  rw [stage_first (by omega) hN h.t1]
  unfold stagesW
  rw [idx1_nil (fun t ht => ⟨inN_more (h.inb t ht).1 (by omega), inN_more (h.inb t ht).2.1 (by omega), inN_more (h.inb t ht).2.2 (by omega)⟩), idx2_nil h.noloop, pair3_nil h.notwice, pair4_nil h.nomirr]
  obtain ⟨n, rfl⟩ : ∃ n : Nat, N = (n : Int) := ⟨N.toNat, by omega⟩
  have e : vertW 5 (lonely l) ((n : Int) + 1) = [(5, (n : Int), 0)] := by
    rw [show (n : Int) + 1 = ((n + 1 : Nat) : Int) by omega, vertW_succ, vertW_nil.2 (fun v hv => lonely_false.2 (h.used v hv))]
    have : lonely l (n : Int) = true := by
      cases hq : lonely l (n : Int) with
      | true => rfl
      | false =>
        obtain ⟨t, ht, hv⟩ := lonely_false.1 hq
        have := has_in h.inb ht hv
        have := this.2
        omega
    simp [this]
  rw [e]
  rfl

theorem pairW_snoc (k : Int) (q : Tr → Tr → Bool) (l : List Tr) (x : Tr) : pairW k q (l ++ [x]) = pairW k q l ++ ((List.range l.length).filter fun a => q (l.getD a z3) x).map fun a => (k, ((a : Nat) : Int), ((l.length : Nat) : Int)) := by
  unfold pairW
  rw [List.length_append, List.length_singleton, List.range_succ, List.flatMap_append, List.flatMap_singleton]
  have g1 : ∀ a, a < l.length → (l ++ [x]).getD a z3 = l.getD a z3 := fun a ha => by
    rw [List.getD_eq_getElem?_getD, List.getD_eq_getElem?_getD, List.getElem?_append_left ha]
  have g2 : (l ++ [x]).getD l.length z3 = x := by
    rw [List.getD_eq_getElem?_getD, List.getElem?_append_right (Nat.le_refl _), Nat.sub_self]; rfl
  congr 1
  · rw [List.flatMap_def, List.flatMap_def]
    congr 1
    refine List.map_congr_left fun b hb => ?_
    have hb' := List.mem_range.1 hb
    congr 1
    refine List.filter_congr fun a ha => ?_
    rw [g1 a (by have := List.mem_range.1 ha; omega), g1 b hb']
  · congr 1
    refine List.filter_congr fun a ha => ?_
    rw [g1 a (List.mem_range.1 ha), g2]
theorem filter_one {n k : Nat} (hk : k < n) {q : Nat → Bool} (h : ∀ a, a < n → (q a = true ↔ a = k)) : (List.range n).filter q = [k] := by
  have e : (List.range n).filter q = (List.range n).filter (fun a => a == k) := List.filter_congr fun a ha => by
    have := h a (List.mem_range.1 ha)
    cases hq : q a <;> simp_all
  rw [e]
  clear e h
  induction n with
  | zero => omega
  | succ n ih =>
    rw [List.range_succ, List.filter_append]
    by_cases hkn : k = n
    · subst hkn
      have : (List.range k).filter (fun a => a == k) = [] := List.filter_eq_nil_iff.2 fun a ha => by have := List.mem_range.1 ha; simp; omega
      rw [this]; simp
    · rw [ih (by omega)]
      simp
      omega
theorem pair_at {R : Tr → Tr → Prop} {l : List Tr} (h : l.Pairwise R) {i j : Nat} (hi : i < l.length) (hj : j < l.length) (hij : i < j) : R (l.getD i z3) (l.getD j z3) := by
  rw [List.getD_eq_getElem?_getD, List.getD_eq_getElem?_getD, List.getElem?_eq_getElem hi, List.getElem?_eq_getElem hj]
  exact List.pairwise_iff_getElem.1 h i j hi hj hij
theorem notwice_ne {l : List Tr} (h : l.Pairwise fun t u => ¬ twice t u) {i j : Nat} (hi : i < l.length) (hj : j < l.length) (hne : i ≠ j) : ¬ twice (l.getD i z3) (l.getD j z3) := by
  rcases Nat.lt_or_gt_of_ne hne with h1 | h1
  · exact pair_at h hi hj h1
  · exact fun ht => pair_at h hj hi h1 (twice_symm ht)
theorem inb_snoc {N : Int} {l : List Tr} {x : Tr} (h : ∀ t ∈ l, inN N t.1 ∧ inN N t.2.1 ∧ inN N t.2.2) (hx : inN N x.1 ∧ inN N x.2.1 ∧ inN N x.2.2) : ∀ t ∈ l ++ [x], inN N t.1 ∧ inN N t.2.1 ∧ inN N t.2.2 := by
  intro t ht
  rcases List.mem_append.1 ht with h1 | h1
  · exact h t h1
  · rw [List.mem_singleton.1 h1]; exact hx
theorem noloop_snoc {l : List Tr} {x : Tr} (h : ∀ t ∈ l, ¬ loopT t) (hx : ¬ loopT x) : ∀ t ∈ l ++ [x], ¬ loopT t := by
  intro t ht
  rcases List.mem_append.1 ht with h1 | h1
  · exact h t h1
  · rw [List.mem_singleton.1 h1]; exact hx
/-- A surface with a triangle of it once more. -/
theorem surf_twin {N : Int} {l : List Tr} (h : Surf N l) (hl : l.length + 1 ≤ 8192) {k : Nat} (hk : k < l.length) {ws : List Wt} (ha : IsAll N (l ++ [l.getD k z3]) ws) : ws = [(3, (k : Int), (l.length : Int))] := by
  obtain ⟨p, hp, rfl⟩ := ha
  rw [stage_first h.n0 h.n1 (by rw [List.length_append, List.length_singleton]; exact hl)]
  unfold stagesW
  have hm := getD3_mem hk
  rw [idx1_nil (inb_snoc h.inb (h.inb _ hm)), idx2_nil (noloop_snoc h.noloop (h.noloop _ hm)), pairW_snoc, pair3_nil h.notwice, List.nil_append, filter_one hk]
  · rfl
  · intro a ha
    rw [decide_eq_true_iff]
    constructor
    · intro ht
      exact Classical.byContradiction fun hne => notwice_ne h.notwice ha hk hne ht
    · rintro rfl; exact twice_self _
/-- .. or with its mirror: it is told, as Twice or as Mirrored. -/
theorem surf_twin_mir {N : Int} {l : List Tr} (h : Surf N l) (hl : l.length + 1 ≤ 8192) {k : Nat} (hk : k < l.length) {ws : List Wt} (ha : IsAll N (l ++ [mirT (l.getD k z3)]) ws) : ∃ x r, ws = x :: r ∧ (x.1 = 3 ∨ x.1 = 4) := by
  obtain ⟨p, hp, rfl⟩ := ha
  rw [stage_first h.n0 h.n1 (by rw [List.length_append, List.length_singleton]; exact hl)]
  unfold stagesW
  have hm := getD3_mem hk
  have hb := h.inb _ hm
  have hlp := h.noloop _ hm
  have hlm : ¬ loopT (mirT (l.getD k z3)) := fun hx => by
    obtain ⟨v, hv⟩ := loopT_iff.1 hx
    exact hlp (loopT_iff.2 ⟨v, hasE_mir.1 hv⟩)
  rw [idx1_nil (inb_snoc (x := mirT (l.getD k z3)) h.inb ⟨hb.1, hb.2.2, hb.2.1⟩), idx2_nil (noloop_snoc (x := mirT (l.getD k z3)) h.noloop hlm), pairW_snoc, pair3_nil h.notwice, List.nil_append, pairW_snoc, pair4_nil h.nomirr, List.nil_append]
  have h4 : ((List.range l.length).filter fun a => decide (mirrd (l.getD a z3) (mirT (l.getD k z3)))) ≠ [] := by
    intro e
    have := List.filter_eq_nil_iff.1 e k (List.mem_range.2 hk)
    exact this (decide_eq_true (mirrd_iff.2 fun v hv => hasV_mir.2 hv))
  cases h3 : ((List.range l.length).filter fun a => decide (twice (l.getD a z3) (mirT (l.getD k z3)))) with
  | cons x r => exact ⟨_, _, rfl, .inl rfl⟩
  | nil =>
    cases h5 : ((List.range l.length).filter fun a => decide (mirrd (l.getD a z3) (mirT (l.getD k z3)))) with
    | nil => exact absurd h5 h4
    | cons x r => exact ⟨_, _, rfl, .inr rfl⟩

def shT9 (o : Int) (t : Tr) : Tr := (t.1 + o, t.2.1 + o, t.2.2 + o)
theorem hasV_sh {o : Int} {t : Tr} {v : Int} : hasV (shT9 o t) v ↔ hasV t (v - o) := by
  unfold hasV shT9
  constructor <;> rintro (h | h | h) <;> simp only at h ⊢ <;> omega
theorem hasE_sh {o : Int} {t : Tr} {a b : Int} : hasE (shT9 o t) a b ↔ hasE t (a - o) (b - o) := by
  unfold hasE shT9
  constructor <;> rintro (⟨h, h'⟩ | ⟨h, h'⟩ | ⟨h, h'⟩) <;> simp only at h h' ⊢ <;> omega
theorem hasE_hasV {t : Tr} {a b : Int} (h : hasE t a b) : hasV t a ∧ hasV t b := by
  rcases h with ⟨h1, h2⟩ | ⟨h1, h2⟩ | ⟨h1, h2⟩
  · exact ⟨.inl h1, .inr (.inl h2)⟩
  · exact ⟨.inr (.inl h1), .inr (.inr h2)⟩
  · exact ⟨.inr (.inr h1), .inl h2⟩
/-- Two surfaces side by side. -/
theorem surf_join {N M : Int} {a b : List Tr} (ha : Surf N a) (hb : Surf M b) (hn : N + M ≤ 4096) (hl : a.length + b.length ≤ 8192) : Surf (N + M) (a ++ b.map (shT9 N)) := by
  have n0 := ha.n0
  have m0 := hb.n0
  have hva : ∀ t ∈ a, ∀ v, hasV t v → inN N v := fun t ht v hv => has_in ha.inb ht hv
  have hvb : ∀ t ∈ b, ∀ v, hasV (shT9 N t) v → N ≤ v ∧ v < N + M := fun t ht v hv => by
    have := has_in hb.inb ht (hasV_sh.1 hv)
    have h1 := this.1
    have h2 := this.2
    omega
  have inV : ∀ {K : Int} {t : Tr}, (∀ v, hasV t v → inN K v) → inN K t.1 ∧ inN K t.2.1 ∧ inN K t.2.2 := fun h => ⟨h _ (.inl rfl), h _ (.inr (.inl rfl)), h _ (.inr (.inr rfl))⟩
  refine ⟨by omega, hn, by rw [List.length_append, List.length_map]; exact hl, fun t ht => ?_, fun t ht => ?_, ?_, ?_, fun v hv => ?_, fun v hv => ?_⟩
  · rcases List.mem_append.1 ht with h | h
    · exact inV fun v hv => inN_more (hva t h v hv) (by omega)
    · obtain ⟨u, hu, rfl⟩ := List.mem_map.1 h
      exact inV fun v hv => by have := hvb u hu v hv; exact ⟨by omega, this.2⟩
  · rcases List.mem_append.1 ht with h | h
    · exact ha.noloop t h
    · obtain ⟨u, hu, rfl⟩ := List.mem_map.1 h
      intro hx
      obtain ⟨v, hv⟩ := loopT_iff.1 hx
      exact hb.noloop u hu (loopT_iff.2 ⟨_, hasE_sh.1 hv⟩)
  · rw [List.pairwise_append]
    refine ⟨ha.notwice, ?_, fun t ht u hu hx => ?_⟩
    · rw [List.pairwise_map]
      refine hb.notwice.imp fun {t u} hx hx' => hx ?_
      obtain ⟨x, y, h1, h2⟩ := twice_iff.1 hx'
      exact twice_iff.2 ⟨_, _, hasE_sh.1 h1, hasE_sh.1 h2⟩
    · obtain ⟨u', hu', rfl⟩ := List.mem_map.1 hu
      obtain ⟨x, y, h1, h2⟩ := twice_iff.1 hx
      have := (hva t ht x (hasE_hasV h1).1).2
      have := (hvb u' hu' x (hasE_hasV h2).1).1
      omega
  · rw [List.pairwise_append]
    refine ⟨ha.nomirr, ?_, fun t ht u hu hx => ?_⟩
    · rw [List.pairwise_map]
      refine hb.nomirr.imp fun {t u} hx hx' => hx (mirrd_iff.2 fun v hv => ?_)
      have := hasV_sh.1 (mirrd_iff.1 hx' (v + N) (hasV_sh.2 (by rw [Int.add_sub_cancel]; exact hv)))
      rwa [Int.add_sub_cancel] at this
    · obtain ⟨u', hu', rfl⟩ := List.mem_map.1 hu
      have h1 := (hva t ht t.1 (.inl rfl)).2
      have := (hvb u' hu' t.1 hx.1).1
      omega
  · by_cases hvN : v < N
    · obtain ⟨t, ht, h⟩ := ha.used v ⟨hv.1, hvN⟩
      exact ⟨t, List.mem_append_left _ ht, h⟩
    · obtain ⟨t, ht, h⟩ := hb.used (v - N) ⟨by omega, by have := hv.2; omega⟩
      exact ⟨_, List.mem_append_right _ (List.mem_map.2 ⟨t, ht, rfl⟩), hasV_sh.2 h⟩
  · by_cases hvN : v < N
    · intro P hex hcl u hu huv
      have ina : ∀ t ∈ a ++ b.map (shT9 N), hasV t v → t ∈ a := fun t ht htv => by
        rcases List.mem_append.1 ht with h | h
        · exact h
        · obtain ⟨t', ht', rfl⟩ := List.mem_map.1 h
          have := (hvb t' ht' v htv).1
          omega
      obtain ⟨t, ht, htv, hP⟩ := hex
      exact ha.conn v ⟨hv.1, hvN⟩ P ⟨t, ina t ht htv, htv, hP⟩ (fun t ht u hu => hcl t (List.mem_append_left _ ht) u (List.mem_append_left _ hu)) u (ina u hu huv) huv
    · intro P hex hcl u hu huv
      have inb : ∀ t ∈ a ++ b.map (shT9 N), hasV t v → ∃ t' ∈ b, shT9 N t' = t := fun t ht htv => by
        rcases List.mem_append.1 ht with h | h
        · have := (hva t h v htv).2
          omega
        · obtain ⟨t', ht', e⟩ := List.mem_map.1 h
          exact ⟨t', ht', e⟩
      obtain ⟨t, ht, htv, hP⟩ := hex
      obtain ⟨t', ht', rfl⟩ := inb t ht htv
      obtain ⟨u', hu', rfl⟩ := inb u hu huv
      refine hb.conn (v - N) ⟨by omega, by have := hv.2; omega⟩ (fun x => P (shT9 N x)) ⟨t', ht', hasV_sh.1 htv, hP⟩ (fun x hx y hy hxv hyv hPx hadj => ?_) u' hu' (hasV_sh.1 huv)
      obtain ⟨w, hw, h1, h2⟩ := hadj
      exact hcl _ (List.mem_append_right _ (List.mem_map.2 ⟨x, hx, rfl⟩)) _ (List.mem_append_right _ (List.mem_map.2 ⟨y, hy, rfl⟩)) (hasV_sh.2 hxv) (hasV_sh.2 hyv) hPx ⟨w + N, by omega, hasV_sh.2 (by rw [Int.add_sub_cancel]; exact h1), hasV_sh.2 (by rw [Int.add_sub_cancel]; exact h2)⟩
end Go.Proofs.Ytelbmjbjpgcdaaa
