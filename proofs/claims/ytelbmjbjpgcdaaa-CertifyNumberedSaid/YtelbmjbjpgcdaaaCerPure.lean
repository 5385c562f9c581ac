/- Layer 9: witnesses, as plain lists: which triangles, pairs of triangles and vertices are told. -/
import Derived.Test.YtelbmjbjpgcdaaaSouPure
namespace Go.Proofs.Ytelbmjbjpgcdaaa

/-- A witness: a kind, and two numbers. -/
abbrev Wt := Int × Int × Int
def hasE (t : Tr) (a b : Int) : Prop := (t.1 = a ∧ t.2.1 = b) ∨ (t.2.1 = a ∧ t.2.2 = b) ∨ (t.2.2 = a ∧ t.1 = b)
instance (t : Tr) (a b : Int) : Decidable (hasE t a b) := inferInstanceAs (Decidable (_ ∨ _))
def hasV (t : Tr) (v : Int) : Prop := t.1 = v ∨ t.2.1 = v ∨ t.2.2 = v
instance (t : Tr) (v : Int) : Decidable (hasV t v) := inferInstanceAs (Decidable (_ ∨ _))
def badT (N : Int) (t : Tr) : Prop := ¬ (inN N t.1 ∧ inN N t.2.1 ∧ inN N t.2.2)
instance (N : Int) (t : Tr) : Decidable (badT N t) := inferInstanceAs (Decidable (¬ _))
def loopT (t : Tr) : Prop := t.1 = t.2.1 ∨ t.2.1 = t.2.2 ∨ t.2.2 = t.1
instance (t : Tr) : Decidable (loopT t) := inferInstanceAs (Decidable (_ ∨ _))
def twice (t u : Tr) : Prop := hasE u t.1 t.2.1 ∨ hasE u t.2.1 t.2.2 ∨ hasE u t.2.2 t.1
instance (t u : Tr) : Decidable (twice t u) := inferInstanceAs (Decidable (_ ∨ _))
def mirrd (t u : Tr) : Prop := hasV u t.1 ∧ hasV u t.2.1 ∧ hasV u t.2.2
instance (t u : Tr) : Decidable (mirrd t u) := inferInstanceAs (Decidable (_ ∧ _))
/-- Two triangles at v that have an edge at v in common. -/
def adjV (v : Int) (t u : Tr) : Prop := ∃ w, w ≠ v ∧ hasV t w ∧ hasV u w
theorem adjV_symm {v : Int} {t u : Tr} (h : adjV v t u) : adjV v u t := by obtain ⟨w, h1, h2, h3⟩ := h; exact ⟨w, h1, h3, h2⟩
/-- All triangles at v hang together. -/
def Conn (l : List Tr) (v : Int) : Prop := ∀ P : Tr → Prop, (∃ t ∈ l, hasV t v ∧ P t) → (∀ t ∈ l, ∀ u ∈ l, hasV t v → hasV u v → P t → adjV v t u → P u) → ∀ u ∈ l, hasV u v → P u
def IsPin (l : List Tr) (p : Int → Bool) : Prop := ∀ v, p v = true ↔ ¬ Conn l v
theorem IsPin.one {l : List Tr} {p q : Int → Bool} (h : IsPin l p) (h' : IsPin l q) : p = q := by
  funext v
  have h1 := h v
  have h2 := h' v
  cases hp : p v <;> cases hq : q v <;> simp_all
theorem isPin_exists (l : List Tr) : ∃ p, IsPin l p := ⟨fun v => @decide (¬ Conn l v) (Classical.propDecidable _), fun v => by simp⟩

def idxW (k : Int) (q : Tr → Bool) (l : List Tr) : List Wt := ((List.range l.length).filter fun i => q (l.getD i z3)).map fun i => (k, ((i : Nat) : Int), 0)
def pairW (k : Int) (q : Tr → Tr → Bool) (l : List Tr) : List Wt := (List.range l.length).flatMap fun b => ((List.range b).filter fun a => q (l.getD a z3) (l.getD b z3)).map fun a => (k, ((a : Nat) : Int), ((b : Nat) : Int))
def vertW (k : Int) (q : Int → Bool) (N : Int) : List Wt := ((List.range N.toNat).filter fun (v : Nat) => q v).map fun (v : Nat) => (k, (v : Int), 0)
def lonely (l : List Tr) (v : Int) : Bool := l.all fun t => decide (¬ hasV t v)
/-- The first list that has something. -/
def firstL : List (List Wt) → List Wt
  | [] => []
  | [] :: r => firstL r
  | (x :: a) :: _ => x :: a
def stagesW (p : Int → Bool) (N : Int) (l : List Tr) : List (List Wt) :=
  [idxW 1 (fun t => decide (badT N t)) l, idxW 2 (fun t => decide (loopT t)) l, pairW 3 (fun t u => decide (twice t u)) l, pairW 4 (fun t u => decide (mirrd t u)) l, vertW 5 (lonely l) N, vertW 6 p N]
def wits (p : Int → Bool) (N : Int) (l : List Tr) : List Wt := if N < 0 ∨ 4096 < N ∨ 8192 < l.length then [(1, -1, 0)] else firstL (stagesW p N l)
/-- All witnesses that are reported. -/
def IsAll (N : Int) (l : List Tr) (ws : List Wt) : Prop := ∃ p, IsPin l p ∧ ws = wits p N l
theorem IsAll.one {N : Int} {l : List Tr} {a b : List Wt} (h : IsAll N l a) (h' : IsAll N l b) : b = a := by
  obtain ⟨p, hp, rfl⟩ := h
  obtain ⟨q, hq, rfl⟩ := h'
  rw [hp.one hq]
theorem isAll_exists (N : Int) (l : List Tr) : ∃ ws, IsAll N l ws := by
  obtain ⟨p, hp⟩ := isPin_exists l
  exact ⟨_, p, hp, rfl⟩

theorem firstL_nil {L : List (List Wt)} : firstL L = [] ↔ ∀ a ∈ L, a = [] := by
  induction L with
  | nil => simp [firstL]
  | cons a r ih =>
    cases a with
    | nil => simp [firstL, ih]
    | cons x a => simp [firstL]
theorem idxW_nil {k : Int} {q : Tr → Bool} {l : List Tr} : idxW k q l = [] ↔ ∀ t ∈ l, q t = false := by
  unfold idxW
  rw [List.map_eq_nil_iff, List.filter_eq_nil_iff]
  constructor
  · intro h t ht
    obtain ⟨i, hi, rfl⟩ := mem3_getD ht
    have := h i (List.mem_range.2 hi)
    simpa using this
  · intro h i hi
    rw [h _ (getD3_mem (List.mem_range.1 hi))]
    simp
theorem pairW_nil {k : Int} {q : Tr → Tr → Bool} {l : List Tr} : pairW k q l = [] ↔ l.Pairwise fun t u => q t u = false := by
  unfold pairW
  rw [List.flatMap_eq_nil_iff, List.pairwise_iff_getElem]
  constructor
  · intro h i j hi hj hij
    have h1 := h j (List.mem_range.2 hj)
    rw [List.map_eq_nil_iff, List.filter_eq_nil_iff] at h1
    have h2 := h1 i (List.mem_range.2 hij)
    rw [List.getD_eq_getElem?_getD, List.getD_eq_getElem?_getD, List.getElem?_eq_getElem hi, List.getElem?_eq_getElem hj] at h2
    simpa using h2
  · intro h b hb
    rw [List.map_eq_nil_iff, List.filter_eq_nil_iff]
    intro a ha
    have hb' := List.mem_range.1 hb
    have ha' := List.mem_range.1 ha
    have h2 := h a b (by omega) hb' ha'
    rw [List.getD_eq_getElem?_getD, List.getD_eq_getElem?_getD, List.getElem?_eq_getElem (show a < l.length by omega), List.getElem?_eq_getElem hb']
    simpa using h2
theorem vertW_nil {k : Int} {q : Int → Bool} {N : Int} : vertW k q N = [] ↔ ∀ v : Int, inN N v → q v = false := by
  unfold vertW
  rw [List.map_eq_nil_iff, List.filter_eq_nil_iff]
  constructor
  · intro h v hv
    have h0 := hv.1
    have h1 := hv.2
    have := h v.toNat (List.mem_range.2 (by omega))
    rw [show ((v.toNat : Nat) : Int) = v by omega] at this
    simpa using this
  · intro h v hv
    have := List.mem_range.1 hv
    rw [h v ⟨by omega, by omega⟩]
    simp
theorem lonely_false {l : List Tr} {v : Int} : lonely l v = false ↔ ∃ t ∈ l, hasV t v := by
  unfold lonely
  rw [List.all_eq_false]
  constructor
  · rintro ⟨t, ht, h⟩; exact ⟨t, ht, by simpa using h⟩
  · rintro ⟨t, ht, h⟩; exact ⟨t, ht, by simpa using h⟩

/-- A surface, told by what it has. -/
structure Surf (N : Int) (l : List Tr) : Prop where
  n0 : 0 ≤ N
  n1 : N ≤ 4096
  t1 : l.length ≤ 8192
  inb : ∀ t ∈ l, inN N t.1 ∧ inN N t.2.1 ∧ inN N t.2.2
  noloop : ∀ t ∈ l, ¬ loopT t
  notwice : l.Pairwise fun t u => ¬ twice t u
  nomirr : l.Pairwise fun t u => ¬ mirrd t u
  used : ∀ v, inN N v → ∃ t ∈ l, hasV t v
  conn : ∀ v, inN N v → Conn l v
theorem surf_iff {N : Int} {l : List Tr} {p : Int → Bool} (hp : IsPin l p) : wits p N l = [] ↔ Surf N l := by
  unfold wits
  by_cases hr : N < 0 ∨ 4096 < N ∨ 8192 < l.length
  · rw [if_pos hr]
    constructor
    · intro h; cases h
    · intro h
      have := h.n0
      have := h.n1
      have := h.t1
      omega
  · rw [if_neg hr, firstL_nil]
    have hpin : ∀ v, p v = false ↔ Conn l v := fun v => by
      have := hp v
      cases hv : p v <;> simp_all
    constructor
    · intro h
      have h1 := idxW_nil.1 (h _ (by simp [stagesW]; exact .inl rfl))
      have h2 := idxW_nil.1 (h _ (by simp [stagesW]; exact .inr (.inl rfl)))
      have h3 := pairW_nil.1 (h _ (by simp [stagesW]; exact .inr (.inr (.inl rfl))))
      have h4 := pairW_nil.1 (h _ (by simp [stagesW]; exact .inr (.inr (.inr (.inl rfl)))))
      have h5 := vertW_nil.1 (h _ (by simp [stagesW]; exact .inr (.inr (.inr (.inr (.inl rfl))))))
      have h6 := vertW_nil.1 (h _ (by simp [stagesW]; exact .inr (.inr (.inr (.inr (.inr rfl))))))
      exact ⟨by omega, by omega, by omega, fun t ht => by have := h1 t ht; simpa [badT] using this, fun t ht => by have := h2 t ht; simpa using this, h3.imp (fun h => by simpa using h), h4.imp (fun h => by simpa using h), fun v hv => lonely_false.1 (h5 v hv), fun v hv => (hpin v).1 (h6 v hv)⟩
    · intro h a ha
      simp only [stagesW, List.mem_cons, List.not_mem_nil, or_false] at ha
      rcases ha with rfl | rfl | rfl | rfl | rfl | rfl
      · exact idxW_nil.2 fun t ht => decide_eq_false (fun hb => hb (h.inb t ht))
      · exact idxW_nil.2 fun t ht => decide_eq_false (h.noloop t ht)
      · exact pairW_nil.2 (h.notwice.imp fun hb => decide_eq_false hb)
      · exact pairW_nil.2 (h.nomirr.imp fun hb => decide_eq_false hb)
      · exact vertW_nil.2 fun v hv => lonely_false.2 (h.used v hv)
      · exact vertW_nil.2 fun v hv => (hpin v).2 (h.conn v hv)
theorem isAll_nil {N : Int} {l : List Tr} {ws : List Wt} (h : IsAll N l ws) : ws = [] ↔ Surf N l := by
  obtain ⟨p, hp, rfl⟩ := h
  exact surf_iff hp
theorem twice_iff {t u : Tr} : twice t u ↔ ∃ a b, hasE t a b ∧ hasE u a b := by
  constructor
  · rintro (h | h | h)
    · exact ⟨_, _, .inl ⟨rfl, rfl⟩, h⟩
    · exact ⟨_, _, .inr (.inl ⟨rfl, rfl⟩), h⟩
    · exact ⟨_, _, .inr (.inr ⟨rfl, rfl⟩), h⟩
  · rintro ⟨a, b, (⟨rfl, rfl⟩ | ⟨rfl, rfl⟩ | ⟨rfl, rfl⟩), h2⟩
    · exact .inl h2
    · exact .inr (.inl h2)
    · exact .inr (.inr h2)
theorem twice_symm {t u : Tr} (h : twice t u) : twice u t := by
  obtain ⟨a, b, h1, h2⟩ := twice_iff.1 h
  exact twice_iff.2 ⟨a, b, h2, h1⟩
theorem twice_self (t : Tr) : twice t t := twice_iff.2 ⟨t.1, t.2.1, .inl ⟨rfl, rfl⟩, .inl ⟨rfl, rfl⟩⟩
theorem hasE_mir {t : Tr} {a b : Int} : hasE (mirT t) a b ↔ hasE t b a := by
  simp only [hasE, mirT]; constructor <;> rintro (⟨h1, h2⟩ | ⟨h1, h2⟩ | ⟨h1, h2⟩) <;> simp [h1, h2]
theorem hasV_mir {t : Tr} {v : Int} : hasV (mirT t) v ↔ hasV t v := by
  simp only [hasV, mirT]; constructor <;> rintro (h1 | h1 | h1) <;> simp [h1]
theorem hasE_rot {t : Tr} {k : Nat} {a b : Int} : hasE (rotT t k) a b ↔ hasE t a b := by
  unfold rotT
  split
  · rfl
  · split
    · simp only [hasE]; constructor <;> rintro (⟨h1, h2⟩ | ⟨h1, h2⟩ | ⟨h1, h2⟩) <;> simp [h1, h2]
    · simp only [hasE]; constructor <;> rintro (⟨h1, h2⟩ | ⟨h1, h2⟩ | ⟨h1, h2⟩) <;> simp [h1, h2]
theorem hasV_rot {t : Tr} {k : Nat} {v : Int} : hasV (rotT t k) v ↔ hasV t v := by
  unfold rotT
  split
  · rfl
  · split
    · simp only [hasV]; constructor <;> rintro (h1 | h1 | h1) <;> simp [h1]
    · simp only [hasV]; constructor <;> rintro (h1 | h1 | h1) <;> simp [h1]
theorem badT_iff {N : Int} {t : Tr} : badT N t ↔ ∃ v, hasV t v ∧ ¬ inN N v := by
  unfold badT
  constructor
  · intro h
    by_cases h1 : inN N t.1
    · by_cases h2 : inN N t.2.1
      · exact ⟨_, .inr (.inr rfl), fun h3 => h ⟨h1, h2, h3⟩⟩
      · exact ⟨_, .inr (.inl rfl), h2⟩
    · exact ⟨_, .inl rfl, h1⟩
  · rintro ⟨v, (rfl | rfl | rfl), hv⟩ ⟨h1, h2, h3⟩
    · exact hv h1
    · exact hv h2
    · exact hv h3
theorem loopT_iff {t : Tr} : loopT t ↔ ∃ v, hasE t v v := by
  constructor
  · rintro (h | h | h)
    · exact ⟨t.1, .inl ⟨rfl, h.symm⟩⟩
    · exact ⟨t.2.1, .inr (.inl ⟨rfl, h.symm⟩)⟩
    · exact ⟨t.2.2, .inr (.inr ⟨rfl, h.symm⟩)⟩
  · rintro ⟨v, (⟨h1, h2⟩ | ⟨h1, h2⟩ | ⟨h1, h2⟩)⟩
    · exact .inl (h1.trans h2.symm)
    · exact .inr (.inl (h1.trans h2.symm))
    · exact .inr (.inr (h1.trans h2.symm))
theorem mirrd_iff {t u : Tr} : mirrd t u ↔ ∀ v, hasV t v → hasV u v := by
  constructor
  · rintro ⟨h1, h2, h3⟩ v (rfl | rfl | rfl)
    · exact h1
    · exact h2
    · exact h3
  · intro h; exact ⟨h _ (.inl rfl), h _ (.inr (.inl rfl)), h _ (.inr (.inr rfl))⟩

/-- Two lists of triangles that stand for one another, place by place: the same is told. -/
theorem isAll_same {N : Int} {l l' : List Tr} (hl : l'.length = l.length) (hbad : ∀ i, i < l.length → (badT N (l'.getD i z3) ↔ badT N (l.getD i z3))) (hloop : ∀ i, i < l.length → (loopT (l'.getD i z3) ↔ loopT (l.getD i z3)))
    (htw : ∀ i j, i < l.length → j < l.length → (twice (l'.getD i z3) (l'.getD j z3) ↔ twice (l.getD i z3) (l.getD j z3))) (hv : ∀ i, i < l.length → ∀ v, hasV (l'.getD i z3) v ↔ hasV (l.getD i z3) v) {ws : List Wt} (h : IsAll N l ws) : IsAll N l' ws := by
  obtain ⟨p, hp, rfl⟩ := h
  have hmem : ∀ {i}, i < l.length → l'.getD i z3 ∈ l' := fun hi => getD3_mem (by rw [hl]; exact hi)
  have back : ∀ t' ∈ l', ∃ i, i < l.length ∧ l'.getD i z3 = t' := fun t' ht => by
    obtain ⟨i, hi, e⟩ := mem3_getD ht
    exact ⟨i, by rw [← hl]; exact hi, e⟩
  have hadj : ∀ v i j, i < l.length → j < l.length → (adjV v (l'.getD i z3) (l'.getD j z3) ↔ adjV v (l.getD i z3) (l.getD j z3)) := fun v i j hi hj =>
    ⟨fun ⟨w, h1, h2, h3⟩ => ⟨w, h1, (hv i hi w).1 h2, (hv j hj w).1 h3⟩, fun ⟨w, h1, h2, h3⟩ => ⟨w, h1, (hv i hi w).2 h2, (hv j hj w).2 h3⟩⟩
  have hconn : ∀ v, Conn l' v ↔ Conn l v := by
    intro v
    constructor
    · intro hc P hex hcl u hu huv
      obtain ⟨j, hj, rfl⟩ := mem3_getD hu
      have key := hc (fun t' => ∃ i, i < l.length ∧ hasV (l.getD i z3) v ∧ P (l.getD i z3) ∧ (∀ w, hasV t' w ↔ hasV (l.getD i z3) w)) ?_ ?_ _ (hmem hj) ((hv j hj v).2 huv)
      · obtain ⟨i, hi, hiv, hP, hw⟩ := key
        obtain ⟨w, hww⟩ : ∃ w, (w ≠ v ∧ hasV (l.getD i z3) w) ∨ (∀ w, hasV (l.getD i z3) w → w = v) := by
          by_cases he : ∃ w, w ≠ v ∧ hasV (l.getD i z3) w
          · obtain ⟨w, hw⟩ := he; exact ⟨w, .inl hw⟩
          · exact ⟨v, .inr fun w hw => Classical.byContradiction fun hn => he ⟨w, hn, hw⟩⟩
        rcases hww with ⟨hw1, hw2⟩ | hall
        · exact hcl _ (getD3_mem hi) _ (getD3_mem hj) hiv huv hP ⟨w, hw1, hw2, (hv j hj w).1 ((hw w).2 hw2)⟩
        · have e1 : l.getD i z3 = (v, v, v) := Prod.ext (hall _ (.inl rfl)) (Prod.ext (hall _ (.inr (.inl rfl))) (hall _ (.inr (.inr rfl))))
          have hall' : ∀ w, hasV (l.getD j z3) w → w = v := fun w hw' => hall w ((hw w).1 ((hv j hj w).2 hw'))
          have e2 : l.getD j z3 = (v, v, v) := Prod.ext (hall' _ (.inl rfl)) (Prod.ext (hall' _ (.inr (.inl rfl))) (hall' _ (.inr (.inr rfl))))
          rw [e2, ← e1]; exact hP
      · obtain ⟨t, ht, htv, hPt⟩ := hex
        obtain ⟨i, hi, rfl⟩ := mem3_getD ht
        exact ⟨_, hmem hi, (hv i hi v).2 htv, i, hi, htv, hPt, hv i hi⟩
      · rintro t ht u hu htv huv ⟨i, hi, hiv, hP, hw⟩ ⟨w, hw1, hw2, hw3⟩
        obtain ⟨j', hj', rfl⟩ := back u hu
        exact ⟨j', hj', (hv j' hj' v).1 huv, hcl _ (getD3_mem hi) _ (getD3_mem hj') hiv ((hv j' hj' v).1 huv) hP ⟨w, hw1, (hw w).1 hw2, (hv j' hj' w).1 hw3⟩, hv j' hj'⟩
    · intro hc P hex hcl u hu huv
      obtain ⟨j, hj, rfl⟩ := back u hu
      have key := hc (fun t => ∃ i, i < l.length ∧ hasV (l'.getD i z3) v ∧ P (l'.getD i z3) ∧ (∀ w, hasV t w ↔ hasV (l'.getD i z3) w)) ?_ ?_ _ (getD3_mem hj) ((hv j hj v).1 huv)
      · obtain ⟨i, hi, hiv, hP, hw⟩ := key
        obtain ⟨w, hww⟩ : ∃ w, (w ≠ v ∧ hasV (l'.getD i z3) w) ∨ (∀ w, hasV (l'.getD i z3) w → w = v) := by
          by_cases he : ∃ w, w ≠ v ∧ hasV (l'.getD i z3) w
          · obtain ⟨w, hw⟩ := he; exact ⟨w, .inl hw⟩
          · exact ⟨v, .inr fun w hw => Classical.byContradiction fun hn => he ⟨w, hn, hw⟩⟩
        rcases hww with ⟨hw1, hw2⟩ | hall
        · exact hcl _ (hmem hi) _ (hmem hj) hiv huv hP ⟨w, hw1, hw2, (hv j hj w).2 ((hw w).2 hw2)⟩
        · have e1 : l'.getD i z3 = (v, v, v) := Prod.ext (hall _ (.inl rfl)) (Prod.ext (hall _ (.inr (.inl rfl))) (hall _ (.inr (.inr rfl))))
          have hall' : ∀ w, hasV (l'.getD j z3) w → w = v := fun w hw' => hall w ((hw w).1 ((hv j hj w).1 hw'))
          have e2 : l'.getD j z3 = (v, v, v) := Prod.ext (hall' _ (.inl rfl)) (Prod.ext (hall' _ (.inr (.inl rfl))) (hall' _ (.inr (.inr rfl))))
          rw [e2, ← e1]; exact hP
      · obtain ⟨t, ht, htv, hPt⟩ := hex
        obtain ⟨i, hi, rfl⟩ := back t ht
        exact ⟨_, getD3_mem hi, (hv i hi v).1 htv, i, hi, htv, hPt, fun w => (hv i hi w).symm⟩
      · rintro t ht u hu htv huv ⟨i, hi, hiv, hP, hw⟩ ⟨w, hw1, hw2, hw3⟩
        obtain ⟨j', hj', rfl⟩ := mem3_getD hu
        exact ⟨j', hj', (hv j' hj' v).2 huv, hcl _ (hmem hi) _ (hmem hj') hiv ((hv j' hj' v).2 huv) hP ⟨w, hw1, (hw w).1 hw2, (hv j' hj' w).2 hw3⟩, fun w => (hv j' hj' w).symm⟩
  refine ⟨p, fun v => by rw [hp v, hconn v], ?_⟩
  have b1 : idxW 1 (fun t => decide (badT N t)) l' = idxW 1 (fun t => decide (badT N t)) l := by
    unfold idxW
    rw [hl]
    congr 1
    exact List.filter_congr fun i hi => decide_eq_decide.2 (hbad i (List.mem_range.1 hi))
  have b2 : idxW 2 (fun t => decide (loopT t)) l' = idxW 2 (fun t => decide (loopT t)) l := by
    unfold idxW
    rw [hl]
    congr 1
    exact List.filter_congr fun i hi => decide_eq_decide.2 (hloop i (List.mem_range.1 hi))
  have pw : ∀ (k : Int) (q : Tr → Tr → Bool), (∀ i j, i < l.length → j < l.length → q (l'.getD i z3) (l'.getD j z3) = q (l.getD i z3) (l.getD j z3)) → pairW k q l' = pairW k q l := by
    intro k q hq
    unfold pairW
    rw [hl]
    rw [List.flatMap_def, List.flatMap_def]
    congr 1
    refine List.map_congr_left fun b hb => ?_
    congr 1
    have hb' := List.mem_range.1 hb
    exact List.filter_congr fun a ha => hq a b (by have := List.mem_range.1 ha; omega) hb'
  have b3 := pw 3 (fun t u => decide (twice t u)) fun i j hi hj => decide_eq_decide.2 (htw i j hi hj)
  have b4 := pw 4 (fun t u => decide (mirrd t u)) fun i j hi hj => decide_eq_decide.2 (by
    rw [mirrd_iff, mirrd_iff]
    exact ⟨fun h v h1 => (hv j hj v).1 (h v ((hv i hi v).2 h1)), fun h v h1 => (hv j hj v).2 (h v ((hv i hi v).1 h1))⟩)
  have b5 : lonely l' = lonely l := by
    funext v
    cases h1 : lonely l' v <;> cases h2 : lonely l v <;> first
      | rfl
      | (exfalso
         obtain ⟨t, ht, hh⟩ := lonely_false.1 h1
         obtain ⟨i, hi, rfl⟩ := back t ht
         have := lonely_false.2 ⟨_, getD3_mem hi, (hv i hi v).1 hh⟩
         rw [this] at h2; cases h2)
      | (exfalso
         obtain ⟨t, ht, hh⟩ := lonely_false.1 h2
         obtain ⟨i, hi, rfl⟩ := mem3_getD ht
         have := lonely_false.2 ⟨_, hmem hi, (hv i hi v).2 hh⟩
         rw [this] at h1; cases h1)
  unfold wits stagesW
  rw [hl, b1, b2, b3, b4, b5]
end Go.Proofs.Ytelbmjbjpgcdaaa
