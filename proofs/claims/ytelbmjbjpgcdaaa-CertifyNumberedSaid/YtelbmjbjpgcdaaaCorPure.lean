/- Layer 10: corners, as plain numbers: next, previous, the edge that one faces, the one across. -/
import Derived.Test.YtelbmjbjpgcdaaaCerTurn
namespace Go.Proofs.Ytelbmjbjpgcdaaa

def nxt (c : Nat) : Nat := if c % 3 = 2 then c - 2 else c + 1
def prv (c : Nat) : Nat := if c % 3 = 0 then c + 2 else c - 1
def cor3 (t : Tr) (k : Nat) : Int := if k = 0 then t.1 else if k = 1 then t.2.1 else t.2.2
def vtx (l : List Tr) (c : Nat) : Int := cor3 (l.getD (c / 3) z3) (c % 3)
def edgeC (l : List Tr) (c : Nat) : Ed := (vtx l (nxt c), vtx l (prv c))
/-- The least number below n of which p tells true; -1: there is none. -/
def findC (n : Nat) (p : Nat → Bool) : Int := match (List.range n).find? p with | some c => (c : Int) | none => -1
def facing (l : List Tr) (e : Ed) : Int := findC (3 * l.length) fun c => decide (edgeC l c = e)
def oppC (l : List Tr) (c : Nat) : Int := facing l ((edgeC l c).2, (edgeC l c).1)
def cornerAt (l : List Tr) (v : Int) : Int := findC (3 * l.length) fun c => decide (vtx l c = v)

theorem nxt_div (c : Nat) : nxt c / 3 = c / 3 := by unfold nxt; split <;> omega
theorem prv_div (c : Nat) : prv c / 3 = c / 3 := by unfold prv; split <;> omega
theorem nxt_lt {c n : Nat} (h : c < 3 * n) : nxt c < 3 * n := by have := nxt_div c; omega
theorem prv_lt {c n : Nat} (h : c < 3 * n) : prv c < 3 * n := by have := prv_div c; omega
theorem nxt3 (c : Nat) : nxt (nxt (nxt c)) = c := by unfold nxt; repeat' split
                                                     all_goals omega
theorem prv_nxt (c : Nat) : prv (nxt c) = c := by unfold prv nxt; repeat' split
                                                  all_goals omega
theorem nxt_prv (c : Nat) : nxt (prv c) = c := by unfold prv nxt; repeat' split
                                                  all_goals omega
theorem prv_eq (c : Nat) : prv c = nxt (nxt c) := by unfold prv nxt; repeat' split
                                                     all_goals omega
theorem findC_none {n : Nat} {p : Nat → Bool} : findC n p = -1 ↔ ∀ c, c < n → p c = false := by
  unfold findC
  cases h : (List.range n).find? p with
  | none =>
    rw [List.find?_eq_none] at h
    exact ⟨fun _ c hc => by have := h c (List.mem_range.2 hc); simpa using this, fun _ => rfl⟩
  | some c =>
    have h1 := List.find?_some h
    have h2 := List.mem_range.1 (List.mem_of_find?_eq_some h)
    constructor
    · intro e; simp only at e; omega
    · intro hh; rw [hh c h2] at h1; cases h1
theorem findC_spec {n : Nat} {p : Nat → Bool} {c : Nat} : findC n p = (c : Int) ↔ c < n ∧ p c = true ∧ ∀ a, a < c → p a = false := by
  unfold findC
  cases h : (List.range n).find? p with
  | none =>
    rw [List.find?_eq_none] at h
    constructor
    · intro e; simp only at e; omega
    · rintro ⟨h1, h2, _⟩; exact absurd h2 (h c (List.mem_range.2 h1))
  | some d =>
    have h1 := List.find?_some h
    have h2 := List.mem_range.1 (List.mem_of_find?_eq_some h)
    rw [List.find?_eq_some_iff_append] at h
    obtain ⟨_, L1, L2, e, hl⟩ := h
    have hd : ∀ a, a < d → p a = false := by
      intro a ha
      have hlen : L1.length = d := by
        have := congrArg (fun l => l[L1.length]?) e
        simp only [List.getElem?_append_right (Nat.le_refl _), Nat.sub_self, List.getElem?_cons_zero] at this
        rw [List.getElem?_range (by have := congrArg List.length e; simp at this; omega)] at this
        simpa using this
      have : a ∈ L1 := by
        have g := congrArg (fun l => l[a]?) e
        rw [List.getElem?_range (by omega), List.getElem?_append_left (by omega)] at g
        exact List.mem_of_getElem? g.symm
      simpa using hl a this
    constructor
    · intro e; obtain rfl : d = c := by simp only at e; omega
      exact ⟨h2, h1, hd⟩
    · rintro ⟨g1, g2, g3⟩
      rcases Nat.lt_trichotomy c d with h5 | h5 | h5
      · rw [hd c h5] at g2; cases g2
      · rw [h5]
      · rw [g3 d h5] at h1; cases h1
theorem findC_cases (n : Nat) (p : Nat → Bool) : findC n p = -1 ∨ ∃ c : Nat, findC n p = (c : Int) ∧ c < n ∧ p c = true := by
  cases h : (List.range n).find? p with
  | none => left; unfold findC; rw [h]
  | some d => right; exact ⟨d, by unfold findC; rw [h], List.mem_range.1 (List.mem_of_find?_eq_some h), List.find?_some h⟩
theorem findC_one {n : Nat} {p : Nat → Bool} {c : Nat} (hc : c < n) (hp : p c = true) (hu : ∀ a, a < n → p a = true → a = c) : findC n p = (c : Int) :=
  findC_spec.2 ⟨hc, hp, fun a ha => by
    cases h : p a with
    | false => rfl
    | true => have := hu a (by omega) h; omega⟩

theorem cor3_hasV (t : Tr) (k : Nat) : hasV t (cor3 t k) := by
  unfold cor3
  split
  · exact .inl rfl
  · split
    · exact .inr (.inl rfl)
    · exact .inr (.inr rfl)
/-- The edge that a corner faces is one of its triangle. -/
theorem edgeC_has (l : List Tr) (c : Nat) : hasE (l.getD (c / 3) z3) (edgeC l c).1 (edgeC l c).2 := by
  unfold edgeC vtx
  simp only [nxt_div, prv_div]
  generalize l.getD (c / 3) z3 = t
  have hm : c % 3 = 0 ∨ c % 3 = 1 ∨ c % 3 = 2 := by omega
  rcases hm with hm | hm | hm
  · have h1 : nxt c % 3 = 1 := by unfold nxt; split <;> omega
    have h2 : prv c % 3 = 2 := by unfold prv; split <;> omega
    rw [h1, h2]; exact .inr (.inl ⟨rfl, rfl⟩)
  · have h1 : nxt c % 3 = 2 := by unfold nxt; split <;> omega
    have h2 : prv c % 3 = 0 := by unfold prv; split <;> omega
    rw [h1, h2]; exact .inr (.inr ⟨rfl, rfl⟩)
  · have h1 : nxt c % 3 = 0 := by unfold nxt; split <;> omega
    have h2 : prv c % 3 = 1 := by unfold prv; split <;> omega
    rw [h1, h2]; exact .inl ⟨rfl, rfl⟩
/-- Each edge of a triangle is faced by one of its corners. -/
theorem hasE_corner {l : List Tr} {t : Nat} (ht : t < l.length) {a b : Int} (h : hasE (l.getD t z3) a b) : ∃ c, c < 3 * l.length ∧ c / 3 = t ∧ edgeC l c = (a, b) := by
  have d0 : (3 * t) / 3 = t := by omega
  have d1 : (3 * t + 1) / 3 = t := by omega
  have d2 : (3 * t + 2) / 3 = t := by omega
  have m0 : (3 * t) % 3 = 0 := by omega
  have m1 : (3 * t + 1) % 3 = 1 := by omega
  have m2 : (3 * t + 2) % 3 = 2 := by omega
  have n0 : nxt (3 * t) = 3 * t + 1 := by unfold nxt; split <;> omega
  have n1 : nxt (3 * t + 1) = 3 * t + 2 := by unfold nxt; split <;> omega
  have n2 : nxt (3 * t + 2) = 3 * t := by unfold nxt; split <;> omega
  have p0 : prv (3 * t) = 3 * t + 2 := by unfold prv; split <;> omega
  have p1 : prv (3 * t + 1) = 3 * t := by unfold prv; split <;> omega
  have p2 : prv (3 * t + 2) = 3 * t + 1 := by unfold prv; split <;> omega
  have v0 : vtx l (3 * t) = (l.getD t z3).1 := by unfold vtx; rw [d0, m0]; rfl
  have v1 : vtx l (3 * t + 1) = (l.getD t z3).2.1 := by unfold vtx; rw [d1, m1]; rfl
  have v2 : vtx l (3 * t + 2) = (l.getD t z3).2.2 := by unfold vtx; rw [d2, m2]; rfl
  rcases h with ⟨h1, h2⟩ | ⟨h1, h2⟩ | ⟨h1, h2⟩
  · exact ⟨3 * t + 2, by omega, d2, by unfold edgeC; rw [n2, p2, v0, v1, h1, h2]⟩
  · exact ⟨3 * t, by omega, d0, by unfold edgeC; rw [n0, p0, v1, v2, h1, h2]⟩
  · exact ⟨3 * t + 1, by omega, d1, by unfold edgeC; rw [n1, p1, v2, v0, h1, h2]⟩
/-- In a surface no two corners face one directed edge. -/
theorem edgeC_inj {N : Int} {l : List Tr} (h : Surf N l) {c d : Nat} (hc : c < 3 * l.length) (hd : d < 3 * l.length) (e : edgeC l c = edgeC l d) : c = d := by
  have hc3 : c / 3 < l.length := by omega
  have hd3 : d / 3 < l.length := by omega
  have e1 := edgeC_has l c
  have e2 := edgeC_has l d
  rw [← e] at e2
  have ht : c / 3 = d / 3 := Classical.byContradiction fun hne => notwice_ne h.notwice hc3 hd3 hne (twice_iff.2 ⟨_, _, e1, e2⟩)
  have hn := h.noloop _ (getD3_mem hc3)
  unfold edgeC vtx at e
  simp only [nxt_div, prv_div, ← ht] at e
  generalize l.getD (c / 3) z3 = t at e hn
  obtain ⟨x, y, z⟩ := t
  simp only [loopT] at hn
  injection e with e1 e2
  have hcm : c % 3 = 0 ∨ c % 3 = 1 ∨ c % 3 = 2 := by omega
  have hdm : d % 3 = 0 ∨ d % 3 = 1 ∨ d % 3 = 2 := by omega
  have key : ∀ a : Nat, (a % 3 = 0 → nxt a % 3 = 1 ∧ prv a % 3 = 2) ∧ (a % 3 = 1 → nxt a % 3 = 2 ∧ prv a % 3 = 0) ∧ (a % 3 = 2 → nxt a % 3 = 0 ∧ prv a % 3 = 1) := fun a => by
    unfold nxt prv
    refine ⟨fun h => ?_, fun h => ?_, fun h => ?_⟩ <;> simp only [h] <;> constructor <;> simp <;> omega
  rcases hcm with m | m | m <;> rcases hdm with k | k | k
  · omega
  · rw [((key c).1 m).1, ((key d).2.1 k).1] at e1; simp [cor3] at e1; omega
  · rw [((key c).1 m).1, ((key d).2.2 k).1] at e1; simp [cor3] at e1; omega
  · rw [((key c).2.1 m).1, ((key d).1 k).1] at e1; simp [cor3] at e1; omega
  · omega
  · rw [((key c).2.1 m).1, ((key d).2.2 k).1] at e1; simp [cor3] at e1; omega
  · rw [((key c).2.2 m).1, ((key d).1 k).1] at e1; simp [cor3] at e1; omega
  · rw [((key c).2.2 m).1, ((key d).2.1 k).1] at e1; simp [cor3] at e1; omega
  · omega
theorem facing_edge {N : Int} {l : List Tr} (h : Surf N l) {c : Nat} (hc : c < 3 * l.length) : facing l (edgeC l c) = (c : Int) :=
  findC_one hc (decide_eq_true rfl) fun _ ha he => edgeC_inj h ha hc (of_decide_eq_true he)
theorem facing_some {l : List Tr} {e : Ed} {c : Nat} (h : facing l e = (c : Int)) : c < 3 * l.length ∧ edgeC l c = e := by
  obtain ⟨h1, h2, _⟩ := findC_spec.1 h
  exact ⟨h1, of_decide_eq_true h2⟩
theorem facing_none {l : List Tr} {e : Ed} : facing l e = -1 ↔ ∀ t ∈ l, ¬ hasE t e.1 e.2 := by
  unfold facing
  rw [findC_none]
  constructor
  · intro h t ht hE
    obtain ⟨i, hi, rfl⟩ := mem3_getD ht
    obtain ⟨c, hc, _, he⟩ := hasE_corner hi hE
    have := h c hc
    rw [decide_eq_false_iff_not] at this
    exact this he
  · intro h c hc
    rw [decide_eq_false_iff_not]
    intro he
    have := edgeC_has l c
    rw [he] at this
    exact h _ (getD3_mem (by omega)) this
theorem facing_cases (l : List Tr) (e : Ed) : facing l e = -1 ∨ ∃ c : Nat, facing l e = (c : Int) ∧ c < 3 * l.length ∧ edgeC l c = e := by
  rcases findC_cases (3 * l.length) (fun c => decide (edgeC l c = e)) with h | ⟨c, h1, h2, h3⟩
  · exact .inl h
  · exact .inr ⟨c, h1, h2, of_decide_eq_true h3⟩
/-- Across and back. -/
theorem opp_back {N : Int} {l : List Tr} (h : Surf N l) {c o : Nat} (hc : c < 3 * l.length) (ho : oppC l c = (o : Int)) : o < 3 * l.length ∧ oppC l o = (c : Int) ∧ edgeC l o = ((edgeC l c).2, (edgeC l c).1) ∧ o / 3 ≠ c / 3 ∧ vtx l o ≠ vtx l c := by
  obtain ⟨h1, h2⟩ := facing_some ho
  have hc3 : c / 3 < l.length := by omega
  have ho3 : o / 3 < l.length := by omega
  have hE := edgeC_has l c
  have hE2 := edgeC_has l o
  rw [h2] at hE2
  simp only at hE2
  have hne : o / 3 ≠ c / 3 := fun e => by
    rw [e] at hE2
    exact edge_back (h.noloop _ (getD3_mem hc3)) hE hE2
  refine ⟨h1, ?_, h2, hne, fun hv => ?_⟩
  · unfold oppC
    rw [h2]
    exact facing_edge h hc
  · -- the same three vertices
    have tri : ∀ (a : Nat) (v : Int), hasV (l.getD (a / 3) z3) v → v = vtx l a ∨ v = (edgeC l a).1 ∨ v = (edgeC l a).2 := fun a v hh => by
      unfold edgeC vtx
      simp only [nxt_div, prv_div]
      generalize l.getD (a / 3) z3 = t at hh
      have hm : a % 3 = 0 ∨ a % 3 = 1 ∨ a % 3 = 2 := by omega
      have key : (a % 3 = 0 → nxt a % 3 = 1 ∧ prv a % 3 = 2) ∧ (a % 3 = 1 → nxt a % 3 = 2 ∧ prv a % 3 = 0) ∧ (a % 3 = 2 → nxt a % 3 = 0 ∧ prv a % 3 = 1) := by
        unfold nxt prv
        refine ⟨fun h => ?_, fun h => ?_, fun h => ?_⟩ <;> simp only [h] <;> constructor <;> simp <;> omega
      rcases hm with m | m | m
      · rw [m, (key.1 m).1, (key.1 m).2]; rcases hh with g | g | g <;> simp [cor3, g]
      · rw [m, (key.2.1 m).1, (key.2.1 m).2]; rcases hh with g | g | g <;> simp [cor3, g]
      · rw [m, (key.2.2 m).1, (key.2.2 m).2]; rcases hh with g | g | g <;> simp [cor3, g]
    have all : mirrd (l.getD (c / 3) z3) (l.getD (o / 3) z3) := mirrd_iff.2 fun v hvv => by
      rcases tri c v hvv with e | e | e
      · rw [e, ← hv]; exact cor3_hasV _ _
      · rw [e]; exact (hasE_hasV hE2).2
      · rw [e]; exact (hasE_hasV hE2).1
    rcases Nat.lt_or_gt_of_ne hne with g | g
    · exact pair_at h.nomirr ho3 hc3 g (mirrd_back (h.noloop _ (getD3_mem ho3)) (h.noloop _ (getD3_mem hc3)) all)
    · exact pair_at h.nomirr hc3 ho3 g all
end Go.Proofs.Ytelbmjbjpgcdaaa
