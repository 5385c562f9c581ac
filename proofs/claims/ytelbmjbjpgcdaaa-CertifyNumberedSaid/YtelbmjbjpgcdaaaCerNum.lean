/- Layer 9: by other numbers, in another order, as many witnesses are told, of the same kind. -/
import Derived.Test.YtelbmjbjpgcdaaaCerMore
namespace Go.Proofs.Ytelbmjbjpgcdaaa

/-- Of triangles with three vertices: the same three, either way. -/
theorem mirrd_back {t u : Tr} (ht : ¬ loopT t) (hu : ¬ loopT u) (h : mirrd u t) : mirrd t u := by
  obtain ⟨t0, t1, t2⟩ := t
  obtain ⟨u0, u1, u2⟩ := u
  simp only [mirrd, hasV, loopT] at *
  omega
def cntP (q : Tr → Tr → Bool) : List Tr → Nat
  | [] => 0
  | x :: l => l.countP (q x) + cntP q l
theorem cntP_snoc (q : Tr → Tr → Bool) (l : List Tr) (x : Tr) : cntP q (l ++ [x]) = cntP q l + l.countP (fun a => q a x) := by
  induction l with
  | nil => simp [cntP]
  | cons y l ih =>
    simp only [List.cons_append, cntP, ih, List.countP_append, List.countP_cons, List.countP_nil]
    omega
theorem range_getD (l : List Tr) : (List.range l.length).map (fun i => l.getD i z3) = l := by
  refine ext_getD (z := z3) (by simp) fun i hi => ?_
  rw [List.length_map, List.length_range] at hi
  rw [List.getD_eq_getElem?_getD, List.getElem?_map, List.getElem?_range hi]
  rfl
theorem filter_len (l : List Tr) (q : Tr → Bool) : ((List.range l.length).filter fun i => q (l.getD i z3)).length = l.countP q := by
  conv => rhs; rw [← range_getD l]
  rw [List.countP_map, List.countP_eq_length_filter]
  rfl
theorem idxW_len (k : Int) (q : Tr → Bool) (l : List Tr) : (idxW k q l).length = l.countP q := by
  unfold idxW
  rw [List.length_map, filter_len]
theorem pairW_len (k : Int) (q : Tr → Tr → Bool) : ∀ (n : Nat) (l : List Tr), l.length = n → (pairW k q l).length = cntP q l
  | 0, l, h => by
    obtain rfl := List.eq_nil_of_length_eq_zero h
    rfl
  | n + 1, l, h => by
    rcases List.eq_nil_or_concat l with rfl | ⟨r, x, rfl⟩
    · cases h
    · simp only [List.concat_eq_append] at h ⊢
      rw [pairW_snoc, List.length_append, List.length_map, filter_len r (fun a => q a x), cntP_snoc, pairW_len k q n r (by simpa using h)]
theorem vertW_len (k : Int) (q : Int → Bool) (N : Int) : (vertW k q N).length = ((List.range N.toNat).map fun (v : Nat) => (v : Int)).countP q := by
  unfold vertW
  rw [List.length_map, List.countP_map, List.countP_eq_length_filter]
  rfl
theorem cntP_perm {q : Tr → Tr → Bool} (hs : ∀ a b, q a b = q b a) {l l' : List Tr} (h : l.Perm l') : cntP q l = cntP q l' := by
  induction h with
  | nil => rfl
  | cons x h ih => rw [cntP, cntP, ih, h.countP_eq]
  | swap x y l => simp only [cntP, List.countP_cons, hs x y]; omega
  | trans _ _ ih1 ih2 => exact ih1.trans ih2
theorem cntP_map {q : Tr → Tr → Bool} {f : Tr → Tr} (hf : ∀ a b, q (f a) (f b) = q a b) (l : List Tr) : cntP q (l.map f) = cntP q l := by
  induction l with
  | nil => rfl
  | cons x l ih =>
    rw [List.map_cons, cntP, cntP, ih, List.countP_map]
    congr 1
    exact List.countP_congr fun a _ => by simp [Function.comp, hf]

def mapT (f : Int → Int) (t : Tr) : Tr := (f t.1, f t.2.1, f t.2.2)
theorem mapT_inv {f g : Int → Int} (gf : ∀ x, g (f x) = x) (t : Tr) : mapT g (mapT f t) = t := by simp [mapT, gf]
theorem hasV_map {f g : Int → Int} (gf : ∀ x, g (f x) = x) {t : Tr} {v : Int} : hasV (mapT f t) (f v) ↔ hasV t v := by
  have inj : ∀ x, f x = f v ↔ x = v := fun x => ⟨fun h => by rw [← gf x, h, gf], fun h => by rw [h]⟩
  simp only [hasV, mapT, inj]
theorem hasE_map {f g : Int → Int} (gf : ∀ x, g (f x) = x) {t : Tr} {a b : Int} : hasE (mapT f t) (f a) (f b) ↔ hasE t a b := by
  have inj : ∀ x y, f x = f y ↔ x = y := fun x y => ⟨fun h => by rw [← gf x, h, gf], fun h => by rw [h]⟩
  simp only [hasE, mapT, inj]
theorem conn_map {f g : Int → Int} (gf : ∀ x, g (f x) = x) {l l' : List Tr} (hm : ∀ t', t' ∈ l' ↔ ∃ t ∈ l, mapT f t = t') {v : Int} (h : Conn l v) : Conn l' (f v) := by
  intro P hex hcl u hu huv
  obtain ⟨u0, hu0, rfl⟩ := (hm u).1 hu
  obtain ⟨t, ht, htv, hP⟩ := hex
  obtain ⟨t0, ht0, rfl⟩ := (hm t).1 ht
  refine h (fun x => P (mapT f x)) ⟨t0, ht0, (hasV_map gf).1 htv, hP⟩ (fun a ha b hb hav hbv hPa hadj => ?_) u0 hu0 ((hasV_map gf).1 huv)
  obtain ⟨w, hw, h1, h2⟩ := hadj
  exact hcl _ ((hm _).2 ⟨a, ha, rfl⟩) _ ((hm _).2 ⟨b, hb, rfl⟩) ((hasV_map gf).2 hav) ((hasV_map gf).2 hbv) hPa ⟨f w, fun e => hw (by rw [← gf w, e, gf]), (hasV_map gf).2 h1, (hasV_map gf).2 h2⟩

/-- The kind that is told: 0, if there is none. -/
def kindW (ws : List Wt) : Int := match ws with | [] => 0 | x :: _ => x.1
theorem first_alike : ∀ (A B : List (List Wt)), A.length = B.length → (∀ i, i < A.length → (A.getD i []).length = (B.getD i []).length) → (∀ i, i < A.length → kindW (A.getD i []) = kindW (B.getD i [])) → (firstL A).length = (firstL B).length ∧ kindW (firstL A) = kindW (firstL B)
  | [], [], _, _, _ => ⟨rfl, rfl⟩
  | a :: A, b :: B, hl, h1, h2 => by
    have e1 := h1 0 (by simp)
    have e2 := h2 0 (by simp)
    simp only [List.getD_cons_zero] at e1 e2
    have ih := first_alike A B (by simpa using hl) (fun i hi => by have := h1 (i + 1) (by simpa using hi); simpa using this) (fun i hi => by have := h2 (i + 1) (by simpa using hi); simpa using this)
    cases a with
    | nil =>
      obtain rfl := List.eq_nil_of_length_eq_zero e1.symm
      exact ih
    | cons x a =>
      cases b with
      | nil => cases e1
      | cons y b => exact ⟨e1, e2⟩
theorem kind_of {k : Int} : ∀ {ws : List Wt}, (∀ x ∈ ws, x.1 = k) → kindW ws = if ws = [] then 0 else k
  | [], _ => rfl
  | x :: ws, h => by rw [if_neg (by simp)]; exact h x (by simp)
theorem idxW_kind {k : Int} {q : Tr → Bool} {l : List Tr} : ∀ x ∈ idxW k q l, x.1 = k := by
  intro x hx
  obtain ⟨i, _, rfl⟩ := List.mem_map.1 hx
  rfl
theorem pairW_kind {k : Int} {q : Tr → Tr → Bool} {l : List Tr} : ∀ x ∈ pairW k q l, x.1 = k := by
  intro x hx
  obtain ⟨b, _, hx⟩ := List.mem_flatMap.1 hx
  obtain ⟨i, _, rfl⟩ := List.mem_map.1 hx
  rfl
theorem vertW_kind {k : Int} {q : Int → Bool} {N : Int} : ∀ x ∈ vertW k q N, x.1 = k := by
  intro x hx
  obtain ⟨i, _, rfl⟩ := List.mem_map.1 hx
  rfl
theorem kind_len {k : Int} {a b : List Wt} (ha : ∀ x ∈ a, x.1 = k) (hb : ∀ x ∈ b, x.1 = k) (h : a.length = b.length) : kindW a = kindW b := by
  rw [kind_of ha, kind_of hb]
  cases a with
  | nil => obtain rfl := List.eq_nil_of_length_eq_zero h.symm; rfl
  | cons x a => cases b with
    | nil => cases h
    | cons y b => simp
theorem count_shift {f g : Int → Int} (gf : ∀ x, g (f x) = x) (fg : ∀ x, f (g x) = x) {N : Int} (hin : ∀ x, inN N (f x) ↔ inN N x) {q q' : Int → Bool} (hq : ∀ v, q' (f v) = q v) : ((List.range N.toNat).map fun (v : Nat) => (v : Int)).countP q' = ((List.range N.toNat).map fun (v : Nat) => (v : Int)).countP q := by
  have hmem : ∀ x : Int, x ∈ ((List.range N.toNat).map fun (v : Nat) => (v : Int)) ↔ inN N x := fun x => by
    rw [List.mem_map]
    constructor
    · rintro ⟨a, ha, rfl⟩; have := List.mem_range.1 ha; exact ⟨by omega, by omega⟩
    · rintro ⟨h0, h1⟩; exact ⟨x.toNat, List.mem_range.2 (by omega), by omega⟩
  have hnd : ((List.range N.toNat).map fun (v : Nat) => (v : Int)).Nodup := by
    rw [List.nodup_iff_pairwise_ne, List.pairwise_map]
    exact List.pairwise_lt_range.imp (fun h => by omega)
  have hnd2 : (((List.range N.toNat).map fun (v : Nat) => (v : Int)).map f).Nodup := by
    rw [List.nodup_iff_pairwise_ne] at *
    rw [List.pairwise_map]
    exact hnd.imp (fun {a b} h e => h (by rw [← gf a, e, gf]))
  have hp : (((List.range N.toNat).map fun (v : Nat) => (v : Int)).map f).Perm ((List.range N.toNat).map fun (v : Nat) => (v : Int)) := by
    rw [List.perm_ext_iff_of_nodup hnd2 hnd]
    intro x
    rw [hmem, List.mem_map]
    constructor
    · rintro ⟨y, hy, rfl⟩; exact (hin y).2 ((hmem y).1 hy)
    · intro hx; exact ⟨g x, (hmem _).2 ((hin _).1 (by rw [fg]; exact hx)), fg x⟩
  rw [← hp.countP_eq, List.countP_map]
  exact List.countP_congr fun v _ => by simp [Function.comp, hq]
/-- By other numbers, in another order. -/
theorem isAll_numbered {f g : Int → Int} (gf : ∀ x, g (f x) = x) (fg : ∀ x, f (g x) = x) {N : Int} (hin : ∀ x, inN N (f x) ↔ inN N x) {l l' : List Tr} (hp : l'.Perm (l.map (mapT f))) {ws ws' : List Wt} (h : IsAll N l ws) (h' : IsAll N l' ws') : ws'.length = ws.length ∧ kindW ws' = kindW ws := by
  obtain ⟨p, hpp, rfl⟩ := h
  obtain ⟨p', hpp', rfl⟩ := h'
  have hmem : ∀ t', t' ∈ l' ↔ ∃ t ∈ l, mapT f t = t' := fun t' => by rw [hp.mem_iff, List.mem_map]
  have hmem2 : ∀ t, t ∈ l ↔ ∃ t' ∈ l', mapT g t' = t := fun t => by
    constructor
    · intro ht; exact ⟨mapT f t, (hmem _).2 ⟨t, ht, rfl⟩, mapT_inv gf t⟩
    · rintro ⟨t', ht', rfl⟩
      obtain ⟨t, ht, rfl⟩ := (hmem t').1 ht'
      rw [mapT_inv gf]; exact ht
  have hll : l'.length = l.length := by rw [hp.length_eq, List.length_map]
  have hc : ∀ v, Conn l' (f v) ↔ Conn l v := fun v => ⟨fun h => by have := conn_map fg hmem2 h; rwa [gf] at this, fun h => conn_map gf hmem h⟩
  have hpin : ∀ v, p' (f v) = p v := fun v => by
    have h1 := hpp v
    have h2 := hpp' (f v)
    rw [hc v] at h2
    exact Bool.eq_iff_iff.2 (h2.trans h1.symm)
  have hlon : ∀ v, lonely l' (f v) = lonely l v := fun v => by
    have key : lonely l' (f v) = false ↔ lonely l v = false := by
      rw [lonely_false, lonely_false]
      constructor
      · rintro ⟨t, ht, hv⟩
        obtain ⟨t0, ht0, rfl⟩ := (hmem t).1 ht
        exact ⟨t0, ht0, (hasV_map gf).1 hv⟩
      · rintro ⟨t, ht, hv⟩; exact ⟨_, (hmem _).2 ⟨t, ht, rfl⟩, (hasV_map gf).2 hv⟩
    rw [Bool.eq_iff_iff, ← Bool.not_eq_false, ← Bool.not_eq_false, key]
  have hbad : ∀ t, decide (badT N (mapT f t)) = decide (badT N t) := fun t => decide_eq_decide.2 (by simp only [badT, mapT, hin])
  have inj : ∀ x y, f x = f y ↔ x = y := fun x y => ⟨fun h => by rw [← gf x, h, gf], fun h => by rw [h]⟩
  have hloop : ∀ t, decide (loopT (mapT f t)) = decide (loopT t) := fun t => decide_eq_decide.2 (by simp only [loopT, mapT, inj])
  have htw : ∀ t u, decide (twice (mapT f t) (mapT f u)) = decide (twice t u) := fun t u => decide_eq_decide.2 (by simp only [twice, hasE, mapT, inj])
  have hmi : ∀ t u, decide (mirrd (mapT f t) (mapT f u)) = decide (mirrd t u) := fun t u => decide_eq_decide.2 (by simp only [mirrd, hasV, mapT, inj])
  unfold wits
  rw [hll]
  by_cases hr : N < 0 ∨ 4096 < N ∨ 8192 < l.length
  · rw [if_pos hr, if_pos hr]; exact ⟨rfl, rfl⟩
  rw [if_neg hr, if_neg hr]
  have c1 : ∀ (k : Int) (q : Tr → Bool), (∀ t, q (mapT f t) = q t) → (idxW k q l').length = (idxW k q l).length := fun k q hq => by
    rw [idxW_len, idxW_len, hp.countP_eq, List.countP_map]
    exact List.countP_congr fun a _ => by simp [Function.comp, hq]
  by_cases hlp : idxW 2 (fun t => decide (loopT t)) l = []
  all_goals
    have i1 := c1 1 (fun t => decide (badT N t)) hbad
    have i2 := c1 2 (fun t => decide (loopT t)) hloop
  · have s3 : ∀ t u : Tr, decide (twice t u) = decide (twice u t) := fun t u => decide_eq_decide.2 ⟨twice_symm, twice_symm⟩
    have i3 : (pairW 3 (fun t u => decide (twice t u)) l').length = (pairW 3 (fun t u => decide (twice t u)) l).length := by
      rw [pairW_len 3 _ _ l' rfl, pairW_len 3 _ _ l rfl, cntP_perm s3 hp, cntP_map htw]
    have nol := idxW_nil.1 hlp
    have nol' : ∀ t ∈ l', ¬ loopT t := fun t ht => by
      obtain ⟨t0, ht0, rfl⟩ := (hmem t).1 ht
      have := nol t0 ht0
      rw [← hloop] at this
      simpa using this
    have hq4 : ∀ (l : List Tr), (∀ t ∈ l, ¬ loopT t) → cntP (fun t u => decide (mirrd t u)) l = cntP (fun t u => decide (mirrd t u) || decide (mirrd u t)) l := by
      intro l
      induction l with
      | nil => intro _; rfl
      | cons x l ih =>
        intro h
        rw [cntP, cntP, ih (fun t ht => h t (by simp [ht]))]
        congr 1
        refine List.countP_congr fun u hu => ?_
        have h1 := h x (by simp)
        have h2 := h u (by simp [hu])
        have : mirrd u x → mirrd x u := fun hm => mirrd_back h1 h2 hm
        simp only [Bool.or_eq_true, decide_eq_true_eq]
        exact ⟨fun h => .inl h, fun h => h.elim id this⟩
    have i4 : (pairW 4 (fun t u => decide (mirrd t u)) l').length = (pairW 4 (fun t u => decide (mirrd t u)) l).length := by
      rw [pairW_len 4 _ _ l' rfl, pairW_len 4 _ _ l rfl, hq4 l' nol', hq4 l (fun t ht => by have := nol t ht; simpa using this), cntP_perm (fun a b => Bool.or_comm _ _) hp, cntP_map (fun a b => by rw [hmi, hmi])]
    have i5 : (vertW 5 (lonely l') N).length = (vertW 5 (lonely l) N).length := by rw [vertW_len, vertW_len]; exact count_shift gf fg hin hlon
    have i6 : (vertW 6 p' N).length = (vertW 6 p N).length := by rw [vertW_len, vertW_len]; exact count_shift gf fg hin hpin
    have j1 := kind_len idxW_kind idxW_kind i1
    have j2 := kind_len idxW_kind idxW_kind i2
    have j3 := kind_len pairW_kind pairW_kind i3
    have j4 := kind_len pairW_kind pairW_kind i4
    have j5 := kind_len vertW_kind vertW_kind i5
    have j6 := kind_len vertW_kind vertW_kind i6
    refine first_alike _ _ rfl (fun i hi => ?_) (fun i hi => ?_)
    · rcases i with _ | _ | _ | _ | _ | _ | i
      · exact i1
      · exact i2
      · exact i3
      · exact i4
      · exact i5
      · exact i6
      · simp [stagesW] at hi; omega
    · rcases i with _ | _ | _ | _ | _ | _ | i
      · exact j1
      · exact j2
      · exact j3
      · exact j4
      · exact j5
      · exact j6
      · simp [stagesW] at hi; omega
  · -- there are loops: what comes behind is not told
    unfold stagesW
    have k2 := kind_len (idxW_kind (k := 2) (q := fun t => decide (loopT t)) (l := l')) (idxW_kind (l := l)) i2
    cases h1 : idxW 1 (fun t => decide (badT N t)) l with
    | cons x a =>
      cases h1' : idxW 1 (fun t => decide (badT N t)) l' with
      | nil => rw [h1, h1'] at i1; cases i1
      | cons y b =>
        have := kind_len (idxW_kind (k := 1) (q := fun t => decide (badT N t)) (l := l')) (idxW_kind (l := l)) i1
        rw [h1, h1'] at this i1
        exact ⟨i1, this⟩
    | nil =>
      have h1' : idxW 1 (fun t => decide (badT N t)) l' = [] := List.eq_nil_of_length_eq_zero (by rw [i1, h1]; rfl)
      rw [h1']
      cases h2 : idxW 2 (fun t => decide (loopT t)) l with
      | nil => exact absurd h2 hlp
      | cons x a =>
        cases h2' : idxW 2 (fun t => decide (loopT t)) l' with
        | nil => rw [h2, h2'] at i2; cases i2
        | cons y b => rw [h2, h2'] at k2 i2; exact ⟨i2, k2⟩
end Go.Proofs.Ytelbmjbjpgcdaaa
