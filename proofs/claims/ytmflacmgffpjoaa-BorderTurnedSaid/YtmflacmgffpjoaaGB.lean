/- Texts laid one behind the other: BdCls, BdMap. -/
import Derived.Test.YtmflacmgffpjoaaGP

/- Layer 12: a hole of three is closed by a triangle: a surface again, with one loop and three border edges less. -/
namespace Go.Proofs.Ytmflacmgffpjoaa

section
variable {N : Int} {l : List Tr} {a b c : Int}
theorem close_no (h1 : Bdry l b a) (h2 : Bdry l c b) (h3 : Bdry l a c) {t : Tr} (ht : t ∈ l) {p q : Int} (hx : hasE (a, b, c) p q) : ¬ hasE t p q := by
  rcases hx with ⟨rfl, rfl⟩ | ⟨rfl, rfl⟩ | ⟨rfl, rfl⟩
  · exact h1.2 t ht
  · exact h2.2 t ht
  · exact h3.2 t ht
theorem close_back (h1 : Bdry l b a) (h2 : Bdry l c b) (h3 : Bdry l a c) {p q : Int} (hx : hasE (a, b, c) p q) : ∃ t ∈ l, hasE t q p := by
  rcases hx with ⟨rfl, rfl⟩ | ⟨rfl, rfl⟩ | ⟨rfl, rfl⟩
  · exact h1.1
  · exact h2.1
  · exact h3.1
theorem close_adj (h1 : Bdry l b a) (h2 : Bdry l c b) (h3 : Bdry l a c) {v : Int} (hv : hasV (a, b, c) v) : ∃ t ∈ l, hasV t v ∧ adjV v (a, b, c) t := by
  have n1 := (bdry_ne h1).1
  have n2 := (bdry_ne h2).1
  have n3 := (bdry_ne h3).1
  rcases hv with e | e | e
  · obtain ⟨t, ht, hE⟩ := h1.1
    have e : a = v := e
    subst e
    exact ⟨t, ht, (hasE_hasV hE).2, b, n1, .inr (.inl rfl), (hasE_hasV hE).1⟩
  · obtain ⟨t, ht, hE⟩ := h2.1
    have e : b = v := e
    subst e
    exact ⟨t, ht, (hasE_hasV hE).2, c, n2, .inr (.inr rfl), (hasE_hasV hE).1⟩
  · obtain ⟨t, ht, hE⟩ := h3.1
    have e : c = v := e
    subst e
    exact ⟨t, ht, (hasE_hasV hE).2, a, n3, .inl rfl, (hasE_hasV hE).1⟩
theorem surf_close (h : Surf N l) (h1 : Bdry l b a) (h2 : Bdry l c b) (h3 : Bdry l a c) (hno : ∀ t ∈ l, ¬ (hasV t a ∧ hasV t b ∧ hasV t c)) (hl : l.length < 8192) : Surf N (l ++ [(a, b, c)]) where
  n0 := h.n0
  n1 := h.n1
  t1 := by simp; omega
  inb := fun t ht => by
    rcases List.mem_append.1 ht with ht | ht
    · exact h.inb t ht
    · rw [List.mem_singleton.1 ht]
      exact ⟨(bdry_in h h1).2, (bdry_in h h1).1, (bdry_in h h2).1⟩
  noloop := fun t ht => by
    rcases List.mem_append.1 ht with ht | ht
    · exact h.noloop t ht
    · rw [List.mem_singleton.1 ht]
      rintro (e | e | e)
      · exact (bdry_ne h1).1 e.symm
      · exact (bdry_ne h2).1 e.symm
      · exact (bdry_ne h3).1 e.symm
  notwice := by
    rw [List.pairwise_append]
    refine ⟨h.notwice, List.pairwise_singleton _ _, fun t ht u hu => ?_⟩
    rw [List.mem_singleton.1 hu]
    rintro (e | e | e)
    · exact close_no h1 h2 h3 ht e (.inl ⟨rfl, rfl⟩)
    · exact close_no h1 h2 h3 ht e (.inr (.inl ⟨rfl, rfl⟩))
    · exact close_no h1 h2 h3 ht e (.inr (.inr ⟨rfl, rfl⟩))
  nomirr := by
    rw [List.pairwise_append]
    refine ⟨h.nomirr, List.pairwise_singleton _ _, fun t ht u hu => ?_⟩
    rw [List.mem_singleton.1 hu]
    intro hm
    have hn := h.noloop t ht
    have hh := hno t ht
    unfold mirrd at hm
    unfold loopT at hn
    unfold hasV at hm hh
    simp only at hm
    omega
  used := fun v hv => by
    obtain ⟨t, ht, hh⟩ := h.used v hv
    exact ⟨t, List.mem_append_left _ ht, hh⟩
  conn := fun v hv P hs hstep u hu huv => by
    have hx : (a, b, c) ∈ l ++ [(a, b, c)] := List.mem_append_right _ (List.mem_singleton.2 rfl)
    have hold : (∃ t ∈ l, hasV t v ∧ P t) → ∀ u ∈ l, hasV u v → P u := fun hs => h.conn v hv P hs fun t ht u hu => hstep t (List.mem_append_left _ ht) u (List.mem_append_left _ hu)
    have hall : ∀ u ∈ l, hasV u v → P u := by
      obtain ⟨t0, ht0, hv0, hP0⟩ := hs
      rcases List.mem_append.1 ht0 with ht | ht
      · exact hold ⟨t0, ht, hv0, hP0⟩
      · rw [List.mem_singleton.1 ht] at hv0 hP0
        obtain ⟨t, ht', hvt, hadj⟩ := close_adj h1 h2 h3 hv0
        exact hold ⟨t, ht', hvt, hstep _ hx t (List.mem_append_left _ ht') hv0 hvt hP0 hadj⟩
    rcases List.mem_append.1 hu with hu | hu
    · exact hall u hu huv
    · rw [List.mem_singleton.1 hu] at huv ⊢
      obtain ⟨t, ht', hvt, hadj⟩ := close_adj h1 h2 h3 huv
      exact hstep t (List.mem_append_left _ ht') _ hx hvt huv (hall t ht' hvt) (adjV_symm hadj)
theorem bdry_close (h1 : Bdry l b a) (h2 : Bdry l c b) (h3 : Bdry l a c) {u v : Int} : Bdry (l ++ [(a, b, c)]) u v ↔ Bdry l u v ∧ ¬ hasE (a, b, c) v u := by
  have hx : (a, b, c) ∈ l ++ [(a, b, c)] := List.mem_append_right _ (List.mem_singleton.2 rfl)
  constructor
  · rintro ⟨⟨t, ht, hE⟩, hn⟩
    refine ⟨⟨?_, fun t ht => hn t (List.mem_append_left _ ht)⟩, hn _ hx⟩
    rcases List.mem_append.1 ht with ht | ht
    · exact ⟨t, ht, hE⟩
    · rw [List.mem_singleton.1 ht] at hE
      obtain ⟨t', ht', hE'⟩ := close_back h1 h2 h3 hE
      exact absurd hE' (hn t' (List.mem_append_left _ ht'))
  · rintro ⟨⟨⟨t, ht, hE⟩, hn⟩, hxn⟩
    refine ⟨⟨t, List.mem_append_left _ ht, hE⟩, fun t ht => ?_⟩
    rcases List.mem_append.1 ht with ht | ht
    · exact hn t ht
    · rw [List.mem_singleton.1 ht]; exact hxn
/-- Which vertices keep their border edges. -/
theorem bdry_close_at (h : Surf N l) (h1 : Bdry l b a) (h2 : Bdry l c b) (h3 : Bdry l a c) {u v : Int} : Bdry (l ++ [(a, b, c)]) u v ↔ Bdry l u v ∧ v ≠ a ∧ v ≠ b ∧ v ≠ c := by
  rw [bdry_close h1 h2 h3]
  constructor
  · rintro ⟨hb, hn⟩
    refine ⟨hb, fun e => hn ?_, fun e => hn ?_, fun e => hn ?_⟩
    · subst e; rw [bdry_in_one h hb h1]; exact .inl ⟨rfl, rfl⟩
    · subst e; rw [bdry_in_one h hb h2]; exact .inr (.inl ⟨rfl, rfl⟩)
    · subst e; rw [bdry_in_one h hb h3]; exact .inr (.inr ⟨rfl, rfl⟩)
  · rintro ⟨hb, n1, n2, n3⟩
    refine ⟨hb, ?_⟩
    rintro (⟨e, _⟩ | ⟨e, _⟩ | ⟨e, _⟩)
    · exact n1 e.symm
    · exact n2 e.symm
    · exact n3 e.symm
end
theorem aT_none {N : Int} {l : List Tr} (h : Surf N l) {x : Nat} : aT l x = none ↔ ∀ y : Nat, ¬ Bdry l (y : Int) (x : Int) := by
  constructor
  · intro e y hb
    rw [(aT_iff h).2 hb] at e; cases e
  · intro hn
    cases e : aT l x with
    | none => rfl
    | some y => exact absurd ((aT_iff h).1 e) (hn y)
theorem aT_ext {N : Int} {l r : List Tr} (h : Surf N l) (h' : Surf N r) {x : Nat} (k : ∀ y : Nat, Bdry r (y : Int) (x : Int) ↔ Bdry l (y : Int) (x : Int)) : aT r x = aT l x := by
  cases e : aT l x with
  | none => exact (aT_none h').2 fun y hb => (aT_none h).1 e y ((k y).1 hb)
  | some y => exact (aT_iff h').2 ((k y).2 ((aT_iff h).1 e))
section
variable {N : Int} {l : List Tr} {A B C : Nat}
/-- A loop of three. -/
theorem loop3 (h : Surf N l) (hL : IsLoop N l A [A, B, C]) : Bdry l (B : Int) (A : Int) ∧ Bdry l (C : Int) (B : Int) ∧ Bdry l (A : Int) (C : Int) :=
  ⟨(aT_iff h).1 (hL.chain.st 0 (by simp)), (aT_iff h).1 (hL.chain.st 1 (by simp)), (aT_iff h).1 hL.back⟩
theorem bV_close (h : Surf N l) (hL : IsLoop N l A [A, B, C]) (h' : Surf N (l ++ [((A : Int), (B : Int), (C : Int))])) (x : Nat) : x ∈ bV N (l ++ [((A : Int), (B : Int), (C : Int))]) ↔ x ∈ bV N l ∧ x ≠ A ∧ x ≠ B ∧ x ≠ C := by
  obtain ⟨h1, h2, h3⟩ := loop3 h hL
  rw [bV_mem h', bV_mem h]
  constructor
  · rintro ⟨y, hb⟩
    obtain ⟨hb, n1, n2, n3⟩ := (bdry_close_at h h1 h2 h3).1 hb
    exact ⟨⟨y, hb⟩, by omega, by omega, by omega⟩
  · rintro ⟨⟨y, hb⟩, n1, n2, n3⟩
    exact ⟨y, (bdry_close_at h h1 h2 h3).2 ⟨hb, by omega, by omega, by omega⟩⟩
theorem bEdges_close (h : Surf N l) (hL : IsLoop N l A [A, B, C]) (h' : Surf N (l ++ [((A : Int), (B : Int), (C : Int))])) : (bEdges (l ++ [((A : Int), (B : Int), (C : Int))])).length + 3 = (bEdges l).length := by
  rw [bEdges_len h, bEdges_len h']
  have hm := bV_close h hL h'
  have nd : ([A, B, C] ++ bV N (l ++ [((A : Int), (B : Int), (C : Int))])).Nodup := by
    rw [List.nodup_append]
    refine ⟨hL.chain.nd, bV_nodup _ _, fun x hx y hy e => ?_⟩
    subst e
    obtain ⟨_, n1, n2, n3⟩ := (hm x).1 hy
    simp only [List.mem_cons, List.not_mem_nil, or_false] at hx
    omega
  have a := nodup_subN nd (b := bV N l) fun x hx => by
    rcases List.mem_append.1 hx with hx | hx
    · exact hL.chain.sub x hx
    · exact ((hm x).1 hx).1
  have b := nodup_subN (bV_nodup N l) (b := [A, B, C] ++ bV N (l ++ [((A : Int), (B : Int), (C : Int))])) fun x hx => by
    by_cases e : x = A ∨ x = B ∨ x = C
    · exact List.mem_append_left _ (by simpa using e)
    · exact List.mem_append_right _ ((hm x).2 ⟨hx, fun k => e (.inl k), fun k => e (.inr (.inl k)), fun k => e (.inr (.inr k))⟩)
  rw [List.length_append] at a b
  have : [A, B, C].length = 3 := rfl
  omega
theorem loop_close (h : Surf N l) (hL : IsLoop N l A [A, B, C]) (h' : Surf N (l ++ [((A : Int), (B : Int), (C : Int))])) {v : Nat} {L : List Nat} (hv : v ∉ [A, B, C]) (hM : IsLoop N l v L) : IsLoop N (l ++ [((A : Int), (B : Int), (C : Int))]) v L := by
  obtain ⟨h1, h2, h3⟩ := loop3 h hL
  have hout : ∀ x ∈ L, x ∉ [A, B, C] := fun x hx hin => by
    obtain ⟨K, hK⟩ := loop_exists h (hM.chain.sub x hx)
    have e1 := hM.same hK hx
    have e2 := hL.same hK hin
    exact hv ((e2 v).2 ((e1 v).1 hM.self))
  have hne : ∀ x ∈ L, x ≠ A ∧ x ≠ B ∧ x ≠ C := fun x hx => by
    have := hout x hx
    simp only [List.mem_cons, List.not_mem_nil, or_false, not_or] at this
    exact this
  have hT : ∀ x ∈ L, aT (l ++ [((A : Int), (B : Int), (C : Int))]) x = aT l x := fun x hx => aT_ext h h' fun y => by
    obtain ⟨n1, n2, n3⟩ := hne x hx
    rw [bdry_close_at h h1 h2 h3]
    exact ⟨fun h => h.1, fun h => ⟨h, by omega, by omega, by omega⟩⟩
  refine ⟨⟨hM.chain.ne, hM.chain.hd, hM.chain.nd, fun x hx => (bV_close h hL h' x).2 ⟨hM.chain.sub x hx, hne x hx⟩, fun i hi => ?_⟩, ?_⟩
  · rw [hT _ (getDn_mem (by omega))]; exact hM.chain.st i hi
  · rw [hT _ (getDn_mem (by have := hM.chain.ne; omega))]; exact hM.back
theorem least_close (h : Surf N l) (hL : IsLoop N l A [A, B, C]) (hle : ∀ x ∈ [A, B, C], A ≤ x) (h' : Surf N (l ++ [((A : Int), (B : Int), (C : Int))])) (v : Nat) : IsLeast N (l ++ [((A : Int), (B : Int), (C : Int))]) v ↔ IsLeast N l v ∧ v ≠ A := by
  constructor
  · rintro ⟨M, hM, hl⟩
    have hv' := (bV_close h hL h' v).1 (hM.chain.sub _ hM.self)
    obtain ⟨K, hK⟩ := loop_exists h hv'.1
    have hvn : v ∉ [A, B, C] := by simp only [List.mem_cons, List.not_mem_nil, or_false, not_or]; exact hv'.2
    rw [hM.one (loop_close h hL h' hvn hK)] at hl
    exact ⟨⟨K, hK, hl⟩, hv'.2.1⟩
  · rintro ⟨⟨K, hK, hl⟩, hv⟩
    have hvn : v ∉ [A, B, C] := fun hin => by
      have := hL.same hK hin
      have h1 := hl A ((this A).1 hL.self)
      have h2 := hle v hin
      omega
    exact ⟨K, loop_close h hL h' hvn hK, hl⟩
theorem loops_close (h : Surf N l) {LL MM : List (List Nat)} (hLL : IsLoops N l LL) {i : Nat} (hi : i < LL.length) (hABC : LL.getD i [] = [A, B, C]) (h' : Surf N (l ++ [((A : Int), (B : Int), (C : Int))])) (hMM : IsLoops N (l ++ [((A : Int), (B : Int), (C : Int))]) MM) : MM.length + 1 = LL.length := by
  obtain ⟨v, hv, hvN, hl, hle⟩ := hLL.at hi
  rw [hABC] at hl hle
  obtain rfl : v = A := hl.chain.hd.symm
  have hlc := least_close h hl hle h'
  obtain ⟨vs, p1, p2, p3, _⟩ := hLL
  obtain ⟨ws, q1, q2, q3, _⟩ := hMM
  have nv : vs.Nodup := by rw [List.nodup_iff_pairwise_ne]; exact p1.imp fun h => by omega
  have nw : (v :: ws).Nodup := by
    rw [List.nodup_cons]
    refine ⟨fun hin => ((hlc v).1 ((q2 v).1 hin).1).2 rfl, ?_⟩
    rw [List.nodup_iff_pairwise_ne]; exact q1.imp fun h => by omega
  have a := nodup_subN nw (b := vs) fun x hx => by
    rcases List.mem_cons.1 hx with rfl | hx
    · exact (p2 _).2 ⟨hv, hvN⟩
    · have := (q2 x).1 hx
      exact (p2 x).2 ⟨((hlc x).1 this.1).1, this.2⟩
  have b := nodup_subN nv (b := v :: ws) fun x hx => by
    have := (p2 x).1 hx
    by_cases e : x = v
    · subst e; exact List.mem_cons_self
    · exact List.mem_cons_of_mem _ ((q2 x).2 ⟨(hlc x).2 ⟨this.1, e⟩, this.2⟩)
  rw [List.length_cons] at a b
  omega
end
end Go.Proofs.Ytmflacmgffpjoaa

/- Layer 12: the border in the mirror, and by other numbers: the same one, gone along the other way; as many loops. -/
namespace Go.Proofs.Ytmflacmgffpjoaa

theorem bdry_mir {l : List Tr} {u v : Int} : Bdry (l.map mirT) u v ↔ Bdry l v u := by
  unfold Bdry
  constructor
  · rintro ⟨⟨t, ht, hE⟩, hn⟩
    obtain ⟨s, hs, rfl⟩ := List.mem_map.1 ht
    exact ⟨⟨s, hs, hasE_mir.1 hE⟩, fun s hs hE' => hn _ (List.mem_map.2 ⟨s, hs, rfl⟩) (hasE_mir.2 hE')⟩
  · rintro ⟨⟨s, hs, hE⟩, hn⟩
    refine ⟨⟨_, List.mem_map.2 ⟨s, hs, rfl⟩, hasE_mir.2 hE⟩, fun t ht hE' => ?_⟩
    obtain ⟨s', hs', rfl⟩ := List.mem_map.1 ht
    exact hn s' hs' (hasE_mir.1 hE')
/-- The vertex behind one, in the mirror: the one ahead of it. -/
theorem after_mir {N : Int} {l : List Tr} (h : Surf N l) {v : Int} (hv : 0 ≤ v) : (0 ≤ afterV l v → afterV (l.map mirT) (afterV l v) = v) ∧ (afterV l v < 0 → afterV (l.map mirT) v < 0) := by
  have hm := surf_mir h
  refine ⟨fun h0 => (after_iff hm hv).2 (bdry_mir.2 ((after_iff h h0).1 rfl)), fun h0 => Classical.byContradiction fun h1 => ?_⟩
  have hb := bdry_mir.1 ((after_iff hm (u := afterV (l.map mirT) v) (by omega)).1 rfl)
  obtain ⟨u, hu⟩ := (bdry_both h).2 ⟨_, hb⟩
  have := (after_iff h (bdry_in h hu).1.1).2 hu
  have := (bdry_in h hu).1.1
  omega
/-- What has the same directed edges has the same border. -/
theorem bdry_same {l r : List Tr} (k : ∀ p q : Int, (∃ t ∈ r, hasE t p q) ↔ ∃ t ∈ l, hasE t p q) {u v : Int} : Bdry r u v ↔ Bdry l u v := by
  unfold Bdry
  rw [k]
  refine and_congr_right fun _ => ?_
  have := k v u
  constructor
  · intro h t ht hE
    obtain ⟨s, hs, hE'⟩ := this.2 ⟨t, ht, hE⟩
    exact h s hs hE'
  · intro h t ht hE
    obtain ⟨s, hs, hE'⟩ := this.1 ⟨t, ht, hE⟩
    exact h s hs hE'
theorem bdry_ren {N : Int} {to : List Int} {l : List Tr} (h : Surf N l) (hp : IsPerm N to) {u v : Int} : Bdry (l.map (renT to)) (toF N to u) (toF N to v) ↔ Bdry l u v := by
  have gf := toG_toF hp
  unfold Bdry
  rw [ren_map h]
  constructor
  · rintro ⟨⟨t, ht, hE⟩, hn⟩
    obtain ⟨s, hs, rfl⟩ := List.mem_map.1 ht
    exact ⟨⟨s, hs, (hasE_map gf).1 hE⟩, fun s hs hE' => hn _ (List.mem_map.2 ⟨s, hs, rfl⟩) ((hasE_map gf).2 hE')⟩
  · rintro ⟨⟨s, hs, hE⟩, hn⟩
    refine ⟨⟨_, List.mem_map.2 ⟨s, hs, rfl⟩, (hasE_map gf).2 hE⟩, fun t ht hE' => ?_⟩
    obtain ⟨s', hs', rfl⟩ := List.mem_map.1 ht
    exact hn s' hs' ((hasE_map gf).1 hE')
/-- Two surfaces whose borders are one, by other numbers: f, and back, g. -/
structure Alike (N : Int) (l r : List Tr) (f g : Nat → Nat) : Prop where
  sl : Surf N l
  sr : Surf N r
  fb : ∀ x, x < N.toNat → f x < N.toNat
  gb : ∀ x, x < N.toNat → g x < N.toNat
  gf : ∀ x, x < N.toNat → g (f x) = x
  fg : ∀ x, x < N.toNat → f (g x) = x
  bd : ∀ x y : Nat, x < N.toNat → y < N.toNat → (Bdry r ((f y : Nat) : Int) ((f x : Nat) : Int) ↔ Bdry l (y : Int) (x : Int))
theorem Alike.back {N : Int} {l r : List Tr} {f g : Nat → Nat} (h : Alike N l r f g) : Alike N r l g f where
  sl := h.sr
  sr := h.sl
  fb := h.gb
  gb := h.fb
  gf := h.fg
  fg := h.gf
  bd := fun x y hx hy => by
    have := h.bd (g x) (g y) (h.gb x hx) (h.gb y hy)
    rw [h.fg x hx, h.fg y hy] at this
    exact this.symm
theorem bdry_nat {N : Int} {l : List Tr} (h : Surf N l) {x y : Nat} (hb : Bdry l (y : Int) (x : Int)) : x < N.toNat ∧ y < N.toNat := by
  obtain ⟨h1, h2⟩ := bdry_in h hb
  have := h1.2
  have := h2.2
  omega
theorem Alike.mem {N : Int} {l r : List Tr} {f g : Nat → Nat} (h : Alike N l r f g) {x : Nat} (hx : x ∈ bV N l) : f x ∈ bV N r := by
  obtain ⟨y, hy⟩ := (bV_mem h.sl).1 hx
  obtain ⟨h1, h2⟩ := bdry_nat h.sl hy
  exact (bV_mem h.sr).2 ⟨f y, (h.bd x y h1 h2).2 hy⟩
theorem Alike.inj {N : Int} {l r : List Tr} {f g : Nat → Nat} (h : Alike N l r f g) {x y : Nat} (hx : x < N.toNat) (hy : y < N.toNat) (e : f x = f y) : x = y := by rw [← h.gf x hx, e, h.gf y hy]
theorem Alike.loop {N : Int} {l r : List Tr} {f g : Nat → Nat} (h : Alike N l r f g) {v : Nat} {L : List Nat} (hL : IsLoop N l v L) : IsLoop N r (f v) (L.map f) := by
  have hlt : ∀ x ∈ L, x < N.toNat := fun x hx => bV_lt (hL.chain.sub x hx)
  have hat : ∀ i, i < L.length → (L.map f).getD i 0 = f (L.getD i 0) := fun i hi => by
    rw [List.getD_eq_getElem?_getD, List.getD_eq_getElem?_getD, List.getElem?_map, List.getElem?_eq_getElem hi]; rfl
  have hT : ∀ x ∈ L, ∀ y, aT l x = some y → aT r (f x) = some (f y) := fun x hx y e => by
    have hb := (aT_iff h.sl).1 e
    exact (aT_iff h.sr).2 ((h.bd x y (hlt x hx) (bdry_nat h.sl hb).2).2 hb)
  refine ⟨⟨by rw [List.length_map]; exact hL.chain.ne, by rw [hat 0 hL.chain.ne, hL.chain.hd], ?_, fun x hx => ?_, fun i hi => ?_⟩, ?_⟩
  · rw [List.nodup_iff_pairwise_ne, List.pairwise_map]
    refine List.Pairwise.imp_of_mem ?_ (List.nodup_iff_pairwise_ne.1 hL.chain.nd)
    exact fun ha hb hne e => hne (h.inj (hlt _ ha) (hlt _ hb) e)
  · obtain ⟨y, hy, rfl⟩ := List.mem_map.1 hx
    exact h.mem (hL.chain.sub y hy)
  · rw [List.length_map] at hi
    rw [hat i (by omega), hat (i + 1) hi]
    exact hT _ (getDn_mem (by omega)) _ (hL.chain.st i hi)
  · have := hL.chain.ne
    rw [List.length_map, hat _ (by omega)]
    exact hT _ (getDn_mem (by omega)) _ hL.back
theorem Alike.edges_le {N : Int} {l r : List Tr} {f g : Nat → Nat} (h : Alike N l r f g) : (bEdges l).length ≤ (bEdges r).length := by
  rw [bEdges_len h.sl, bEdges_len h.sr]
  have nd : ((bV N l).map f).Nodup := by
    rw [List.nodup_iff_pairwise_ne, List.pairwise_map]
    refine List.Pairwise.imp_of_mem ?_ (List.nodup_iff_pairwise_ne.1 (bV_nodup N l))
    exact fun ha hb hne e => hne (h.inj (bV_lt ha) (bV_lt hb) e)
  have := nodup_subN nd (b := bV N r) fun x hx => by
    obtain ⟨y, hy, rfl⟩ := List.mem_map.1 hx
    exact h.mem hy
  rwa [List.length_map] at this
theorem Alike.edges {N : Int} {l r : List Tr} {f g : Nat → Nat} (h : Alike N l r f g) : (bEdges r).length = (bEdges l).length := Nat.le_antisymm h.back.edges_le h.edges_le
theorem Alike.loops_le {N : Int} {l r : List Tr} {f g : Nat → Nat} (h : Alike N l r f g) {LL MM : List (List Nat)} (hL : IsLoops N l LL) (hM : IsLoops N r MM) : LL.length ≤ MM.length := by
  obtain ⟨vs, p1, p2, p3, _⟩ := hL
  obtain ⟨ws, q1, q2, q3, _⟩ := hM
  have ex : ∀ v, ∃ w, v ∈ vs → (IsLeast N r w ∧ ∃ M, IsLoop N r w M ∧ f v ∈ M) := fun v => by
    by_cases hv : v ∈ vs
    · obtain ⟨w, h1, h2, _⟩ := least_one h.sr (h.mem ((p2 v).1 hv).1.mem)
      exact ⟨w, fun _ => ⟨h1, h2⟩⟩
    · exact ⟨0, fun h => absurd h hv⟩
  have nd : (vs.map fun v => Classical.choose (ex v)).Nodup := by
    rw [List.nodup_iff_pairwise_ne, List.pairwise_map]
    refine List.Pairwise.imp_of_mem ?_ p1
    intro a b ha hb hlt e
    obtain ⟨_, M, hM, haM⟩ := Classical.choose_spec (ex a) ha
    obtain ⟨_, M', hM', hbM⟩ := Classical.choose_spec (ex b) hb
    rw [e] at hM
    rw [hM'.one hM] at hbM
    have hK := h.back.loop hM
    have la := ((p2 a).1 ha).1
    have lb := ((p2 b).1 hb).1
    have ka : a ∈ M.map g := List.mem_map.2 ⟨f a, haM, h.gf a (bV_lt la.mem)⟩
    have kb : b ∈ M.map g := List.mem_map.2 ⟨f b, hbM, h.gf b (bV_lt lb.mem)⟩
    obtain ⟨A, hA, _⟩ := la
    obtain ⟨B, hB, _⟩ := lb
    obtain ⟨z, _, _, hz⟩ := least_one h.sl (hA.chain.sub a hA.self)
    have e1 := hz a ((p2 a).1 ha).1 ⟨A, hA, hA.self⟩
    have e2 := hz b ((p2 b).1 hb).1 ⟨B, hB, (hK.same hB kb a).1 ka⟩
    omega
  have := nodup_subN nd (b := ws) fun x hx => by
    obtain ⟨v, hv, rfl⟩ := List.mem_map.1 hx
    have := (Classical.choose_spec (ex v) hv).1
    exact (q2 _).2 ⟨this, bV_lt this.mem⟩
  rw [List.length_map] at this
  omega
theorem Alike.loops {N : Int} {l r : List Tr} {f g : Nat → Nat} (h : Alike N l r f g) {LL MM : List (List Nat)} (hL : IsLoops N l LL) (hM : IsLoops N r MM) : MM.length = LL.length := Nat.le_antisymm (h.back.loops_le hM hL) (h.loops_le hL hM)
/-- By the numbers of a list, its triangles in another order, that begin with other vertices. -/
theorem alike_ren {N : Int} {to : List Int} {l r : List Tr} (h : Surf N l) (hp : IsPerm N to) (hr : Surf N r) (k : ∀ p q : Int, (∃ t ∈ r, hasE t p q) ↔ ∃ t ∈ l.map (renT to), hasE t p q) :
    Alike N l r (fun x => (toF N to (x : Int)).toNat) (fun x => (toG N to (x : Int)).toNat) := by
  have inb : ∀ x : Nat, x < N.toNat → inN N (x : Int) := fun x hx => ⟨by omega, by omega⟩
  have fin : ∀ x : Nat, x < N.toNat → inN N (toF N to (x : Int)) := fun x hx => (toF_in hp _).2 (inb x hx)
  have gin : ∀ x : Nat, x < N.toNat → inN N (toG N to (x : Int)) := fun x hx => (toF_in hp _).1 (by rw [toF_toG hp]; exact inb x hx)
  have fc : ∀ x : Nat, x < N.toNat → (((toF N to (x : Int)).toNat : Nat) : Int) = toF N to (x : Int) := fun x hx => by have := (fin x hx).1; omega
  have gc : ∀ x : Nat, x < N.toNat → (((toG N to (x : Int)).toNat : Nat) : Int) = toG N to (x : Int) := fun x hx => by have := (gin x hx).1; omega
  refine ⟨h, hr, fun x hx => by have := fin x hx; have := this.1; have := (fin x hx).2; show (toF N to (x : Int)).toNat < N.toNat; omega, fun x hx => by have := (gin x hx).1; have := (gin x hx).2; show (toG N to (x : Int)).toNat < N.toNat; omega, fun x hx => ?_, fun x hx => ?_, fun x y hx hy => ?_⟩
  · show (toG N to (((toF N to (x : Int)).toNat : Nat) : Int)).toNat = x
    rw [fc x hx, toG_toF hp]; rfl
  · show (toF N to (((toG N to (x : Int)).toNat : Nat) : Int)).toNat = x
    rw [gc x hx, toF_toG hp]; rfl
  · show Bdry r (((toF N to (y : Int)).toNat : Nat) : Int) (((toF N to (x : Int)).toNat : Nat) : Int) ↔ _
    rw [fc x hx, fc y hy, bdry_same k, bdry_ren h hp]
/-- The vertex behind one, by other numbers. -/
theorem after_ren {N : Int} {to : List Int} {l r : List Tr} (h : Surf N l) (hp : IsPerm N to) (hr : Surf N r) (k : ∀ p q : Int, (∃ t ∈ r, hasE t p q) ↔ ∃ t ∈ l.map (renT to), hasE t p q) {v : Int} (hv : inN N v) :
    (afterV l v < 0 → afterV r (to.getD v.toNat 0) < 0) ∧ (0 ≤ afterV l v → inN N (afterV l v) ∧ afterV r (to.getD v.toNat 0) = to.getD (afterV l v).toNat 0) := by
  have ev : to.getD v.toNat 0 = toF N to v := by unfold toF; rw [if_pos hv]
  rw [ev]
  constructor
  · intro h0
    refine Classical.byContradiction fun h1 => ?_
    have hb := (after_iff hr (u := afterV r (toF N to v)) (by omega)).1 rfl
    rw [← toF_toG hp (afterV r (toF N to v)), bdry_same k, bdry_ren h hp] at hb
    have := (bdry_in h hb).1.1
    have := (after_iff h this).2 hb
    omega
  · intro h0
    have hb := (after_iff h h0).1 rfl
    have hin := (bdry_in h hb).1
    have eu : to.getD (afterV l v).toNat 0 = toF N to (afterV l v) := by unfold toF; rw [if_pos hin]
    rw [eu]
    refine ⟨hin, (after_iff hr ((toF_in hp _).2 hin).1).2 ?_⟩
    rw [bdry_same k, bdry_ren h hp]
    exact hb
end Go.Proofs.Ytmflacmgffpjoaa
