/- Layer 9: a closed surface without one triangle; with one triangle turned round. -/
import Derived.Test.YtelbmjbjpgcdaaaCerNum
namespace Go.Proofs.Ytelbmjbjpgcdaaa

def Closed (l : List Tr) : Prop := ∀ t ∈ l, ∀ a b, hasE t a b → ∃ u ∈ l, hasE u b a
/-- The vertex behind v, and the one before it, in a triangle. -/
def outV (v : Int) (t : Tr) : Int := if t.1 = v then t.2.1 else if t.2.1 = v then t.2.2 else t.1
def innV (v : Int) (t : Tr) : Int := if t.1 = v then t.2.2 else if t.2.1 = v then t.1 else t.2.1
theorem out_edge {t : Tr} {v : Int} (hv : hasV t v) : hasE t v (outV v t) := by
  unfold outV
  rcases hv with h | h | h
  · rw [if_pos h]; exact .inl ⟨h, rfl⟩
  · by_cases h1 : t.1 = v
    · rw [if_pos h1]; exact .inl ⟨h1, rfl⟩
    · rw [if_neg h1, if_pos h]; exact .inr (.inl ⟨h, rfl⟩)
  · by_cases h1 : t.1 = v
    · rw [if_pos h1]; exact .inl ⟨h1, rfl⟩
    · by_cases h2 : t.2.1 = v
      · rw [if_neg h1, if_pos h2]; exact .inr (.inl ⟨h2, rfl⟩)
      · rw [if_neg h1, if_neg h2]; exact .inr (.inr ⟨h, rfl⟩)
theorem inn_edge {t : Tr} {v : Int} (hv : hasV t v) : hasE t (innV v t) v := by
  unfold innV
  rcases hv with h | h | h
  · rw [if_pos h]; exact .inr (.inr ⟨rfl, h⟩)
  · by_cases h1 : t.1 = v
    · rw [if_pos h1]; exact .inr (.inr ⟨rfl, h1⟩)
    · rw [if_neg h1, if_pos h]; exact .inl ⟨rfl, h⟩
  · by_cases h1 : t.1 = v
    · rw [if_pos h1]; exact .inr (.inr ⟨rfl, h1⟩)
    · by_cases h2 : t.2.1 = v
      · rw [if_neg h1, if_pos h2]; exact .inl ⟨rfl, h2⟩
      · rw [if_neg h1, if_neg h2]; exact .inr (.inl ⟨rfl, h⟩)
/-- What a triangle without a loop has at v. -/
theorem at_v {t : Tr} {v : Int} (hn : ¬ loopT t) (hv : hasV t v) : outV v t ≠ v ∧ innV v t ≠ v ∧ outV v t ≠ innV v t ∧ (∀ w, w ≠ v → hasV t w → w = outV v t ∨ w = innV v t) ∧ (∀ b, hasE t v b → b = outV v t) ∧ (∀ a, hasE t a v → a = innV v t) := by
  obtain ⟨x, y, z⟩ := t
  have key : (x = v ∧ outV v (x, y, z) = y ∧ innV v (x, y, z) = z) ∨ (x ≠ v ∧ y = v ∧ outV v (x, y, z) = z ∧ innV v (x, y, z) = x) ∨ (x ≠ v ∧ y ≠ v ∧ outV v (x, y, z) = x ∧ innV v (x, y, z) = y) := by
    unfold outV innV
    by_cases h1 : x = v
    · exact .inl ⟨h1, if_pos h1, if_pos h1⟩
    · by_cases h2 : y = v
      · exact .inr (.inl ⟨h1, h2, by rw [if_neg h1, if_pos h2], by rw [if_neg h1, if_pos h2]⟩)
      · exact .inr (.inr ⟨h1, h2, by rw [if_neg h1, if_neg h2], by rw [if_neg h1, if_neg h2]⟩)
  generalize outV v (x, y, z) = o at key ⊢
  generalize innV v (x, y, z) = i at key ⊢
  simp only [loopT, hasV, hasE] at *
  refine ⟨?_, ?_, ?_, ?_, ?_, ?_⟩ <;> omega
theorem edge_back {t : Tr} (hn : ¬ loopT t) {a b : Int} (h : hasE t a b) : ¬ hasE t b a := by
  obtain ⟨x, y, z⟩ := t
  simp only [loopT, hasE] at *
  omega
theorem nodup_sub {a b : List Int} (ha : a.Nodup) (h : ∀ e ∈ a, e ∈ b) : a.length ≤ b.length := by
  induction a generalizing b with
  | nil => exact Nat.zero_le _
  | cons x a ih =>
    rw [List.nodup_cons] at ha
    have hx := h x (by simp)
    have := ih (b := b.erase x) ha.2 (fun e he => (List.mem_erase_of_ne (by rintro rfl; exact ha.1 he)).2 (h e (by simp [he])))
    have h2 := List.length_erase_of_mem hx
    have h3 : 0 < b.length := List.length_pos_of_mem hx
    simp only [List.length_cons]
    omega
theorem nodup_all {a b : List Int} (ha : a.Nodup) (h : ∀ e ∈ a, e ∈ b) (hl : b.length ≤ a.length) : ∀ e ∈ b, e ∈ a := by
  intro e he
  refine Classical.byContradiction fun hn => ?_
  have := nodup_sub (a := e :: a) (b := b) (List.nodup_cons.2 ⟨hn, ha⟩) (fun x hx => by
    rcases List.mem_cons.1 hx with rfl | hx
    · exact he
    · exact h x hx)
  simp only [List.length_cons] at this
  omega
theorem pair_mem {A B : List Tr} {x : Tr} {R : Tr → Tr → Prop} (h : (A ++ x :: B).Pairwise R) : (A ++ B).Pairwise R ∧ (∀ t ∈ A, R t x) ∧ (∀ t ∈ B, R x t) := by
  rw [List.pairwise_append, List.pairwise_cons] at h
  obtain ⟨h1, ⟨h2, h3⟩, h4⟩ := h
  exact ⟨List.pairwise_append.2 ⟨h1, h3, fun a ha b hb => h4 a ha b (by simp [hb])⟩, fun t ht => h4 t ht x (by simp), h2⟩
theorem mem_mid {A B : List Tr} {x t : Tr} : t ∈ A ++ x :: B ↔ t = x ∨ t ∈ A ++ B := by
  simp only [List.mem_append, List.mem_cons]
  constructor
  · rintro (h | h | h)
    · exact .inr (.inl h)
    · exact .inl h
    · exact .inr (.inr h)
  · rintro (h | h | h)
    · exact .inr (.inl h)
    · exact .inl h
    · exact .inr (.inr h)
/-- In a surface two triangles with a directed edge in common are the same. -/
theorem one_edge {l : List Tr} (h : l.Pairwise fun t u => ¬ twice t u) {t u : Tr} (ht : t ∈ l) (hu : u ∈ l) {a b : Int} (h1 : hasE t a b) (h2 : hasE u a b) : t = u := by
  obtain ⟨i, hi, rfl⟩ := mem3_getD ht
  obtain ⟨j, hj, rfl⟩ := mem3_getD hu
  by_cases e : i = j
  · rw [e]
  · exact absurd (twice_iff.2 ⟨a, b, h1, h2⟩) (notwice_ne h hi hj e)
theorem open_mid {N : Int} {A B : List Tr} {x : Tr} (h : Surf N (A ++ x :: B)) (hc : Closed (A ++ x :: B)) : Surf N (A ++ B) := by
  obtain ⟨tw, twA, twB⟩ := pair_mem h.notwice
  obtain ⟨mi, _, _⟩ := pair_mem h.nomirr
  have hx : x ∈ A ++ x :: B := mem_mid.2 (.inl rfl)
  have sub : ∀ t, t ∈ A ++ B → t ∈ A ++ x :: B := fun t ht => mem_mid.2 (.inr ht)
  have nx : ∀ t ∈ A ++ B, t ≠ x := fun t ht e => by
    subst e
    rcases List.mem_append.1 ht with h1 | h1
    · exact twA _ h1 (twice_self _)
    · exact twB _ h1 (twice_self _)
  have other : ∀ t ∈ A ++ x :: B, ∀ a b, hasE t a b → ∃ u ∈ A ++ x :: B, hasE u b a ∧ u ≠ t := fun t ht a b hE => by
    obtain ⟨u, hu, hu'⟩ := hc t ht a b hE
    exact ⟨u, hu, hu', fun e => edge_back (h.noloop t ht) hE (e ▸ hu')⟩
  refine ⟨h.n0, h.n1, by have := h.t1; simp only [List.length_append, List.length_cons] at *; omega, fun t ht => h.inb t (sub t ht), fun t ht => h.noloop t (sub t ht), tw, mi, fun v hv => ?_, fun v hv => ?_⟩
  · obtain ⟨t, ht, htv⟩ := h.used v hv
    rcases mem_mid.1 ht with rfl | ht'
    · obtain ⟨u, hu, hE, hne⟩ := other t hx _ _ (out_edge htv)
      rcases mem_mid.1 hu with e | hu'
      · exact absurd e hne
      · exact ⟨u, hu', (hasE_hasV hE).2⟩
    · exact ⟨t, ht', htv⟩
  · by_cases hxv : hasV x v
    case neg =>
      intro P hex hcl u hu huv
      have back : ∀ t ∈ A ++ x :: B, hasV t v → t ∈ A ++ B := fun t ht htv => by
        rcases mem_mid.1 ht with rfl | h1
        · exact absurd htv hxv
        · exact h1
      obtain ⟨t, ht, htv, hP⟩ := hex
      exact h.conn v hv P ⟨t, sub t ht, htv, hP⟩ (fun a ha b hb hav hbv => hcl a (back a ha hav) b (back b hb hbv) hav hbv) u (sub u hu) huv
    -- the triangles before and behind x at v
    obtain ⟨s, hs, hsE, hsx⟩ := other x hx _ _ (out_edge hxv)
    obtain ⟨r, hr, hrE, hrx⟩ := other x hx _ _ (inn_edge hxv)
    have hs' : s ∈ A ++ B := by rcases mem_mid.1 hs with e | h1; exact absurd e hsx; exact h1
    have hr' : r ∈ A ++ B := by rcases mem_mid.1 hr with e | h1; exact absurd e hrx; exact h1
    have hsv : hasV s v := (hasE_hasV hsE).2
    have hrv : hasV r v := (hasE_hasV hrE).1
    have info := fun (t : Tr) (ht : t ∈ A ++ x :: B) (htv : hasV t v) => at_v (h.noloop t ht) htv
    have outOne : ∀ t ∈ A ++ x :: B, ∀ u ∈ A ++ x :: B, hasV t v → hasV u v → outV v t = outV v u → t = u := fun t ht u hu htv huv e => one_edge h.notwice ht hu (out_edge htv) (by rw [e]; exact out_edge huv)
    have innOne : ∀ t ∈ A ++ x :: B, ∀ u ∈ A ++ x :: B, hasV t v → hasV u v → innV v t = innV v u → t = u := fun t ht u hu htv huv e => one_edge h.notwice ht hu (inn_edge htv) (by rw [e]; exact inn_edge huv)
    have sIn : innV v s = outV v x := ((info s hs hsv).2.2.2.2.2 _ hsE).symm
    have rOut : outV v r = innV v x := ((info r hr hrv).2.2.2.2.1 _ hrE).symm
    have adjIff : ∀ t ∈ A ++ x :: B, ∀ u ∈ A ++ x :: B, hasV t v → hasV u v → t ≠ u → adjV v t u → outV v t = innV v u ∨ innV v t = outV v u := by
      intro t ht u hu htv huv hne ⟨w, hw, h1, h2⟩
      rcases (info t ht htv).2.2.2.1 w hw h1 with e1 | e1 <;> rcases (info u hu huv).2.2.2.1 w hw h2 with e2 | e2
      · exact absurd (outOne t ht u hu htv huv (e1.symm.trans e2)) hne
      · exact .inl (e1.symm.trans e2)
      · exact .inr (e1.symm.trans e2)
      · exact absurd (innOne t ht u hu htv huv (e1.symm.trans e2)) hne
    have adjOf : ∀ t ∈ A ++ x :: B, ∀ u ∈ A ++ x :: B, hasV t v → hasV u v → outV v t = innV v u → adjV v t u := fun t ht u hu htv huv e => ⟨outV v t, (info t ht htv).1, (hasE_hasV (out_edge htv)).2, by rw [e]; exact (hasE_hasV (inn_edge huv)).1⟩
    -- no part that is closed holds s and not r
    have noSplit : ∀ Q : Tr → Prop, (∀ t ∈ A ++ B, ∀ u ∈ A ++ B, hasV t v → hasV u v → Q t → adjV v t u → Q u) → Q s → ¬ Q r → False := by
      intro Q hQ hQs hQr
      obtain ⟨L, hL, hnd⟩ : ∃ L : List Tr, (∀ t, t ∈ L ↔ (t ∈ A ++ B ∧ hasV t v ∧ Q t)) ∧ L.Nodup := by
        refine ⟨(A ++ B).filter fun t => @decide (hasV t v ∧ Q t) (Classical.propDecidable _), fun t => by rw [List.mem_filter]; exact and_congr Iff.rfl (@decide_eq_true_iff _ (Classical.propDecidable _)), ?_⟩
        rw [List.nodup_iff_pairwise_ne]
        refine List.Pairwise.filter _ ?_
        exact List.Pairwise.imp (fun {a b} (hh : ¬ twice a b) (e : a = b) => hh (by rw [e]; exact twice_self b)) tw
      have o1 : (L.map (outV v)).Nodup := by
        rw [List.nodup_iff_pairwise_ne] at *
        rw [List.pairwise_map]
        refine hnd.imp_of_mem fun {a b} ha hb hne e => hne ?_
        have ha' := (hL a).1 ha
        have hb' := (hL b).1 hb
        exact outOne a (sub a ha'.1) b (sub b hb'.1) ha'.2.1 hb'.2.1 e
      have i1 := nodup_all o1 (b := L.map (innV v)) (fun e he => by
        obtain ⟨t, ht, rfl⟩ := List.mem_map.1 he
        obtain ⟨htm, htv, hQt⟩ := (hL t).1 ht
        obtain ⟨u, hu, hE, hne⟩ := other t (sub t htm) _ _ (out_edge htv)
        have huv := (hasE_hasV hE).2
        have e1 := (info u hu huv).2.2.2.2.2 _ hE
        have hux : u ≠ x := by
          rintro rfl
          have : t = r := outOne t (sub t htm) r hr htv hrv (by rw [rOut, e1])
          exact hQr (this ▸ hQt)
        have hu' : u ∈ A ++ B := by
          rcases mem_mid.1 hu with e | h1
          · exact absurd e hux
          · exact h1
        exact List.mem_map.2 ⟨u, (hL u).2 ⟨hu', huv, hQ t htm u hu' htv huv hQt (adjOf t (sub t htm) u hu htv huv e1)⟩, e1.symm⟩) (by simp)
      have hsm := i1 (innV v s) (List.mem_map.2 ⟨s, (hL s).2 ⟨hs', hsv, hQs⟩, rfl⟩)
      obtain ⟨t, ht, e⟩ := List.mem_map.1 hsm
      obtain ⟨htm, htv, _⟩ := (hL t).1 ht
      exact nx t htm (outOne t (sub t htm) x hx htv hxv (by rw [e, sIn]))
    -- a part that holds neither is closed with x beside it
    have noRest : ∀ Q : Tr → Prop, (∀ t ∈ A ++ B, ∀ u ∈ A ++ B, hasV t v → hasV u v → Q t → adjV v t u → Q u) → ¬ Q s → ¬ Q r → ∀ t ∈ A ++ B, hasV t v → ¬ Q t := by
      intro Q hQ hQs hQr t ht htv hQt
      have := h.conn v hv (fun u => u ≠ x ∧ Q u) ⟨t, sub t ht, htv, nx t ht, hQt⟩ (fun a ha b hb hav hbv hPa hadj => ?_) x hx hxv
      · exact this.1 rfl
      · have ha' : a ∈ A ++ B := by
          rcases mem_mid.1 ha with e | h1
          · exact absurd e hPa.1
          · exact h1
        rcases mem_mid.1 hb with rfl | hb'
        · exfalso
          rcases adjIff a ha b hb hav hbv hPa.1 hadj with e | e
          · exact hQr ((outOne a ha r hr hav hrv (by rw [e, rOut])) ▸ hPa.2)
          · exact hQs ((innOne a ha s hs hav hsv (by rw [e, sIn])) ▸ hPa.2)
        · exact ⟨nx b hb', hQ a ha' b hb' hav hbv hPa.2 hadj⟩
    intro P hex hcl u hu huv
    have hcn : ∀ t ∈ A ++ B, ∀ u ∈ A ++ B, hasV t v → hasV u v → ¬ P t → adjV v t u → ¬ P u := fun t ht u hu htv huv hn ha hp => hn (hcl u hu t ht huv htv hp (adjV_symm ha))
    obtain ⟨t0, ht0, h0v, hP0⟩ := hex
    refine Classical.byContradiction fun hPu => ?_
    by_cases hPs : P s
    · by_cases hPr : P r
      · exact noRest (fun t => ¬ P t) hcn (fun hn => hn hPs) (fun hn => hn hPr) u hu huv hPu
      · exact noSplit P hcl hPs hPr
    · by_cases hPr : P r
      · exact noSplit (fun t => ¬ P t) hcn hPs (fun hn => hn hPr)
      · exact noRest P hcl hPs hPr t0 ht0 h0v hP0
end Go.Proofs.Ytelbmjbjpgcdaaa
