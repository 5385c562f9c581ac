/- Layer 9: a map from directed edges to triangles, told by the pairs that were put into it. -/
import Derived.Test.YtelbmjbjpgcdaaaSouKey
import Derived.Test.YtelbmjbjpgcdaaaBts
namespace Go.Proofs.Ytelbmjbjpgcdaaa
open Go.RowKit Go.Maps

theorem snoc_ind {α : Type} {P : List α → Prop} (h0 : P []) (h1 : ∀ L x, P L → P (L ++ [x])) (L : List α) : P L := by
  have h : ∀ M : List α, P M.reverse := fun M => by
    induction M with
    | nil => exact h0
    | cons x M ih => rw [List.reverse_cons]; exact h1 _ _ ih
  have := h L.reverse
  rwa [List.reverse_reverse] at this
/-- What was put last for a key. -/
def lastV (L : List (Ed × Int)) (e : Ed) : Option Int := L.foldl (fun r p => if p.1 = e then some p.2 else r) none
theorem lastV_snoc (L : List (Ed × Int)) (p : Ed × Int) (e : Ed) : lastV (L ++ [p]) e = if p.1 = e then some p.2 else lastV L e := by simp [lastV, List.foldl_append]
theorem lastV_some {L : List (Ed × Int)} {e : Ed} {v : Int} (h : lastV L e = some v) : (e, v) ∈ L := by
  induction L using snoc_ind with
  | h0 => cases h
  | h1 L p ih =>
    rw [lastV_snoc] at h
    by_cases hp : p.1 = e
    · rw [if_pos hp] at h
      injection h with h
      subst hp h
      simp
    · rw [if_neg hp] at h
      exact List.mem_append_left _ (ih h)
theorem lastV_none {L : List (Ed × Int)} {e : Ed} (h : lastV L e = none) : ∀ p ∈ L, p.1 ≠ e := by
  induction L using snoc_ind with
  | h0 => intro p hp; cases hp
  | h1 L q ih =>
    rw [lastV_snoc] at h
    by_cases hq : q.1 = e
    · rw [if_pos hq] at h; cases h
    · rw [if_neg hq] at h
      intro p hp
      rcases List.mem_append.1 hp with h1 | h1
      · exact ih h p h1
      · rw [List.mem_singleton.1 h1]; exact hq
/-- The keys. -/
def keysL (L : List (Ed × Int)) : List Ed := L.foldl (fun (r : List Ed) p => if p.1 ∈ r then r else r ++ [p.1]) []
theorem keysL_snoc (L : List (Ed × Int)) (p : Ed × Int) : keysL (L ++ [p]) = if p.1 ∈ keysL L then keysL L else keysL L ++ [p.1] := by unfold keysL; rw [List.foldl_append]; rfl
theorem mem_keysL {L : List (Ed × Int)} {e : Ed} : e ∈ keysL L ↔ (lastV L e).isSome = true := by
  induction L using snoc_ind with
  | h0 => simp [keysL, lastV]
  | h1 L p ih =>
    rw [keysL_snoc, lastV_snoc]
    by_cases hp : p.1 = e
    · subst hp
      by_cases hm : p.1 ∈ keysL L
      · simp [hm]
      · simp [hm]
    · rw [if_neg hp, ← ih]
      by_cases hm : p.1 ∈ keysL L
      · rw [if_pos hm]
      · rw [if_neg hm, List.mem_append, List.mem_singleton]
        constructor
        · rintro (h | h)
          · exact h
          · exact absurd h.symm hp
        · exact .inl
theorem keysL_le (L : List (Ed × Int)) : (keysL L).length ≤ L.length := by
  induction L using snoc_ind with
  | h0 => simp [keysL]
  | h1 L p ih =>
    rw [keysL_snoc, List.length_append, List.length_singleton]
    split
    · omega
    · rw [List.length_append, List.length_singleton]; omega
/-- All keys are unlike just if there are as many as pairs. -/
theorem keysL_full {L : List (Ed × Int)} : (keysL L).length = L.length ↔ (L.map Prod.fst).Nodup := by
  induction L using snoc_ind with
  | h0 => simp [keysL]
  | h1 L p ih =>
    have hle := keysL_le L
    rw [keysL_snoc, List.length_append, List.length_singleton, List.map_append, List.map_singleton, List.nodup_append]
    have hm : p.1 ∈ keysL L ↔ p.1 ∈ L.map Prod.fst := by
      rw [mem_keysL]
      cases hv : lastV L p.1 with
      | none =>
        have := lastV_none hv
        simp only [Option.isSome_none, Bool.false_eq_true, false_iff, List.mem_map]
        rintro ⟨q, hq, e⟩
        exact this q hq e
      | some v =>
        simp only [Option.isSome_some, true_iff, List.mem_map]
        exact ⟨_, lastV_some hv, rfl⟩
    by_cases hp : p.1 ∈ keysL L
    · rw [if_pos hp]
      constructor
      · intro h; omega
      · rintro ⟨_, _, h3⟩
        exact absurd rfl (h3 _ (hm.1 hp) _ (List.mem_singleton.2 rfl))
    · rw [if_neg hp, List.length_append, List.length_singleton]
      constructor
      · intro h
        refine ⟨ih.1 (by omega), by simp, fun a ha b hb e => ?_⟩
        rw [List.mem_singleton] at hb
        subst hb e
        exact hp (hm.2 ha)
      · rintro ⟨h1, _, _⟩
        have := ih.2 h1
        omega

theorem zeroInt9 (w : World) : (zeroValue 3).run Try.prog w = .ok (.int .i64 0) w := by kernel_rfl
/-- Block b is the map of the pairs that were put into it. -/
def MapL (w : World) (b : Nat) (L : List (Ed × Int)) : Prop := ∃ D, w.ownsMap Try.prog 66 (plainElem (H := Unit) Try.prog 3) b L.length D ∧ (∀ e, wfE e → has D (klE e) = (lastV L e).isSome) ∧ (∀ e, wfE e → D.atKey (klE e) (.lit (.int .i64 0)) = .lit (.int .i64 ((lastV L e).getD 0))) ∧ Maps.size D = (keysL L).length
theorem MapL.lt {w : World} {b : Nat} {L : List (Ed × Int)} (h : MapL w b L) : b < w.heap.size := by
  obtain ⟨D, ho, _⟩ := h
  exact ho.lt
theorem MapL.kept {w w' : World} {b : Nat} {L : List (Ed × Int)} (h : MapL w b L) (hg : w'.heap[b]? = w.heap[b]?) : MapL w' b L := by
  obtain ⟨D, ⟨es, clock, hb, h2⟩, h3⟩ := h
  exact ⟨D, ⟨es, clock, hg.trans hb, h2⟩, h3⟩
theorem MapL.made (w : World) : MapL (w.alloc (.map #[] 0)) w.heap.size [] :=
  ⟨.map [], World.ownsMap_made w _ _ _, fun _ _ => rfl, fun _ _ => rfl, rfl⟩
theorem MapL.look {w : World} {b : Nat} {L : List (Ed × Int)} (h : MapL w b L) (e : Ed) (he : wfE e) : (Instr.lookup 54 (.map (some b)) (.agg #[.int .i64 e.1, .int .i64 e.2]) true).run Try.prog w = .ok (.tuple #[.int .i64 ((lastV L e).getD 0), .bool (lastV L e).isSome]) w := by
  obtain ⟨D, ho, hh, ha, _⟩ := h
  obtain ⟨v, ps, hrun, hv⟩ := ho.look_ok lawE Try.underlying54 (zeroInt9 w) (plainElem_int Try.underlying3 (by decide)) (keyE e he)
  obtain ⟨c, rfl, hc, hwc⟩ := plainElem_int_inv Try.underlying3 hv
  injection hc with hc _
  rw [ha e he] at hc
  injection hc with hc
  injection hc with _ hc
  rw [hrun, hh e he, hc]
theorem MapL.len {w : World} {b : Nat} {L : List (Ed × Int)} (h : MapL w b L) (ty : TypeId) : (Builtin.len_ #[54] ty #[.map (some b)]).run Try.prog w = .ok (.int .i64 ((keysL L).length : Int)) w := by
  obtain ⟨D, ho, _, _, hs⟩ := h
  rw [ho.len Try.underlying54 ty, hs]
theorem MapL.put {w : World} {b : Nat} {L : List (Ed × Int)} (h : MapL w b L) (e : Ed) (he : wfE e) (v : Int) (hv : (Lit.int .i64 v).wf = true) (hl : L.length < maxLen) :
    ∃ w', (Instr.mapUpdate 54 (.map (some b)) (.agg #[.int .i64 e.1, .int .i64 e.2]) (.int .i64 v)).run Try.prog w = .ok () w' ∧ MapL w' b (L ++ [(e, v)]) ∧ w.grownBy w' (some b) := by
  obtain ⟨D, ho, hh, ha, hs⟩ := h
  obtain ⟨w', hrun, ho', hg⟩ := ho.update lawE Try.underlying54 hl (keyE e he) (plainElem_int Try.underlying3 hv)
  refine ⟨w', hrun, ⟨_, by rw [List.length_append, List.length_singleton]; exact ho', fun f hf => ?_, fun f hf => ?_, ?_⟩, hg⟩
  · rw [lastV_snoc]
    by_cases hef : e = f
    · subst hef
      rw [if_pos rfl, has_put_same ho.isMap (lawE.key (keyE e hf))]; rfl
    · rw [if_neg hef, has_put_other (fun hk => hef (klE_inj he hf hk.symm)), hh f hf]
  · rw [lastV_snoc]
    by_cases hef : e = f
    · subst hef
      rw [if_pos rfl, atKey_put_same ho.isMap (lawE.key (keyE e hf))]; rfl
    · rw [if_neg hef, atKey_put_other (fun hk => hef (klE_inj he hf hk.symm)), ha f hf]
  · rw [size_put (ho.tidy lawE), hh e he, hs, keysL_snoc]
    by_cases hm : e ∈ keysL L
    · rw [if_pos (mem_keysL.1 hm), if_pos hm]
    · rw [if_neg (fun hx => hm (mem_keysL.2 hx)), if_neg hm, List.length_append]; rfl
end Go.Proofs.Ytelbmjbjpgcdaaa
