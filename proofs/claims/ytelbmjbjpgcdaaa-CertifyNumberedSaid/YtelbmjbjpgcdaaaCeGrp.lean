/- Layer 9: a map from directed edges to lists of triangles, each list in a row of its own. -/
import Derived.Test.YtelbmjbjpgcdaaaSouKey
import Derived.Test.YtelbmjbjpgcdaaaCeMap
import Derived.WideKeyEntry
import Derived.Maps.AppendAt
namespace Go.Proofs.Ytelbmjbjpgcdaaa
open Go.RowKit Go.Maps Go.ChangeMaps Go.MapKept

/-- A value that stands for itself. -/
def rawE : Value → Option (DataW Value × List MemPlace) := fun v => some (.held v, [])
theorem law9 : WideMaps.KeyLaw Try.prog 66 := deep_law_laid laid_out (m := 2) (by omega) (of_decide_eq_true (by kernel_rfl)) (by kernel_rfl) (by rw [Try.underlying66])
theorem zeroInts9 (w : World) : (zeroValue 43).run Try.prog w = .ok (.slice none 0 0) w := by kernel_rfl
/-- Block b is a map whose values are F's. -/
def MapV (w : World) (b n : Nat) (F : Ed → Value) : Prop := ∃ D, w.ownsMap Try.prog 66 rawE b n D ∧ ∀ e, wfE e → D.atKey (klE e) (.held (.slice none 0 0)) = .held (F e)
theorem MapV.lt {w : World} {b n : Nat} {F : Ed → Value} (h : MapV w b n F) : b < w.heap.size := by
  obtain ⟨D, ho, _⟩ := h
  exact ho.lt
theorem MapV.kept {w w' : World} {b n : Nat} {F : Ed → Value} (h : MapV w b n F) (hg : w'.heap[b]? = w.heap[b]?) : MapV w' b n F := by
  obtain ⟨D, ⟨es, clock, hb, h2⟩, h3⟩ := h
  exact ⟨D, ⟨es, clock, hg.trans hb, h2⟩, h3⟩
theorem MapV.made (w : World) : MapV (w.alloc (.map #[] 0)) w.heap.size 0 (fun _ => .slice none 0 0) := ⟨.map [], World.ownsMap_made w _ _ _, fun _ _ => rfl⟩
theorem MapV.obj {w : World} {b n : Nat} {F : Ed → Value} (h : MapV w b n F) : ∃ es clock, w.heap[b]? = some (.map es clock) := by
  obtain ⟨D, ⟨es, clock, hb, _⟩, _⟩ := h
  exact ⟨es, clock, hb⟩
theorem MapV.look {w : World} {b n : Nat} {F : Ed → Value} (h : MapV w b n F) (e : Ed) (he : wfE e) : (Instr.lookup 64 (.map (some b)) (.agg #[.int .i64 e.1, .int .i64 e.2]) false).run Try.prog w = .ok (F e) w := by
  obtain ⟨D, ho, ha⟩ := h
  obtain ⟨v, ps, hrun, hv⟩ := ho.lookup lawE Try.underlying64 (zeroInts9 w) (show rawE _ = some (.held (.slice none 0 0), []) from rfl) (keyE e he)
  rw [ha e he] at hv
  simp only [rawE, Option.some.injEq, Prod.mk.injEq, DataW.held.injEq] at hv
  rw [hrun, hv.1]
/-- m[e] = append(m[e], ..): what is found, and what is stored. -/
theorem MapV.entry {w : World} {b n : Nat} {F : Ed → Value} (h : MapV w b n F) (e : Ed) (he : wfE e) (hn : n < maxLen) :
    ∃ (st : Nat) (w1 : World), (Instr.mapEntry 64 (.map (some b)) (.agg #[.int .i64 e.1, .int .i64 e.2])).run Try.prog w = .ok (.tuple #[F e, goInt st]) w1 ∧ w.grownBy w1 (some b) ∧ w1.heap.size = w.heap.size ∧ (∃ es clock, w1.heap[b]? = some (.map es clock)) ∧
      ∀ (w2 : World) (val : Value), w2.heap[b]? = w1.heap[b]? → ∃ w3, (Instr.entryStore 64 (.map (some b)) (goInt st) val).run Try.prog w2 = .ok () w3 ∧ w2.grownBy w3 (some b) ∧ w3.heap.size = w2.heap.size ∧ MapV w3 b (n + 1) (fun f => if f = e then val else F f) := by
  obtain ⟨D, ⟨es, clock, hb, FF, hs, rfl⟩, ha⟩ := h
  have hkey := keyE e he
  obtain ⟨v0, st, es1, clock1, hrun, hv0, hst⟩ := WideElems.entry_then_store law9 Try.underlying64 (z := .slice none 0 0) (fun u => zeroInts9 u) hb FF hkey
  have hF : v0 = F e := by
    have hae := ha e he
    rcases Maps.fit_look false lawE Try.underlying64 (zeroInts9 w) hb FF hkey with ⟨_, hno, hat⟩ | ⟨e0, y, hm, hk, _, hR, hat, _⟩
    · rcases hv0 with ⟨e1, hm1, hk1, _⟩ | ⟨_, hz⟩
      · exact absurd hk1 (hno e1 hm1)
      · rw [hat] at hae
        injection hae with hae
        rw [hz, hae]
    · rcases hv0 with ⟨e1, hm1, hk1, hv1⟩ | ⟨hno, _⟩
      · have hone : e1 = e0 := by
          obtain ⟨i, hi, rfl⟩ := List.mem_iff_getElem.1 hm1
          obtain ⟨j, hj, rfl⟩ := List.mem_iff_getElem.1 hm
          have hnd := FF.stamped.2.2
          have : i = j := (List.getElem_inj (h₀ := by simpa using hi) (h₁ := by simpa using hj) hnd).1 (by simp only [List.getElem_map]; rw [hk1, hk])
          subst this
          rfl
        subst hone
        rw [hat] at hae
        simp only [rawE, Option.some.injEq] at hR
        subst hR
        injection hae with hae
        rw [hv1, hae]
      · exact absurd hk (hno e0 hm)
  subst hF
  refine ⟨st, _, hrun, ⟨rfl, rfl, rfl, by simp [setBlock], fun i _ hi => heap_setBlock_other hb _ (fun e => hi (by rw [e]))⟩, by simp [setBlock], ⟨_, _, heap_setBlock_same hb _⟩, fun w2 val hw2 => ?_⟩
  rw [heap_setBlock_same hb] at hw2
  obtain ⟨es', clock', hrun2, hup⟩ := hst w2 val hw2
  obtain ⟨es2, clock2, hrun3, F', hput, _⟩ := Maps.fit_store (R' := rawE) lawE Try.underlying64 hb FF (Nat.lt_of_le_of_lt hs hn) (fun _ _ _ _ hz => hz) hkey (show rawE val = some (.held val, []) from rfl)
  rw [hup] at hrun3
  have hsame : Obj.map es' clock' = Obj.map es2 clock2 := by
    have h1 := (Result.ok.inj hrun3).2
    have h2 := congrArg (fun u : World => u.heap[b]?) h1
    simp only [heap_setBlock_same hb] at h2
    exact Option.some.inj h2
  injection hsame with e1 e2
  subst e1 e2
  refine ⟨_, hrun2, ⟨rfl, rfl, rfl, by simp [setBlock], fun i _ hi => heap_setBlock_other hw2 _ (fun e => hi (by rw [e]))⟩, by simp [setBlock], ⟨_, ⟨es', clock', heap_setBlock_same hw2 _, F', ?_, rfl⟩, fun f hf => ?_⟩⟩
  · have e1 : es'.size = ((es'.toList.map (WideElems.rg Try.prog 66 rawE)).foldr DataW.insert []).length := by rw [length_sorted]; simp
    rw [e1, hput]
    unfold putKey
    rw [length_insert]
    have e2 := List.length_filter_le (notKey (klE e)) ((es.toList.map (WideElems.rg Try.prog 66 rawE)).foldr DataW.insert [])
    rw [length_sorted] at e2
    simp at e2
    omega
  · rw [hput, ← DataW.put_eq]
    show _ = DataW.held (if f = e then val else F f)
    by_cases hfe : f = e
    · subst hfe
      rw [if_pos rfl, atKey_put_same ⟨_, rfl⟩ (lawE.key hkey)]
    · rw [if_neg hfe, atKey_put_other (fun hk => hfe (klE_inj hf he hk)), ha f hf]

/-- The triangles that were put in for a directed edge, in order. -/
def vals (L : List (Ed × Int)) (e : Ed) : List Int := (L.filter fun p => decide (p.1 = e)).map (·.2)
theorem vals_snoc (L : List (Ed × Int)) (p : Ed × Int) (e : Ed) : vals (L ++ [p]) e = if p.1 = e then vals L e ++ [p.2] else vals L e := by
  unfold vals
  rw [List.filter_append, List.map_append]
  by_cases h : p.1 = e
  · rw [if_pos h, List.filter_cons_of_pos (by simpa using h)]; rfl
  · rw [if_neg h, List.filter_cons_of_neg (by simpa using h)]; simp
theorem mem_vals {L : List (Ed × Int)} {e : Ed} {v : Int} : v ∈ vals L e ↔ (e, v) ∈ L := by
  unfold vals
  rw [List.mem_map]
  constructor
  · rintro ⟨⟨a, b⟩, hm, rfl⟩
    have := List.mem_filter.1 hm
    have h2 : a = e := by simpa using this.2
    subst h2
    exact this.1
  · intro h
    exact ⟨_, List.mem_filter.2 ⟨h, by simp⟩, rfl⟩
theorem vals_le (L : List (Ed × Int)) (e : Ed) : (vals L e).length ≤ L.length := by
  unfold vals
  rw [List.length_map]
  exact List.length_filter_le _ _
/-- The map of the lists: block mb, and rows from B on, each list its own. -/
structure Grp (w : World) (mb B : Nat) (L : List (Ed × Int)) (F : Ed → Value) : Prop where
  mp : MapV w mb L.length F
  own : ∀ e, wfE e → w.ownsRow B 3 1 (F e) (vals L e).length (ints (vals L e))
  far : ∀ e e', wfE e → wfE e' → e ≠ e' → ∀ q, (F e).ownBlock = some q → (F e').ownBlock ≠ some q
theorem Grp.made (w : World) (B : Nat) : Grp (w.alloc (.map #[] 0)) w.heap.size B [] (fun _ => .slice none 0 0) :=
  ⟨MapV.made w, fun _ _ => World.ownsRow_nil _ _ _ _, fun _ _ _ _ _ _ hq => nomatch hq⟩
/-- The blocks of a map and of its rows are as they were. -/
theorem Grp.kept {w w' : World} {mb B : Nat} {L : List (Ed × Int)} {F : Ed → Value} {S : Nat → Prop} (h : Grp w mb B L F) (hc : Chg S w w') (hB : ∀ b, S b → b < B) (hm : ¬ S mb) : Grp w' mb B L F :=
  ⟨h.mp.kept (hc.far mb h.mp.lt hm), fun e he => own_keep (h.own e he) hc fun q hq hs => by have := (own_lt (h.own e he) q hq).1; have := hB q hs; omega, h.far⟩
theorem Grp.below {w w' : World} {mb B : Nat} {L : List (Ed × Int)} {F : Ed → Value} (h : Grp w mb B L F) (hb : Below w.heap.size w w') : Grp w' mb B L F :=
  h.kept (S := fun _ => False) (.of_below hb) (fun _ h => h.elim) (fun h => h)
theorem Grp.form {w : World} {mb B : Nat} {L : List (Ed × Int)} {F : Ed → Value} (h : Grp w mb B L F) (e : Ed) (he : wfE e) : ∃ A c, F e = .slice A (vals L e).length c ∧ (A = none → c = 0) ∧ Reads w A (vals L e).length (ints (vals L e)) := Reads.of_own (h.own e he)
/-- m[e] = append(m[e], v), whole. -/
theorem Grp.put {w w1 w3 w4 : World} {mb B : Nat} {L : List (Ed × Int)} {F : Ed → Value} (h : Grp w mb B L F) (e : Ed) (he : wfE e) (v : Int) {v' : Value}
    (g1 : w.grownBy w1 (some mb)) (s1 : w1.heap.size = w.heap.size) (o3 : w3.ownsRow B 3 1 v' ((vals L e).length + 1) (ints (vals L e) ++ [.int .i64 v])) (g3 : w1.grownBy w3 (F e).ownBlock) (l3 : v'.ownBlock = (F e).ownBlock ∨ v'.ownBlock = some w1.heap.size)
    (g4 : w3.grownBy w4 (some mb)) (m4 : MapV w4 mb (L.length + 1) (fun f => if f = e then v' else F f)) (hmo : ∃ es clock, w3.heap[mb]? = some (.map es clock)) : Grp w4 mb B (L ++ [(e, v)]) (fun f => if f = e then v' else F f) := by
  have notmb : ∀ {W : World} {vv : Value} {n : Nat} {xs : List Value}, W.ownsRow B 3 1 vv n xs → (∃ es clock, W.heap[mb]? = some (.map es clock)) → vv.ownBlock ≠ some mb := fun ho ⟨es, clock, hm⟩ hq => by
    obtain ⟨_, _, cur, hc⟩ := own_lt ho mb hq
    rw [hm] at hc
    cases hc
  refine ⟨by rw [List.length_append, List.length_singleton]; exact m4, fun f hf => ?_, fun f f' hf hf' hne q hq => ?_⟩
  · rw [vals_snoc]
    by_cases hfe : f = e
    · subst hfe
      rw [if_pos rfl, if_pos rfl, List.length_append, List.length_singleton, ints_append]
      exact o3.kept g4 (.inr (notmb o3 hmo))
    · rw [if_neg hfe, if_neg (Ne.symm hfe)]
      have h0 := h.own f hf
      have h1 := h0.kept g1 (.inr (notmb h0 h.mp.obj))
      have hn : (F f).ownBlock = none ∨ (F f).ownBlock ≠ (F e).ownBlock := by
        cases hq : (F f).ownBlock with
        | none => exact .inl rfl
        | some q => exact .inr fun hx => h.far f e hf he hfe q hq hx.symm
      have h3 := h1.kept g3 hn
      exact h3.kept g4 (.inr (notmb h3 hmo))
  · have new : ∀ f, wfE f → f ≠ e → ∀ q, (F f).ownBlock = some q → v'.ownBlock ≠ some q := fun f hf hfe q hq hv => by
      rcases l3 with hl | hl
      · exact h.far f e hf he hfe q hq (hl.symm.trans hv)
      · have := (own_lt (h.own f hf) q hq).2.1
        rw [hl] at hv
        have := Option.some.inj hv
        omega
    by_cases h1 : f = e
    · subst h1
      rw [if_pos rfl] at hq
      rw [if_neg (Ne.symm hne)]
      intro hx
      exact new f' hf' (Ne.symm hne) q hx hq
    · rw [if_neg h1] at hq
      by_cases h2 : f' = e
      · subst h2
        rw [if_pos rfl]
        exact new f hf h1 q hq
      · rw [if_neg h2]
        exact h.far f f' hf hf' hne q hq
end Go.Proofs.Ytelbmjbjpgcdaaa
