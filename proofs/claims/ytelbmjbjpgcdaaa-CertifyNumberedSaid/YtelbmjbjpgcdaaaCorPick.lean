/- Layer 10: what is across, where triangles stand in another order and begin with other corners. -/
import Derived.Test.YtelbmjbjpgcdaaaCorMore
namespace Go.Proofs.Ytelbmjbjpgcdaaa

def whereC (cs : List Nat) (c : Nat) : Nat := (cs.map (· / 3)).idxOf (c / 3)
def sC (cs : List Nat) (c : Nat) : Nat := stand (whereC cs c) (cs.getD (whereC cs c) 0) c
theorem firsts_all {l : List Tr} {cs : List Nat} (hf : Firsts l cs) {t : Nat} (ht : t < l.length) : t ∈ cs.map (· / 3) := by
  have inj : ∀ {x : List Nat}, x.Nodup → (x.map fun (n : Nat) => (n : Int)).Nodup := fun {x} hx => by
    rw [List.nodup_iff_pairwise_ne] at *
    rw [List.pairwise_map]
    exact hx.imp fun hne e => hne (by omega)
  have := nodup_all (inj hf.one) (b := (List.range l.length).map fun (n : Nat) => (n : Int)) (fun e he => by
    obtain ⟨a, ha, rfl⟩ := List.mem_map.1 he
    obtain ⟨c, hc, rfl⟩ := List.mem_map.1 ha
    have := hf.lt c hc
    exact List.mem_map.2 ⟨c / 3, List.mem_range.2 (by omega), rfl⟩) (by simp [hf.len]) (t : Int) (List.mem_map.2 ⟨t, List.mem_range.2 ht, rfl⟩)
  obtain ⟨b, hb, e⟩ := List.mem_map.1 this
  obtain rfl : b = t := by omega
  exact hb
theorem whereC_spec {l : List Tr} {cs : List Nat} (hf : Firsts l cs) {c : Nat} (hc : c < 3 * l.length) : whereC cs c < cs.length ∧ cs.getD (whereC cs c) 0 / 3 = c / 3 := by
  have hm := firsts_all hf (show c / 3 < l.length by omega)
  have hi := List.idxOf_lt_length_of_mem hm
  have hi' : whereC cs c < cs.length := by rw [List.length_map] at hi; exact hi
  refine ⟨hi', ?_⟩
  have := List.getElem_idxOf hi
  rw [List.getElem_map] at this
  rw [List.getD_eq_getElem?_getD, List.getElem?_eq_getElem hi']
  exact this
theorem whereC_at {l : List Tr} {cs : List Nat} (hf : Firsts l cs) {i : Nat} (hi : i < cs.length) {c : Nat} (hc : c / 3 = cs.getD i 0 / 3) : whereC cs c = i := by
  unfold whereC
  have hi' : i < (cs.map (· / 3)).length := by rw [List.length_map]; exact hi
  have : (cs.map (· / 3))[i] = c / 3 := by
    rw [List.getElem_map, hc, List.getD_eq_getElem?_getD, List.getElem?_eq_getElem hi]; rfl
  rw [← this]
  exact hf.one.idxOf_getElem i hi'
theorem three_corners {c d : Nat} (h : d / 3 = c / 3) : c = d ∨ c = nxt d ∨ c = prv d := by unfold nxt prv; repeat' split
                                                                                            all_goals omega
theorem nxt_ne (d : Nat) : nxt d ≠ d ∧ prv d ≠ d ∧ prv d ≠ nxt d := by
  refine ⟨?_, ?_, ?_⟩
  · unfold nxt; split <;> omega
  · unfold prv; split <;> omega
  · unfold nxt prv; repeat' split
    all_goals omega
/-- Of each corner its place in what was picked. -/
theorem sC_vals {l : List Tr} {cs : List Nat} (hf : Firsts l cs) {i : Nat} (hi : i < cs.length) : sC cs (cs.getD i 0) = 3 * i ∧ sC cs (nxt (cs.getD i 0)) = 3 * i + 1 ∧ sC cs (prv (cs.getD i 0)) = 3 * i + 2 := by
  have w0 := whereC_at hf hi (c := cs.getD i 0) rfl
  have w1 := whereC_at hf hi (c := nxt (cs.getD i 0)) (nxt_div _)
  have w2 := whereC_at hf hi (c := prv (cs.getD i 0)) (prv_div _)
  obtain ⟨n1, n2, n3⟩ := nxt_ne (cs.getD i 0)
  unfold sC
  rw [w0, w1, w2]
  unfold stand
  exact ⟨if_pos rfl, by rw [if_neg n1, if_pos rfl], by rw [if_neg n2, if_neg n3]⟩
theorem sC_vtx {l : List Tr} {cs : List Nat} (hf : Firsts l cs) {c : Nat} (hc : c < 3 * l.length) : sC cs c < 3 * cs.length ∧ vtx (cs.map (pickN l)) (sC cs c) = vtx l c ∧ nxt (sC cs c) = sC cs (nxt c) := by
  obtain ⟨hi, hd⟩ := whereC_spec hf hc
  obtain ⟨s0, s1, s2⟩ := sC_vals hf hi
  obtain ⟨v0, v1, v2⟩ := pick_vtx (l := l) hi
  generalize whereC cs c = i at hi hd s0 s1 s2 v0 v1 v2
  rcases three_corners hd with e | e | e
  · rw [e, s0, s1]; exact ⟨by omega, v0, by unfold nxt; split <;> omega⟩
  · have : nxt (nxt (cs.getD i 0)) = prv (cs.getD i 0) := (prv_eq _).symm
    rw [e, s1, this, s2]; exact ⟨by omega, v1, by unfold nxt; split <;> omega⟩
  · rw [e, s2, nxt_prv, s0]; exact ⟨by omega, v2, by unfold nxt; split <;> omega⟩
theorem sC_edge {l : List Tr} {cs : List Nat} (hf : Firsts l cs) {c : Nat} (hc : c < 3 * l.length) : edgeC (cs.map (pickN l)) (sC cs c) = edgeC l c := by
  have h0 := sC_vtx hf hc
  have h1 := sC_vtx hf (nxt_lt hc)
  have h2 := sC_vtx hf (nxt_lt (nxt_lt hc))
  unfold edgeC
  rw [prv_eq, prv_eq, h0.2.2, h1.2.2, h1.2.1, h2.2.1]
theorem sC_onto {l : List Tr} {cs : List Nat} (hf : Firsts l cs) {d : Nat} (hd : d < 3 * cs.length) : ∃ c, c < 3 * l.length ∧ sC cs c = d := by
  have hi : d / 3 < cs.length := by omega
  obtain ⟨s0, s1, s2⟩ := sC_vals hf hi
  have hlt : cs.getD (d / 3) 0 < 3 * l.length := hf.lt _ (by rw [List.getD_eq_getElem?_getD, List.getElem?_eq_getElem hi]; exact List.getElem_mem hi)
  have hm : d % 3 = 0 ∨ d % 3 = 1 ∨ d % 3 = 2 := by omega
  rcases hm with m | m | m
  · exact ⟨_, hlt, s0.trans (by omega)⟩
  · exact ⟨_, nxt_lt hlt, s1.trans (by omega)⟩
  · exact ⟨_, prv_lt hlt, s2.trans (by omega)⟩
theorem opp_pick {N : Int} {l : List Tr} {cs : List Nat} (h : Surf N l) (hf : Firsts l cs) {c : Nat} (hc : c < 3 * l.length) : (oppC l c = -1 ∧ oppC (cs.map (pickN l)) (sC cs c) = -1) ∨ ∃ o : Nat, o < 3 * l.length ∧ oppC l c = (o : Int) ∧ oppC (cs.map (pickN l)) (sC cs c) = ((sC cs o : Nat) : Int) :=
  opp_map (p := fun e => e) (surf_pick h hf) (fun c hc => ⟨by rw [List.length_map]; exact (sC_vtx hf hc).1, sC_edge hf hc⟩) (fun d hd => sC_onto hf (by rwa [List.length_map] at hd)) (fun _ _ _ h => h) (fun _ => rfl) hc
end Go.Proofs.Ytelbmjbjpgcdaaa
