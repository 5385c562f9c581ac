/- Layer 10: what is across, by other numbers, in the mirror, with triangles in another order that begin with other corners. -/
import Derived.Test.YtelbmjbjpgcdaaaCorPure
namespace Go.Proofs.Ytelbmjbjpgcdaaa

theorem surf_of {N : Int} {l l' : List Tr} (h : Surf N l) (k : ∀ ws, IsAll N l ws → IsAll N l' ws) : Surf N l' := by
  obtain ⟨ws, hw⟩ := isAll_exists N l
  have := (isAll_nil hw).2 h
  exact (isAll_nil (k ws hw)).1 this
theorem surf_mir {N : Int} {l : List Tr} (h : Surf N l) : Surf N (l.map mirT) := surf_of h fun _ => isAll_mir
theorem surf_turned {N : Int} {l l' : List Tr} (h : Surf N l) (hl : l'.length = l.length) (ht : ∀ i, i < l.length → ∃ k, l'.getD i z3 = rotT (l.getD i z3) k) : Surf N l' := surf_of h fun _ => isAll_turned hl ht
theorem surf_numbered {f g : Int → Int} (gf : ∀ x, g (f x) = x) (fg : ∀ x, f (g x) = x) {N : Int} (hin : ∀ x, inN N (f x) ↔ inN N x) {l l' : List Tr} (hp : l'.Perm (l.map (mapT f))) (h : Surf N l) : Surf N l' := by
  obtain ⟨ws, hw⟩ := isAll_exists N l
  obtain ⟨ws', hw'⟩ := isAll_exists N l'
  have e := (isAll_nil hw).2 h
  have := (isAll_numbered gf fg hin hp hw hw').1
  rw [e] at this
  exact (isAll_nil hw').1 (List.eq_nil_of_length_eq_zero this)
theorem surf_perm {N : Int} {l l' : List Tr} (hp : l'.Perm l) (h : Surf N l) : Surf N l' := by
  refine surf_numbered (f := id) (g := id) (fun _ => rfl) (fun _ => rfl) (fun _ => Iff.rfl) ?_ h
  have : l.map (mapT id) = l := by
    conv => rhs; rw [← List.map_id l]
    exact List.map_congr_left fun t _ => rfl
  rw [this]
  exact hp

/-- Corners of one list that stand for those of another one: what faces an edge stands for what faces it there. -/
theorem facing_map {M : Int} {l r : List Tr} (hr : Surf M r) {s : Nat → Nat} {p : Ed → Ed} (hs : ∀ c, c < 3 * l.length → s c < 3 * r.length ∧ edgeC r (s c) = p (edgeC l c)) (hsur : ∀ d, d < 3 * r.length → ∃ c, c < 3 * l.length ∧ s c = d) (hp : ∀ c e, c < 3 * l.length → p (edgeC l c) = p e → edgeC l c = e) (e : Ed) :
    (facing l e = -1 ∧ facing r (p e) = -1) ∨ ∃ c : Nat, c < 3 * l.length ∧ facing l e = (c : Int) ∧ facing r (p e) = ((s c : Nat) : Int) := by
  rcases facing_cases l e with h | ⟨c, h, hc, he⟩
  · refine .inl ⟨h, ?_⟩
    rcases facing_cases r (p e) with g | ⟨d, _, hd, hde⟩
    · exact g
    · exfalso
      obtain ⟨c, hc, rfl⟩ := hsur d hd
      have h1 := hp c e hc ((hs c hc).2.symm.trans hde)
      have := facing_none.1 h _ (getD3_mem (show c / 3 < l.length by omega))
      have h2 := edgeC_has l c
      rw [h1] at h2
      exact this h2
  · refine .inr ⟨c, hc, h, ?_⟩
    have := facing_edge hr (hs c hc).1
    rw [(hs c hc).2, he] at this
    exact this
def swapE (e : Ed) : Ed := (e.2, e.1)
theorem opp_map {M : Int} {l r : List Tr} (hr : Surf M r) {s : Nat → Nat} {p : Ed → Ed} (hs : ∀ c, c < 3 * l.length → s c < 3 * r.length ∧ edgeC r (s c) = p (edgeC l c)) (hsur : ∀ d, d < 3 * r.length → ∃ c, c < 3 * l.length ∧ s c = d) (hp : ∀ c e, c < 3 * l.length → p (edgeC l c) = p e → edgeC l c = e) (hw : ∀ e, swapE (p e) = p (swapE e)) {c : Nat} (hc : c < 3 * l.length) :
    (oppC l c = -1 ∧ oppC r (s c) = -1) ∨ ∃ o : Nat, o < 3 * l.length ∧ oppC l c = (o : Int) ∧ oppC r (s c) = ((s o : Nat) : Int) := by
  unfold oppC
  rw [(hs c hc).2]
  have := facing_map hr hs hsur hp (swapE (edgeC l c))
  rw [← hw] at this
  exact this

/-- By other numbers. -/
theorem vtx_map (f : Int → Int) {l : List Tr} {c : Nat} (hc : c < 3 * l.length) : vtx (l.map (mapT f)) c = f (vtx l c) := by
  unfold vtx
  have : (l.map (mapT f)).getD (c / 3) z3 = mapT f (l.getD (c / 3) z3) := by
    rw [List.getD_eq_getElem?_getD, List.getD_eq_getElem?_getD, List.getElem?_map, List.getElem?_eq_getElem (show c / 3 < l.length by omega)]; rfl
  rw [this]
  unfold cor3 mapT
  split
  · rfl
  · split <;> rfl
theorem opp_renamed {f g : Int → Int} (gf : ∀ x, g (f x) = x) {M : Int} {l : List Tr} (hr : Surf M (l.map (mapT f))) {c : Nat} (hc : c < 3 * l.length) : oppC (l.map (mapT f)) c = oppC l c := by
  have inj : ∀ x y, f x = f y → x = y := fun x y h => by rw [← gf x, h, gf]
  have h := opp_map (l := l) (s := fun c => c) (p := fun e => (f e.1, f e.2)) hr (fun c hc => ⟨by rw [List.length_map]; exact hc, by unfold edgeC; rw [vtx_map f (nxt_lt hc), vtx_map f (prv_lt hc)]⟩) (fun d hd => ⟨d, by rwa [List.length_map] at hd, rfl⟩) (fun c e _ he => by
    injection he with h1 h2
    exact Prod.ext (inj _ _ h1) (inj _ _ h2)) (fun _ => rfl) hc
  rcases h with ⟨h1, h2⟩ | ⟨o, _, h1, h2⟩
  · rw [h1, h2]
  · rw [h1, h2]
/-- In the mirror. -/
def mirC (c : Nat) : Nat := if c % 3 = 0 then c else if c % 3 = 1 then c + 1 else c - 1
theorem mirC_div (c : Nat) : mirC c / 3 = c / 3 := by unfold mirC; repeat' split
                                                      all_goals omega
theorem mirC_mirC (c : Nat) : mirC (mirC c) = c := by unfold mirC; repeat' split
                                                      all_goals omega
theorem vtx_mirC {l : List Tr} {c : Nat} (hc : c < 3 * l.length) : vtx (l.map mirT) (mirC c) = vtx l c := by
  unfold vtx
  rw [mirC_div]
  have : (l.map mirT).getD (c / 3) z3 = mirT (l.getD (c / 3) z3) := by
    rw [List.getD_eq_getElem?_getD, List.getD_eq_getElem?_getD, List.getElem?_map, List.getElem?_eq_getElem (show c / 3 < l.length by omega)]; rfl
  rw [this]
  have hm : c % 3 = 0 ∨ c % 3 = 1 ∨ c % 3 = 2 := by omega
  rcases hm with m | m | m
  · have : mirC c % 3 = 0 := by unfold mirC; split <;> omega
    rw [this, m]; rfl
  · have : mirC c % 3 = 2 := by unfold mirC; repeat' split
                                all_goals omega
    rw [this, m]; rfl
  · have : mirC c % 3 = 1 := by unfold mirC; repeat' split
                                all_goals omega
    rw [this, m]; rfl
theorem nxt_mirC (c : Nat) : nxt (mirC c) = mirC (prv c) := by unfold nxt mirC prv; repeat' split
                                                               all_goals omega
theorem prv_mirC (c : Nat) : prv (mirC c) = mirC (nxt c) := by unfold nxt mirC prv; repeat' split
                                                               all_goals omega
theorem edge_mirC {l : List Tr} {c : Nat} (hc : c < 3 * l.length) : edgeC (l.map mirT) (mirC c) = swapE (edgeC l c) := by
  unfold edgeC swapE
  rw [nxt_mirC, prv_mirC, vtx_mirC (prv_lt hc), vtx_mirC (nxt_lt hc)]
theorem mirC_lt {c n : Nat} (h : c < 3 * n) : mirC c < 3 * n := by have := mirC_div c; omega
theorem facing_mir {N : Int} {l : List Tr} (h : Surf N l) {c : Nat} (hc : c < 3 * l.length) : facing (l.map mirT) (swapE (edgeC l c)) = ((mirC c : Nat) : Int) := by
  rw [← edge_mirC hc]
  exact facing_edge (surf_mir h) (by rw [List.length_map]; exact mirC_lt hc)
theorem opp_mir {N : Int} {l : List Tr} (h : Surf N l) {c : Nat} (hc : c < 3 * l.length) : (oppC l c = -1 ∧ oppC (l.map mirT) (mirC c) = -1) ∨ ∃ o : Nat, o < 3 * l.length ∧ oppC l c = (o : Int) ∧ oppC (l.map mirT) (mirC c) = ((mirC o : Nat) : Int) :=
  opp_map (surf_mir h) (fun c hc => ⟨by rw [List.length_map]; exact mirC_lt hc, edge_mirC hc⟩) (fun d hd => by
    rw [List.length_map] at hd
    exact ⟨mirC d, mirC_lt hd, mirC_mirC d⟩) (fun c e _ he => by
    unfold swapE at he
    injection he with h1 h2
    exact Prod.ext h2 h1) (fun _ => rfl) hc

/-- One corner of each triangle, in any order: the triangles that begin with these. -/
structure Firsts (l : List Tr) (cs : List Nat) : Prop where
  len : cs.length = l.length
  lt : ∀ c ∈ cs, c < 3 * l.length
  one : (cs.map (· / 3)).Nodup
def pickN (l : List Tr) (c : Nat) : Tr := rotT (l.getD (c / 3) z3) (c % 3)
/-- Where a corner of l stands in what is picked, the corner's triangle being picked i-th, from corner d on. -/
def stand (i d c : Nat) : Nat := if c = d then 3 * i else if c = nxt d then 3 * i + 1 else 3 * i + 2
theorem pick_vtx {l : List Tr} {cs : List Nat} {i : Nat} (hi : i < cs.length) : vtx (cs.map (pickN l)) (3 * i) = vtx l (cs.getD i 0) ∧ vtx (cs.map (pickN l)) (3 * i + 1) = vtx l (nxt (cs.getD i 0)) ∧ vtx (cs.map (pickN l)) (3 * i + 2) = vtx l (prv (cs.getD i 0)) := by
  have e : (cs.map (pickN l)).getD i z3 = pickN l (cs.getD i 0) := by
    rw [List.getD_eq_getElem?_getD, List.getD_eq_getElem?_getD, List.getElem?_map, List.getElem?_eq_getElem hi]; rfl
  generalize cs.getD i 0 = d at e
  unfold vtx
  rw [show (3 * i) / 3 = i by omega, show (3 * i) % 3 = 0 by omega, show (3 * i + 1) / 3 = i by omega, show (3 * i + 1) % 3 = 1 by omega, show (3 * i + 2) / 3 = i by omega, show (3 * i + 2) % 3 = 2 by omega, e, nxt_div, prv_div]
  unfold pickN
  generalize l.getD (d / 3) z3 = t
  have hm : d % 3 = 0 ∨ d % 3 = 1 ∨ d % 3 = 2 := by omega
  rcases hm with m | m | m
  · have h1 : nxt d % 3 = 1 := by unfold nxt; split <;> omega
    have h2 : prv d % 3 = 2 := by unfold prv; split <;> omega
    rw [m, h1, h2]; exact ⟨rfl, rfl, rfl⟩
  · have h1 : nxt d % 3 = 2 := by unfold nxt; split <;> omega
    have h2 : prv d % 3 = 0 := by unfold prv; split <;> omega
    rw [m, h1, h2]; exact ⟨rfl, rfl, rfl⟩
  · have h1 : nxt d % 3 = 0 := by unfold nxt; split <;> omega
    have h2 : prv d % 3 = 1 := by unfold prv; split <;> omega
    rw [m, h1, h2]; exact ⟨rfl, rfl, rfl⟩
theorem surf_pick {N : Int} {l : List Tr} {cs : List Nat} (h : Surf N l) (hf : Firsts l cs) : Surf N (cs.map (pickN l)) := by
  have hlen : (cs.map fun c => l.getD (c / 3) z3).length = cs.length := List.length_map _
  have hperm : (cs.map fun c => l.getD (c / 3) z3).Perm l := by
    have e : (cs.map fun c => l.getD (c / 3) z3) = (cs.map (· / 3)).map (fun t => l.getD t z3) := by rw [List.map_map]; rfl
    rw [e]
    conv => rhs; rw [← range_getD l]
    refine List.Perm.map _ ?_
    have hsub : ∀ a ∈ cs.map (· / 3), a ∈ List.range l.length := fun a ha => by
      obtain ⟨c, hc, rfl⟩ := List.mem_map.1 ha
      have := hf.lt c hc
      exact List.mem_range.2 (by omega)
    rw [List.perm_ext_iff_of_nodup hf.one List.nodup_range]
    refine fun a => ⟨hsub a, fun ha => ?_⟩
    have inj : ∀ {x y : List Nat}, x.Nodup → (x.map fun (n : Nat) => (n : Int)).Nodup := fun {x _} hx => by
      rw [List.nodup_iff_pairwise_ne] at *
      rw [List.pairwise_map]
      exact hx.imp fun hne e => hne (by omega)
    have := nodup_all (inj (y := []) hf.one) (b := (List.range l.length).map fun (n : Nat) => (n : Int)) (fun e he => by
      obtain ⟨a, ha, rfl⟩ := List.mem_map.1 he
      exact List.mem_map.2 ⟨a, hsub a ha, rfl⟩) (by simp [hf.len]) (a : Int) (List.mem_map.2 ⟨a, ha, rfl⟩)
    obtain ⟨b, hb, e⟩ := List.mem_map.1 this
    obtain rfl : b = a := by omega
    exact hb
  refine surf_turned (surf_perm hperm h) (by rw [List.length_map, hlen]) fun i hi => ?_
  rw [hlen] at hi
  refine ⟨cs.getD i 0 % 3, ?_⟩
  rw [List.getD_eq_getElem?_getD, List.getD_eq_getElem?_getD, List.getElem?_map, List.getElem?_map, List.getD_eq_getElem?_getD, List.getElem?_eq_getElem hi]
  rfl
end Go.Proofs.Ytelbmjbjpgcdaaa
