/- Layer 12: loops found so far: which vertices they hold; how many. -/
import Derived.Test.YtmflacmgffpjoaaGP
namespace Go.Proofs.Ytmflacmgffpjoaa

theorem IsLoopsK.in_flat {N : Int} {l : List Tr} {k : Nat} {LL : List (List Nat)} (h : IsLoopsK N l k LL) {x : Nat} (hx : x ∈ LL.flatten) : ∃ v L, IsLeast N l v ∧ v < k ∧ IsLoop N l v L ∧ x ∈ L := by
  obtain ⟨L, hL, hx⟩ := List.mem_flatten.1 hx
  obtain ⟨i, hi, rfl⟩ := ll_mem hL
  obtain ⟨v, h1, h2, h3, _⟩ := h.at hi
  exact ⟨v, _, h1, h2, h3, hx⟩
theorem IsLoopsK.seen {N : Int} {l : List Tr} (hs : Surf N l) {k : Nat} {LL : List (List Nat)} (h : IsLoopsK N l k LL) (hk : k ∈ LL.flatten) : ¬ IsLeast N l k := by
  intro hl
  obtain ⟨v, L, h1, h2, h3, h4⟩ := h.in_flat hk
  obtain ⟨u, _, _, hu⟩ := least_one hs hl.mem
  obtain ⟨M, hM, hle⟩ := hl
  have a := hu v h1 ⟨L, h3, h4⟩
  have b := hu k ⟨M, hM, hle⟩ ⟨M, hM, hM.self⟩
  omega
theorem IsLoopsK.fresh {N : Int} {l : List Tr} (hs : Surf N l) {k : Nat} {LL : List (List Nat)} (h : IsLoopsK N l k LL) (hk : k ∉ LL.flatten) {L : List Nat} (hL : IsLoop N l k L) : ∀ x ∈ L, k ≤ x := by
  obtain ⟨m, hm, hle⟩ := least_of (L := L) (fun e => by have := hL.self; rw [e] at this; cases this)
  intro x hx
  rcases Nat.lt_or_ge m k with g | g
  · obtain ⟨M, hM⟩ := loop_exists hs (hL.chain.sub m hm)
    have hsame := hL.same hM hm
    obtain ⟨vs, h1, h2, h3, h4⟩ := h
    obtain ⟨i, hi, e⟩ := memn_getD ((h2 m).2 ⟨⟨M, hM, fun y hy => hle y ((hsame y).2 hy)⟩, g⟩)
    have h5 := h4 i hi
    rw [e] at h5
    exact absurd (List.mem_flatten.2 ⟨LL.getD i [], ll_at (by omega), by rw [h5.one hM]; exact (hsame k).1 hL.self⟩) hk
  · exact Nat.le_trans g (hle x hx)
theorem not_least {N : Int} {l : List Tr} (hs : Surf N l) {k : Nat} (hneg : afterV l (k : Int) < 0) : ¬ IsLeast N l k := fun hl => by
  obtain ⟨y, hy⟩ := (bV_mem hs).1 hl.mem
  rw [(after_iff hs (by omega)).2 hy] at hneg; omega
theorem flatten_le {c : Nat} : ∀ {LL : List (List Nat)}, (∀ L ∈ LL, L.length ≤ c) → LL.flatten.length ≤ LL.length * c
  | [], _ => by simp
  | L :: LL, h => by
    rw [List.flatten_cons, List.length_append, List.length_cons, Nat.succ_mul]
    have := flatten_le (LL := LL) fun M hM => h M (List.mem_cons_of_mem _ hM)
    have := h L List.mem_cons_self
    omega
theorem loopsK_le {N : Int} {l : List Tr} {k : Nat} {LL : List (List Nat)} (h : IsLoopsK N l k LL) : LL.length ≤ k := by
  obtain ⟨vs, p1, p2, p3, _⟩ := h
  have nv : vs.Nodup := by rw [List.nodup_iff_pairwise_ne]; exact p1.imp fun h => by omega
  have := nodup_subN nv (b := List.range k) fun x hx => List.mem_range.2 ((p2 x).1 hx).2
  rw [List.length_range] at this
  omega
theorem IsLoopsK.flat_len {N : Int} {l : List Tr} (hs : Surf N l) {k : Nat} {LL : List (List Nat)} (h : IsLoopsK N l k LL) (hk : k ≤ N.toNat) : LL.flatten.length ≤ 4096 * 4096 := by
  have h1 := loopsK_le h
  have hn := hs.n1
  refine Nat.le_trans (flatten_le (c := 4096) fun L hL => ?_) (Nat.mul_le_mul_right _ (by omega))
  obtain ⟨i, hi, rfl⟩ := ll_mem hL
  obtain ⟨v, _, _, h3, _⟩ := h.at hi
  have := nodup_subN h3.chain.nd (b := List.range N.toNat) fun x hx => List.mem_range.2 (bV_lt (h3.chain.sub x hx))
  rw [List.length_range] at this
  omega
theorem loop_le {N : Int} {l : List Tr} (hs : Surf N l) {v : Nat} {L : List Nat} (h : IsLoop N l v L) : L.length ≤ 4096 ∧ ∀ x ∈ L, x < 4096 := by
  have hn := hs.n1
  refine ⟨?_, fun x hx => by have := bV_lt (h.chain.sub x hx); omega⟩
  have := nodup_subN h.chain.nd (b := List.range N.toNat) fun x hx => List.mem_range.2 (bV_lt (h.chain.sub x hx))
  rw [List.length_range] at this
  omega
end Go.Proofs.Ytmflacmgffpjoaa
