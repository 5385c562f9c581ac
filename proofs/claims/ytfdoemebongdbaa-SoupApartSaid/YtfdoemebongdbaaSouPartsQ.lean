/- Layer 8: two soups joined; what a part is when it is one. -/
import Derived.Test.YtfdoemebongdbaaSouPartsP
namespace Go.Proofs.Ytfdoemebongdbaa
open Go.RowKit

def TwoTold (w : World) (N M : Int) (l k : List Tr) (e : Ending) (w' : World) : Prop := (4096 < N + M ∧ ErrS w 7 e w') ∨ (N + M ≤ 4096 ∧ OkS w (N + M) (l ++ k.map (shT N)) e w')
abbrev twoO (N : Int) (A : Option Addr) (n c : Nat) (M : Int) (B : Option Addr) (m d : Nat) : Obj := .cells #[.int .i64 N, .slice A n c, .int .i64 M, .slice B m d] 24
theorem soups_two {w : World} {q : Nat} {N M : Int} {A B : Option Addr} {n c m d : Nat} {l k : List Tr} (hq : w.heap[q]? = some (.cells #[.int .i64 N, .slice A n c, .int .i64 M, .slice B m d] 24 (0, 0))) (h : T3 w A n l) (h2 : T3 w B m k) : Soups w (some ⟨q, 0, none⟩) 2 [(N, l), (M, k)] := by
  refine ⟨rfl, fun _ => ⟨q, 0, rfl, fun i hi => ?_⟩⟩
  have hl := h.1
  have hk := h2.1
  subst hl hk
  rcases i with _ | _ | i
  · exact ⟨A, c, by rw [cell_in hq]; rfl, by rw [cell_in hq]; rfl, h⟩
  · exact ⟨B, d, by rw [cell_in hq]; rfl, by rw [cell_in hq]; rfl, h2⟩
  · omega
theorem sjoin_two (w : World) (q : Nat) (N M : Int) (A B : Option Addr) (n c m d : Nat) (l k : List Tr) (hq : w.heap[q]? = some (.cells #[.int .i64 N, .slice A n c, .int .i64 M, .slice B m d] 24 (0, 0))) (h : T3 w A n l) (h2 : T3 w B m k) (hn : n ≤ 1000) (hm : m ≤ 1000) (hf : Fit N l) (hg : Fit M k) :
    Calls Try.prog 27 #[.slice (some ⟨q, 0, none⟩) 2 2] w (TwoTold w N M l k) := by
  have hl : ∀ x ∈ [(N, l), (M, k)], x.2.length ≤ 1000 := by
    intro x hx
    simp only [List.mem_cons, List.not_mem_nil, or_false] at hx
    rcases hx with rfl | rfl
    · rw [h.1]; exact hn
    · rw [h2.1]; exact hm
  have hall : AllFit [(N, l), (M, k)] 2 := by
    intro j hj
    rcases j with _ | _ | j
    · exact hf
    · exact hg
    · omega
  obtain ⟨j1, j2⟩ := join_two N M l k
  refine (sjoin_any w _ 2 2 _ (soups_two hq h h2) (by omega) hl).mono fun e w' h' => ?_
  unfold JoinTold at h'
  rw [j1, j2] at h'
  rcases h' with ⟨h1, _⟩ | ⟨_, h1, h'⟩ | ⟨_, h1, h'⟩
  · exact absurd hall h1
  · exact .inl ⟨h1, h'⟩
  · exact .inr ⟨h1, h'⟩
theorem PartAns.ok {N : Nat} {n : Nat} {l : List Tr} {cs : List Int} {M : Int} {a : List Tr} {v : List Int} {k : Int} (h : PartAns (N : Int) n l cs M a v k) (hf : Fit (N : Int) l) (hi : allIn (n : Int) cs) (hd : cs.Nodup) : M = ((vertsUp l cs N).length : Int) ∧ a = partL l (vertsUp l cs N) cs ∧ v = vertsUp l cs N ∧ k = 0 := by
  rcases h with ⟨h1, _⟩ | ⟨_, h2, _⟩ | ⟨_, _, h3, _⟩ | ⟨_, _, _, h4, h5, h6, h7⟩
  · exact absurd hf h1
  · exact absurd hi h2
  · exact absurd hd h3
  · exact ⟨h4, h5, h6, h7⟩
theorem PartAns.zero {N : Nat} {n : Nat} {l : List Tr} {cs : List Int} {M : Int} {a : List Tr} {v : List Int} {k : Int} (h : PartAns (N : Int) n l cs M a v k) (hk : k = 0) : allIn (n : Int) cs ∧ cs.Nodup ∧ M = ((vertsUp l cs N).length : Int) ∧ a = partL l (vertsUp l cs N) cs ∧ v = vertsUp l cs N := by
  rcases h with ⟨_, _, _, _, h1⟩ | ⟨_, _, _, _, _, h1⟩ | ⟨_, _, _, _, _, _, h1⟩ | ⟨_, h2, h3, h4, h5, h6, _⟩
  · omega
  · omega
  · omega
  · exact ⟨h2, h3, h4, h5, h6⟩
theorem allIn_upto {o n K : Nat} (h : o + n ≤ K) : allIn (K : Int) (upto o n) := fun x hx => by
  have := upto_mem hx
  exact ⟨by omega, by omega⟩
theorem verts_lt {l : List Tr} {cs : List Int} {N t : Nat} (h : t + 1 < (vertsUp l cs N).length) : (vertsUp l cs N).getD t 0 < (vertsUp l cs N).getD (t + 1) 0 := by
  have := List.pairwise_iff_getElem.1 (vertsUp_sorted l cs N) t (t + 1) (by omega) h (by omega)
  rw [List.getD_eq_getElem?_getD, List.getD_eq_getElem?_getD, List.getElem?_eq_getElem h, List.getElem?_eq_getElem (by omega)]
  exact this
theorem own_lenI {w : World} {B n : Nat} {A : Option Addr} {c : Nat} {l : List Int} (h : w.ownsRow B 3 1 (.slice A n c) n (ints l)) : Reads w A n (ints l) := by
  obtain ⟨A', c', e, _, r⟩ := Reads.of_own h
  injection e with e1 e2 e3
  subst e1 e3
  exact r
theorem ownK_keepZ {W W' : World} {B Z n s : Nat} {t : TypeId} {v : Value} {xs : List Value} (h : W.ownsRow B t s v n xs) (b : Below Z W W') (hZ : ∀ q, v.ownBlock = some q → q < Z) : W'.ownsRow B t s v n xs := by
  refine ⟨h.1, ?_⟩
  rcases h.2 with h2 | ⟨q, cap, cur, h1, hq, hh, hr⟩
  · exact .inl h2
  · exact .inr ⟨q, cap, cur, h1, hq, (b.block q (hZ q (by rw [h1]; rfl))).trans hh, hr⟩
theorem upto_snoc {o n t : Nat} (h : t = o + n) : ints (upto o n) ++ ints [(t : Int)] = ints (upto o (n + 1)) := by
  subst h
  rw [← ints_append, upto_succ]
/-- Two lists of numbers being filled, one behind the other, each in a row of its own. -/
def Lists (w1 wr : World) (n : Nat) (f s : Value) (t : Nat) : Prop :=
  (t < n ∧ s = .slice none 0 0 ∧ wr.ownsRow w1.heap.size 3 1 f t (ints (upto 0 t))) ∨
  (∃ r Z, t = n + r ∧ wr.ownsRow w1.heap.size 3 1 f n (ints (upto 0 n)) ∧ (∀ q, f.ownBlock = some q → q < Z) ∧ w1.heap.size ≤ Z ∧ Z ≤ wr.heap.size ∧ wr.ownsRow Z 3 1 s r (ints (upto n r)))
theorem Lists.start (w1 : World) (n : Nat) : Lists w1 w1 n (.slice none 0 0) (.slice none 0 0) 0 := by
  rcases Nat.eq_zero_or_pos n with rfl | h
  · exact .inr ⟨0, w1.heap.size, rfl, World.ownsRow_nil _ _ _ _, fun q hq => (nomatch hq), Nat.le_refl _, Nat.le_refl _, World.ownsRow_nil _ _ _ _⟩
  · exact .inl ⟨h, rfl, World.ownsRow_nil _ _ _ _⟩
theorem Lists.first {w1 w9 : World} {n t : Nat} {f : Value} (ht : t < n) (h : w9.ownsRow w1.heap.size 3 1 f (t + 1) (ints (upto 0 t) ++ ints [(t : Int)])) (hb : w1.heap.size ≤ w9.heap.size) : Lists w1 w9 n f (.slice none 0 0) (t + 1) := by
  rw [upto_snoc (by omega)] at h
  rcases Nat.lt_or_ge (t + 1) n with h1 | h1
  · exact .inl ⟨h1, rfl, h⟩
  · obtain rfl : n = t + 1 := by omega
    exact .inr ⟨0, w9.heap.size, rfl, h, fun q hq => (h.lt q hq).2, hb, Nat.le_refl _, World.ownsRow_nil _ _ _ _⟩
theorem Lists.second {w1 w8 w9 : World} {n r Z : Nat} {f s s' : Value} (hf : w8.ownsRow w1.heap.size 3 1 f n (ints (upto 0 n))) (hq : ∀ q, f.ownBlock = some q → q < Z) (h1 : w1.heap.size ≤ Z) (hz : Z ≤ w8.heap.size) (hs : ∀ q, s.ownBlock = some q → Z ≤ q) (h : w9.ownsRow Z 3 1 s' (r + 1) (ints (upto n r) ++ ints [((n + r : Nat) : Int)])) (gr : w8.grownBy w9 s.ownBlock) : Lists w1 w9 n f s' (n + r + 1) := by
  rw [upto_snoc rfl] at h
  exact .inr ⟨r + 1, Z, by omega, ownK_keepZ hf (own_grown_below (B := Z) (Below.refl _ w8) gr hz hs) hq, hq, h1, Nat.le_trans hz gr.size, h⟩
theorem Lists.up {w1 wr w8 : World} {n t : Nat} {f s : Value} (h : Lists w1 wr n f s t) (b : Below wr.heap.size wr w8) : Lists w1 w8 n f s t := by
  rcases h with ⟨h1, h2, h3⟩ | ⟨r, Z, h1, h2, h3, h4, h5, h6⟩
  · exact .inl ⟨h1, h2, ownK_up h3 b⟩
  · exact .inr ⟨r, Z, h1, ownK_up h2 b, h3, h4, Nat.le_trans h5 b.size, ownK_up h6 b⟩
end Go.Proofs.Ytfdoemebongdbaa
