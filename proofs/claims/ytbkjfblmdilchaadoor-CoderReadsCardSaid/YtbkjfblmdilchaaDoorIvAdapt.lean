/- A symbol that always comes, of eight whose table adapts, costs two bytes at most in 200 symbols; what was encoded lies in each interval on the way. -/
import Derived.Test.YtbkjfblmdilchaaDoorIvFew
namespace Go.Proofs.YtbkjfblmdilchaaDoor

/-- Symbols, each with its counts, come one behind the other. -/
def runIv (x : Iv) (l : List (List Int × Nat)) : Iv := l.foldl (fun x p => come x p.1 p.2) x
/-- Each may come. -/
def Right (l : List (List Int × Nat)) : Prop := ∀ p ∈ l, Ok p.1 ∧ p.2 < p.1.length
theorem runIv_snoc (x : Iv) (l : List (List Int × Nat)) (p : List Int × Nat) : runIv x (l ++ [p]) = come (runIv x l) p.1 p.2 := by simp [runIv]
theorem runIv_cons (x : Iv) (l : List (List Int × Nat)) (p : List Int × Nat) : runIv x (p :: l) = runIv (come x p.1 p.2) l := rfl
theorem good_run (l : List (List Int × Nat)) (h : Right l) (x : Iv) (hx : x.Good) : (runIv x l).Good := by
  induction l generalizing x with
  | nil => exact hx
  | cons p l ih =>
    rw [runIv_cons]
    have hp := h p (List.mem_cons_self ..)
    exact ih (fun q hq => h q (List.mem_cons_of_mem _ hq)) _ (hx.come hp.1 p.2 hp.2)
theorem inside_run {b : List Nat} (hb : Dig b) (l : List (List Int × Nat)) (h : Right l) (x : Iv) (hi : Inside (runIv x l) b) : Inside x b := by
  induction l generalizing x with
  | nil => exact hi
  | cons p l ih =>
    rw [runIv_cons] at hi
    have hp := h p (List.mem_cons_self ..)
    exact inside_of_come hb hp.1 p.2 (ih (fun q hq => h q (List.mem_cons_of_mem _ hq)) _ hi)
/-- On the way to an interval, each symbol is told by a number that lies in it. -/
theorem inside_way {b : List Nat} (hb : Dig b) (l : List (List Int × Nat)) (h : Right l) (x : Iv) (hi : Inside (runIv x l) b) (i : Nat) (hl : i < l.length) : Inside (come (runIv x (l.take i)) (l[i]).1 (l[i]).2) b := by
  have e : runIv x l = runIv (come (runIv x (l.take i)) (l[i]).1 (l[i]).2) (l.drop (i + 1)) := by
    rw [← runIv_snoc, ← List.take_succ_eq_append_getElem hl]
    unfold runIv
    rw [← List.foldl_append, List.take_append_drop]
  rw [e] at hi
  exact inside_run hb _ (fun p hp => h p (List.mem_of_mem_drop hp)) _ hi
/-- Any bytes lie in the first interval. -/
theorem inside_first {b : List Nat} (hb : Dig b) : Inside firstIv b := by
  have := val_lt (widen b 4) (dig_widen hb 4)
  rw [length_widen] at this
  refine ⟨Nat.zero_le _, ?_⟩
  show scale b 4 < 0 + 4294967296
  unfold scale
  omega

def okRun : Nat → Iv → List Int → Nat → Bool
  | 0, x, _, _ => decide (256 ^ (2 + x.k) ≤ x.R)
  | n + 1, x, c, s => decide (256 ^ (2 + x.k) ≤ x.R) && okRun n (come x c s) (bumped c s) s
theorem okRun_all : (List.range 8).all (fun s => okRun 200 firstIv (List.replicate 8 1) s) = true := by decide +kernel
/-- The table and the interval behind t symbols s. -/
def adapt (s : Nat) : Nat → Iv × List Int
  | 0 => (firstIv, List.replicate 8 1)
  | t + 1 => (come (adapt s t).1 (adapt s t).2 s, bumped (adapt s t).2 s)
theorem okRun_at (s n : Nat) (t : Nat) (h : okRun n (adapt s t).1 (adapt s t).2 s = true) (j : Nat) (hj : j ≤ n) : 256 ^ (2 + (adapt s (t + j)).1.k) ≤ (adapt s (t + j)).1.R := by
  induction n generalizing t j with
  | zero =>
    obtain rfl : j = 0 := by omega
    simpa [okRun] using h
  | succ n ih =>
    rw [okRun, Bool.and_eq_true] at h
    cases j with
    | zero => simpa using h.1
    | succ j =>
      have := ih (t + 1) h.2 j (by omega)
      rwa [show t + 1 + j = t + (j + 1) by omega] at this
theorem adapt_two (s : Nat) (hs : s < 8) (t : Nat) (ht : t ≤ 200) {b : List Nat} (hb : IsCode (adapt s t).1 b) : b.length ≤ 2 := by
  have h1 := List.all_eq_true.1 okRun_all s (List.mem_range.2 hs)
  have h2 := okRun_at s 200 0 h1 t ht
  rw [Nat.zero_add] at h2
  obtain ⟨m, hm, rfl, h3, h4⟩ := hb
  rw [length_digs]
  rcases Nat.lt_or_ge 2 m with h | h
  · refine absurd ?_ (h4 2 h)
    have h5 := ceil_lt (adapt s t).1 2
    unfold Fits
    rw [show 4 + (adapt s t).1.k - 2 = 2 + (adapt s t).1.k by omega] at h5 ⊢
    omega
  · exact h
end Go.Proofs.YtbkjfblmdilchaaDoor
