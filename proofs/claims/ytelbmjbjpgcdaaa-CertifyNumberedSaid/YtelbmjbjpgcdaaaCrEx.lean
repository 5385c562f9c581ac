/- Layer 9: what is told of the law's own examples. -/
import Derived.Test.YtelbmjbjpgcdaaaCrOwn
import Derived.Test.YtelbmjbjpgcdaaaCerOpen
namespace Go.Proofs.Ytelbmjbjpgcdaaa
open Go.RowKit

theorem conn_ex9 {l : List Tr} {v : Int} (h : ∀ t ∈ l, ∀ u ∈ l, hasV t v → hasV u v → t = u ∨ adjV v t u) : Conn l v := fun P ⟨t, ht, hv, hp⟩ hs u hu huv => by
  rcases h t ht u hu hv huv with rfl | ha
  · exact hp
  · exact hs t ht u hu hv huv hp ha
def adB (v : Int) (t u : Tr) : Bool := decide (t = u) || [t.1, t.2.1, t.2.2].any fun w => decide (w ≠ v) && decide (hasV u w)
theorem adB_iff {v : Int} {t u : Tr} (h : adB v t u = true) : t = u ∨ adjV v t u := by
  unfold adB at h
  rw [Bool.or_eq_true] at h
  rcases h with h | h
  · exact .inl (of_decide_eq_true h)
  · right
    rw [List.any_eq_true] at h
    obtain ⟨w, hw, h⟩ := h
    rw [Bool.and_eq_true, decide_eq_true_eq, decide_eq_true_eq] at h
    refine ⟨w, h.1, ?_, h.2⟩
    simp only [List.mem_cons, List.not_mem_nil, or_false] at hw
    unfold hasV
    rcases hw with h | h | h
    · exact .inl h.symm
    · exact .inr (.inl h.symm)
    · exact .inr (.inr h.symm)
def conB (l : List Tr) (v : Int) : Bool := l.all fun t => l.all fun u => !(decide (hasV t v) && decide (hasV u v)) || adB v t u
theorem conB_conn {l : List Tr} {v : Int} (h : conB l v = true) : Conn l v := by
  refine conn_ex9 fun t ht u hu hv hv' => ?_
  unfold conB at h
  have := List.all_eq_true.1 (List.all_eq_true.1 h t ht) u hu
  rw [decide_eq_true hv, decide_eq_true hv'] at this
  exact adB_iff (by simpa using this)
theorem pin_no {l : List Tr} {p : Int → Bool} (hp : IsPin l p) {v : Int} (h : conB l v = true) : p v = false := by
  cases hv : p v with
  | false => rfl
  | true => exact absurd (conB_conn h) ((hp v).1 hv)
theorem vert_none {l : List Tr} {p : Int → Bool} (hp : IsPin l p) {N : Nat} (h : (List.range N).all fun v => conB l (v : Int)) : vertW 6 p (N : Int) = [] := by
  refine vertW_nil.2 fun v hv => pin_no hp ?_
  have := List.all_eq_true.1 h v.toNat (List.mem_range.2 (by have := hv.1; have := hv.2; omega))
  rwa [show ((v.toNat : Nat) : Int) = v by have := hv.1; omega] at this
def tetB : List Tr := [(0, 1, 2), (0, 3, 1), (1, 3, 2), (2, 0, 3)]
def tetC : List Tr := [(0, 1, 2), (0, 3, 1), (1, 3, 2)]
def tetD : List Tr := [(0, 1, 2), (2, 3, 4)]
theorem wits_tet {p : Int → Bool} (hp : IsPin tet9 p) : wits p 4 tet9 = [] := stage_none fun j hj => by
  rcases (show j = 0 ∨ j = 1 ∨ j = 2 ∨ j = 3 ∨ j = 4 ∨ j = 5 by omega) with rfl | rfl | rfl | rfl | rfl | rfl
  · exact of_decide_eq_true (by kernel_rfl : decide (indexW 4 tet9 = []) = true)
  · exact of_decide_eq_true (by kernel_rfl : decide (idxW 2 (fun t => decide (loopT t)) tet9 = []) = true)
  · exact of_decide_eq_true (by kernel_rfl : decide (pairW 3 q9 tet9 = []) = true)
  · exact of_decide_eq_true (by kernel_rfl : decide (pairW 4 m9 tet9 = []) = true)
  · exact of_decide_eq_true (by kernel_rfl : decide (vertW 5 (lonely tet9) 4 = []) = true)
  · exact vert_none hp (N := 4) (by kernel_rfl)
theorem wits_tetC {p : Int → Bool} (hp : IsPin tetC p) : wits p 4 tetC = [] := stage_none fun j hj => by
  rcases (show j = 0 ∨ j = 1 ∨ j = 2 ∨ j = 3 ∨ j = 4 ∨ j = 5 by omega) with rfl | rfl | rfl | rfl | rfl | rfl
  · exact of_decide_eq_true (by kernel_rfl : decide (indexW 4 tetC = []) = true)
  · exact of_decide_eq_true (by kernel_rfl : decide (idxW 2 (fun t => decide (loopT t)) tetC = []) = true)
  · exact of_decide_eq_true (by kernel_rfl : decide (pairW 3 q9 tetC = []) = true)
  · exact of_decide_eq_true (by kernel_rfl : decide (pairW 4 m9 tetC = []) = true)
  · exact of_decide_eq_true (by kernel_rfl : decide (vertW 5 (lonely tetC) 4 = []) = true)
  · exact vert_none hp (N := 4) (by kernel_rfl)
theorem wits_tetB (p : Int → Bool) : wits p 4 tetB = [(3, 0, 3), (3, 1, 3), (3, 2, 3)] := by
  have h2 : pairW 3 q9 tetB = [(3, 0, 3), (3, 1, 3), (3, 2, 3)] := of_decide_eq_true (by kernel_rfl)
  have := (stage_at (p := p) (N := 4) (tl := tetB) (k := 2) fun j hj => by
    rcases (show j = 0 ∨ j = 1 by omega) with rfl | rfl
    · exact of_decide_eq_true (by kernel_rfl : decide (indexW 4 tetB = []) = true)
    · exact of_decide_eq_true (by kernel_rfl : decide (idxW 2 (fun t => decide (loopT t)) tetB = []) = true)).resolve_left (fun e => by
      have e : pairW 3 q9 tetB = [] := e
      rw [h2] at e; cases e)
  rw [← this]
  exact h2
theorem wits_tetD {p : Int → Bool} (hp : IsPin tetD p) : wits p 5 tetD = [(6, 2, 0)] := by
  have p2 : p 2 = true := by
    rw [hp 2]
    intro hc
    have := hc (fun t => t = (0, 1, 2)) ⟨_, List.mem_cons_self, .inr (.inr rfl), rfl⟩ (fun t ht u hu _ _ h1 h2 => by
      subst h1
      simp only [tetD, List.mem_cons, List.not_mem_nil, or_false] at hu
      rcases hu with rfl | rfl
      · rfl
      · obtain ⟨w, hw, h3, h4⟩ := h2
        unfold hasV at h3 h4
        simp only at h3 h4
        omega) (2, 3, 4) (by simp [tetD]) (.inl rfl)
    cases this
  have h0 := pin_no hp (v := 0) (by kernel_rfl)
  have h1 := pin_no hp (v := 1) (by kernel_rfl)
  have h3 := pin_no hp (v := 3) (by kernel_rfl)
  have h4 := pin_no hp (v := 4) (by kernel_rfl)
  have hv : vertW 6 p 5 = [(6, 2, 0)] := by
    unfold vertW
    rw [show (5 : Int).toNat = 5 from rfl, show List.range 5 = [0, 1, 2, 3, 4] from rfl]
    simp [h0, h1, p2, h3, h4]
  have := (stage_at (p := p) (N := 5) (tl := tetD) (k := 5) fun j hj => by
    rcases (show j = 0 ∨ j = 1 ∨ j = 2 ∨ j = 3 ∨ j = 4 by omega) with rfl | rfl | rfl | rfl | rfl
    · exact of_decide_eq_true (by kernel_rfl : decide (indexW 5 tetD = []) = true)
    · exact of_decide_eq_true (by kernel_rfl : decide (idxW 2 (fun t => decide (loopT t)) tetD = []) = true)
    · exact of_decide_eq_true (by kernel_rfl : decide (pairW 3 q9 tetD = []) = true)
    · exact of_decide_eq_true (by kernel_rfl : decide (pairW 4 m9 tetD = []) = true)
    · exact of_decide_eq_true (by kernel_rfl : decide (vertW 5 (lonely tetD) 5 = []) = true)).resolve_left (fun e => by
      have e : vertW 6 p 5 = [] := e
      rw [hv] at e; cases e)
  rw [← this]
  exact hv
end Go.Proofs.Ytelbmjbjpgcdaaa
