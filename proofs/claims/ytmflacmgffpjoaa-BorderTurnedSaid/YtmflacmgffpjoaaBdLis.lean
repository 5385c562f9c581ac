/- Layer 12: the document's answer: are two lists of lists the same. -/
import Derived.Test.YtmflacmgffpjoaaBdRows
import Derived.Test.YtmflacmgffpjoaaGK
import Derived.Test.YtmflacmgffpjoaaGM
namespace Go.Proofs.Ytmflacmgffpjoaa
open Go.RowKit

def LsR (w : World) (n : Nat) (a b : List (List Int)) (i : Value) (wr : World) : Prop := Below w.heap.size w wr ∧ ∃ k : Nat, k ≤ n ∧ i = .int .i64 (k : Int) ∧ ∀ j, j < k → a.getD j [] = b.getD j []
def LsI (w : World) (m : Nat) (x y : List Int) (i : Value) (wr : World) : Prop := Below w.heap.size w wr ∧ ∃ k : Nat, k ≤ m ∧ i = .int .i64 (k : Int) ∧ ∀ j, j < k → x.getD j 0 = y.getD j 0
set_option maxHeartbeats 8000000 in
set_option maxRecDepth 100000 in
theorem r12lists_any (w : World) (A B : Option Addr) (n c m d : Nat) (a b : List (List Int)) (ha : RowsI w A n a) (hb : RowsI w B m b) (hn : n ≤ 1000000) (hm : ∀ i, i < n → (a.getD i []).length ≤ 1000000) : Calls Try.prog 18 #[.slice A n c, .slice B m d] w (BoolTold10 w (decide (a = b))) := by
  have HA := Lib.hid ha
  have HB := Lib.hid hb
  have HM := Lib.hid hm
  clear ha hb hm
  by_cases h2 : n = m
  case neg =>
    have f2 : ((n : Int) != (m : Int)) = true := by simp; omega
    have H2 := Lib.hid h2
    clear h2
    go_enter Try.func18, Try.ntmps18
    go_wp2
    go_ret
    exact ⟨by rw [decide_eq_false fun e => H2.out (by rw [← HA.out.1, ← HB.out.1, e])]; rfl, Below.refl _ w⟩
  subst h2
  go_enter Try.func18, Try.ntmps18
  go_wp2_with fail
  go_loopw [5] (LsR w n a b) (fun i _ => n - (intOf i).toNat)
  case atStart => exact ⟨Below.refl _ _, 0, Nat.zero_le _, rfl, fun j hj => absurd hj (by omega)⟩
  case round =>
    obtain ⟨hbw, k, hk, rfl, hab⟩ := hrel
    have HR := Lib.hid (And.intro hbw hab)
    by_cases hlt : k < n
    case neg =>
      obtain rfl : k = n := by omega
      have b1 : ¬ (k : Int) < k := by omega
      have HE := Lib.hid (show a = b from ext_getD (z := []) (by rw [HA.out.1, HB.out.1]) fun i hi => HR.out.2 i (by rw [← HA.out.1]; exact hi))
      clear hbw hab
      go_wp2
      go_ret
      exact ⟨by rw [decide_eq_true HE.out]; rfl, HR.out.1⟩
    have b1 : (k : Int) < n := by omega
    have b2 : 0 ≤ (k : Int) := by omega
    obtain ⟨ad, rfl, ca⟩ := (HA.out.below hbw).2 (by omega)
    obtain ⟨bd, rfl, cb⟩ := (HB.out.below hbw).2 (by omega)
    obtain ⟨Ai, ci, ha1, ha2⟩ := ca k hlt
    obtain ⟨Bi, di, hb1, hb2⟩ := cb k hlt
    have hmk := HM.out k hlt
    obtain ⟨x, hx⟩ : ∃ x, a.getD k [] = x := ⟨_, rfl⟩
    obtain ⟨y, hy⟩ : ∃ y, b.getD k [] = y := ⟨_, rfl⟩
    rw [hx] at ha1 ha2 hmk
    rw [hy] at hb1 hb2
    have HX := Lib.hid (And.intro hx hy)
    have HC := Lib.hid (fun W (h : Below wr.heap.size wr W) => (show W.cell? (ad.add k) = some (.slice Ai x.length ci) ∧ W.cell? (bd.add k) = some (.slice Bi y.length di) from ⟨(h.cell (World.block_lt_of_cell? _ _ ha1)).trans ha1, (h.cell (World.block_lt_of_cell? _ _ hb1)).trans hb1⟩))
    have HRR := Lib.hid (And.intro ha2 hb2)
    clear hbw hab ca cb hx hy ha2 hb2
    by_cases hle : x.length = y.length
    case neg =>
      have d0 : ((x.length : Int) != (y.length : Int)) = true := by simp; omega
      have HE := Lib.hid (decide_eq_false (show ¬ a = b from fun e => hle (by rw [← HX.out.1, ← HX.out.2, e])))
      clear hle
      go_wp2_with fail
      go_quiet (fail)
      have BN := Lib.hid (HR.out.1.trans (Reading.below (w := wr) (w' := wr.drewN nq) ⟨nq, rfl⟩))
      go_wp2_with fail
      go_ret
      exact ⟨by rw [HE.out]; rfl, BN.out⟩
    have d0 : ((x.length : Int) != (y.length : Int)) = false := by simp; omega
    go_wp2_with fail
    go_quiet (fail)
    obtain ⟨w5, hw5⟩ : ∃ w5, wr.drewN nq = w5 := ⟨_, rfl⟩
    have hb5 : Below wr.heap.size wr w5 := by rw [← hw5]; exact Reading.below (w := wr) (w' := wr.drewN nq) ⟨nq, rfl⟩
    simp only [hw5]
    have H5 := Lib.hid (And.intro (up2 HR.out.1 hb5) (And.intro (HRR.out.1.below hb5) (HRR.out.2.below hb5)))
    have HC5 := Lib.hid (fun W (h : Below w5.heap.size w5 W) => HC.out W (up2 hb5 h))
    have HAB := Lib.hid HR.out.2
    have hc5 := HC5.out w5 (Below.refl _ _)
    clear hb5 hw5 ha1 hb1
    go_wp2_with fail
    go_loopw [6] (LsI w5 x.length x y) (fun i _ => x.length - (intOf i).toNat)
    case atStart => exact ⟨Below.refl _ _, 0, Nat.zero_le _, rfl, fun j hj => absurd hj (by omega)⟩
    case round =>
      obtain ⟨hbi, j, hj, rfl, hxy⟩ := hrel
      have HI := Lib.hid (And.intro hbi hxy)
      have hc := HC5.out wr hbi
      by_cases hjl : j < x.length
      case neg =>
        obtain rfl : j = x.length := by omega
        have b3 : ¬ (x.length : Int) < (x.length : Int) := by omega
        have HE := Lib.hid (show x = y from ext_getD (z := 0) hle fun i hi => HI.out.2 i hi)
        clear hbi hxy
        go_wp2_with fail
        refine ⟨⟨up2 H5.out.1 HI.out.1, k + 1, by omega, by go_num, fun t ht => ?_⟩, by simp [intOf]; omega⟩
        rcases (show t < k ∨ t = k by omega) with h | rfl
        · exact HAB.out t h
        · rw [HX.out.1, HX.out.2, HE.out]
      have b3 : (j : Int) < (x.length : Int) := by omega
      have b4 : 0 ≤ (j : Int) := by omega
      have b5 : (j : Int) < (y.length : Int) := by omega
      obtain ⟨ai, rfl, ca⟩ := (H5.out.2.1.below hbi).int j hjl
      obtain ⟨bi, rfl, cb⟩ := (H5.out.2.2.below hbi).int j (by omega)
      obtain ⟨p, hp⟩ : ∃ p, x.getD j 0 = p := ⟨_, rfl⟩
      obtain ⟨q, hq⟩ : ∃ q, y.getD j 0 = q := ⟨_, rfl⟩
      rw [hp] at ca
      rw [hq] at cb
      have HPQ := Lib.hid (And.intro hp hq)
      clear hbi hxy hp hq
      by_cases hpq : p = q
      · subst hpq
        go_wp2_with fail
        go_quiet (fail)
        have BN := Lib.hid (HI.out.1.trans (Reading.below (w := wr) (w' := wr.drewN nq) ⟨nq, rfl⟩))
        go_wp2_with fail
        refine ⟨⟨BN.out, j + 1, by omega, by go_num, fun t ht => ?_⟩, by simp [intOf]; omega⟩
        rcases (show t < j ∨ t = j by omega) with h | rfl
        · exact HI.out.2 t h
        · rw [HPQ.out.1, HPQ.out.2]
      · have d1 : (p != q) = true := by simpa using hpq
        have HE := Lib.hid (decide_eq_false (show ¬ a = b from fun e => hpq (by rw [← HPQ.out.1, ← HPQ.out.2, ← HX.out.1, ← HX.out.2, e])))
        clear hpq
        go_wp2_with fail
        go_quiet (fail)
        have BN := Lib.hid (HI.out.1.trans (Reading.below (w := wr) (w' := wr.drewN nq) ⟨nq, rfl⟩))
        go_wp2_with fail
        go_ret
        exact ⟨by rw [HE.out]; rfl, up2 H5.out.1 BN.out⟩
end Go.Proofs.Ytmflacmgffpjoaa
