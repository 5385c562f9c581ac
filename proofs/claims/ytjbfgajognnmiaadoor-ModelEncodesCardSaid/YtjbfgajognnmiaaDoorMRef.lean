/- The document's own answers for layer 5: Width, Fits, Plain. -/
import Derived.Test.YtjbfgajognnmiaaDoorGModel
import Derived.Test.YtjbfgajognnmiaaDoorGNum
namespace Go.Proofs.YtjbfgajognnmiaaDoor
open Go.RowKit

def PowAt (n : Nat) (k x : Value) : Prop := ∃ j p : Nat, j ≤ wide (n : Int) ∧ p = 2 ^ j ∧ k = .int .i64 (j : Int) ∧ x = .int .i64 (p : Int)
theorem pow_wide (n j : Nat) (hn : 1 ≤ n) : 2 ^ j < n ↔ j < wide (n : Int) := by
  unfold wide
  rw [show (n : Int).toNat - 1 = n - 1 by omega]
  constructor
  · intro h
    exact digits_ge (n - 1) j (by omega)
  · intro h
    rcases Nat.lt_or_ge (2 ^ j) n with h1 | h1
    · exact h1
    · have := digits_le (n - 1) j (by omega)
      omega

set_option maxHeartbeats 1000000 in
set_option maxRecDepth 100000 in
theorem r5width_any (w : World) (n : Nat) (h1 : 1 ≤ n) (hn : n ≤ 256) :
    Calls Tryd.prog 24 #[.int .i64 (n : Int)] w fun e w' => e = .returned (.int .i64 ((wide (n : Int) : Nat) : Int)) ∧ w = w' := by
  have hW : wide (n : Int) ≤ 8 := digits_le _ 8 (by omega)
  have HP := Lib.hid (fun j => pow_wide n j h1)
  have HA := Lib.hid (show ∀ k x, PowAt n k x → ∃ j p : Nat, j ≤ wide (n : Int) ∧ p = 2 ^ j ∧ k = .int .i64 (j : Int) ∧ x = .int .i64 (p : Int) from fun _ _ h => h)
  have HB := Lib.hid (show ∀ k x, (∃ j p : Nat, j ≤ wide (n : Int) ∧ p = 2 ^ j ∧ k = .int .i64 (j : Int) ∧ x = .int .i64 (p : Int)) → PowAt n k x from fun _ _ h => h)
  generalize wide (n : Int) = W at *
  go_enter Tryd.func24, Tryd.ntmps24
  go_wp2_with fail
  go_loop [3, 4] (PowAt n) (fun k _ => 9 - (intOf k).toNat)
  case atStart => exact HB.out _ _ ⟨0, 1, Nat.zero_le _, rfl, rfl, rfl⟩
  case round =>
    obtain ⟨j, p, hj, hp, rfl, rfl⟩ := HA.out _ _ hrel
    have h2 := HP.out j
    rw [← hp] at h2
    have HPP := Lib.hid hp
    clear hrel hp
    by_cases hlt : p < n
    · have t1 : (p : Int) < n := by omega
      have hjW := h2.1 hlt
      clear h2
      go_wp2_with fail
      refine ⟨HB.out _ _ ⟨j + 1, 2 * p, by omega, by rw [HPP.out, Nat.pow_succ, Nat.mul_comm], by go_num, by go_num⟩, by simp [intOf]; omega⟩
    · have t1 : ¬ (p : Int) < n := by omega
      have hjW : j = W := by
        have : ¬ j < W := fun h => hlt (h2.2 h)
        omega
      subst hjW
      clear h2
      go_wp2_with fail
      go_ret
      exact ⟨rfl, rfl⟩

def FitsAt (w : World) (sy cx : Int) (a l : List Int) (L : Nat) (i : Value) (wr : World) : Prop := w = wr ∧ ∃ k : Nat, k ≤ L ∧ i = .int .i64 (k : Int) ∧ ∀ j, j < k → okAt sy (a.getD j 0) = true ∧ okAt cx (l.getD j 0) = true

set_option maxHeartbeats 2000000 in
set_option maxRecDepth 100000 in
theorem fits5_range (w : World) (sy cx : Int) (u v : Value) (h : ¬ (1 ≤ sy ∧ sy ≤ 256) ∨ ¬ (1 ≤ cx ∧ cx ≤ 64)) :
    Calls Tryd.prog 13 #[.int .i64 sy, .int .i64 cx, u, v] w fun e w' => e = .returned (.int .i64 2) ∧ w = w' := by
  have hc : sy < 1 ∨ (1 ≤ sy ∧ 256 < sy) ∨ (1 ≤ sy ∧ sy ≤ 256 ∧ cx < 1) ∨ (1 ≤ sy ∧ sy ≤ 256 ∧ 1 ≤ cx ∧ 64 < cx) := by omega
  clear h
  rcases hc with h1 | ⟨h1, h2⟩ | ⟨h1, h2, h3⟩ | ⟨h1, h2, h3, h4⟩
  all_goals
    go_enter Tryd.func13, Tryd.ntmps13
    go_wp2
    go_ret
    exact ⟨rfl, rfl⟩

set_option maxHeartbeats 4000000 in
set_option maxRecDepth 100000 in
theorem fits5_loop (w : World) (A A' : Option Addr) (L c c' : Nat) (sy cx : Int) (a l : List Int) (h : Reads w A L (ints a)) (h' : Reads w A' L (ints l)) (h1 : 1 ≤ sy ∧ sy ≤ 256) (h2 : 1 ≤ cx ∧ cx ≤ 64) (hL : L ≤ 65536) :
    Calls Tryd.prog 13 #[.int .i64 sy, .int .i64 cx, .slice A L c, .slice A' L c'] w fun e w' => e = .returned (.int .i64 (((if below sy a && below cx l then 0 else 2 : Nat)) : Int)) ∧ w = w' := by
  have HR := Lib.hid h
  have HR' := Lib.hid h'
  have HL := Lib.hid h.len
  have HL' := Lib.hid h'.len
  obtain ⟨a1, a2⟩ := h1
  obtain ⟨a3, a4⟩ := h2
  obtain ⟨r, hr⟩ : ∃ r : Nat, r = if below sy a && below cx l then 0 else 2 := ⟨_, rfl⟩
  rw [← hr]
  have HV := Lib.hid hr
  clear hr
  have t0 : ¬ (65536 : Int) < L := by omega
  have t3 : ((L : Int) != (L : Int)) = false := by simp
  clear h h'
  go_enter Tryd.func13, Tryd.ntmps13
  go_wp2_with fail
  go_loopw [9] (FitsAt w sy cx a l L) (fun i _ => L - (intOf i).toNat)
  case atStart => exact ⟨rfl, 0, Nat.zero_le _, rfl, fun j hj => absurd hj (by omega)⟩
  case round =>
    obtain ⟨rfl, k, hk, rfl, hall⟩ := hrel
    have HA := Lib.hid hall
    clear hall
    by_cases hlt : k < L
    · obtain ⟨ad, rfl, ck⟩ := HR.out.int k hlt
      obtain ⟨ad', rfl, ck'⟩ := HR'.out.int k hlt
      have t1 : (k : Int) < L := by omega
      have B1 := Lib.hid (fun (e : okAt sy (a.getD k 0) = false) => show r = 2 by rw [HV.out, below_no (by rw [HL.out]; exact hlt) e]; rfl)
      have B2 := Lib.hid (fun (e : okAt cx (l.getD k 0) = false) => show r = 2 by rw [HV.out, below_no (l := l) (by rw [HL'.out]; exact hlt) e, Bool.and_false]; rfl)
      have HX := Lib.hid (show ∀ x y, a.getD k 0 = x → l.getD k 0 = y → okAt sy x = true → okAt cx y = true → ∀ j, j < k + 1 → okAt sy (a.getD j 0) = true ∧ okAt cx (l.getD j 0) = true from fun x y hx hy h1 h2 j hj => by
        rcases Nat.lt_or_ge j k with h3 | h3
        · exact HA.out j h3
        · obtain rfl : j = k := by omega
          rw [hx, hy]; exact ⟨h1, h2⟩)
      generalize hx : a.getD k 0 = x at *
      generalize hy : l.getD k 0 = y at *
      clear hx hy
      by_cases x1 : x < 0
      · have E := Lib.hid (B1.out (by unfold okAt; simp; omega))
        go_wp2_with fail
        go_ret
        rw [E.out]
        exact ⟨rfl, rfl⟩
      · by_cases x2 : sy ≤ x
        · have E := Lib.hid (B1.out (by unfold okAt; simp; omega))
          go_wp2_with fail
          go_ret
          rw [E.out]
          exact ⟨rfl, rfl⟩
        · by_cases y1 : y < 0
          · have E := Lib.hid (B2.out (by unfold okAt; simp; omega))
            go_wp2_with fail
            go_ret
            rw [E.out]
            exact ⟨rfl, rfl⟩
          · by_cases y2 : cx ≤ y
            · have E := Lib.hid (B2.out (by unfold okAt; simp; omega))
              go_wp2_with fail
              go_ret
              rw [E.out]
              exact ⟨rfl, rfl⟩
            · have E := Lib.hid (HX.out x y rfl rfl (by unfold okAt; simp; omega) (by unfold okAt; simp; omega))
              go_wp2_with fail
              exact ⟨⟨rfl, k + 1, by omega, by go_num, E.out⟩, by simp [intOf]; omega⟩
    · obtain rfl : k = L := by omega
      have t1 : ¬ (k : Int) < k := by omega
      have E := Lib.hid (show r = 0 by
        rw [HV.out, below_yes (l := a) (m := sy) (by rw [HL.out]; exact fun j hj => (HA.out j hj).1), below_yes (l := l) (m := cx) (by rw [HL'.out]; exact fun j hj => (HA.out j hj).2)]; rfl)
      go_wp2_with fail
      go_ret
      rw [E.out]
      exact ⟨rfl, rfl⟩

set_option maxHeartbeats 2000000 in
set_option maxRecDepth 100000 in
theorem fits5_any (w : World) (A A' : Option Addr) (L L' c c' : Nat) (sy cx : Int) (a l : List Int) (h : Reads w A L (ints a)) (h' : Reads w A' L' (ints l)) :
    Calls Tryd.prog 13 #[.int .i64 sy, .int .i64 cx, .slice A L c, .slice A' L' c'] w fun e w' => e = .returned (.int .i64 ((fitsOf sy cx a l : Nat) : Int)) ∧ w = w' := by
  have hl := h.len
  have hl' := h'.len
  unfold fitsOf
  by_cases hr : ¬ (1 ≤ sy ∧ sy ≤ 256) ∨ ¬ (1 ≤ cx ∧ cx ≤ 64)
  · rw [if_pos hr]
    exact fits5_range w sy cx _ _ hr
  · rw [if_neg hr, hl, hl']
    obtain ⟨a1, a2⟩ : 1 ≤ sy ∧ sy ≤ 256 := by omega
    obtain ⟨a3, a4⟩ : 1 ≤ cx ∧ cx ≤ 64 := by omega
    clear hr
    by_cases he : L ≠ L'
    · rw [if_pos he]
      have t3 : ((L : Int) != (L' : Int)) = true := by rw [bne_iff_ne]; omega
      clear h h' he
      go_enter Tryd.func13, Tryd.ntmps13
      go_wp2
      go_ret
      exact ⟨rfl, rfl⟩
    · rw [if_neg he]
      obtain rfl : L = L' := by omega
      by_cases hf : 65536 < L
      · rw [if_pos hf]
        have t3 : ((L : Int) != (L : Int)) = false := by simp
        have t4 : (65536 : Int) < L := by omega
        clear h h' he
        go_enter Tryd.func13, Tryd.ntmps13
        go_wp2
        go_ret
        exact ⟨rfl, rfl⟩
      · rw [if_neg hf]
        exact fits5_loop w A A' L c c' sy cx a l h h' ⟨a1, a2⟩ ⟨a3, a4⟩ (by omega)
end Go.Proofs.YtjbfgajognnmiaaDoor
