/- Layer 8: words that the laws share. -/
import Derived.Test.YtfdoemebongdbaaSouAwake
import Derived.Test.YtfdoemebongdbaaArgSoup
import Derived.Test.YtfdoemebongdbaaArgInts
import Derived.Deep.RegionHeld3
namespace Go.Proofs.Ytfdoemebongdbaa
open Go.RowKit

theorem boxes_held {w : World} {a b : Nat} {N M : Int} {A B : Option Addr} {n c m d : Nat} (ha : Bx w a N A n c) (hb : Bx w b M B m d) (W : World) (h : Below w.heap.size w W) : W.cell? ⟨a, 0, none⟩ = some (.int .i64 N) ∧ W.cell? ⟨a, 1, none⟩ = some (.slice A n c) ∧ W.cell? ⟨b, 0, none⟩ = some (.int .i64 M) ∧ W.cell? ⟨b, 1, none⟩ = some (.slice B m d) :=
  ⟨(ha.below h).c0, (ha.below h).c1, (hb.below h).c0, (hb.below h).c1⟩
theorem E2.of_own {w : World} {B n c : Nat} {A : Option Addr} {l : List Ed} (h : w.ownsRow B 54 2 (.slice A n c) n (ints (flat2 l))) : E2 w A n l := by
  have hl : l.length = n := by have := h.1; rw [length_ints, length_flat2] at this; omega
  refine ⟨hl, fun hn => ?_⟩
  rcases h.2 with ⟨h1, h2⟩ | ⟨q, cap, cur, h1, hq, hh, hc, hm, hs, ht⟩
  · omega
  · injection h1 with h1 _ h3
    subst h1 h3
    refine ⟨q, 0, rfl, fun i hi => ?_⟩
    obtain ⟨a0, a1⟩ := flat2_at l i (by omega)
    have hc := fun j (hj : j < n * 2) => h.cellAt j hj
    rw [hc _ (by omega), hc _ (by omega)]
    simp only [ints_at, Nat.zero_add, Nat.mul_comm i 2, a0, a1, Option.map_some, and_self]
theorem box_held {w : World} {a : Nat} {N : Int} {A : Option Addr} {n c : Nat} (ha : Bx w a N A n c) (W : World) (h : Below w.heap.size w W) : W.cell? ⟨a, 0, none⟩ = some (.int .i64 N) ∧ W.cell? ⟨a, 1, none⟩ = some (.slice A n c) :=
  ⟨(ha.below h).c0, (ha.below h).c1⟩
theorem own_blk {W : World} {B n s c : Nat} {t : TypeId} {A : Option Addr} {xs : List Value} (h : W.ownsRow B t s (.slice A n c) n xs) : ∀ bk off, A = some ⟨bk, off, none⟩ → B ≤ bk := by
  intro bk off e
  subst e
  exact ownK_lt h bk rfl
/-- Triangles stay as they were where a soup's own cells are stored into. -/
theorem t3_far {w' : World} {A : Option Addr} {n : Nat} {l : List Tr} {r : Nat} {u v : Value} (h : T3 w' A n l) (hA : ∀ bk off, A = some ⟨bk, off, none⟩ → bk ≠ r) : T3 ((w'.setCell ⟨r, 0, none⟩ u).setCell ⟨r, 1, none⟩ v) A n l := by
  refine ⟨h.1, fun hn => ?_⟩
  obtain ⟨bk, off, hA', hc⟩ := h.2 hn
  have hne := hA bk off hA'
  have key : ∀ (w : World) (i : Nat) (a : Value) (p : Nat), (w.setCell ⟨r, i, none⟩ a).cell? ⟨bk, p, none⟩ = w.cell? ⟨bk, p, none⟩ := fun w i a p => by
    have := Below.heap_setCell w ⟨r, i, none⟩ a bk hne
    simp only [World.cell?, this]
  refine ⟨bk, off, hA', fun i hi => ?_⟩
  rw [key, key, key, key, key, key]
  exact hc i hi
set_option maxHeartbeats 4000000 in
set_option maxRecDepth 100000 in
theorem sreytfdoemebongdbaalen (w : World) (N : Int) (A B : Option Addr) (n c m d : Nat) (l : List Tr) (h : T3 w A n l) (hn : n ≤ 1000000) (hf : Fit N l) (hp : (m : Int) ≠ N) :
    Calls Try.prog 19 #[.agg #[.int .i64 N, .slice A n c], .slice B m d] w (ErrS w 3) := by
  have HL := Lib.hid h
  have HF := Lib.hid hf
  have hN0 := hf.1
  have hN1 := hf.2.1
  obtain ⟨M, rfl⟩ : ∃ M : Nat, N = (M : Int) := ⟨N.toNat, by omega⟩
  have HP := Lib.hid hp
  have K := Lib.hid (fun (w' : World) (h : T3 w' A n l) => sfits_any w' (M : Int) A n c l h (by omega))
  clear h hf hp hN0 hN1
  go_enter Try.func19, Try.ntmps19
  go_wp2_with fail
  obtain ⟨y, hy⟩ : ∃ y, y = (w.alloc (.cells #[.int .i64 (M : Int), .slice A n c] 24)).alloc (.cells #[.int .i64 0, .slice none 0 0] 24) := ⟨_, rfl⟩
  have T := Lib.hid (two_boxes w (M : Int) A n c y hy)
  simp only [← hy]
  clear hy
  obtain ⟨g, hg⟩ : ∃ g, w.heap.size = g := ⟨_, rfl⟩
  have HG := Lib.hid hg
  simp only [hg]
  rw [hg] at T
  clear hg
  refine (K.out _ (HL.out.below (by rw [HG.out]; exact T.out.1))).mono ?_
  rintro e w1 ⟨rfl, b1⟩
  have hd := decide_eq_true HF.out
  simp only [hd]
  have B1 := Lib.hid (T.out.1.trans (b1.mono (by have := T.out.1.size; have := HG.out; omega)))
  have e0 := (T.out.2.1.below b1).c0
  have HR := Lib.hid (T.out.2.2.below b1)
  clear b1 hd
  have t1 : ((m : Int) != (M : Int)) = true := by simpa using HP.out
  have z0 := HR.out.c0
  have z1 := HR.out.c1
  have f0 := frozen_in HR.out 0
  have f1 := frozen_in HR.out 1
  go_wp2_with fail
  refine bodyPost_ret (results_row2 rfl _ _ (g + 1) 24 _ (0, 0) _ rfl (errS_row HR.out) Try.underlying24 rfl (by kernel_rfl)) rfl ⟨rfl, ?_⟩
  rw [HG.out]
  exact below_set2 B1.out (by omega) _ _
def Yes8 (w : World) (e : Ending) (w' : World) : Prop := e = .returned (.bool true) ∧ Below w.heap.size w w'
end Go.Proofs.Ytfdoemebongdbaa
