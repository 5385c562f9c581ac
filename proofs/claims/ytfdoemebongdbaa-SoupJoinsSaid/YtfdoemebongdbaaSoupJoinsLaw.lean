/- SoupJoins: what any soups are together, or why not, is as the document says. No condition. -/
import Derived.Test.YtfdoemebongdbaaSouLaw
import Derived.Test.YtfdoemebongdbaaSouRJoin
namespace Go.Proofs.Ytfdoemebongdbaa.soupJoins
open Go.RowKit Go.ChangeShapes Go.WideShapes Go.ChangeAt

def Ans (n : Nat) (L : List (Int × List Tr)) (N : Int) (l : List Tr) (k : Int) : Prop :=
  (¬ AllFit L n ∧ N = 0 ∧ l = [] ∧ k = 1) ∨ (AllFit L n ∧ 4096 < sumN L n ∧ N = 0 ∧ l = [] ∧ k = 7) ∨ (AllFit L n ∧ sumN L n ≤ 4096 ∧ N = sumN L n ∧ l = joinT L n ∧ k = 0)
theorem Ans.one {n : Nat} {L : List (Int × List Tr)} {N N' : Int} {l l' : List Tr} {k k' : Int} (h : Ans n L N l k) (h' : Ans n L N' l' k') : N' = N ∧ l' = l ∧ k' = k := by
  rcases h with ⟨h1, rfl, rfl, rfl⟩ | ⟨h1, h2, rfl, rfl, rfl⟩ | ⟨h1, h2, rfl, rfl, rfl⟩ <;> rcases h' with ⟨g1, rfl, rfl, rfl⟩ | ⟨g1, g2, rfl, rfl, rfl⟩ | ⟨g1, g2, rfl, rfl, rfl⟩ <;> first
    | exact ⟨rfl, rfl, rfl⟩
    | exact absurd h1 g1
    | exact absurd g1 h1
    | omega
theorem told {w : World} {n : Nat} {L : List (Int × List Tr)} {e : Ending} {w' : World} (h : JoinTold w n L e w') (hl : ∀ x ∈ L, x.2.length ≤ 1000) (hn : n ≤ 6) :
    ∃ N A m c l k, e = .returned (.tuple #[.agg #[.int .i64 N, .slice A m c], .int .i64 k]) ∧ Ans n L N l k ∧ T3 w' A m l ∧ m ≤ 6000 ∧ Below w.heap.size w w' := by
  rcases h with ⟨h1, rfl, b⟩ | ⟨h1, h2, rfl, b⟩ | ⟨h1, h2, v, rfl, A, c, rfl, o, b⟩
  · exact ⟨0, none, 0, 0, [], 1, rfl, .inl ⟨h1, rfl, rfl, rfl⟩, T3.nil _ _, by omega, b⟩
  · exact ⟨0, none, 0, 0, [], 7, rfl, .inr (.inl ⟨h1, h2, rfl, rfl, rfl⟩), T3.nil _ _, by omega, b⟩
  · exact ⟨_, A, _, c, _, 0, rfl, .inr (.inr ⟨h1, h2, rfl, rfl, rfl⟩), T3.of_own o, by have := cntT_le L hl n; rw [joinT_len]; omega, b⟩
def At (w : World) (n : Nat) (L : List (Int × List Tr)) (i : Value) (wr : World) : Prop := ∃ k, k ≤ n ∧ i = .int .i64 ((k : Nat) : Int) ∧ Below w.heap.size w wr ∧ ∀ j, j < k → (L.getD j zS).2.length ≤ 40

set_option maxHeartbeats 8000000 in
set_option maxRecDepth 100000 in
theorem walk (A : Option Addr) (n c : Nat) (L : List (Int × List Tr)) (w : World) (_ : ∀ x ∈ L, -9223372036854775808 ≤ x.1 ∧ x.1 ≤ 9223372036854775807) (h : Soups w A n L) :
    Calls Try.prog 6 #[.slice A n c] w (Yes8 w) := by
  have HL := Lib.hid h
  have KA := Lib.hid awake8_true
  have KG := Lib.hid great8_any
  clear h
  go_enter Try.func6, Try.ntmps6
  go_wp2_with fail
  refine (KA.out _).mono ?_
  rintro e w1 ⟨rfl, b1⟩
  have B1 := Lib.hid b1
  clear b1
  by_cases n6 : (6 : Int) < n
  · go_wp2_with fail
    go_ret
    exact ⟨rfl, B1.out⟩
  go_wp2_with fail
  go_loopw [3] (At w n L) (fun i _ => n - (intOf i).toNat)
  case atStart => exact ⟨0, Nat.zero_le _, rfl, B1.out, fun j hj => absurd hj (by omega)⟩
  case round =>
    obtain ⟨k, hk, rfl, hb, hs⟩ := hrel
    have HB := Lib.hid hb
    have HS := Lib.hid hs
    clear hb hs
    by_cases hlt : k < n
    · have b1 : (k : Int) < n := by omega
      obtain ⟨b, off, rfl, hat⟩ := (HL.out.below HB.out).2 (by omega)
      obtain ⟨Ai, ci, c0, c1, ht⟩ := hat k hlt
      clear hat ht
      obtain ⟨x, hx⟩ : ∃ x, L.getD k zS = x := ⟨_, rfl⟩
      have HX := Lib.hid hx
      rw [hx] at c0 c1
      clear hx
      obtain ⟨Nk, lk⟩ := x
      obtain ⟨nk, hnk⟩ : ∃ nk, lk.length = nk := ⟨_, rfl⟩
      simp only [hnk] at c1
      have HNK := Lib.hid hnk
      clear hnk
      go_wp2_with fail
      refine (KG.out _ Nk Ai nk ci).mono ?_
      rintro e w3 ⟨rfl, b3⟩
      have B3 := Lib.hid (up2 HB.out b3)
      clear b3
      by_cases h40 : (40 : Int) < nk
      · simp only [decide_eq_true h40]
        clear h40
        go_wp2_with fail
        go_ret
        exact ⟨rfl, B3.out⟩
      · simp only [decide_eq_false h40]
        have h40' := Lib.hid h40
        clear h40
        go_wp2_with fail
        refine ⟨⟨k + 1, by omega, by go_num, B3.out, fun j hj => ?_⟩, by simp [intOf]; omega⟩
        rcases Nat.lt_or_ge j k with h3 | h3
        · exact HS.out j h3
        · obtain rfl : j = k := by omega
          have := h40'.out
          rw [HX.out]; have h5 := HNK.out; simp only; omega
    · obtain rfl : k = n := by omega
      have b1 : ¬ (k : Int) < k := by omega
      have hl : ∀ x ∈ L, x.2.length ≤ 1000 := by
        intro x hx
        obtain ⟨j, hj, rfl⟩ := List.getElem_of_mem hx
        have := HS.out j (by rw [← HL.out.1]; exact hj)
        rw [List.getD_eq_getElem?_getD, List.getElem?_eq_getElem hj] at this
        simp only [Option.getD_some] at this
        omega
      have KJ := Lib.hid (sjoin_any wr A k c L (HL.out.below HB.out) (by omega) hl)
      have KR := Lib.hid (fun W (h : Soups W A k L) => rjoin_any W A k c L h (by omega) hl)
      have KT := Lib.hid (fun W e W' (h : JoinTold W k L e W') => told h hl (by omega))
      have KS := Lib.hid rsame_any
      clear hl
      go_wp2_with fail
      refine KJ.out.mono ?_
      intro e w3 h3
      obtain ⟨N3, A3, m3, c3, l3, k3, rfl, a3, t3, hm3, b3⟩ := KT.out _ _ _ h3
      clear h3
      have bx := (Below.refl _ w3).alloc (Nat.le_refl _) (.cells #[.int .i64 N3, .slice A3 m3 c3] 24)
      have B4 := Lib.hid (up2 (up2 HB.out b3) bx)
      have Y4 := Lib.hid (Bx.made w3 N3 A3 m3 c3)
      have T4 := Lib.hid (t3.below bx)
      have A4 := Lib.hid a3
      clear b3 bx t3 a3
      go_wp2_with fail
      obtain ⟨yb, hyb⟩ : ∃ yb, w3.heap.size = yb := ⟨_, rfl⟩
      obtain ⟨w4, hw4⟩ : ∃ w4, w3.alloc (.cells #[.int .i64 N3, .slice A3 m3 c3] 24) = w4 := ⟨_, rfl⟩
      rw [hw4] at B4 Y4 T4
      rw [hyb] at Y4
      simp only [hw4, hyb]
      clear hw4 hyb
      refine (KR.out _ (HL.out.below B4.out)).mono ?_
      intro e w5 h5
      obtain ⟨N5, A5, m5, c5, l5, k5, rfl, a5, t5, hm5, b5⟩ := KT.out _ _ _ h5
      clear h5
      obtain ⟨rfl, rfl, rfl⟩ := A4.out.one a5
      have bx := (Below.refl _ w5).alloc (Nat.le_refl _) (.cells #[.int .i64 N5, .slice A5 m5 c5] 24)
      have B6 := Lib.hid (up2 (up2 B4.out b5) bx)
      have Y6 := Lib.hid ((Y4.out.below b5).below bx)
      have Z6 := Lib.hid (Bx.made w5 N5 A5 m5 c5)
      have T6 := Lib.hid ((T4.out.below b5).below bx)
      have U6 := Lib.hid (t5.below bx)
      clear b5 bx t5 a5
      have y0 := Y6.out.c0
      have y1 := Y6.out.c1
      have z0 := Z6.out.c0
      have z1 := Z6.out.c1
      go_wp2_with fail
      refine (KS.out _ N5 N5 A3 A5 m3 c3 m5 c5 l5 l5 T6.out U6.out (by omega)).mono ?_
      rintro e w7 ⟨rfl, b7⟩
      have B7 := Lib.hid (up2 B6.out b7)
      clear b7
      simp only [and_self, decide_true]
      go_wp2_with fail
      go_ret
      exact ⟨rfl, B7.out⟩

set_option maxRecDepth 100000 in
theorem lifted (os : Os) (started : os.Started) (H : Type) (enc : TypeId × Value → H) :
    ReturnsInHanded {} Try.checked os 6 .any (Rows.soupJoinsSpec.pre6 enc Try.prog Try.f6 Rows.soupJoinsRow.domain false) (Rows.soupJoinsSpec.post enc Try.prog Try.f6 false true false false) := by
  refine returnsInHanded_of_change (C := Try.checked) own_knob started (by kernel_rfl) Try.func6
    (ChangeSpec.witness6 (enc := enc) (C := Try.checked) false ⟨#[], #[.slice none 0 0], []⟩ 8 (by kernel_rfl) (by kernel_rfl) (by kernel_rfl) (by kernel_rfl)) ?_
  intro W base args ds gs before hval0 hW hcnd _
  have hval : ∀ (j : Nat) t v, Try.f6.params[j]? = some t → args[j]? = some v → Value.okWide Try.prog W .any base t v := hval0
  have hW' := hW
  obtain ⟨p, q, hA0, hV, rfl, hfz, hnd⟩ := hW
  have hA : DataW.TrodAll enc Try.prog W 0 (fun _ => true) true Try.f6.params.toList args.toList ds p := hA0
  rw [Try.params6] at hA hval
  obtain ⟨v0, vs0, d0, ds0, p0, q0, hargs, rfl, rfl, h0, r0⟩ := trodAll_cons hA
  obtain ⟨rfl, rfl, rfl⟩ := trodAll_nil r0
  obtain rfl : args = #[v0] := by cases args; simp_all
  obtain ⟨rfl, rfl⟩ := trodVars_none hV
  obtain ⟨a0, len0, cap0, rfl⟩ := okWide_slice Try.underlying43 (hval 0 43 v0 rfl rfl)
  have lt0 : ∀ x ∈ p0, x.block < W.heap.size := by obtain ⟨m, hm⟩ := h0; exact DataW.trod_lt m _ _ _ hm
  obtain ⟨xs0, hx0, hr0⟩ := arg_soups h0
  clear hA0 hval0
  refine (walk a0 len0 cap0 xs0 W hx0 hr0).mono fun e W' ⟨he, bel⟩ => ?_
  subst he
  exact ⟨_, rfl, _, _, _, [], _, [], hW', trodAll_mk1 (shut_bool Try.underlying4 _), (trodAll_cons_mk (Below.trod laid_out (by kernel_rfl) (of_decide_eq_true (by kernel_rfl)) h0 bel lt0) trodAll_mk0), rfl, bel.frame _, fun h => by cases h⟩

theorem over : Rows.soupJoinsRow.holds Try.pinned (OpenSpec.ofChange Rows.soupJoinsSpec) :=
  OpenClaim.holds_of_wide 6 Try.f6 rfl rfl rfl rfl rfl rfl rfl ⟨rfl, rfl, rfl, rfl, rfl⟩ rfl rfl rfl rfl rfl (by kernel_rfl) Try.func6 (by kernel_rfl)
    (of_decide_eq_true (by kernel_rfl)) (by unfold Func.isWrapper; first | (rw [if_pos (by decide +kernel)]; kernel_rfl) | (rw [if_neg (by decide +kernel)]; exact ⟨rfl, rfl⟩))
    (fun os started H enc _ => lifted os started H enc)

theorem proved : Rows.SoupJoinsSaid := over
end Go.Proofs.Ytfdoemebongdbaa.soupJoins
