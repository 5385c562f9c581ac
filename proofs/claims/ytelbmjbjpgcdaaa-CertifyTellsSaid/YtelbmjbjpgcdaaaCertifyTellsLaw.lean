/- CertifyTells: whatever triangles, whether they are a surface, and all witnesses, are the document's. No condition. -/
import Derived.Test.YtelbmjbjpgcdaaaCrAwk
import Derived.Test.YtelbmjbjpgcdaaaArgSoup
import Derived.Deep.RegionHeld3
namespace Go.Proofs.Ytelbmjbjpgcdaaa.certifyTells
open Go.RowKit Go.ChangeShapes Go.WideShapes Go.ChangeAt

theorem t3_of_wit {w : World} {B n c : Nat} {A : Option Addr} {l : List Wt} (h : w.ownsRow B 37 3 (.slice A n c) n (ints (flat3 l))) : T3 w A n l := by
  have hl : l.length = n := by have := h.1; rw [length_ints, length_flat3] at this; omega
  refine ⟨hl, fun hn => ?_⟩
  rcases h.2 with ⟨h1, h2⟩ | ⟨q, cap, cur, h1, hq, hh, hc, hm, hs, ht⟩
  · omega
  · injection h1 with h1 _ h3
    subst h1 h3
    refine ⟨q, 0, rfl, fun i hi => ?_⟩
    obtain ⟨a0, a1, a2⟩ := flat3_at l i (by omega)
    have hc := fun j (hj : j < n * 3) => h.cellAt j hj
    rw [hc _ (by omega), hc _ (by omega), hc _ (by omega)]
    simp only [ints_at, Nat.zero_add, Nat.mul_comm i 3, a0, a1, a2, Option.map_some, and_self]
theorem t3_first {w : World} {A : Option Addr} {n : Nat} {x : Wt} {r : List Wt} (h : T3 w A n (x :: r)) : ∃ b off, A = some ⟨b, off, none⟩ ∧ w.cell? ⟨b, off, none⟩ = some (.int .i64 x.1) ∧ w.cell? ⟨b, off + 1, none⟩ = some (.int .i64 x.2.1) ∧ w.cell? ⟨b, off + 2, none⟩ = some (.int .i64 x.2.2) := by
  obtain ⟨b, off, e, hc⟩ := h.2 (by rw [← h.1]; exact Nat.succ_pos _)
  obtain ⟨c0, c1, c2⟩ := hc 0 (by rw [← h.1]; exact Nat.succ_pos _)
  exact ⟨b, off, e, c0, c1, c2⟩
set_option maxHeartbeats 16000000 in
set_option maxRecDepth 100000 in
theorem walk (N : Int) (A : Option Addr) (n c : Nat) (l : List Tr) (w : World) (_ : -9223372036854775808 ≤ N) (_ : N ≤ 9223372036854775807) (h : T3 w A n l) :
    Calls Try.prog 3 #[.agg #[.int .i64 N, .slice A n c]] w (BoolTold9 w true) := by
  obtain ⟨p, hp⟩ := isPin_exists l
  have HL := Lib.hid h
  have HP := Lib.hid hp
  have KA := Lib.hid awake9_true
  have B0 := Lib.hid ((Below.refl _ w).alloc (Nat.le_refl _) (.cells #[.int .i64 N, .slice A n c] 24))
  have X0 := Lib.hid (Bx.made w N A n c)
  clear h hp
  go_enter Try.func3, Try.ntmps3
  go_wp2_with fail
  refine (KA.out _).mono ?_
  rintro e w1 ⟨rfl, b1⟩
  have B1 := Lib.hid (up2 B0.out b1)
  have X1 := Lib.hid (X0.out.below b1)
  clear b1
  obtain ⟨g, hg⟩ : ∃ g, w.heap.size = g := ⟨_, rfl⟩
  simp only [hg]
  rw [hg] at X1
  have HG := Lib.hid hg
  clear hg
  have e0 := X1.out.c0
  have e1 := X1.out.c1
  by_cases h1 : (40 : Int) < n
  · have d1 : decide ((n : Int) > 40) = true := by simpa using h1
    go_wp2_with fail
    refine (KA.out _).mono ?_
    rintro e w3 ⟨rfl, b3⟩
    have B3 := Lib.hid (up2 B1.out b3)
    clear b3
    go_wp2_with fail
    go_ret
    exact ⟨rfl, B3.out⟩
  have d1 : decide ((n : Int) > 40) = false := by simpa using h1
  by_cases h2 : 40 < N ∧ N ≤ 4096
  · have d2 : decide (N > 40) = true := by simpa using h2.1
    have d3 : decide (N ≤ 4096) = true := by simpa using h2.2
    go_wp2_with fail
    refine (KA.out _).mono ?_
    rintro e w3 ⟨rfl, b3⟩
    have B3 := Lib.hid (up2 B1.out b3)
    clear b3
    go_wp2_with fail
    go_ret
    exact ⟨rfl, B3.out⟩
  have hn : n ≤ 40 := by omega
  have KO := Lib.hid (own9_any w1 N A n c l (HL.out.below B1.out) (by omega))
  have hd : decide (N > 40) = false ∨ (decide (N > 40) = true ∧ decide (N ≤ 4096) = false) := by
    by_cases h3 : 40 < N
    · right
      exact ⟨by simpa using h3, by simp; omega⟩
    · left
      simpa using h3
  clear h1 h2
  rcases hd with d2 | ⟨d2, d3⟩
  all_goals
    go_wp2_with fail
    refine KO.out.mono ?_
    rintro e w4 ⟨_, rfl, A4, c4, rfl, o4, b4⟩
    rw [HL.out.1] at o4 ⊢
    have t4 : T3 w4 A4 n l := T3.of_own o4
    obtain ⟨w5, hw5⟩ : ∃ w5, w4.alloc (.cells #[.int .i64 N, .slice A4 n c4] 24) = w5 := ⟨_, rfl⟩
    obtain ⟨k, hk⟩ : ∃ k, w4.heap.size = k := ⟨_, rfl⟩
    have b5 : Below w4.heap.size w4 w5 := by rw [← hw5]; exact (Below.refl _ w4).alloc (Nat.le_refl _) _
    have x5 : Bx w5 k N A4 n c4 := by rw [← hw5, ← hk]; exact Bx.made w4 N A4 n c4
    have X5 := Lib.hid ((X1.out.below b4).below b5)
    have Y5 := Lib.hid x5
    have B5 := Lib.hid (up2 (up2 B1.out b4) b5)
    have T5 := Lib.hid (t4.below b5)
    have L5 := Lib.hid (HL.out.below B5.out)
    clear t4 o4 b4 b5 x5 e0 e1
    have e0 := Y5.out.c0
    have e1 := Y5.out.c1
    have KL := Lib.hid (call_any w5 N A4 n c4 l p T5.out HP.out (by omega))
    have KR := Lib.hid (fun W (b : Below w5.heap.size w5 W) => r9all_any W N A n c l p HP.out (L5.out.below b) (by omega))
    have KI := Lib.hid (fun W (b : Below w5.heap.size w5 W) => cis_any W N A4 n c4 l p (T5.out.below b) HP.out (by omega))
    have KC := Lib.hid (fun W (b : Below w5.heap.size w5 W) => ccheck_any W N A4 n c4 l p (T5.out.below b) HP.out (by omega))
    have KS := Lib.hid (fun W (b : Below w5.heap.size w5 W) => ssame_any W N N A4 A n c4 n c l l (T5.out.below b) (L5.out.below b) (by omega))
    have hwl := wits_len p N l
    obtain ⟨ws, hws⟩ : ∃ ws, wits p N l = ws := ⟨_, rfl⟩
    rw [hws] at KL KR KI KC hwl
    clear hws
    go_wp2_with fail
    refine KL.out.mono ?_
    rintro e w6 ⟨q, rfl, t6, b6, _⟩
    have T6 := Lib.hid t6
    have B6 := Lib.hid b6
    have f0 := (X5.out.below b6).c0
    have f1 := (X5.out.below b6).c1
    clear t6 b6
    go_wp2_with fail
    refine (KR.out _ B6.out).mono ?_
    rintro e w7 ⟨A7, c7, rfl, o7, b7⟩
    have T7 := Lib.hid (t3_of_wit o7)
    have B7 := Lib.hid (up2 B6.out b7)
    have KM := Lib.hid (same9_any w7 (some ⟨q, 0, none⟩) A7 ws.length ws.length ws.length c7 ws ws (T6.out.below b7) T7.out (by omega))
    clear o7 b7 f0 f1
    go_wp2_with fail
    refine KM.out.mono ?_
    rintro e w8 ⟨rfl, b8⟩
    have B8 := Lib.hid (up2 B7.out b8)
    have T8 := Lib.hid (T7.out.below b8)
    clear b8
    have e0 := (Y5.out.below B8.out).c0
    have e1 := (Y5.out.below B8.out).c1
    simp only [decide_true]
    go_wp2_with fail
    refine (KI.out _ B8.out).mono ?_
    rintro e w9 ⟨rfl, b9⟩
    have B9 := Lib.hid (up2 B8.out b9)
    have T9 := Lib.hid (T8.out.below b9)
    clear b9
    have e0 := (Y5.out.below B9.out).c0
    have e1 := (Y5.out.below B9.out).c1
    have f0 := (X5.out.below B9.out).c0
    have f1 := (X5.out.below B9.out).c1
    have gd := fun W op u v xs ys => run_eqGuard_agg (P := Try.prog) W op 35 u v xs ys Try.eqGuardType35
    have ql := eqlW
    by_cases hw0 : ws = []
    · have hl0 : ((ws.length : Int) == 0) = true := by simp [hw0]
      have hi0 : ws.isEmpty = true := by simp [hw0]
      have hh0 : ws.headD (0, 0, 0) = (0, 0, 0) := by rw [hw0]; rfl
      rw [hi0]
      go_wp2_with fail
      refine (KS.out _ B9.out).mono ?_
      rintro e w10 ⟨rfl, b10⟩
      have B10 := Lib.hid (up2 B9.out b10)
      clear b10
      have e0 := (Y5.out.below B10.out).c0
      have e1 := (Y5.out.below B10.out).c1
      simp only [and_self, decide_true]
      go_wp2_with fail
      refine (KC.out _ B10.out).mono ?_
      rintro e w11 ⟨rfl, b11⟩
      have B11 := Lib.hid (up2 B5.out (up2 B10.out b11))
      clear b11
      rw [hh0]
      simp only [wv]
      go_wp2
      go_ret
      exact ⟨rfl, B11.out⟩
    · obtain ⟨x, r, hx⟩ := List.exists_cons_of_ne_nil hw0
      have hpos : 0 < ws.length := by rw [hx]; exact Nat.succ_pos _
      have hl0 : ((ws.length : Int) == 0) = false := by rw [beq_eq_false_iff_ne]; omega
      have hi0 : ws.isEmpty = false := by rw [hx]; rfl
      have hh0 : ws.headD (0, 0, 0) = x := by rw [hx]; rfl
      have hpz : (0 : Int) < ws.length := by omega
      have T9' := T9.out
      rw [hx] at T9'
      obtain ⟨bw, ow, rfl, _, _, _⟩ := (t3_first T9')
      rw [hi0]
      go_wp2_with fail
      refine (KS.out _ B9.out).mono ?_
      rintro e w10 ⟨rfl, b10⟩
      have B10 := Lib.hid (up2 B9.out b10)
      have T10 := T9.out.below b10
      rw [hx] at T10
      clear b10
      simp only [and_self, decide_true]
      have KC' := Lib.hid (fun W (b : Below w10.heap.size w10 W) => KC.out W (up2 B10.out b))
      have HH := Lib.hid (fun W (b : Below w10.heap.size w10 W) => (show W.cell? ⟨k, 0, none⟩ = some (.int .i64 N) ∧ W.cell? ⟨k, 1, none⟩ = some (.slice A4 n c4) ∧ W.cell? ⟨bw, ow, none⟩ = some (.int .i64 x.1) ∧ W.cell? ⟨bw, ow + 1, none⟩ = some (.int .i64 x.2.1) ∧ W.cell? ⟨bw, ow + 2, none⟩ = some (.int .i64 x.2.2) from by
        obtain ⟨b', o', e', h0, h1, h2⟩ := t3_first (T10.below b)
        injection e' with e'
        injection e' with e1' e2'
        subst e1' e2'
        exact ⟨(Y5.out.below (up2 B10.out b)).c0, (Y5.out.below (up2 B10.out b)).c1, h0, h1, h2⟩))
      have hd := HH.out w10.drew (Reading.below ⟨1, rfl⟩)
      have bd : Below w10.heap.size w10 w10.drew := Reading.below ⟨1, rfl⟩
      clear T10 T9' hx
      go_wp2_with fail
      go_region_held3 (fun w' => w'.cell? ⟨k, 0, none⟩ = some (.int .i64 N) ∧ w'.cell? ⟨k, 1, none⟩ = some (.slice A4 n c4) ∧ w'.cell? ⟨bw, ow, none⟩ = some (.int .i64 x.1) ∧ w'.cell? ⟨bw, ow + 1, none⟩ = some (.int .i64 x.2.1) ∧ w'.cell? ⟨bw, ow + 2, none⟩ = some (.int .i64 x.2.2))
        (first | exact hd | exact HH.out _ (by assumption) | fail)
        (first
          | (go_at_call 18; (with_reducible refine (KC'.out _ (by assumption)).mono ?_); rintro e w11 ⟨rfl, b11⟩; have d11 := up2 bd b11; rw [hh0]; simp only [wv]; clear b11)
          | fail)
      all_goals
        have C := Lib.hid (up2 B5.out (up2 B10.out d11))
        go_wp2_with fail
        go_ret
        exact ⟨rfl, C.out⟩
set_option maxRecDepth 100000 in
theorem lifted (os : Os) (started : os.Started) (H : Type) (enc : TypeId × Value → H) :
    ReturnsInHanded {} Try.checked os 3 .any (Rows.certifyTellsSpec.pre6 enc Try.prog Try.f3 Rows.certifyTellsRow.domain false) (Rows.certifyTellsSpec.post enc Try.prog Try.f3 false true false false) := by
  refine returnsInHanded_of_change (C := Try.checked) own_knob started (by kernel_rfl) Try.func3
    (ChangeSpec.witness6 (enc := enc) (C := Try.checked) false ⟨#[], #[.agg #[.int .i64 0, .slice none 0 0]], []⟩ 8 (by kernel_rfl) (by kernel_rfl) (by kernel_rfl) (by kernel_rfl)) ?_
  intro W base args ds gs before hval0 hW hcnd _
  have hval : ∀ (j : Nat) t v, Try.f3.params[j]? = some t → args[j]? = some v → Value.okWide Try.prog W .any base t v := hval0
  have hW' := hW
  obtain ⟨p, q, hA0, hV, rfl, hfz, hnd⟩ := hW
  have hA : DataW.TrodAll enc Try.prog W 0 (fun _ => true) true Try.f3.params.toList args.toList ds p := hA0
  rw [Try.params3] at hA hval
  obtain ⟨v0, vs0, d0, ds0, p0, q0, hargs, rfl, rfl, h0, r0⟩ := trodAll_cons hA
  obtain ⟨rfl, rfl, rfl⟩ := trodAll_nil r0
  obtain rfl : args = #[v0] := by cases args; simp_all
  obtain ⟨rfl, rfl⟩ := trodVars_none hV
  have lt0 : ∀ x ∈ p0, x.block < W.heap.size := by obtain ⟨m, hm⟩ := h0; exact DataW.trod_lt m _ _ _ hm
  obtain ⟨N0, a0, len0, cap0, xs0, rfl, hN0, hr0⟩ := arg_soup (hval 0 24 v0 rfl rfl) h0
  clear hA0 hval0
  refine (walk N0 a0 len0 cap0 xs0 W hN0.1 hN0.2 hr0).mono fun e W' ⟨he, bel⟩ => ?_
  subst he
  exact ⟨_, rfl, _, _, _, [], _, [], hW', trodAll_mk1 (shut_bool Try.underlying4 _), (trodAll_cons_mk (Below.trod laid_out (by kernel_rfl) (of_decide_eq_true (by kernel_rfl)) h0 bel lt0) trodAll_mk0), rfl, bel.frame _, fun h => by cases h⟩

theorem over : Rows.certifyTellsRow.holds Try.pinned (OpenSpec.ofChange Rows.certifyTellsSpec) :=
  OpenClaim.holds_of_wide 3 Try.f3 rfl rfl rfl rfl rfl rfl rfl ⟨rfl, rfl, rfl, rfl, rfl⟩ rfl rfl rfl rfl rfl (by kernel_rfl) Try.func3 (by kernel_rfl)
    (of_decide_eq_true (by kernel_rfl)) (by unfold Func.isWrapper; first | (rw [if_pos (by decide +kernel)]; kernel_rfl) | (rw [if_neg (by decide +kernel)]; exact ⟨rfl, rfl⟩))
    (fun os started H enc _ => lifted os started H enc)

theorem proved : Rows.CertifyTellsSaid := over
end Go.Proofs.Ytelbmjbjpgcdaaa.certifyTells
