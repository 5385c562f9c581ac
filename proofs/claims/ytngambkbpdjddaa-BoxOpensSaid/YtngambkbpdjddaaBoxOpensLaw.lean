/- BoxOpens: what any bytes (up to 600) are opened as, or why they are not, is what the document says. No condition. -/
import Derived.Test.YtngambkbpdjddaaBoxRefR
namespace Go.Proofs.Ytngambkbpdjddaa.boxOpens
open Go.ChangeShapes Go.WideShapes Go.ChangeAt Go.RowKit

theorem own_cell4 {w : World} {B k : Nat} {v : Value} {xs : List Value} (h : w.ownsRow B 72 4 v k xs) (hk : 0 < k) : ∃ g cap, v = .slice (some ⟨g, 0, none⟩) k cap ∧ ∀ t u, xs[t]? = some u → w.cell? ⟨g, t, none⟩ = some u := by
  rcases h.2 with ⟨_, h2⟩ | ⟨g, cap, cur, h1, _, hh, _, _, _, ht⟩
  · omega
  · refine ⟨g, cap, h1, fun t u hu => ?_⟩
    rw [cell_in hh]
    rw [← ht, List.getElem?_take] at hu
    split at hu
    · simpa using hu
    · cases hu
def SameAt (w : World) (k : Nat) (i : Value) (wr : World) : Prop := ∃ j : Nat, j ≤ k ∧ i = .int .i64 (j : Int) ∧ Reading w wr

set_option maxHeartbeats 6400000 in
set_option maxRecDepth 100000 in
theorem same7_one (w : World) (B B' q k : Nat) (P : Nat → PartV) (v : Value) (xs : List Value) (h : PartsIs w B q k k P) (ho : w.ownsRow B' 72 4 v k xs) (hl : RList w P k xs) (hk : k < 65536) :
    Calls Try.prog 18 #[.slice (some ⟨q, 0, none⟩) k k, v] w fun e w' => e = .returned (.int .i64 1) ∧ Reading w w' := by
  obtain ⟨Av, cv, rfl⟩ := own_form4 ho
  have H := Lib.hid (And.intro h (And.intro ho hl))
  have t0 : ((k : Int) != (k : Int)) = false := by simp
  clear h ho hl
  go_enter Try.func18, Try.ntmps18
  go_wp2_with fail
  go_loopw [5] (SameAt w k) (fun i _ => k - (intOf i).toNat)
  case atStart => exact ⟨0, Nat.zero_le _, rfl, Reading.refl _⟩
  case round =>
    obtain ⟨j, hj, rfl, hb⟩ := hrel
    by_cases hlt : j < k
    · have hbw := hb.below (B := w.heap.size)
      obtain ⟨g, cap, hv, hcell⟩ := own_cell4 H.out.2.1 (by omega)
      injection hv with hv1 _ hv3
      subst hv1 hv3
      obtain ⟨Ad, cd, p0, p1, p2, p3, _, hrd⟩ := H.out.1.cells j hlt
      obtain ⟨Ar, cr, x0, x1, x2, x3, hrr⟩ := H.out.2.2.2 j hlt
      have y0 := hcell _ _ x0
      have y1 := hcell _ _ x1
      have y2 := hcell _ _ x2
      have y3 := hcell _ _ x3
      replace p0 := (hbw.cell (World.block_lt_of_cell? _ _ p0)).trans p0
      replace p1 := (hbw.cell (World.block_lt_of_cell? _ _ p1)).trans p1
      replace p2 := (hbw.cell (World.block_lt_of_cell? _ _ p2)).trans p2
      replace p3 := (hbw.cell (World.block_lt_of_cell? _ _ p3)).trans p3
      replace y0 := (hbw.cell (World.block_lt_of_cell? _ _ y0)).trans y0
      replace y1 := (hbw.cell (World.block_lt_of_cell? _ _ y1)).trans y1
      replace y2 := (hbw.cell (World.block_lt_of_cell? _ _ y2)).trans y2
      replace y3 := (hbw.cell (World.block_lt_of_cell? _ _ y3)).trans y3
      obtain ⟨m, hm⟩ : ∃ m, (P j).data.length = m := ⟨_, rfl⟩
      rw [hm] at p1 y1 hrd hrr
      have q1 := fun t => run_bstr (wr.drewN t) Ad m cd (P j).data ((hrd.below hbw).below (Reading.below ⟨t, rfl⟩))
      have q2 := fun t => run_bstr (wr.drewN t) Ar m cr (P j).data ((hrr.below hbw).below (Reading.below ⟨t, rfl⟩))
      generalize bstr (P j).data = sb at *
      generalize (P j).kind = kd at *
      generalize (P j).at' = F at *
      generalize (P j).whole = wh at *
      have gw : (wh != wh) = false := by cases wh <;> rfl
      have HR := Lib.hid hb
      have b1 : (j : Int) < k := by omega
      clear hbw hcell hrd hrr x0 x1 x2 x3 hm hb
      go_wp2_with fail
      go_quiet (fail)
      go_wp2_with fail
      exact ⟨⟨j + 1, by omega, by go_num, HR.out.trans ⟨_, rfl⟩⟩, by simp [intOf]; omega⟩
    · obtain rfl : j = k := by omega
      have b1 : ¬ (j : Int) < j := by omega
      have HR := Lib.hid hb
      clear hb
      go_wp2
      go_ret
      exact ⟨rfl, HR.out⟩
set_option maxRecDepth 100000 in
theorem same7_nil (w : World) : Calls Try.prog 18 #[.slice none 0 0, .slice none 0 0] w fun e w' => e = .returned (.int .i64 1) ∧ Reading w w' := by
  go_enter Try.func18, Try.ntmps18
  go_wp2_with fail
  refine wp_loop_rounds 1 ?_
  rw [rounds_succ]
  go_wp2
  go_ret
  exact ⟨rfl, Reading.refl _⟩

set_option maxHeartbeats 6400000 in
set_option maxRecDepth 100000 in
theorem walk (A : Option Addr) (n c : Nat) (l : List Nat) (w : World) (hA : (A = none → c = 0) ∧ n ≤ c) (hd : Dig l) (h : Reads w A n (bts l)) :
    Calls Try.prog 4 #[.slice A n c] w fun e w' => e = .returned (.bool true) ∧ Below w.heap.size w w' := by
  have hc := hA.2
  have HD := Lib.hid hd
  have HR := Lib.hid h
  clear hA hd h
  go_enter Try.func4, Try.ntmps4
  go_wp2_with fail
  refine (awake7_true w).mono ?_
  rintro e w1 ⟨rfl, b1⟩
  have B1 := Lib.hid b1
  clear b1
  by_cases hg : 600 < n
  · have t0 : (600 : Int) < n := by omega
    go_wp2
    go_ret
    exact ⟨rfl, B1.out⟩
  have t0 : ¬ (600 : Int) < n := by omega
  have K1 := Lib.hid (bopen_any w1 A n c l (HR.out.below B1.out) HD.out hc (by omega))
  go_wp2_with fail
  refine K1.out.mono ?_
  rintro e w2 (⟨k, P, q, hO, rfl, hP, hq, b2⟩ | ⟨hno, rfl, b2⟩)
  · have B2 := Lib.hid (up2 B1.out b2)
    have K2 := Lib.hid (r7open_any w2 A n c l (HR.out.below B2.out) HD.out hc (by omega))
    have HP := Lib.hid (And.intro hO hP)
    clear hO hP hq b2
    go_wp2_with fail
    refine K2.out.mono ?_
    rintro e w3 (⟨k3, P3, v3, xs3, hO3, rfl, o3, r3, b3⟩ | ⟨hno, rfl, b3⟩)
    · obtain ⟨rfl, rfl⟩ := hO3.one HP.out.1
      have B3 := Lib.hid (up2 B2.out b3)
      obtain ⟨A3, c3, rfl⟩ := own_form4 o3
      have KS := Lib.hid (same7_one w3 _ _ q k3 P3 _ xs3 (HP.out.2.below b3) o3 r3 (hO3.le).2)
      clear hO3 o3 r3 b3
      go_wp2_with fail
      refine KS.out.mono ?_
      rintro e w4 ⟨rfl, b4⟩
      have B4 := Lib.hid (up2 B3.out b4.below)
      clear b4
      go_wp2
      go_ret
      exact ⟨rfl, B4.out⟩
    · exact (HP.out.1.no hno).elim
  · have B2 := Lib.hid (up2 B1.out b2)
    have K2 := Lib.hid (r7open_any w2 A n c l (HR.out.below B2.out) HD.out hc (by omega))
    have HNO := Lib.hid hno
    clear hno b2
    go_wp2_with fail
    refine K2.out.mono ?_
    rintro e w3 (⟨k3, P3, v3, xs3, hO3, rfl, o3, r3, b3⟩ | ⟨hno, rfl, b3⟩)
    · exact (hO3.no HNO.out).elim
    · have B3 := Lib.hid (up2 B2.out b3)
      have KS := Lib.hid (same7_nil w3)
      clear hno b3
      go_wp2_with fail
      refine KS.out.mono ?_
      rintro e w4 ⟨rfl, b4⟩
      have B4 := Lib.hid (up2 B3.out b4.below)
      clear b4
      go_wp2
      go_ret
      exact ⟨rfl, B4.out⟩

set_option maxRecDepth 100000 in
theorem lifted (os : Os) (started : os.Started) (H : Type) (enc : TypeId × Value → H) :
    ReturnsInHanded {} Try.checked os 4 .any (Rows.boxOpensSpec.pre6 enc Try.prog Try.f4 Rows.boxOpensRow.domain false) (Rows.boxOpensSpec.post enc Try.prog Try.f4 false true false false) := by
  refine returnsInHanded_of_change (C := Try.checked) own_knob started (by kernel_rfl) Try.func4
    (ChangeSpec.witness6 (enc := enc) (C := Try.checked) false ⟨#[], #[.slice none 0 0], []⟩ 8 (by kernel_rfl) (by kernel_rfl) (by kernel_rfl) (by kernel_rfl)) ?_
  intro W base args ds gs before hval0 hW hcnd _
  have hval : ∀ (j : Nat) t v, Try.f4.params[j]? = some t → args[j]? = some v → Value.okWide Try.prog W .any base t v := hval0
  have hW' := hW
  obtain ⟨p, q, hA0, hV, rfl, hfz, hnd⟩ := hW
  have hA : DataW.TrodAll enc Try.prog W 0 (fun _ => true) true Try.f4.params.toList args.toList ds p := hA0
  rw [Try.params4] at hA hval
  obtain ⟨v0, vs0, d0, ds0, p0, q0, hargs, rfl, rfl, h0, r0⟩ := trodAll_cons hA
  obtain ⟨rfl, rfl, rfl⟩ := trodAll_nil r0
  obtain rfl : args = #[v0] := by cases args; simp_all
  obtain ⟨rfl, rfl⟩ := trodVars_none hV
  obtain ⟨a0, len0, cap0, rfl⟩ := okWide_slice Try.underlying25 (hval 0 25 v0 rfl rfl)
  have lt0 : ∀ x ∈ p0, x.block < W.heap.size := by obtain ⟨m, hm⟩ := h0; exact DataW.trod_lt m _ _ _ hm
  obtain ⟨hc0, xs0, hx0, hr0⟩ := arg_bytes4 h0
  clear hA0 hval0
  refine (walk a0 len0 cap0 xs0 W hc0 hx0 hr0).mono fun e W' ⟨he, bel⟩ => ?_
  subst he
  exact ⟨_, rfl, _, _, _, [], _, [], hW', trodAll_mk1 (shut_bool Try.underlying4 _), (trodAll_cons_mk (Below.trod laid_out (by kernel_rfl) (of_decide_eq_true (by kernel_rfl)) h0 bel lt0) trodAll_mk0), rfl, bel.frame _, fun h => by cases h⟩

theorem over : Rows.boxOpensRow.holds Try.pinned (OpenSpec.ofChange Rows.boxOpensSpec) :=
  OpenClaim.holds_of_wide 4 Try.f4 rfl rfl rfl rfl rfl rfl rfl ⟨rfl, rfl, rfl, rfl, rfl⟩ rfl rfl rfl rfl rfl (by kernel_rfl) Try.func4 (by kernel_rfl)
    (of_decide_eq_true (by kernel_rfl)) (by unfold Func.isWrapper; first | (rw [if_pos (by decide +kernel)]; kernel_rfl) | (rw [if_neg (by decide +kernel)]; exact ⟨rfl, rfl⟩))
    (fun os started H enc _ => lifted os started H enc)

theorem proved : Rows.BoxOpensSaid := over
end Go.Proofs.Ytngambkbpdjddaa.boxOpens
