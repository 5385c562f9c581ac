/- TableBumps: of any counts (at most 40, in order) and any bumps (at most 60), the counts behind each bump are the document's; a symbol that is not there is refused and changes nothing. No condition. -/
import Derived.Test.YtjacjgchbpghiaaTabApart
namespace Go.Proofs.Ytjacjgchbpghiaa.tableBumps
open Go.ChangeShapes Go.WideShapes Go.ChangeAt Go.RowKit

set_option maxHeartbeats 2000000 in
set_option maxRecDepth 100000 in
theorem many (w : World) (A C : Option Addr) (n c m d : Nat) (h : 40 < n ∨ 60 < m) :
    Calls Try.prog 4 #[.slice A n c, .slice C m d] w fun e w' => e = .returned (.bool true) ∧ Below w.heap.size w w' := by
  by_cases h1 : 40 < n
  · have t0 : (40 : Int) < n := by omega
    clear h
    go_enter Try.func4, Try.ntmps4
    go_wp2_with fail
    refine (awake_true w).mono ?_
    rintro e w1 ⟨rfl, b1⟩
    have B1 := Lib.hid b1
    clear b1
    go_wp2
    go_ret
    exact ⟨rfl, B1.out⟩
  · have t0 : ¬ (40 : Int) < n := by omega
    have t1 : (60 : Int) < m := by omega
    clear h
    go_enter Try.func4, Try.ntmps4
    go_wp2_with fail
    refine (awake_true w).mono ?_
    rintro e w1 ⟨rfl, b1⟩
    have B1 := Lib.hid b1
    clear b1
    go_wp2
    go_ret
    exact ⟨rfl, B1.out⟩

set_option maxHeartbeats 2000000 in
set_option maxRecDepth 100000 in
theorem bad (w : World) (A C : Option Addr) (n c m d : Nat) (l : List Int) (f : Int) (hn : n ≤ 40) (hm : m ≤ 60) (h : Reads w A n (ints l)) (hf : Chk l f) (h0 : f ≠ 0) :
    Calls Try.prog 4 #[.slice A n c, .slice C m d] w fun e w' => e = .returned (.bool true) ∧ Below w.heap.size w w' := by
  have t0 : ¬ (40 : Int) < n := by omega
  have t1 : ¬ (60 : Int) < m := by omega
  have t2 : (f != 0) = true := by simpa using h0
  have HR := Lib.hid h
  have HF := Lib.hid hf
  clear h hf h0
  go_enter Try.func4, Try.ntmps4
  go_wp2_with fail
  refine (awake_true w).mono ?_
  rintro e w1 ⟨rfl, b1⟩
  have B1 := Lib.hid b1
  have R1 := Lib.hid (HR.out.below b1)
  clear b1
  go_wp2_with fail
  refine (rcheck_any w1 A n c l f R1.out HF.out).mono ?_
  rintro e w3 ⟨rfl, b3⟩
  have B3 := Lib.hid (B1.out.trans b3.below)
  clear b3
  go_wp2
  go_ret
  exact ⟨rfl, B3.out⟩

def BumpsAt (w : World) (g q cap n m : Nat) (v i : Value) (wr : World) : Prop :=
  ∃ (k : Nat) (A : Option Addr) (c : Nat) (l : List Int), k ≤ m ∧ i = .int .i64 (k : Int) ∧ v = .slice A n c ∧ Hid (Ok l ∧ l.length = n ∧ TIs wr g q cap l ∧ Reads wr A n (ints l) ∧ (∀ ad, A = some ad → ad.block ≠ q) ∧ Below w.heap.size w wr)

set_option maxHeartbeats 4000000 in
set_option maxRecDepth 100000 in
theorem good (w : World) (A C : Option Addr) (n c m d : Nat) (l bl : List Int) (hn : n ≤ 40) (hm : m ≤ 60) (h : Reads w A n (ints l)) (hb : Reads w C m (ints bl)) (ok : Ok l) :
    Calls Try.prog 4 #[.slice A n c, .slice C m d] w fun e w' => e = .returned (.bool true) ∧ Below w.heap.size w w' := by
  have t0 : ¬ (40 : Int) < n := by omega
  have t1 : ¬ (60 : Int) < m := by omega
  have HR := Lib.hid h
  have HC := Lib.hid hb
  have HOK := Lib.hid ok
  have HF := Lib.hid (show Chk l 0 from .inr (.inr (.inr ⟨rfl, ok⟩)))
  have HL := Lib.hid h.len
  have hn0 : 0 < n := by have := ok.pos; rwa [h.len] at this
  clear h ok hb
  go_enter Try.func4, Try.ntmps4
  go_wp2_with fail
  refine (awake_true w).mono ?_
  rintro e w1 ⟨rfl, b1⟩
  have B1 := Lib.hid b1
  have R1 := Lib.hid (HR.out.below b1)
  clear b1
  go_wp2_with fail
  refine (rcheck_any w1 A n c l 0 R1.out HF.out).mono ?_
  rintro e w3 ⟨rfl, b3⟩
  have B3 := Lib.hid (B1.out.trans b3.below)
  have R3 := Lib.hid (R1.out.read b3)
  clear b3
  go_wp2_with fail
  refine (new_good w3 A n c l R3.out HOK.out).mono ?_
  rintro e w5 ⟨g, q, cap, rfl, tt, _, hq, b5⟩
  have T5 := Lib.hid tt
  have B5 := Lib.hid (B3.out.trans (b5.mono B3.out.size))
  have R5 := Lib.hid (R3.out.below b5)
  have HQ := Lib.hid (Nat.le_trans B3.out.size hq)
  have HAP := Lib.hid (fun (ad : Addr) (e : A = some ad) => show ad.block ≠ q by have := R3.out.lt hn0 ad e; omega)
  clear b5 tt hq
  go_wp2_with fail
  go_loopw [7, 8] (BumpsAt w g q cap n m) (fun _ i _ => m - (intOf i).toNat)
  case atStart => exact ⟨0, A, c, l, Nat.zero_le _, rfl, rfl, Lib.hid ⟨HOK.out, HL.out, T5.out, R5.out, HAP.out, B5.out⟩⟩
  case round =>
    obtain ⟨k, A2, c2, l2, hk, rfl, rfl, H⟩ := hrel
    by_cases hlt : k < m
    · have hkm : (k : Int) < m := by omega
      obtain ⟨cd, rfl, ckw⟩ := HC.out.int k hlt
      have ck := (H.out.2.2.2.2.2.cell (World.block_lt_of_cell? _ _ ckw)).trans ckw
      have CKW := Lib.hid ckw
      clear ckw
      generalize bl.getD k 0 = x at *
      have kb := bump_any wr g q cap l2 x H.out.2.2.1 H.out.1
      rw [H.out.2.1] at kb
      by_cases hx : 0 ≤ x ∧ x < n
      · obtain ⟨s, rfl⟩ : ∃ s : Nat, x = (s : Int) := ⟨x.toNat, by omega⟩
        rw [if_pos hx, after_in l2 s (by rw [H.out.2.1]; omega)] at kb
        have KB := Lib.hid kb
        clear kb
        have hs : s < n := by omega
        have d1 : ¬ (s : Int) < 0 := by omega
        have d2 : ¬ (n : Int) ≤ s := by omega
        clear hx
        go_wp2_with fail
        refine KB.out.mono ?_
        rintro e w6 ⟨rfl, t6, g6⟩
        have T6 := Lib.hid t6
        have B6 := Lib.hid (H.out.2.2.2.2.2.trans (grown_below g6 HQ.out H.out.2.2.2.2.2.size))
        have R6 := Lib.hid (H.out.2.2.2.1.grown g6 H.out.2.2.2.2.1)
        have c6 := (B6.out.cell (World.block_lt_of_cell? _ _ CKW.out)).trans CKW.out
        clear t6 g6 ck
        go_wp2_with fail
        refine (rbump_any w6 A2 n c2 l2 s R6.out H.out.1 hs).mono ?_
        rintro e w7 ⟨q7, cap7, rfl, hq7, _, r7, b7⟩
        have hne7 : q7 ≠ q := by have := T6.out.lt'; omega
        have T7 := Lib.hid (T6.out.below b7)
        have R7 := Lib.hid r7
        have B7 := Lib.hid (B6.out.trans (b7.mono B6.out.size))
        have HOB := Lib.hid (H.out.1.bumped s (by rw [H.out.2.1]; omega))
        have HLB := Lib.hid (show (bumped l2 s).length = n by rw [length_bumped]; exact H.out.2.1)
        clear r7 b7 hq7 c6
        go_wp2_with fail
        refine (same_true w7 g q cap (some ⟨q7, 0, none⟩) n cap7 (bumped l2 s) T7.out HOB.out R7.out).mono ?_
        rintro e w8 ⟨rfl, b8⟩
        have T8 := Lib.hid (T7.out.read b8)
        have R8 := Lib.hid (R7.out.read b8)
        have B8 := Lib.hid (B7.out.trans b8.below)
        clear b8
        go_wp2_with fail
        exact ⟨⟨k + 1, some ⟨q7, 0, none⟩, cap7, bumped l2 s, by omega, by go_num, rfl, Lib.hid ⟨HOB.out, HLB.out, T8.out, R8.out, fun ad e => by injection e with e; rw [← e]; exact hne7, B8.out⟩⟩, by simp [intOf]; omega⟩
      · rw [if_neg hx, after_out l2 x (by rw [H.out.2.1]; exact hx)] at kb
        have KB := Lib.hid kb
        clear kb
        by_cases hx0 : x < 0
        · clear hx
          go_wp2_with fail
          refine KB.out.mono ?_
          rintro e w6 ⟨rfl, t6, g6⟩
          have T6 := Lib.hid t6
          have B6 := Lib.hid (H.out.2.2.2.2.2.trans (grown_below g6 HQ.out H.out.2.2.2.2.2.size))
          have R6 := Lib.hid (H.out.2.2.2.1.grown g6 H.out.2.2.2.2.1)
          have c6 := (B6.out.cell (World.block_lt_of_cell? _ _ CKW.out)).trans CKW.out
          clear t6 g6 ck
          go_wp2_with fail
          refine (same_true w6 g q cap A2 n c2 l2 T6.out H.out.1 R6.out).mono ?_
          rintro e w8 ⟨rfl, b8⟩
          have T8 := Lib.hid (T6.out.read b8)
          have R8 := Lib.hid (R6.out.read b8)
          have B8 := Lib.hid (B6.out.trans b8.below)
          clear b8
          go_wp2_with fail
          exact ⟨⟨k + 1, A2, c2, l2, by omega, by go_num, rfl, Lib.hid ⟨H.out.1, H.out.2.1, T8.out, R8.out, H.out.2.2.2.2.1, B8.out⟩⟩, by simp [intOf]; omega⟩
        · have hx1 : (n : Int) ≤ x := by omega
          clear hx
          go_wp2_with fail
          refine KB.out.mono ?_
          rintro e w6 ⟨rfl, t6, g6⟩
          have T6 := Lib.hid t6
          have B6 := Lib.hid (H.out.2.2.2.2.2.trans (grown_below g6 HQ.out H.out.2.2.2.2.2.size))
          have R6 := Lib.hid (H.out.2.2.2.1.grown g6 H.out.2.2.2.2.1)
          have c6 := (B6.out.cell (World.block_lt_of_cell? _ _ CKW.out)).trans CKW.out
          clear t6 g6 ck
          go_wp2_with fail
          refine (same_true w6 g q cap A2 n c2 l2 T6.out H.out.1 R6.out).mono ?_
          rintro e w8 ⟨rfl, b8⟩
          have T8 := Lib.hid (T6.out.read b8)
          have R8 := Lib.hid (R6.out.read b8)
          have B8 := Lib.hid (B6.out.trans b8.below)
          clear b8
          go_wp2_with fail
          exact ⟨⟨k + 1, A2, c2, l2, by omega, by go_num, rfl, Lib.hid ⟨H.out.1, H.out.2.1, T8.out, R8.out, H.out.2.2.2.2.1, B8.out⟩⟩, by simp [intOf]; omega⟩
    · obtain rfl : k = m := by omega
      have hnl : ¬ (k : Int) < k := by omega
      go_wp2
      go_ret
      exact ⟨rfl, H.out.2.2.2.2.2⟩

theorem walk (A : Option Addr) (n c : Nat) (l : List Int) (C : Option Addr) (m d : Nat) (bl : List Int) (w : World) (_ : (A = none → c = 0) ∧ n ≤ c) (_ : ∀ x ∈ l, -9223372036854775808 ≤ x ∧ x ≤ 9223372036854775807) (h : Reads w A n (ints l))
    (_ : (C = none → d = 0) ∧ m ≤ d) (_ : ∀ x ∈ bl, -9223372036854775808 ≤ x ∧ x ≤ 9223372036854775807) (hb : Reads w C m (ints bl)) :
    Calls Try.prog 4 #[.slice A n c, .slice C m d] w fun e w' => e = .returned (.bool true) ∧ Below w.heap.size w w' := by
  by_cases hN : 40 < n ∨ 60 < m
  · exact many w A C n c m d hN
  obtain ⟨f, hf⟩ := chk_exists l
  by_cases hf0 : f = 0
  · subst hf0
    exact good w A C n c m d l bl (by omega) (by omega) h hb hf.good
  · exact bad w A C n c m d l f (by omega) (by omega) h hf hf0

set_option maxRecDepth 100000 in
theorem lifted (os : Os) (started : os.Started) (H : Type) (enc : TypeId × Value → H) :
    ReturnsInHanded {} Try.checked os 4 .any (Rows.tableBumpsSpec.pre6 enc Try.prog Try.f4 Rows.tableBumpsRow.domain false) (Rows.tableBumpsSpec.post enc Try.prog Try.f4 false true false false) := by
  refine returnsInHanded_of_change (C := Try.checked) own_knob started (by kernel_rfl) Try.func4
    (ChangeSpec.witness6 (enc := enc) (C := Try.checked) false ⟨#[], #[.slice none 0 0, .slice none 0 0], []⟩ 8 (by kernel_rfl) (by kernel_rfl) (by kernel_rfl) (by kernel_rfl)) ?_
  intro W base args ds gs before hval0 hW hcnd _
  have hval : ∀ (j : Nat) t v, Try.f4.params[j]? = some t → args[j]? = some v → Value.okWide Try.prog W .any base t v := hval0
  have hW' := hW
  obtain ⟨p, q, hA0, hV, rfl, hfz, hnd⟩ := hW
  have hA : DataW.TrodAll enc Try.prog W 0 (fun _ => true) true Try.f4.params.toList args.toList ds p := hA0
  rw [Try.params4] at hA hval
  obtain ⟨v0, vs0, d0, ds0, p0, q0, hargs, rfl, rfl, h0, r0⟩ := trodAll_cons hA
  obtain ⟨v1, vs1, d1, ds1, p1, q1, rfl, rfl, rfl, h1, r1⟩ := trodAll_cons r0
  obtain ⟨rfl, rfl, rfl⟩ := trodAll_nil r1
  obtain rfl : args = #[v0, v1] := by cases args; simp_all
  obtain ⟨rfl, rfl⟩ := trodVars_none hV
  obtain ⟨a0, len0, cap0, rfl⟩ := okWide_slice Try.underlying22 (hval 0 22 v0 rfl rfl)
  have lt0 : ∀ x ∈ p0, x.block < W.heap.size := by obtain ⟨m, hm⟩ := h0; exact DataW.trod_lt m _ _ _ hm
  obtain ⟨hc0, xs0, hx0, hr0⟩ := arg_ints h0
  obtain ⟨a1, len1, cap1, rfl⟩ := okWide_slice Try.underlying22 (hval 1 22 v1 rfl rfl)
  have lt1 : ∀ x ∈ p1, x.block < W.heap.size := by obtain ⟨m, hm⟩ := h1; exact DataW.trod_lt m _ _ _ hm
  obtain ⟨hc1, xs1, hx1, hr1⟩ := arg_ints h1
  clear hA0 hval0
  refine (walk a0 len0 cap0 xs0 a1 len1 cap1 xs1 W hc0 hx0 hr0 hc1 hx1 hr1).mono fun e W' ⟨he, bel⟩ => ?_
  subst he
  exact ⟨_, rfl, _, _, _, [], _, [], hW', trodAll_mk1 (shut_bool Try.underlying4 _), (trodAll_cons_mk (Below.trod laid_out (by kernel_rfl) (of_decide_eq_true (by kernel_rfl)) h0 bel lt0) (trodAll_cons_mk (Below.trod laid_out (by kernel_rfl) (of_decide_eq_true (by kernel_rfl)) h1 bel lt1) trodAll_mk0)), rfl, bel.frame _, fun h => by cases h⟩

theorem over : Rows.tableBumpsRow.holds Try.pinned (OpenSpec.ofChange Rows.tableBumpsSpec) :=
  OpenClaim.holds_of_wide 4 Try.f4 rfl rfl rfl rfl rfl rfl rfl ⟨rfl, rfl, rfl, rfl, rfl⟩ rfl rfl rfl rfl rfl (by kernel_rfl) Try.func4 (by kernel_rfl)
    (of_decide_eq_true (by kernel_rfl)) (by unfold Func.isWrapper; first | (rw [if_pos (by decide +kernel)]; kernel_rfl) | (rw [if_neg (by decide +kernel)]; exact ⟨rfl, rfl⟩))
    (fun os started H enc _ => lifted os started H enc)

theorem proved : Rows.TableBumpsSaid := over
end Go.Proofs.Ytjacjgchbpghiaa.tableBumps
