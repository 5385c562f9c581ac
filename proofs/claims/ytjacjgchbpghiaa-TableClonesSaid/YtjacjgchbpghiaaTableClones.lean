/- TableClones: of any counts (at most 40, in order) and any bumps ahead of a clone and of the clone (at most 40 each), the clone is the same, and goes its own way. No condition. -/
import Derived.Test.YtjacjgchbpghiaaTabApart
namespace Go.Proofs.Ytjacjgchbpghiaa.tableClones
open Go.ChangeShapes Go.WideShapes Go.ChangeAt Go.RowKit

set_option maxHeartbeats 2000000 in
set_option maxRecDepth 100000 in
theorem many (w : World) (A C E : Option Addr) (n c m d p r : Nat) (h : 40 < n ∨ 40 < m ∨ 40 < p) :
    Calls Try.prog 7 #[.slice A n c, .slice C m d, .slice E p r] w fun e w' => e = .returned (.bool true) ∧ Below w.heap.size w w' := by
  by_cases h1 : 40 < n
  · have t0 : (40 : Int) < n := by omega
    clear h
    go_enter Try.func7, Try.ntmps7
    go_wp2_with fail
    refine (awake_true w).mono ?_
    rintro e w1 ⟨rfl, b1⟩
    have B1 := Lib.hid b1
    clear b1
    go_wp2
    go_ret
    exact ⟨rfl, B1.out⟩
  by_cases h2 : 40 < m
  · have t0 : ¬ (40 : Int) < n := by omega
    have t1 : (40 : Int) < m := by omega
    clear h
    go_enter Try.func7, Try.ntmps7
    go_wp2_with fail
    refine (awake_true w).mono ?_
    rintro e w1 ⟨rfl, b1⟩
    have B1 := Lib.hid b1
    clear b1
    go_wp2
    go_ret
    exact ⟨rfl, B1.out⟩
  · have t0 : ¬ (40 : Int) < n := by omega
    have t1 : ¬ (40 : Int) < m := by omega
    have t2 : (40 : Int) < p := by omega
    clear h
    go_enter Try.func7, Try.ntmps7
    go_wp2_with fail
    refine (awake_true w).mono ?_
    rintro e w1 ⟨rfl, b1⟩
    have B1 := Lib.hid b1
    clear b1
    go_wp2
    go_ret
    exact ⟨rfl, B1.out⟩

set_option maxHeartbeats 2000000 in
set_option maxRecDepth 100000 in
theorem bad (w : World) (A C E : Option Addr) (n c m d p r : Nat) (l : List Int) (f : Int) (hn : n ≤ 40) (hm : m ≤ 40) (hp : p ≤ 40) (h : Reads w A n (ints l)) (hf : Chk l f) (h0 : f ≠ 0) :
    Calls Try.prog 7 #[.slice A n c, .slice C m d, .slice E p r] w fun e w' => e = .returned (.bool true) ∧ Below w.heap.size w w' := by
  have t0 : ¬ (40 : Int) < n := by omega
  have t1 : ¬ (40 : Int) < m := by omega
  have t3 : ¬ (40 : Int) < p := by omega
  have t2 : (f != 0) = true := by simpa using h0
  have HR := Lib.hid h
  have HF := Lib.hid hf
  clear h hf h0
  go_enter Try.func7, Try.ntmps7
  go_wp2_with fail
  refine (awake_true w).mono ?_
  rintro e w1 ⟨rfl, b1⟩
  have B1 := Lib.hid b1
  have R1 := Lib.hid (HR.out.below b1)
  clear b1
  go_wp2_with fail
  refine (rcheck_any w1 A n c l f R1.out HF.out).mono ?_
  rintro e w3 ⟨rfl, b3⟩
  have B3 := Lib.hid (B1.out.trans b3.below)
  clear b3
  go_wp2
  go_ret
  exact ⟨rfl, B3.out⟩

/-- A table, and a slice of its counts beside it. -/
structure Side (wr : World) (g q cap n : Nat) (A : Option Addr) (l : List Int) : Prop where
  ok : Ok l
  len : l.length = n
  tab : TIs wr g q cap l
  row : Reads wr A n (ints l)
  far : ∀ ad, A = some ad → ad.block ≠ q
theorem Side.read {w w' : World} {g q cap n : Nat} {A : Option Addr} {l : List Int} (h : Side w g q cap n A l) (b : Reading w w') : Side w' g q cap n A l := ⟨h.ok, h.len, h.tab.read b, h.row.read b, h.far⟩
theorem Side.below {w w' : World} {g q cap n : Nat} {A : Option Addr} {l : List Int} (h : Side w g q cap n A l) (b : Below w.heap.size w w') : Side w' g q cap n A l := ⟨h.ok, h.len, h.tab.below b, h.row.below b, h.far⟩
theorem Side.grown {w w' : World} {g q cap n p : Nat} {A : Option Addr} {l : List Int} (h : Side w g q cap n A l) (b : w.grownBy w' (some p)) (h1 : g ≠ p) (h2 : q ≠ p) (h3 : ∀ ad, A = some ad → ad.block ≠ p) : Side w' g q cap n A l := ⟨h.ok, h.len, h.tab.grown b h1 h2, h.row.grown b h3, h.far⟩

def BumpsAt (w : World) (g q cap n m : Nat) (v i : Value) (wr : World) : Prop :=
  ∃ (k : Nat) (A : Option Addr) (c : Nat) (l : List Int), k ≤ m ∧ i = .int .i64 (k : Int) ∧ v = .slice A n c ∧ Hid (Side wr g q cap n A l ∧ Below w.heap.size w wr)
def MoreAt (w : World) (g q cap n m : Nat) (g1 q1 cap1 : Nat) (A1 : Option Addr) (l1 : List Int) (v i : Value) (wr : World) : Prop :=
  ∃ (k : Nat) (A : Option Addr) (c : Nat) (l : List Int), k ≤ m ∧ i = .int .i64 (k : Int) ∧ v = .slice A n c ∧ Hid (Side wr g q cap n A l ∧ Side wr g1 q1 cap1 n A1 l1 ∧ Below w.heap.size w wr)

set_option maxHeartbeats 8000000 in
set_option maxRecDepth 100000 in
theorem good (w : World) (A C E : Option Addr) (n c m d p r : Nat) (l bl ml : List Int) (hn : n ≤ 40) (hm : m ≤ 40) (hp : p ≤ 40) (h : Reads w A n (ints l)) (hb : Reads w C m (ints bl)) (he : Reads w E p (ints ml)) (ok : Ok l) :
    Calls Try.prog 7 #[.slice A n c, .slice C m d, .slice E p r] w fun e w' => e = .returned (.bool true) ∧ Below w.heap.size w w' := by
  have t0 : ¬ (40 : Int) < n := by omega
  have t1 : ¬ (40 : Int) < m := by omega
  have t2 : ¬ (40 : Int) < p := by omega
  have HR := Lib.hid h
  have HC := Lib.hid hb
  have HEE := Lib.hid he
  have HOK := Lib.hid ok
  have HF := Lib.hid (show Chk l 0 from .inr (.inr (.inr ⟨rfl, ok⟩)))
  have HL := Lib.hid h.len
  have hn0 : 0 < n := by have := ok.pos; rwa [h.len] at this
  clear h ok hb he
  go_enter Try.func7, Try.ntmps7
  go_wp2_with fail
  refine (awake_true w).mono ?_
  rintro e w1 ⟨rfl, b1⟩
  have B1 := Lib.hid b1
  have R1 := Lib.hid (HR.out.below b1)
  clear b1
  go_wp2_with fail
  refine (rcheck_any w1 A n c l 0 R1.out HF.out).mono ?_
  rintro e w3 ⟨rfl, b3⟩
  have B3 := Lib.hid (B1.out.trans b3.below)
  have R3 := Lib.hid (R1.out.read b3)
  clear b3
  go_wp2_with fail
  refine (new_good w3 A n c l R3.out HOK.out).mono ?_
  rintro e w5 ⟨g, q, cap, rfl, tt, _, hq, b5⟩
  have B5 := Lib.hid (B3.out.trans (b5.mono B3.out.size))
  have HQ := Lib.hid (Nat.le_trans B3.out.size hq)
  have S5 := Lib.hid (show Side w5 g q cap n A l from ⟨HOK.out, HL.out, tt, R3.out.below b5, fun ad e => by have := R3.out.lt hn0 ad e; omega⟩)
  clear b5 tt hq
  go_wp2_with fail
  go_loopw [9, 10] (BumpsAt w g q cap n m) (fun _ i _ => m - (intOf i).toNat)
  case atStart => exact ⟨0, A, c, l, Nat.zero_le _, rfl, rfl, Lib.hid ⟨S5.out, B5.out⟩⟩
  case round =>
    obtain ⟨k, A2, c2, l2, hk, rfl, rfl, H⟩ := hrel
    have SD := Lib.hid H.out.1
    have BB := Lib.hid H.out.2
    clear H
    by_cases hlt : k < m
    · have hkm : (k : Int) < m := by omega
      obtain ⟨cd, rfl, ckw⟩ := HC.out.int k hlt
      have ck := (BB.out.cell (World.block_lt_of_cell? _ _ ckw)).trans ckw
      have CKW := Lib.hid ckw
      clear ckw
      generalize bl.getD k 0 = x at *
      have kb := bump_any wr g q cap l2 x SD.out.tab SD.out.ok
      rw [SD.out.len] at kb
      by_cases hx : 0 ≤ x ∧ x < n
      · obtain ⟨s, rfl⟩ : ∃ s : Nat, x = (s : Int) := ⟨x.toNat, by omega⟩
        rw [if_pos hx, after_in l2 s (by rw [SD.out.len]; omega)] at kb
        have KB := Lib.hid kb
        clear kb
        have hs : s < n := by omega
        clear hx
        go_wp2_with fail
        refine KB.out.mono ?_
        rintro e w6 ⟨rfl, t6, g6⟩
        have T6 := Lib.hid t6
        have B6 := Lib.hid (BB.out.trans (grown_below g6 HQ.out BB.out.size))
        have R6 := Lib.hid (SD.out.row.grown g6 SD.out.far)
        have c6 := (B6.out.cell (World.block_lt_of_cell? _ _ CKW.out)).trans CKW.out
        clear t6 g6 ck
        go_wp2_with fail
        refine (rbump_any w6 A2 n c2 l2 s R6.out SD.out.ok hs).mono ?_
        rintro e w7 ⟨q7, cap7, rfl, hq7, _, r7, b7⟩
        have B7 := Lib.hid (B6.out.trans (b7.mono B6.out.size))
        have S7 := Lib.hid (show Side w7 g q cap n (some ⟨q7, 0, none⟩) (bumped l2 s) from ⟨SD.out.ok.bumped s (by rw [SD.out.len]; omega), by rw [length_bumped]; exact SD.out.len, T6.out.below b7, r7, fun ad e => by injection e with e; rw [← e]; have := T6.out.lt'; show q7 ≠ q; omega⟩)
        clear r7 b7 hq7 c6
        go_wp2_with fail
        exact ⟨⟨k + 1, some ⟨q7, 0, none⟩, cap7, bumped l2 s, by omega, by go_num, rfl, Lib.hid ⟨S7.out, B7.out⟩⟩, by simp [intOf]; omega⟩
      · rw [if_neg hx, after_out l2 x (by rw [SD.out.len]; exact hx)] at kb
        have KB := Lib.hid kb
        clear kb hx
        go_wp2_with fail
        refine KB.out.mono ?_
        rintro e w6 ⟨rfl, t6, g6⟩
        have B6 := Lib.hid (BB.out.trans (grown_below g6 HQ.out BB.out.size))
        have S6 := Lib.hid (show Side w6 g q cap n A2 l2 from ⟨SD.out.ok, SD.out.len, t6, SD.out.row.grown g6 SD.out.far, SD.out.far⟩)
        clear t6 g6 ck
        go_wp2_with fail
        exact ⟨⟨k + 1, A2, c2, l2, by omega, by go_num, rfl, Lib.hid ⟨S6.out, B6.out⟩⟩, by simp [intOf]; omega⟩
    · obtain rfl : k = m := by omega
      have hnl : ¬ (k : Int) < k := by omega
      go_wp2_with fail
      refine (clone_any wr g q cap l2 SD.out.tab SD.out.ok.pos SD.out.ok.few).mono ?_
      rintro e w6 ⟨g1, q1, cap1, rfl, t6, hg1, hq1, b6⟩
      have B6 := Lib.hid (BB.out.trans (b6.mono BB.out.size))
      have S6 := Lib.hid (SD.out.below b6)
      have far1 : ∀ ad, A2 = some ad → ad.block ≠ q1 := fun ad e => by have := SD.out.row.lt hn0 ad e; omega
      have F1 := Lib.hid far1
      have C6 := Lib.hid (show Side w6 g1 q1 cap1 n A2 l2 from ⟨SD.out.ok, SD.out.len, t6, SD.out.row.below b6, far1⟩)
      have HQ1 := Lib.hid (Nat.le_trans BB.out.size hq1)
      have N1 := Lib.hid (show g ≠ q1 by have := SD.out.tab.lt; omega)
      have N2 := Lib.hid (show q ≠ q1 by have := SD.out.tab.lt'; omega)
      clear t6 b6 far1 hg1 hq1
      go_wp2_with fail
      refine (same_true w6 g1 q1 cap1 A2 n c2 l2 C6.out.tab C6.out.ok C6.out.row).mono ?_
      rintro e w7 ⟨rfl, b7⟩
      have B7 := Lib.hid (B6.out.trans b7.below)
      have S7 := Lib.hid (S6.out.read b7)
      have C7 := Lib.hid (C6.out.read b7)
      clear b7
      go_wp2_with fail
      go_loopw [12, 13] (MoreAt w g1 q1 cap1 n p g q cap A2 l2) (fun _ i _ => p - (intOf i).toNat)
      case atStart => exact ⟨0, A2, c2, l2, Nat.zero_le _, rfl, rfl, Lib.hid ⟨C7.out, S7.out, B7.out⟩⟩
      case round =>
        obtain ⟨j, A3, c3, l3, hj, rfl, rfl, H⟩ := hrel
        have SC := Lib.hid H.out.1
        have ST := Lib.hid H.out.2.1
        have BB2 := Lib.hid H.out.2.2
        clear H
        by_cases hjp : j < p
        · have hjz : (j : Int) < p := by omega
          obtain ⟨cd, rfl, ckw⟩ := HEE.out.int j hjp
          have ck := (BB2.out.cell (World.block_lt_of_cell? _ _ ckw)).trans ckw
          have CKW := Lib.hid ckw
          clear ckw
          generalize ml.getD j 0 = x at *
          have kb := bump_any wr g1 q1 cap1 l3 x SC.out.tab SC.out.ok
          rw [SC.out.len] at kb
          by_cases hx : 0 ≤ x ∧ x < n
          · obtain ⟨s, rfl⟩ : ∃ s : Nat, x = (s : Int) := ⟨x.toNat, by omega⟩
            rw [if_pos hx, after_in l3 s (by rw [SC.out.len]; omega)] at kb
            have KB := Lib.hid kb
            clear kb
            have hs : s < n := by omega
            clear hx
            go_wp2_with fail
            refine KB.out.mono ?_
            rintro e w8 ⟨rfl, t8, g8⟩
            have T8 := Lib.hid t8
            have B8 := Lib.hid (BB2.out.trans (grown_below g8 HQ1.out BB2.out.size))
            have R8 := Lib.hid (SC.out.row.grown g8 SC.out.far)
            have O8 := Lib.hid (ST.out.grown g8 N1.out N2.out F1.out)
            have c8 := (B8.out.cell (World.block_lt_of_cell? _ _ CKW.out)).trans CKW.out
            clear t8 g8 ck
            go_wp2_with fail
            refine (rbump_any w8 A3 n c3 l3 s R8.out SC.out.ok hs).mono ?_
            rintro e w9 ⟨q9, cap9, rfl, hq9, _, r9, b9⟩
            have B9 := Lib.hid (B8.out.trans (b9.mono B8.out.size))
            have O9 := Lib.hid (O8.out.below b9)
            have S9 := Lib.hid (show Side w9 g1 q1 cap1 n (some ⟨q9, 0, none⟩) (bumped l3 s) from ⟨SC.out.ok.bumped s (by rw [SC.out.len]; omega), by rw [length_bumped]; exact SC.out.len, T8.out.below b9, r9, fun ad e => by injection e with e; rw [← e]; have := T8.out.lt'; show q9 ≠ q1; omega⟩)
            clear r9 b9 hq9 c8
            go_wp2_with fail
            exact ⟨⟨j + 1, some ⟨q9, 0, none⟩, cap9, bumped l3 s, by omega, by go_num, rfl, Lib.hid ⟨S9.out, O9.out, B9.out⟩⟩, by simp [intOf]; omega⟩
          · rw [if_neg hx, after_out l3 x (by rw [SC.out.len]; exact hx)] at kb
            have KB := Lib.hid kb
            clear kb hx
            go_wp2_with fail
            refine KB.out.mono ?_
            rintro e w8 ⟨rfl, t8, g8⟩
            have B8 := Lib.hid (BB2.out.trans (grown_below g8 HQ1.out BB2.out.size))
            have O8 := Lib.hid (ST.out.grown g8 N1.out N2.out F1.out)
            have S8 := Lib.hid (show Side w8 g1 q1 cap1 n A3 l3 from ⟨SC.out.ok, SC.out.len, t8, SC.out.row.grown g8 SC.out.far, SC.out.far⟩)
            clear t8 g8 ck
            go_wp2_with fail
            exact ⟨⟨j + 1, A3, c3, l3, by omega, by go_num, rfl, Lib.hid ⟨S8.out, O8.out, B8.out⟩⟩, by simp [intOf]; omega⟩
        · obtain rfl : j = p := by omega
          have hnl2 : ¬ (j : Int) < j := by omega
          go_wp2_with fail
          refine (same_true wr g q cap A2 n c2 l2 ST.out.tab ST.out.ok ST.out.row).mono ?_
          rintro e w8 ⟨rfl, b8⟩
          have B8 := Lib.hid (BB2.out.trans b8.below)
          have S8 := Lib.hid (SC.out.read b8)
          clear b8
          go_wp2_with fail
          refine (same_true w8 g1 q1 cap1 A3 n c3 l3 S8.out.tab S8.out.ok S8.out.row).mono ?_
          rintro e w9 ⟨rfl, b9⟩
          have B9 := Lib.hid (B8.out.trans b9.below)
          clear b9
          go_wp2
          go_ret
          exact ⟨rfl, B9.out⟩

theorem walk (A : Option Addr) (n c : Nat) (l : List Int) (C : Option Addr) (m d : Nat) (bl : List Int) (E : Option Addr) (p r : Nat) (ml : List Int) (w : World)
    (_ : (A = none → c = 0) ∧ n ≤ c) (_ : ∀ x ∈ l, -9223372036854775808 ≤ x ∧ x ≤ 9223372036854775807) (h : Reads w A n (ints l))
    (_ : (C = none → d = 0) ∧ m ≤ d) (_ : ∀ x ∈ bl, -9223372036854775808 ≤ x ∧ x ≤ 9223372036854775807) (hb : Reads w C m (ints bl))
    (_ : (E = none → r = 0) ∧ p ≤ r) (_ : ∀ x ∈ ml, -9223372036854775808 ≤ x ∧ x ≤ 9223372036854775807) (he : Reads w E p (ints ml)) :
    Calls Try.prog 7 #[.slice A n c, .slice C m d, .slice E p r] w fun e w' => e = .returned (.bool true) ∧ Below w.heap.size w w' := by
  by_cases hN : 40 < n ∨ 40 < m ∨ 40 < p
  · exact many w A C E n c m d p r hN
  obtain ⟨f, hf⟩ := chk_exists l
  by_cases hf0 : f = 0
  · subst hf0
    exact good w A C E n c m d p r l bl ml (by omega) (by omega) (by omega) h hb he hf.good
  · exact bad w A C E n c m d p r l f (by omega) (by omega) (by omega) h hf hf0

set_option maxRecDepth 100000 in
theorem lifted (os : Os) (started : os.Started) (H : Type) (enc : TypeId × Value → H) :
    ReturnsInHanded {} Try.checked os 7 .any (Rows.tableClonesSpec.pre6 enc Try.prog Try.f7 Rows.tableClonesRow.domain false) (Rows.tableClonesSpec.post enc Try.prog Try.f7 false true false false) := by
  refine returnsInHanded_of_change (C := Try.checked) own_knob started (by kernel_rfl) Try.func7
    (ChangeSpec.witness6 (enc := enc) (C := Try.checked) false ⟨#[], #[.slice none 0 0, .slice none 0 0, .slice none 0 0], []⟩ 8 (by kernel_rfl) (by kernel_rfl) (by kernel_rfl) (by kernel_rfl)) ?_
  intro W base args ds gs before hval0 hW hcnd _
  have hval : ∀ (j : Nat) t v, Try.f7.params[j]? = some t → args[j]? = some v → Value.okWide Try.prog W .any base t v := hval0
  have hW' := hW
  obtain ⟨p, q, hA0, hV, rfl, hfz, hnd⟩ := hW
  have hA : DataW.TrodAll enc Try.prog W 0 (fun _ => true) true Try.f7.params.toList args.toList ds p := hA0
  rw [Try.params7] at hA hval
  obtain ⟨v0, vs0, d0, ds0, p0, q0, hargs, rfl, rfl, h0, r0⟩ := trodAll_cons hA
  obtain ⟨v1, vs1, d1, ds1, p1, q1, rfl, rfl, rfl, h1, r1⟩ := trodAll_cons r0
  obtain ⟨v2, vs2, d2, ds2, p2, q2, rfl, rfl, rfl, h2, r2⟩ := trodAll_cons r1
  obtain ⟨rfl, rfl, rfl⟩ := trodAll_nil r2
  obtain rfl : args = #[v0, v1, v2] := by cases args; simp_all
  obtain ⟨rfl, rfl⟩ := trodVars_none hV
  obtain ⟨a0, len0, cap0, rfl⟩ := okWide_slice Try.underlying22 (hval 0 22 v0 rfl rfl)
  have lt0 : ∀ x ∈ p0, x.block < W.heap.size := by obtain ⟨m, hm⟩ := h0; exact DataW.trod_lt m _ _ _ hm
  obtain ⟨hc0, xs0, hx0, hr0⟩ := arg_ints h0
  obtain ⟨a1, len1, cap1, rfl⟩ := okWide_slice Try.underlying22 (hval 1 22 v1 rfl rfl)
  have lt1 : ∀ x ∈ p1, x.block < W.heap.size := by obtain ⟨m, hm⟩ := h1; exact DataW.trod_lt m _ _ _ hm
  obtain ⟨hc1, xs1, hx1, hr1⟩ := arg_ints h1
  obtain ⟨a2, len2, cap2, rfl⟩ := okWide_slice Try.underlying22 (hval 2 22 v2 rfl rfl)
  have lt2 : ∀ x ∈ p2, x.block < W.heap.size := by obtain ⟨m, hm⟩ := h2; exact DataW.trod_lt m _ _ _ hm
  obtain ⟨hc2, xs2, hx2, hr2⟩ := arg_ints h2
  clear hA0 hval0
  refine (walk a0 len0 cap0 xs0 a1 len1 cap1 xs1 a2 len2 cap2 xs2 W hc0 hx0 hr0 hc1 hx1 hr1 hc2 hx2 hr2).mono fun e W' ⟨he, bel⟩ => ?_
  subst he
  exact ⟨_, rfl, _, _, _, [], _, [], hW', trodAll_mk1 (shut_bool Try.underlying4 _), (trodAll_cons_mk (Below.trod laid_out (by kernel_rfl) (of_decide_eq_true (by kernel_rfl)) h0 bel lt0) (trodAll_cons_mk (Below.trod laid_out (by kernel_rfl) (of_decide_eq_true (by kernel_rfl)) h1 bel lt1) (trodAll_cons_mk (Below.trod laid_out (by kernel_rfl) (of_decide_eq_true (by kernel_rfl)) h2 bel lt2) trodAll_mk0))), rfl, bel.frame _, fun h => by cases h⟩

theorem over : Rows.tableClonesRow.holds Try.pinned (OpenSpec.ofChange Rows.tableClonesSpec) :=
  OpenClaim.holds_of_wide 7 Try.f7 rfl rfl rfl rfl rfl rfl rfl ⟨rfl, rfl, rfl, rfl, rfl⟩ rfl rfl rfl rfl rfl (by kernel_rfl) Try.func7 (by kernel_rfl)
    (of_decide_eq_true (by kernel_rfl)) (by unfold Func.isWrapper; first | (rw [if_pos (by decide +kernel)]; kernel_rfl) | (rw [if_neg (by decide +kernel)]; exact ⟨rfl, rfl⟩))
    (fun os started H enc _ => lifted os started H enc)

theorem proved : Rows.TableClonesSaid := over
end Go.Proofs.Ytjacjgchbpghiaa.tableClones
