/- TableNone: a nil table has nothing; of any counts (at most 40) that are handed in, and written over behind New by any number, the table keeps what it was made of. No condition. -/
import Derived.Test.YtjacjgchbpghiaaTabApart
import Derived.Test.YtjacjgchbpghiaaTabFind
namespace Go.Proofs.Ytjacjgchbpghiaa.tableNone
open Go.ChangeShapes Go.WideShapes Go.ChangeAt Go.RowKit

set_option maxHeartbeats 2000000 in
set_option maxRecDepth 100000 in
theorem many (w : World) (A : Option Addr) (n c : Nat) (y : Int) (h : 40 < n) :
    Calls Try.prog 9 #[.slice A n c, .int .i64 y] w fun e w' => e = .returned (.bool true) ∧ Below w.heap.size w w' := by
  have t0 : (40 : Int) < n := by omega
  go_enter Try.func9, Try.ntmps9
  go_wp2_with fail
  refine (awake_true w).mono ?_
  rintro e w1 ⟨rfl, b1⟩
  have B1 := Lib.hid b1
  clear b1
  go_wp2
  go_ret
  exact ⟨rfl, B1.out⟩

def OverAt (w w9 : World) (q n : Nat) (a l : List Int) (rest : List Value) (i : Value) (wr : World) : Prop :=
  ∃ k : Nat, k ≤ n ∧ i = .int .i64 (k : Int) ∧ Hid (Half w9 q a l rest k wr ∧ Below w.heap.size w wr)

set_option maxHeartbeats 8000000 in
set_option maxRecDepth 100000 in
theorem few (w : World) (A : Option Addr) (n c : Nat) (y : Int) (l : List Int) (f : Int) (hn : n ≤ 40) (hA : A = none → c = 0) (h : Reads w A n (ints l)) (hf : Chk l f) :
    Calls Try.prog 9 #[.slice A n c, .int .i64 y] w fun e w' => e = .returned (.bool true) ∧ Below w.heap.size w w' := by
  have t0 : ¬ (40 : Int) < n := by omega
  obtain ⟨i0, hi, hz0, hz1, hz2⟩ := info_parts Try.infoInt
  have HI := Lib.hid hi
  have HZ := Lib.hid (And.intro hz0 (And.intro hz1 hz2))
  have HR := Lib.hid h
  have HF := Lib.hid hf
  have HL := Lib.hid h.len
  have HA := Lib.hid hA
  clear h hf hA hi hz0 hz1 hz2
  go_enter Try.func9, Try.ntmps9
  go_wp2_with fail
  refine (awake_true w).mono ?_
  rintro e w1 ⟨rfl, b1⟩
  have B1 := Lib.hid b1
  clear b1
  go_wp2_with fail
  refine (find_nil w1).mono ?_
  rintro e w2 ⟨rfl, b2⟩
  have B2 := Lib.hid (B1.out.trans (b2.mono B1.out.size))
  clear b2
  go_wp2_with fail
  refine (symbols_nil w2).mono ?_
  rintro e w3 ⟨rfl, b3⟩
  have B3 := Lib.hid (B2.out.trans b3.below)
  clear b3
  go_wp2_with fail
  refine (total_nil w3).mono ?_
  rintro e w4 ⟨rfl, b4⟩
  have B4 := Lib.hid (B3.out.trans b4.below)
  clear b4
  go_wp2_with fail
  refine (low_nil w4).mono ?_
  rintro e w5 ⟨rfl, b5⟩
  have B5 := Lib.hid (B4.out.trans b5.below)
  clear b5
  go_wp2_with fail
  refine (count_nil w5).mono ?_
  rintro e w6 ⟨rfl, b6⟩
  have B6 := Lib.hid (B5.out.trans b6.below)
  clear b6
  go_wp2_with fail
  refine (bump_nil w6).mono ?_
  rintro e w7 ⟨rfl, b7⟩
  have B7 := Lib.hid (B6.out.trans b7.below)
  clear b7
  go_wp2_with fail
  refine (clone_nil w7).mono ?_
  rintro e w8 ⟨rfl, b8⟩
  have B8 := Lib.hid (B7.out.trans b8.below)
  clear b8
  have E8 := Lib.hid (World.ownsRow_made (base := w.heap.size) (e := 3) (size := 1) w8 #[] 0 B8.out.size (by unfold maxLen; omega) rfl)
  have B8' := Lib.hid (B8.out.alloc B8.out.size (.cells #[] 3))
  have R8 := Lib.hid (HR.out.below B8'.out)
  have hmx : n ≤ maxLen := by unfold maxLen; omega
  go_wp2_with (at_builtin; refine wpList_append_reads rfl (.tmp 57) (.tmp 58) 22 rfl w.heap.size 3 i0 (.int .i64 0) 8 Try.underlying22 HI.out HZ.out rfl (.slice (some ⟨w8.heap.size, 0, none⟩) 0 0) 0 [] rfl E8.out A n c (ints l) rfl R8.out HA.out (ints_one l) ?b1 ?b2 ?b3 ?_)
  case b1 => unfold maxLen; omega
  case b2 => omega
  case b3 => exact B8'.out.size
  intro v9 w9 hown0 hgr
  have hown : w9.ownsRow w.heap.size 3 1 v9 n (ints l) := by simpa using hown0
  have B9 := Lib.hid (own_grown_below B8'.out hgr B8'.out.size (fun k hk => by simp [Value.ownBlock] at hk; have := B8.out.size; omega))
  clear hown0 hgr
  by_cases hf0 : f = 0
  · subst hf0
    have OK := Lib.hid HF.out.good
    have hn0 : 0 < n := by have := OK.out.pos; rwa [HL.out] at this
    obtain ⟨q9, cap9, rest, rfl, hq9, _, hh⟩ := own_row hown hn0
    have HH := Lib.hid hh
    have hr9 := Reads.of_row hh
    rw [HL.out] at hr9
    have R9 := Lib.hid hr9
    have Q9 := Lib.hid (heap_lt hh)
    clear hown hh hr9
    go_wp2_with fail
    refine (new_good w9 _ n cap9 l R9.out OK.out).mono ?_
    rintro e w10 ⟨g, q, cap, rfl, tt, hg, hq, b10⟩
    have T10 := Lib.hid tt
    have B10 := Lib.hid (B9.out.trans (b10.mono B9.out.size))
    have H10 := Lib.hid (show w10.heap[q9]? = some (.cells (ints l ++ rest).toArray 3 (0, 0)) by rw [b10.block q9 Q9.out]; exact HH.out)
    have N1 := Lib.hid (show g ≠ q9 by have := Q9.out; omega)
    have N2 := Lib.hid (show q ≠ q9 by have := Q9.out; omega)
    clear tt hg hq b10
    go_wp2_with fail
    go_loopw [11] (OverAt w w10 q9 n (List.replicate n y) l rest) (fun i _ => n - (intOf i).toNat)
    case atStart => exact ⟨0, Nat.zero_le _, rfl, Lib.hid ⟨⟨by rw [mix_zero]; exact H10.out, World.grownBy.refl w10 _⟩, B10.out⟩⟩
    case round =>
      obtain ⟨k, hk, rfl, H⟩ := hrel
      have HLR := Lib.hid (show (List.replicate n y).length = l.length by rw [HL.out]; simp)
      by_cases hlt : k < n
      · have hkn : (k : Int) < n := by omega
        have ck := H.out.1.cell HLR.out _ (getD_some (show k < l.length by rw [HL.out]; exact hlt))
        have fk := frozen_in H.out.1.1 k
        have HN := Lib.hid (H.out.1.set HLR.out y (by simp [hlt]))
        have BN := Lib.hid (H.out.2.setCell (p := ⟨q9, k, none⟩) hq9 (.int .i64 y))
        generalize l.getD k 0 = z at *
        go_wp2_with fail
        exact ⟨⟨k + 1, by omega, by go_num, Lib.hid ⟨HN.out, BN.out⟩⟩, by simp [intOf]; omega⟩
      · obtain rfl : k = n := by omega
        have hnl : ¬ (k : Int) < k := by omega
        have T11 := Lib.hid (T10.out.grown H.out.1.2 N1.out N2.out)
        have R11 := Lib.hid (HR.out.below H.out.2)
        go_wp2_with fail
        refine (same_true wr g q cap A k c l T11.out OK.out R11.out).mono ?_
        rintro e w12 ⟨rfl, b12⟩
        have B12 := Lib.hid (H.out.2.trans b12.below)
        clear b12
        go_wp2
        go_ret
        exact ⟨rfl, B12.out⟩
  · obtain ⟨A9, c9, rfl, _, hr9⟩ := Reads.of_own hown
    have R9 := Lib.hid hr9
    have H0 := Lib.hid hf0
    have t2 : (f != 0) = true := by simpa using hf0
    clear hown hr9 hf0
    go_wp2_with fail
    refine (new_fail w9 A9 n c9 l f R9.out HF.out H0.out).mono ?_
    rintro e w10 ⟨rfl, b10⟩
    have B10 := Lib.hid (B9.out.trans (b10.mono B9.out.size))
    clear b10
    go_wp2
    go_ret
    exact ⟨rfl, B10.out⟩

theorem walk (A : Option Addr) (n c : Nat) (l : List Int) (y : Int) (w : World) (hc : (A = none → c = 0) ∧ n ≤ c) (_ : ∀ x ∈ l, -9223372036854775808 ≤ x ∧ x ≤ 9223372036854775807) (h : Reads w A n (ints l)) (_ : -9223372036854775808 ≤ y) (_ : y ≤ 9223372036854775807) :
    Calls Try.prog 9 #[.slice A n c, .int .i64 y] w fun e w' => e = .returned (.bool true) ∧ Below w.heap.size w w' := by
  by_cases hN : 40 < n
  · exact many w A n c y hN
  obtain ⟨f, hf⟩ := chk_exists l
  exact few w A n c y l f (by omega) hc.1 h hf

set_option maxRecDepth 100000 in
theorem lifted (os : Os) (started : os.Started) (H : Type) (enc : TypeId × Value → H) :
    ReturnsInHanded {} Try.checked os 9 .any (Rows.tableNoneSpec.pre6 enc Try.prog Try.f9 Rows.tableNoneRow.domain false) (Rows.tableNoneSpec.post enc Try.prog Try.f9 false true false false) := by
  refine returnsInHanded_of_change (C := Try.checked) own_knob started (by kernel_rfl) Try.func9
    (ChangeSpec.witness6 (enc := enc) (C := Try.checked) false ⟨#[], #[.slice none 0 0, .int .i64 0], []⟩ 8 (by kernel_rfl) (by kernel_rfl) (by kernel_rfl) (by kernel_rfl)) ?_
  intro W base args ds gs before hval0 hW hcnd _
  have hval : ∀ (j : Nat) t v, Try.f9.params[j]? = some t → args[j]? = some v → Value.okWide Try.prog W .any base t v := hval0
  have hW' := hW
  obtain ⟨p, q, hA0, hV, rfl, hfz, hnd⟩ := hW
  have hA : DataW.TrodAll enc Try.prog W 0 (fun _ => true) true Try.f9.params.toList args.toList ds p := hA0
  rw [Try.params9] at hA hval
  obtain ⟨v0, vs0, d0, ds0, p0, q0, hargs, rfl, rfl, h0, r0⟩ := trodAll_cons hA
  obtain ⟨v1, vs1, d1, ds1, p1, q1, rfl, rfl, rfl, h1, r1⟩ := trodAll_cons r0
  obtain ⟨rfl, rfl, rfl⟩ := trodAll_nil r1
  obtain rfl : args = #[v0, v1] := by cases args; simp_all
  obtain ⟨rfl, rfl⟩ := trodVars_none hV
  obtain ⟨a0, len0, cap0, rfl⟩ := okWide_slice Try.underlying22 (hval 0 22 v0 rfl rfl)
  have lt0 : ∀ x ∈ p0, x.block < W.heap.size := by obtain ⟨m, hm⟩ := h0; exact DataW.trod_lt m _ _ _ hm
  obtain ⟨hc0, xs0, hx0, hr0⟩ := arg_ints h0
  obtain ⟨a1, rfl, rfl, rfl, w1⟩ := open_int Try.underlying3 (hval 1 3 v1 rfl rfl) h1
  have bd1 := bounds_i64 w1
  clear hA0 hval0
  refine (walk a0 len0 cap0 xs0 a1 W hc0 hx0 hr0 (by omega) (by omega)).mono fun e W' ⟨he, bel⟩ => ?_
  subst he
  exact ⟨_, rfl, _, _, _, [], _, [], hW', trodAll_mk1 (shut_bool Try.underlying4 _), (trodAll_cons_mk (Below.trod laid_out (by kernel_rfl) (of_decide_eq_true (by kernel_rfl)) h0 bel lt0) (trodAll_cons_mk (shut_int Try.underlying3 w1) trodAll_mk0)), rfl, bel.frame _, fun h => by cases h⟩

theorem over : Rows.tableNoneRow.holds Try.pinned (OpenSpec.ofChange Rows.tableNoneSpec) :=
  OpenClaim.holds_of_wide 9 Try.f9 rfl rfl rfl rfl rfl rfl rfl ⟨rfl, rfl, rfl, rfl, rfl⟩ rfl rfl rfl rfl rfl (by kernel_rfl) Try.func9 (by kernel_rfl)
    (of_decide_eq_true (by kernel_rfl)) (by unfold Func.isWrapper; first | (rw [if_pos (by decide +kernel)]; kernel_rfl) | (rw [if_neg (by decide +kernel)]; exact ⟨rfl, rfl⟩))
    (fun os started H enc _ => lifted os started H enc)

theorem proved : Rows.TableNoneSaid := over
end Go.Proofs.Ytjacjgchbpghiaa.tableNone
