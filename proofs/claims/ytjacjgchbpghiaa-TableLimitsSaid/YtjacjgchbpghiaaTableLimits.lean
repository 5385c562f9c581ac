/- TableLimits: 256 symbols are taken, 257 are not; a total of 65,536 is, one more is not; a table at its limit is halved by the first bump. No condition. -/
import Derived.Test.YtjacjgchbpghiaaTabApart
namespace Go.Proofs.Ytjacjgchbpghiaa.tableLimits
open Go.ChangeShapes Go.WideShapes Go.ChangeAt Go.RowKit

/-- 256 counts: x, and ones. -/
def one (x : Int) : List Int := x :: List.replicate 255 1
theorem length_one (x : Int) : (one x).length = 256 := by rw [one, List.length_cons, List.length_replicate]
theorem sum_ones (n : Nat) : (List.replicate n (1 : Int)).sum = n := by
  induction n with
  | zero => rfl
  | succ n ih => rw [List.replicate_succ, List.sum_cons, ih]; omega
theorem rep_at (n k : Nat) (x : Int) (h : k < n) : (List.replicate n x)[k]? = some x := by rw [List.getElem?_replicate, if_pos h]
theorem rep_len (n : Nat) (x y : Int) : (List.replicate n x).length = (List.replicate n y).length := by rw [List.length_replicate, List.length_replicate]
theorem sum_one (x : Int) : (one x).sum = x + 255 := by
  rw [one, List.sum_cons, sum_ones]
  rfl
theorem ones_one (x : Int) (h : 1 ≤ x) : ∀ y ∈ one x, 1 ≤ y := by
  intro y hy
  rcases List.mem_cons.1 hy with rfl | hy
  · exact h
  · rw [List.eq_of_mem_replicate hy]; omega
theorem ok_one (x : Int) (h1 : 1 ≤ x) (h2 : x ≤ 65281) : Ok (one x) := ⟨by rw [length_one]; omega, by rw [length_one]; omega, ones_one x h1, by rw [sum_one]; omega⟩
theorem chk_one (x : Int) (h1 : 65281 < x) : Chk (one x) 7 := .inr (.inr (.inl ⟨rfl, by rw [length_one]; omega, ones_one x (by omega), by rw [sum_one]; omega⟩))

/-- Block q holds the list l (and what may lie behind it). -/
def Row (W : World) (q : Nat) (l : List Int) : Prop := ∃ rest, W.heap[q]? = some (.cells (ints l ++ rest).toArray 3 (0, 0))
theorem Row.below {W W' : World} {q : Nat} {l : List Int} (h : Row W q l) (b : Below W.heap.size W W') : Row W' q l := by
  obtain ⟨r, h⟩ := h
  exact ⟨r, (b.block q (heap_lt h)).trans h⟩
theorem Row.lt {W : World} {q : Nat} {l : List Int} (h : Row W q l) : q < W.heap.size := by
  obtain ⟨r, h⟩ := h
  exact heap_lt h
theorem Row.grown {W W' : World} {p q : Nat} {l : List Int} (h : Row W q l) (b : W.grownBy W' (some p)) (hn : q ≠ p) : Row W' q l := by
  obtain ⟨r, h⟩ := h
  exact ⟨r, (b.block q (heap_lt h) (fun e => hn (by injection e))).trans h⟩
theorem Row.reads {W : World} {q : Nat} {x : Int} (h : Row W q (one x)) : Reads W (some ⟨q, 0, none⟩) 256 (ints (one x)) := by
  obtain ⟨r, h⟩ := h
  have := Reads.of_row h
  rwa [length_one] at this
theorem Row.cell {W : World} {q : Nat} {x : Int} (h : Row W q (one x)) : W.cell? ⟨q, 0, none⟩ = some (.int .i64 x) ∧ W.frozen? ⟨q, 0, none⟩ = false := by
  obtain ⟨r, h⟩ := h
  exact ⟨by rw [cell_in h]; rfl, frozen_in h 0⟩
theorem Row.set {W : World} {q : Nat} {x : Int} (h : Row W q (one x)) (y : Int) : Row (W.setCell ⟨q, 0, none⟩ (.int .i64 y)) q (one y) := by
  obtain ⟨r, h⟩ := h
  refine ⟨r, ?_⟩
  rw [heap_set h, row_set _ _ _ _ (by rw [length_one]; omega)]
  rfl
theorem set_grown (W : World) (q : Nat) (u : Value) : W.grownBy (W.setCell ⟨q, 0, none⟩ u) (some q) := grown_set (World.grownBy.refl W _) u

def FillAt (w w1 : World) (q : Nat) (i : Value) (wr : World) : Prop :=
  ∃ k : Nat, k ≤ 256 ∧ i = .int .i64 (k : Int) ∧ Hid (Half w1 q (List.replicate 256 1) (List.replicate 256 0) [] k wr ∧ Below w.heap.size w wr)

set_option maxHeartbeats 8000000 in
set_option maxRecDepth 100000 in
theorem limits (w : World) (p s : Nat) (hp : p ≤ 65535) (hs : s ≤ 255) :
    Calls Try.prog 8 #[.int .u16 (p : Int), .int .u8 (s : Int)] w fun e w' => e = .returned (.bool true) ∧ Below w.heap.size w w' := by
  obtain ⟨i0, hi, hz0, hz1, hz2⟩ := info_parts Try.infoInt
  have HI := Lib.hid hi
  have HZ := Lib.hid (And.intro hz0 (And.intro hz1 hz2))
  have hmk : ∀ W : World, (Instr.makeSlice 22 (.int .i64 256) (.int .i64 256)).run Try.prog W = .ok (.slice (some ⟨W.heap.size, 0, none⟩) 256 256) (W.alloc (.cells (madeCells #[.int .i64 0] 256) 3)) := by
    intro W
    have := run_make (P := Try.prog) W 22 3 i0 (.int .i64 0) Try.underlying22 hi hz0 .i64 .i64 256 256 (by omega) (by omega) (by rw [hz2]; omega) (by omega)
    rw [hz1] at this
    simp at this
    exact this
  have e1 : IntKind.i64.wrap (1 + (p : Int) % 65280) = 1 + (p : Int) % 65280 := IntWalk.i64_in _ (by omega)
  clear hi hz0 hz1 hz2
  go_enter Try.func8, Try.ntmps8
  go_wp2_with fail
  refine (awake_true w).mono ?_
  rintro e w1 ⟨rfl, b1⟩
  have B1 := Lib.hid b1
  have H1 := Lib.hid (show (w1.alloc (.cells (madeCells #[.int .i64 0] 256) 3)).heap[w1.heap.size]? = some (.cells (ints (List.replicate 256 0) ++ []).toArray 3 (0, 0)) by
    rw [heap_alloc_new, List.append_nil]
    congr 2
    have := toList_madeCells_one (.int .i64 0) 256
    rw [← Array.toList_inj, this]
    simp [ints])
  have B1' := Lib.hid (b1.alloc b1.size (.cells (madeCells #[.int .i64 0] 256) 3))
  have Q1 := Lib.hid b1.size
  clear b1
  go_wp2_with fail
  generalize w1.alloc (.cells (madeCells #[.int .i64 0] 256) 3) = w2 at *
  generalize hq : w1.heap.size = q at *
  have ha1 : 1 ≤ 1 + (p : Int) % 65280 := by omega
  have ha2 : 1 + (p : Int) % 65280 ≤ 65280 := by omega
  generalize 1 + (p : Int) % 65280 = a at *
  clear hq
  go_loopw [7] (FillAt w w2 q) (fun i _ => 256 - (intOf i).toNat)
  case atStart => exact ⟨0, by omega, rfl, Lib.hid ⟨⟨by rw [mix_zero]; exact H1.out, World.grownBy.refl w2 _⟩, B1'.out⟩⟩
  case round =>
    obtain ⟨k, hk, rfl, H⟩ := hrel
    by_cases hlt : k < 256
    · have hkn : (k : Int) < 256 := by omega
      have ck := H.out.1.cell (rep_len _ _ _) 0 (rep_at _ _ _ hlt)
      have fk := frozen_in H.out.1.1 k
      have HN := Lib.hid (H.out.1.set (rep_len _ _ _) 1 (rep_at _ _ _ hlt))
      have BN := Lib.hid (H.out.2.setCell (p := ⟨q, k, none⟩) Q1.out (.int .i64 1))
      go_wp2_with fail
      exact ⟨⟨k + 1, by omega, by go_num, Lib.hid ⟨HN.out, BN.out⟩⟩, by simp [intOf]; omega⟩
    · obtain rfl : k = 256 := by omega
      have R0 := Lib.hid (show Row wr q (one 1) from ⟨[], by
        have := H.out.1.1
        rw [mix_all _ _ _ (rep_len _ _ _) (by rw [List.length_replicate]; omega)] at this
        exact this⟩)
      have B0 := Lib.hid H.out.2
      clear H
      have k0 := R0.out.cell.1
      have f0 := R0.out.cell.2
      have R2 := Lib.hid (R0.out.set a)
      have B2 := Lib.hid (B0.out.setCell (p := ⟨q, 0, none⟩) Q1.out (.int .i64 a))
      have OKa := Lib.hid (ok_one a ha1 (by omega))
      have e5 : IntKind.i64.wrap (a + 255) = a + 255 := IntWalk.i64_in _ (by omega)
      have d5 : (a + 255 != a + 255) = false := by simp
      go_wp2_with fail
      refine (new_good _ (some ⟨q, 0, none⟩) 256 256 (one a) R2.out.reads OKa.out).mono ?_
      rintro e w3 ⟨g1, q1, cap1, rfl, t3, _, _, b3⟩
      have T3 := Lib.hid t3
      have R3 := Lib.hid (R2.out.below b3)
      have B3 := Lib.hid (B2.out.trans (b3.mono B2.out.size))
      clear t3 b3 k0 f0
      go_wp2_with fail
      refine (total_any w3 g1 q1 cap1 (one a) T3.out (by rw [length_one]; omega) (by rw [length_one]; omega)).mono ?_
      rw [sum_one]
      rintro e w4 ⟨rfl, b4⟩
      have R4 := Lib.hid (R3.out.below b4.below)
      have B4 := Lib.hid (B3.out.trans b4.below)
      clear b4
      have E4 := Lib.hid (empty_ints w4)
      have B4' := Lib.hid ((Below.refl w4.heap.size w4).alloc (Nat.le_refl _) (.cells #[] 3))
      have R4' := Lib.hid (R4.out.below B4'.out).reads
      go_wp2_with (at_builtin; refine wpList_append_reads rfl (.tmp 54) (.tmp 55) 22 rfl w4.heap.size 3 i0 (.int .i64 0) 8 Try.underlying22 HI.out HZ.out rfl (.slice (some ⟨w4.heap.size, 0, none⟩) 0 0) 0 [] rfl E4.out (some ⟨q, 0, none⟩) 256 256 (ints (one a)) rfl R4'.out (fun e => (nomatch e)) (ints_one _) ?b1 ?b2 ?b3 ?_)
      case b1 => unfold maxLen; omega
      case b2 => omega
      case b3 => simp
      intro v5 w5 hown0 hgr
      have hown : w5.ownsRow w4.heap.size 3 1 v5 256 (ints (one a)) := by simpa using hown0
      have B5 := Lib.hid (own_grown_below B4'.out hgr B4'.out.size (fun k hk => by simp [Value.ownBlock] at hk; omega))
      have O5 := Lib.hid hown
      clear hown0 hgr hown
      go_wp2_with (at_builtin; refine wpList_append_lies _ rfl (.tmp 56) (.tmp 57) 22 rfl w4.heap.size 3 i0 (.int .i64 0) 1 8 Try.underlying22 HI.out HZ.out.1 HZ.out.2.1 HZ.out.2.2 rfl (by decide) v5 256 (ints (one a)) rfl (O5.out.alloc _) ⟨w5.heap.size, 0, none⟩ 1 1 [.int .i64 1] rfl rfl (cell_one_new _ _ _) ?c2 (by decide) ?b1 ?b2 ?b3 (w5.heap.size + 1) ?b4 ?_)
      case c2 => intro u hu; rw [List.mem_singleton.1 hu]; rfl
      case b1 => unfold maxLen; omega
      case b2 => omega
      case b3 => have := B5.out.size; simp; omega
      case b4 => simp
      intro q6 cap6 w6 hown6 hgr6 hq6 hlt6
      have B6 := Lib.hid ((B5.out.alloc B5.out.size (.cells #[.int .i64 1] 3)).grown hgr6 (by have := B5.out.size; simp; omega) (fun j e => (O5.out.lt j e).1))
      have R6 := Lib.hid (R4.out.below B6.out)
      have BW6 := Lib.hid (B4.out.trans (B6.out.mono B4.out.size))
      clear hown6 hgr6 hq6 hlt6
      go_wp2_with fail
      refine (new_arg w6 (some ⟨q6, 0, none⟩) 257 cap6 (by omega)).mono ?_
      rintro e w7 ⟨rfl, rfl⟩
      have k7 := R6.out.cell.1
      have f7 := R6.out.cell.2
      have R7 := Lib.hid (R6.out.set 65281)
      have B7 := Lib.hid (BW6.out.setCell (p := ⟨q, 0, none⟩) Q1.out (.int .i64 65281))
      have OK7 := Lib.hid (ok_one 65281 (by omega) (by omega))
      go_wp2_with fail
      refine (new_good _ (some ⟨q, 0, none⟩) 256 256 (one 65281) R7.out.reads OK7.out).mono ?_
      rintro e w8 ⟨g2, q2, cap2, rfl, t8, hg2, hq2, b8⟩
      have T8 := Lib.hid t8
      have R8 := Lib.hid (R7.out.below b8)
      have B8 := Lib.hid (B7.out.trans (b8.mono B7.out.size))
      have N1 := Lib.hid (show g2 ≠ q by have := R7.out.lt; omega)
      have N2 := Lib.hid (show q2 ≠ q by have := R7.out.lt; omega)
      have QQ := Lib.hid (Nat.le_trans B7.out.size hq2)
      clear t8 b8 hg2 hq2 k7 f7
      have k8 := R8.out.cell.1
      have f8 := R8.out.cell.2
      have R9 := Lib.hid (R8.out.set 65282)
      have B9 := Lib.hid (B8.out.setCell (p := ⟨q, 0, none⟩) Q1.out (.int .i64 65282))
      have T9 := Lib.hid (T8.out.grown (set_grown w8 q (.int .i64 65282)) N1.out N2.out)
      go_wp2_with fail
      refine (new_fail _ (some ⟨q, 0, none⟩) 256 256 (one 65282) 7 R9.out.reads (chk_one 65282 (by omega)) (by omega)).mono ?_
      rintro e w10 ⟨rfl, b10⟩
      have T10 := Lib.hid (T9.out.below b10)
      have R10 := Lib.hid (R9.out.below b10)
      have B10 := Lib.hid (B9.out.trans (b10.mono B9.out.size))
      clear b10 k8 f8
      go_wp2_with fail
      refine (total_any w10 g2 q2 cap2 (one 65281) T10.out (by rw [length_one]; omega) (by rw [length_one]; omega)).mono ?_
      rw [sum_one, show (65281 : Int) + 255 = 65536 by omega]
      rintro e w11 ⟨rfl, b11⟩
      have T11 := Lib.hid (T10.out.read b11)
      have R11 := Lib.hid (R10.out.below b11.below)
      have B11 := Lib.hid (B10.out.trans b11.below)
      clear b11
      have k11 := R11.out.cell.1
      have f11 := R11.out.cell.2
      have R12 := Lib.hid (R11.out.set 65281)
      have B12 := Lib.hid (B11.out.setCell (p := ⟨q, 0, none⟩) Q1.out (.int .i64 65281))
      have T12 := Lib.hid (T11.out.grown (set_grown w11 q (.int .i64 65281)) N1.out N2.out)
      go_wp2_with fail
      refine (bump_ok _ g2 q2 cap2 (one 65281) s T12.out OK7.out (by rw [length_one]; omega)).mono ?_
      rintro e w13 ⟨rfl, t13, g13⟩
      have T13 := Lib.hid t13
      have R13 := Lib.hid (R12.out.grown g13 (fun e => N2.out e.symm))
      have B13 := Lib.hid (B12.out.trans (grown_below g13 QQ.out B12.out.size))
      clear t13 g13 k11 f11
      go_wp2_with fail
      refine (rbump_any w13 (some ⟨q, 0, none⟩) 256 256 (one 65281) s R13.out.reads OK7.out (by omega)).mono ?_
      rintro e w14 ⟨q14, cap14, rfl, hq14, _, r14, b14⟩
      have T14 := Lib.hid (T13.out.below b14)
      have R14 := Lib.hid r14
      have B14 := Lib.hid (B13.out.trans (b14.mono B13.out.size))
      clear r14 b14 hq14
      go_wp2_with fail
      refine (same_true w14 g2 q2 cap2 (some ⟨q14, 0, none⟩) 256 cap14 (bumped (one 65281) s) T14.out (OK7.out.bumped s (by rw [length_one]; omega)) R14.out).mono ?_
      rintro e w15 ⟨rfl, b15⟩
      have B15 := Lib.hid (B14.out.trans b15.below)
      clear b15
      go_wp2
      go_ret
      exact ⟨rfl, B15.out⟩

theorem walk (p s : Int) (w : World) (h0 : 0 ≤ p) (h1 : p ≤ 65535) (h2 : 0 ≤ s) (h3 : s ≤ 255) :
    Calls Try.prog 8 #[.int .u16 p, .int .u8 s] w fun e w' => e = .returned (.bool true) ∧ Below w.heap.size w w' := by
  obtain ⟨m, rfl⟩ := Int.eq_ofNat_of_zero_le h0
  obtain ⟨n, rfl⟩ := Int.eq_ofNat_of_zero_le h2
  exact limits w m n (by omega) (by omega)

set_option maxRecDepth 100000 in
theorem lifted (os : Os) (started : os.Started) (H : Type) (enc : TypeId × Value → H) :
    ReturnsInHanded {} Try.checked os 8 .any (Rows.tableLimitsSpec.pre6 enc Try.prog Try.f8 Rows.tableLimitsRow.domain false) (Rows.tableLimitsSpec.post enc Try.prog Try.f8 false true false false) := by
  refine returnsInHanded_of_change (C := Try.checked) own_knob started (by kernel_rfl) Try.func8
    (ChangeSpec.witness6 (enc := enc) (C := Try.checked) false ⟨#[], #[.int .u16 0, .int .u8 0], []⟩ 8 (by kernel_rfl) (by kernel_rfl) (by kernel_rfl) (by kernel_rfl)) ?_
  intro W base args ds gs before hval0 hW hcnd _
  have hval : ∀ (j : Nat) t v, Try.f8.params[j]? = some t → args[j]? = some v → Value.okWide Try.prog W .any base t v := hval0
  have hW' := hW
  obtain ⟨p, q, hA0, hV, rfl, hfz, hnd⟩ := hW
  have hA : DataW.TrodAll enc Try.prog W 0 (fun _ => true) true Try.f8.params.toList args.toList ds p := hA0
  rw [Try.params8] at hA hval
  obtain ⟨v0, vs0, d0, ds0, p0, q0, hargs, rfl, rfl, h0, r0⟩ := trodAll_cons hA
  obtain ⟨v1, vs1, d1, ds1, p1, q1, rfl, rfl, rfl, h1, r1⟩ := trodAll_cons r0
  obtain ⟨rfl, rfl, rfl⟩ := trodAll_nil r1
  obtain rfl : args = #[v0, v1] := by cases args; simp_all
  obtain ⟨rfl, rfl⟩ := trodVars_none hV
  obtain ⟨a0, rfl, rfl, rfl, w0⟩ := open_int Try.underlying44 (hval 0 44 v0 rfl rfl) h0
  have bd0 := bounds_u16 w0
  obtain ⟨a1, rfl, rfl, rfl, w1⟩ := open_int Try.underlying5 (hval 1 5 v1 rfl rfl) h1
  have bd1 := bounds_u8 w1
  clear hA0 hval0
  refine (walk a0 a1 W (by omega) (by omega) (by omega) (by omega)).mono fun e W' ⟨he, bel⟩ => ?_
  subst he
  exact ⟨_, rfl, _, _, _, [], _, [], hW', trodAll_mk1 (shut_bool Try.underlying4 _), (trodAll_cons_mk (shut_int Try.underlying44 w0) (trodAll_cons_mk (shut_int Try.underlying5 w1) trodAll_mk0)), rfl, bel.frame _, fun h => by cases h⟩

theorem over : Rows.tableLimitsRow.holds Try.pinned (OpenSpec.ofChange Rows.tableLimitsSpec) :=
  OpenClaim.holds_of_wide 8 Try.f8 rfl rfl rfl rfl rfl rfl rfl ⟨rfl, rfl, rfl, rfl, rfl⟩ rfl rfl rfl rfl rfl (by kernel_rfl) Try.func8 (by kernel_rfl)
    (of_decide_eq_true (by kernel_rfl)) (by unfold Func.isWrapper; first | (rw [if_pos (by decide +kernel)]; kernel_rfl) | (rw [if_neg (by decide +kernel)]; exact ⟨rfl, rfl⟩))
    (fun os started H enc _ => lifted os started H enc)

theorem proved : Rows.TableLimitsSaid := over
end Go.Proofs.Ytjacjgchbpghiaa.tableLimits
