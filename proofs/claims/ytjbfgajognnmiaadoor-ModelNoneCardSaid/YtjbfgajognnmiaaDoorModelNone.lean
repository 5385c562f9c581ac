/- ModelNone: by whatever numbers of symbols and contexts, a symbol without a context is not encoded, and the document's error told; of no symbols there is the byte 0 alone, which is decoded as none; no bytes, a context that there is not, and 65,537 contexts are refused. No condition. Its listed tables of the library are tied to the program's own text, and are not read. -/
import Derived.Test.YtjbfgajognnmiaaDoorMLaw
import Derived.Test.YtjbfgajognnmiaaDoorMRefP
import Derived.Test.YtjbfgajognnmiaaDoorMCodedL
import Derived.Test.YtjbfgajognnmiaaDoorArgInts
import Derived.Test.YtjbfgajognnmiaaDoorArgB4
import Derived.Test.YtjbfgajognnmiaaDoorCards
import Derived.Test.YtjbfgajognnmiaaDoorTie
import Derived.LaidMore
import Derived.Lay
import Derived.SevenTiedAt
import Derived.Stop.Joined
namespace Go.Proofs.YtjbfgajognnmiaaDoor.modelNone
open Go.ChangeShapes Go.WideShapes Go.ChangeAt Go.RowKit

theorem none_bytes {b : List Nat} (h : BytesOf 1 [] [] b) : b = [0] := by
  obtain ⟨c, hc, rfl⟩ := h
  have hp : plainLen 1 ([] : List Nat).length = 1 := by decide +kernel
  rw [if_neg (by rw [hp]; omega)]
  decide +kernel

set_option maxHeartbeats 6400000 in
set_option maxRecDepth 100000 in
theorem walk (sy cx : Int) (w : World) (_ : -9223372036854775808 ≤ sy) (_ : sy ≤ 9223372036854775807) (_ : -9223372036854775808 ≤ cx) (_ : cx ≤ 9223372036854775807) :
    Calls Tryd.prog 9 #[.int .i64 sy, .int .i64 cx] w fun e w' => e = .returned (.bool true) ∧ Below w.heap.size w w' := by
  obtain ⟨big, hbig⟩ : ∃ big : Nat, big = 65537 := ⟨_, rfl⟩
  have hmk : ∀ W : World, (Instr.makeSlice 22 (.int .i64 65537) (.int .i64 65537)).run Tryd.prog W = .ok (.slice (some ⟨W.heap.size, 0, none⟩) big big) (W.alloc (.cells (madeCells #[.int .i64 0] big) 3)) := fun W => by
    rw [hbig]
    exact run_make_row' (P := Tryd.prog) 22 3 (.int .i64 0) 8 Tryd.underlying22 Tryd.infoInt rfl .i64 .i64 65537 (by omega) (by omega) W
  have HBIG := Lib.hid (show 65536 < big by omega)
  have HN := Lib.hid (fun w' => show Calls Tryd.prog 12 #[.int .i64 1, .int .i64 1, .slice none 0 0, .slice none 0 0] w' (Encoded w' 1 [] []) from menc_ok w' none none 0 0 0 1 1 [] [] ⟨rfl, fun h => absurd h (by omega)⟩ ⟨rfl, fun h => absurd h (by omega)⟩ (by decide) (by decide) (by decide) (by decide) (by decide) (by decide) (by decide))
  clear hbig
  have rz : ∀ w' : World, Reads (w'.alloc (.cells #[.int .i64 0] 3)) (some ⟨w'.heap.size, 0, none⟩) 1 (ints [0]) := fun w' => reads_made w' [0]
  by_cases hr : ¬ (1 ≤ sy ∧ sy ≤ 256) ∨ ¬ (1 ≤ cx ∧ cx ≤ 64)
  · have HE := Lib.hid (fun w' : World => show Calls Tryd.prog 12 #[.int .i64 sy, .int .i64 cx, .slice (some ⟨w'.heap.size, 0, none⟩) 1 1, .slice none 0 0] (w'.alloc (.cells #[.int .i64 0] 3)) (fun e w'' => e = .returned (.tuple #[.slice none 0 0, .int .i64 2]) ∧ Below (w'.alloc (.cells #[.int .i64 0] 3)).heap.size (w'.alloc (.cells #[.int .i64 0] 3)) w'') from menc_range _ sy cx _ _ hr)
    clear rz
    have hc : sy < 1 ∨ (1 ≤ sy ∧ 256 < sy) ∨ (1 ≤ sy ∧ sy ≤ 256 ∧ cx < 1) ∨ (1 ≤ sy ∧ sy ≤ 256 ∧ 1 ≤ cx ∧ 64 < cx) := by omega
    clear hr
    rcases hc with h1 | ⟨h1, h2⟩ | ⟨h1, h2, h3⟩ | ⟨h1, h2, h3, h4⟩
    all_goals
      go_enter Tryd.func9, Tryd.ntmps9
      go_wp2_with fail
      refine (awake5_true w).mono ?_
      rintro e w1 ⟨rfl, b1⟩
      have B1 := Lib.hid b1
      clear b1
      have KE := Lib.hid (HE.out w1)
      have M1 := Lib.hid (B1.out.trans ((mk_below w1 (.cells #[.int .i64 0] 3)).mono B1.out.size))
      go_wp2_with fail
      refine KE.out.mono ?_
      rintro e w2 ⟨rfl, b2⟩
      have B2 := Lib.hid (M1.out.trans (b2.mono M1.out.size))
      clear b2
      go_wp2_with fail
      refine (HN.out w2).mono ?_
      rintro e w3 ⟨b, v, rfl, hb, ow, b3⟩
      obtain rfl := none_bytes hb
      obtain ⟨q, cap, rest, rfl, hrow, hcap, _, _, _⟩ := own_block ow (by decide)
      have RB : Reads w3 (some ⟨q, 0, none⟩) 1 (bts [0]) := by
        obtain ⟨A, c, e, _, r⟩ := Reads.of_own ow
        simp only [Value.slice.injEq] at e
        rw [e.1]
        exact r
      have B3 := Lib.hid (B2.out.trans (b3.mono B2.out.size))
      have HB := Lib.hid hb
      have KD := Lib.hid (show Calls Tryd.prog 16 #[.slice (some ⟨q, 0, none⟩) 1 cap, .int .i64 1, .int .i64 1, .slice none 0 0] w3 (Decoded5 w3 1 0 [] [0]) from mdec_ok w3 (some ⟨q, 0, none⟩) none 1 cap 0 1 1 0 [0] [] RB (by unfold Dig; decide) hcap ⟨rfl, fun h => absurd h (by omega)⟩ (by decide) (by decide) (by decide) (by decide) (by decide) (by decide))
      have C3 := Lib.hid (hrow.cell 0 (by decide))
      clear hb ow b3 hrow hcap RB
      go_wp2_with fail
      refine KD.out.mono ?_
      rintro e w4 ⟨b4, ⟨ss, A4, c4, rfl, o1, _, _, _⟩ | ⟨rfl, o1⟩⟩
      · have B4 := Lib.hid (B3.out.trans (b4.mono B3.out.size))
        have C4 := Lib.hid (show w4.cell? ⟨q, 0, none⟩ = some (.int .u8 0) from (b4.cell (World.block_lt_of_cell? _ _ C3.out)).trans C3.out)
        clear b4 o1
        have KD2 := Lib.hid (show Calls Tryd.prog 16 #[.slice none 0 0, .int .i64 1, .int .i64 1, .slice none 0 0] w4 (Decoded5 w4 1 0 [] []) from mdec_ok w4 none none 0 0 0 1 1 0 [] [] ⟨rfl, fun h => absurd h (by omega)⟩ (by unfold Dig; decide) (Nat.le_refl _) ⟨rfl, fun h => absurd h (by omega)⟩ (by decide) (by decide) (by decide) (by decide) (by decide) (by decide))
        go_wp2_with fail
        refine KD2.out.mono ?_
        rintro e w5 ⟨b5, ⟨ss, A5, c5, rfl, _, _, _, o4⟩ | ⟨rfl, o1⟩⟩
        · exact absurd o4.pos (by simp)
        · have B5 := Lib.hid (B4.out.trans (b5.mono B4.out.size))
          have C5 := Lib.hid (show w5.cell? ⟨q, 0, none⟩ = some (.int .u8 0) from (b5.cell (World.block_lt_of_cell? _ _ C4.out)).trans C4.out)
          clear b5 o1
          have m1 := mk_below w5 (.cells #[.int .u8 0] 5)
          have m2 := mk_below (w5.alloc (.cells #[.int .u8 0] 5)) (.cells #[.int .i64 1] 3)
          have hs5 : (w5.alloc (.cells #[.int .u8 0] 5)).heap.size = w5.heap.size + 1 := by simp
          have r6 : Reads ((w5.alloc (.cells #[.int .u8 0] 5)).alloc (.cells #[.int .i64 1] 3)) (some ⟨w5.heap.size + 1, 0, none⟩) 1 (ints [1]) := by
            have := reads_made (w5.alloc (.cells #[.int .u8 0] 5)) [1]
            rw [hs5] at this
            exact this
          have KD3 := Lib.hid (mdec_ctx _ (some ⟨w5.heap.size + 1, 0, none⟩) 1 1 1 1 (.slice (some ⟨w5.heap.size, 0, none⟩) 1 1) [1] r6 (by decide) (by decide) (by decide) (by decide))
          have m3 : Below w5.heap.size w5 ((w5.alloc (.cells #[.int .u8 0] 5)).alloc (.cells #[.int .i64 1] 3)) := m1.trans (m2.mono (by simp))
          have B6 := Lib.hid (B5.out.trans (m3.mono B5.out.size))
          have C6 := Lib.hid (show ((w5.alloc (.cells #[.int .u8 0] 5)).alloc (.cells #[.int .i64 1] 3)).cell? ⟨q, 0, none⟩ = some (.int .u8 0) from (m3.cell (World.block_lt_of_cell? _ _ C5.out)).trans C5.out)
          clear m1 m2 m3 hs5 r6
          go_wp2_with fail
          refine KD3.out.mono ?_
          rintro e w6 ⟨rfl, b6⟩
          have B7 := Lib.hid (B6.out.trans (b6.mono B6.out.size))
          have C7 := Lib.hid (show w6.cell? ⟨q, 0, none⟩ = some (.int .u8 0) from (b6.cell (World.block_lt_of_cell? _ _ C6.out)).trans C6.out)
          clear b6
          have n1 := mk_below w6 (.cells #[.int .u8 0] 5)
          have n2 := mk_below (w6.alloc (.cells #[.int .u8 0] 5)) (.cells (madeCells #[.int .i64 0] big) 3)
          have n3 : Below w6.heap.size w6 ((w6.alloc (.cells #[.int .u8 0] 5)).alloc (.cells (madeCells #[.int .i64 0] big) 3)) := n1.trans (n2.mono (by simp))
          have B8 := Lib.hid (B7.out.trans (n3.mono B7.out.size))
          have C8 := Lib.hid (show ((w6.alloc (.cells #[.int .u8 0] 5)).alloc (.cells (madeCells #[.int .i64 0] big) 3)).cell? ⟨q, 0, none⟩ = some (.int .u8 0) from (n3.cell (World.block_lt_of_cell? _ _ C7.out)).trans C7.out)
          have KD4 := Lib.hid (mdec_full ((w6.alloc (.cells #[.int .u8 0] 5)).alloc (.cells (madeCells #[.int .i64 0] big) 3)) (some ⟨w6.heap.size + 1, 0, none⟩) big big 2 1 (.slice (some ⟨w6.heap.size, 0, none⟩) 1 1) (by decide) (by decide) HBIG.out)
          clear n1 n2 n3
          go_wp2_with fail
          refine KD4.out.mono ?_
          rintro e w7 ⟨rfl, b7⟩
          have B9 := Lib.hid (B8.out.trans (b7.mono B8.out.size))
          have c9 := (b7.cell (World.block_lt_of_cell? _ _ C8.out)).trans C8.out
          clear b7 hmk
          go_wp2
          go_ret
          exact ⟨rfl, B9.out⟩
      · exact absurd HB.out (o1 [] rfl (by decide))
  · have HE := Lib.hid (fun w' : World => show Calls Tryd.prog 12 #[.int .i64 sy, .int .i64 cx, .slice (some ⟨w'.heap.size, 0, none⟩) 1 1, .slice none 0 0] (w'.alloc (.cells #[.int .i64 0] 3)) (fun e w'' => e = .returned (.tuple #[.slice none 0 0, .int .i64 1]) ∧ Below (w'.alloc (.cells #[.int .i64 0] 3)).heap.size (w'.alloc (.cells #[.int .i64 0] 3)) w'') from by
      have hf : fitsOf sy cx [0] [] = 1 := by unfold fitsOf; rw [if_neg hr]; rfl
      have := menc_no (w'.alloc (.cells #[.int .i64 0] 3)) (some ⟨w'.heap.size, 0, none⟩) none 1 0 1 0 sy cx [0] [] (rz w') ⟨rfl, fun h => absurd h (by omega)⟩ (by rw [hf]; decide)
      rw [hf] at this
      exact this)
    obtain ⟨h1, h2⟩ : 1 ≤ sy ∧ sy ≤ 256 := by omega
    obtain ⟨h3, h4⟩ : 1 ≤ cx ∧ cx ≤ 64 := by omega
    clear hr rz
    go_enter Tryd.func9, Tryd.ntmps9
    go_wp2_with fail
    refine (awake5_true w).mono ?_
    rintro e w1 ⟨rfl, b1⟩
    have B1 := Lib.hid b1
    clear b1
    have KE := Lib.hid (HE.out w1)
    have M1 := Lib.hid (B1.out.trans ((mk_below w1 (.cells #[.int .i64 0] 3)).mono B1.out.size))
    go_wp2_with fail
    refine KE.out.mono ?_
    rintro e w2 ⟨rfl, b2⟩
    have B2 := Lib.hid (M1.out.trans (b2.mono M1.out.size))
    clear b2
    go_wp2_with fail
    refine (HN.out w2).mono ?_
    rintro e w3 ⟨b, v, rfl, hb, ow, b3⟩
    obtain rfl := none_bytes hb
    obtain ⟨q, cap, rest, rfl, hrow, hcap, _, _, _⟩ := own_block ow (by decide)
    have RB : Reads w3 (some ⟨q, 0, none⟩) 1 (bts [0]) := by
      obtain ⟨A, c, e, _, r⟩ := Reads.of_own ow
      simp only [Value.slice.injEq] at e
      rw [e.1]
      exact r
    have B3 := Lib.hid (B2.out.trans (b3.mono B2.out.size))
    have HB := Lib.hid hb
    have KD := Lib.hid (show Calls Tryd.prog 16 #[.slice (some ⟨q, 0, none⟩) 1 cap, .int .i64 1, .int .i64 1, .slice none 0 0] w3 (Decoded5 w3 1 0 [] [0]) from mdec_ok w3 (some ⟨q, 0, none⟩) none 1 cap 0 1 1 0 [0] [] RB (by unfold Dig; decide) hcap ⟨rfl, fun h => absurd h (by omega)⟩ (by decide) (by decide) (by decide) (by decide) (by decide) (by decide))
    have C3 := Lib.hid (hrow.cell 0 (by decide))
    clear hb ow b3 hrow hcap RB
    go_wp2_with fail
    refine KD.out.mono ?_
    rintro e w4 ⟨b4, ⟨ss, A4, c4, rfl, o1, _, _, _⟩ | ⟨rfl, o1⟩⟩
    · have B4 := Lib.hid (B3.out.trans (b4.mono B3.out.size))
      have C4 := Lib.hid (show w4.cell? ⟨q, 0, none⟩ = some (.int .u8 0) from (b4.cell (World.block_lt_of_cell? _ _ C3.out)).trans C3.out)
      clear b4 o1
      have KD2 := Lib.hid (show Calls Tryd.prog 16 #[.slice none 0 0, .int .i64 1, .int .i64 1, .slice none 0 0] w4 (Decoded5 w4 1 0 [] []) from mdec_ok w4 none none 0 0 0 1 1 0 [] [] ⟨rfl, fun h => absurd h (by omega)⟩ (by unfold Dig; decide) (Nat.le_refl _) ⟨rfl, fun h => absurd h (by omega)⟩ (by decide) (by decide) (by decide) (by decide) (by decide) (by decide))
      go_wp2_with fail
      refine KD2.out.mono ?_
      rintro e w5 ⟨b5, ⟨ss, A5, c5, rfl, _, _, _, o4⟩ | ⟨rfl, o1⟩⟩
      · exact absurd o4.pos (by simp)
      · have B5 := Lib.hid (B4.out.trans (b5.mono B4.out.size))
        have C5 := Lib.hid (show w5.cell? ⟨q, 0, none⟩ = some (.int .u8 0) from (b5.cell (World.block_lt_of_cell? _ _ C4.out)).trans C4.out)
        clear b5 o1
        have m1 := mk_below w5 (.cells #[.int .u8 0] 5)
        have m2 := mk_below (w5.alloc (.cells #[.int .u8 0] 5)) (.cells #[.int .i64 1] 3)
        have hs5 : (w5.alloc (.cells #[.int .u8 0] 5)).heap.size = w5.heap.size + 1 := by simp
        have r6 : Reads ((w5.alloc (.cells #[.int .u8 0] 5)).alloc (.cells #[.int .i64 1] 3)) (some ⟨w5.heap.size + 1, 0, none⟩) 1 (ints [1]) := by
          have := reads_made (w5.alloc (.cells #[.int .u8 0] 5)) [1]
          rw [hs5] at this
          exact this
        have KD3 := Lib.hid (mdec_ctx _ (some ⟨w5.heap.size + 1, 0, none⟩) 1 1 1 1 (.slice (some ⟨w5.heap.size, 0, none⟩) 1 1) [1] r6 (by decide) (by decide) (by decide) (by decide))
        have m3 : Below w5.heap.size w5 ((w5.alloc (.cells #[.int .u8 0] 5)).alloc (.cells #[.int .i64 1] 3)) := m1.trans (m2.mono (by simp))
        have B6 := Lib.hid (B5.out.trans (m3.mono B5.out.size))
        have C6 := Lib.hid (show ((w5.alloc (.cells #[.int .u8 0] 5)).alloc (.cells #[.int .i64 1] 3)).cell? ⟨q, 0, none⟩ = some (.int .u8 0) from (m3.cell (World.block_lt_of_cell? _ _ C5.out)).trans C5.out)
        clear m1 m2 m3 hs5 r6
        go_wp2_with fail
        refine KD3.out.mono ?_
        rintro e w6 ⟨rfl, b6⟩
        have B7 := Lib.hid (B6.out.trans (b6.mono B6.out.size))
        have C7 := Lib.hid (show w6.cell? ⟨q, 0, none⟩ = some (.int .u8 0) from (b6.cell (World.block_lt_of_cell? _ _ C6.out)).trans C6.out)
        clear b6
        have n1 := mk_below w6 (.cells #[.int .u8 0] 5)
        have n2 := mk_below (w6.alloc (.cells #[.int .u8 0] 5)) (.cells (madeCells #[.int .i64 0] big) 3)
        have n3 : Below w6.heap.size w6 ((w6.alloc (.cells #[.int .u8 0] 5)).alloc (.cells (madeCells #[.int .i64 0] big) 3)) := n1.trans (n2.mono (by simp))
        have B8 := Lib.hid (B7.out.trans (n3.mono B7.out.size))
        have C8 := Lib.hid (show ((w6.alloc (.cells #[.int .u8 0] 5)).alloc (.cells (madeCells #[.int .i64 0] big) 3)).cell? ⟨q, 0, none⟩ = some (.int .u8 0) from (n3.cell (World.block_lt_of_cell? _ _ C7.out)).trans C7.out)
        have KD4 := Lib.hid (mdec_full ((w6.alloc (.cells #[.int .u8 0] 5)).alloc (.cells (madeCells #[.int .i64 0] big) 3)) (some ⟨w6.heap.size + 1, 0, none⟩) big big 2 1 (.slice (some ⟨w6.heap.size, 0, none⟩) 1 1) (by decide) (by decide) HBIG.out)
        clear n1 n2 n3
        go_wp2_with fail
        refine KD4.out.mono ?_
        rintro e w7 ⟨rfl, b7⟩
        have B9 := Lib.hid (B8.out.trans (b7.mono B8.out.size))
        have c9 := (b7.cell (World.block_lt_of_cell? _ _ C8.out)).trans C8.out
        clear b7 hmk
        go_wp2
        go_ret
        exact ⟨rfl, B9.out⟩
    · exact absurd HB.out (o1 [] rfl (by decide))

set_option maxRecDepth 100000 in
theorem lifted (os : Os) (started : os.Started) (H : Type) (enc : TypeId × Value → H) :
    ReturnsInHanded {} Tryd.checked os 9 .any (fun w args => (Rows.modelNoneSpec.pre enc Tryd.prog Tryd.f9 Rows.modelNoneRow.domain false w args ∧ laidMetH Tryd.prog Rows.modelNoneRow.laid w) ∧ sizedMet enc Tryd.prog Tryd.f9 (OpenSpec.ofChange Rows.modelNoneSpec) false w args)
      (Rows.modelNoneSpec.post enc Tryd.prog Tryd.f9 false true false false) := by
  refine returnsInHanded_of_change_and (C := Tryd.checked) (X := fun w _ => laidMetH Tryd.prog Rows.modelNoneRow.laid w) (fun _ _ _ hh h => h.of_heap hh) own_knob started (by kernel_rfl) Tryd.func9
    (ChangeSpec.witness_shaped (enc := enc) (C := Tryd.checked) (os := os) (X := fun w _ => laidMetH Tryd.prog Rows.modelNoneRow.laid w) false (World.laidAll Tryd.prog os Rows.modelNoneRow.laid) #[.int .i64 0, .int .i64 0] 8 (World.laidAll_os _ _ _)
      (World.shaped_of_ZipB (by kernel_rfl) (by kernel_rfl)) (by kernel_rfl) (by kernel_rfl) (by kernel_rfl)
      (by rw [MakeChecks.laidMetH_plain _ _ _ (by kernel_rfl)]; exact laidMet_laidAll _ (by kernel_rfl) (by kernel_rfl))) ?_
  intro W base args ds gs before hval0 hW hc _ _ _
  have hval : ∀ (j : Nat) t v, Tryd.f9.params[j]? = some t → args[j]? = some v → Value.okWide Tryd.prog W .any base t v := hval0
  have hW' := hW
  obtain ⟨p, q, hA0, hV, rfl, _, _⟩ := hW
  have hA : DataW.TrodAll enc Tryd.prog W 0 (fun _ => true) true Tryd.f9.params.toList args.toList ds p := hA0
  rw [Tryd.params9] at hA hval
  obtain ⟨v0, vs0, d0, ds0, p0, q0, hargs, rfl, rfl, h0, r0⟩ := trodAll_cons hA
  obtain ⟨v1, vs1, d1, ds1, p1, q1, rfl, rfl, rfl, h1, r1⟩ := trodAll_cons r0
  obtain ⟨rfl, rfl, rfl⟩ := trodAll_nil r1
  obtain rfl : args = #[v0, v1] := by cases args; simp_all
  obtain ⟨rfl, rfl⟩ := trodVars_none hV
  obtain ⟨a0, rfl, rfl, rfl, w0⟩ := open_int Tryd.underlying3 (hval 0 3 v0 rfl rfl) h0
  have bd0 := bounds_i64 w0
  obtain ⟨a1, rfl, rfl, rfl, w1⟩ := open_int Tryd.underlying3 (hval 1 3 v1 rfl rfl) h1
  have bd1 := bounds_i64 w1
  clear hA0 hval0
  refine (walk a0 a1 W (by omega) (by omega) (by omega) (by omega)).mono fun e W' ⟨he, bel⟩ => ?_
  subst he
  exact ⟨_, rfl, _, _, _, [], _, [], hW', trodAll_mk1 (shut_bool Tryd.underlying4 _), (trodAll_cons_mk (shut_int Tryd.underlying3 w0) (trodAll_cons_mk (shut_int Tryd.underlying3 w1) trodAll_mk0)), rfl, bel.frame _, fun h => by cases h⟩

theorem over : Rows.ModelNoneSaid :=
  OpenClaim.holds_of_wide 9 Tryd.f9 rfl rfl rfl rfl rfl rfl rfl ⟨rfl, rfl, rfl, rfl, rfl⟩ rfl rfl rfl rfl rfl (by kernel_rfl) Tryd.func9 (by kernel_rfl)
    (of_decide_eq_true (by kernel_rfl)) (by unfold Func.isWrapper; first | (rw [if_pos (by decide +kernel)]; kernel_rfl) | (rw [if_neg (by decide +kernel)]; exact ⟨rfl, rfl⟩))
    (fun os started H enc _ => lifted os started H enc)

theorem plain (f : FuncId) (fn : Func) (hf : Tryd.pinned.checked.prog.funcNamed "gypsum/gypsumlaw05.ModelNone" = some f) (hfn : Tryd.pinned.checked.prog.funcs[f]? = some fn) :
    false = Tryd.pinned.checked.prog.looks [] ∧ ∀ (j : Nat) t, fn.params[j]? = some t → Tryd.pinned.checked.prog.wantsStandIn t = false := by
  obtain rfl : f = 9 := Option.some.inj ((show Tryd.prog.funcNamed "gypsum/gypsumlaw05.ModelNone" = some 9 by kernel_rfl).symm.trans hf) |>.symm
  obtain rfl : fn = Tryd.f9 := (Option.some.inj (Tryd.func9.symm.trans hfn)).symm
  refine ⟨by kernel_rfl, fun j t ht => ?_⟩
  rw [Tryd.params9] at ht
  have hm : t ∈ [3, 3] := by simpa using Array.mem_of_getElem? ht
  have hall : ([3, 3].all fun u => !Tryd.prog.wantsStandIn u) = true := by kernel_rfl
  exact (show Tryd.prog.wantsStandIn t = false by simpa using List.all_eq_true.1 hall t hm)

theorem proved : Rows.ModelNoneCardSaid :=
  Claim7.holds_tied_plain_at .later [] _ _ _ _ over (fun _ h => by cases h) (by kernel_rfl) (fun _ h => by cases h) modelNone_row_tie rfl ⟨rfl, rfl⟩ (by kernel_rfl) rfl plain (by kernel_rfl)
end Go.Proofs.YtjbfgajognnmiaaDoor.modelNone
