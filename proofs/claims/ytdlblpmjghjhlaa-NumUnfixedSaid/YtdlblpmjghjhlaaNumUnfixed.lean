/- NumUnfixed: of any bytes (at most 12), any count of bits and any bound, what Unfixed reads, or why there is nothing, is the document's. No condition. -/
import Derived.Test.YtdlblpmjghjhlaaAwakeTwo
import Derived.Test.YtdlblpmjghjhlaaArgsB
namespace Go.Proofs.Ytdlblpmjghjhlaa.numUnfixed
open Go.ChangeShapes Go.WideShapes Go.ChangeAt Go.RowKit

set_option maxHeartbeats 2000000 in
set_option maxRecDepth 100000 in
theorem many (w : World) (A : Option Addr) (N c : Nat) (l b : Int) (h : 12 < N) :
    Calls Try.prog 6 #[.slice A N c, .int .u8 l, .int .i64 b] w fun e w' => e = .returned (.bool true) ∧ Below w.heap.size w w' := by
  have t0 : (12 : Int) < N := by omega
  go_enter Try.func6, Try.ntmps6
  go_wp2_with fail
  refine (awake_true w).mono ?_
  rintro e w1 ⟨rfl, b1⟩
  have B1 := Lib.hid b1
  clear b1
  go_wp2
  go_ret
  exact ⟨rfl, B1.out⟩

set_option maxHeartbeats 2000000 in
set_option maxRecDepth 100000 in
theorem range (w : World) (A : Option Addr) (N c l : Nat) (xs : List Nat) (bs : List Bool) (b : Int) (hbs : bs = unpack xs (8 * N - l % 8)) (hx : ∀ x ∈ xs, x < 256) (hN : N ≤ 12) (hl : l < 256) (h : Reads w A N (u8s xs)) (hb0 : -9223372036854775808 ≤ b) (hb1 : b ≤ 9223372036854775807) (h1 : b < 1) :
    Calls Try.prog 6 #[.slice A N c, .int .u8 (l : Int), .int .i64 b] w fun e w' => e = .returned (.bool true) ∧ Below w.heap.size w w' := by
  have t0 : (N : Int) ≤ 12 := by omega
  have hlen : bs.length ≤ 900 := by rw [hbs, length_unpack]; omega
  have hsz := size_str bs
  have hd := wide_le b (by omega)
  have KW := Lib.hid (fun w => rwidth_any w b (by omega) (by omega))
  have HBS := Lib.hid hbs
  have HX := Lib.hid hx
  have HR := Lib.hid h
  have HL := Lib.hid hlen
  clear hbs hx h
  obtain ⟨m, hm⟩ : ∃ m, bs.length = m := ⟨_, rfl⟩
  have HM := Lib.hid hm
  have CG : ∀ (w : World) (r p : Nat), RIs w r p bs 0 → Calls Try.prog 26 #[.pointer (some ⟨r, 0, none⟩), .int .i64 b] w fun e w' => e = .returned (.tuple #[.int .i64 0, .int .i64 2]) ∧ w.grownBy w' (some r) :=
    fun w r p _ => (unfixed_range w r b h1).mono fun e w' ⟨he, hw⟩ => ⟨he, by subst hw; exact grown_refl _ _⟩
  have KG := Lib.hid CG
  rw [hm] at hsz hlen
  clear hm CG
  go_enter Try.func6, Try.ntmps6
  go_wp2_with fail
  refine (awake_true w).mono ?_
  rintro e w1 ⟨rfl, b1⟩
  have B1 := Lib.hid b1
  clear b1
  go_wp2_with fail
  refine (text_any w1 A N c l xs HX.out (by omega) hl (HR.out.below B1.out)).mono ?_
  rintro e w2 ⟨rfl, rfl⟩
  rw [← HBS.out]
  go_wp2_with fail
  refine (reader_any w1 bs HL.out).mono ?_
  rintro e w2 ⟨r, p, rfl, h2, b2, g2⟩
  have R2 := Lib.hid h2
  have B2 := Lib.hid (B1.out.trans (b2.mono B1.out.size))
  have G2 := Lib.hid (Nat.le_trans B1.out.size g2)
  clear h2 b2 g2
  go_wp2_with fail
  refine (KG.out w2 r p R2.out).mono ?_
  rintro e w3 ⟨rfl, g3⟩
  have B3 := Lib.hid (B2.out.trans (grown_below g3 B2.out.size G2.out))
  clear g3
  go_wp2_with fail
  refine (KW.out w3).mono ?_
  rintro e w4 ⟨rfl, rfl⟩
  go_wp2
  go_ret
  exact ⟨rfl, B3.out⟩

set_option maxHeartbeats 2000000 in
set_option maxRecDepth 100000 in
theorem short (w : World) (A : Option Addr) (N c l : Nat) (xs : List Nat) (bs : List Bool) (b : Int) (hbs : bs = unpack xs (8 * N - l % 8)) (hx : ∀ x ∈ xs, x < 256) (hN : N ≤ 12) (hl : l < 256) (h : Reads w A N (u8s xs)) (hb0 : -9223372036854775808 ≤ b) (hb1 : b ≤ 9223372036854775807) (h1 : 1 ≤ b) (hk : bs.length < wide b) :
    Calls Try.prog 6 #[.slice A N c, .int .u8 (l : Int), .int .i64 b] w fun e w' => e = .returned (.bool true) ∧ Below w.heap.size w w' := by
  have t0 : (N : Int) ≤ 12 := by omega
  have hlen : bs.length ≤ 900 := by rw [hbs, length_unpack]; omega
  have hsz := size_str bs
  have hd := wide_le b (by omega)
  have KW := Lib.hid (fun w => rwidth_any w b (by omega) (by omega))
  have HBS := Lib.hid hbs
  have HX := Lib.hid hx
  have HR := Lib.hid h
  have HL := Lib.hid hlen
  clear hbs hx h
  obtain ⟨m, hm⟩ : ∃ m, bs.length = m := ⟨_, rfl⟩
  have HM := Lib.hid hm
  have CG : ∀ (w : World) (r p : Nat), RIs w r p bs 0 → Calls Try.prog 26 #[.pointer (some ⟨r, 0, none⟩), .int .i64 b] w fun e w' => e = .returned (.tuple #[.int .i64 0, .int .i64 4]) ∧ w.grownBy w' (some r) :=
    fun w r p hr => (unfixed_end w r p bs 0 b hr h1 (by omega) (by omega)).mono fun e w' ⟨he, hw⟩ => ⟨he, grown_same (grown_refl _ _) hw⟩
  have t1 : (m : Int) < wide b := by omega
  have KG := Lib.hid CG
  rw [hm] at hsz hlen
  clear hm CG
  go_enter Try.func6, Try.ntmps6
  go_wp2_with fail
  refine (awake_true w).mono ?_
  rintro e w1 ⟨rfl, b1⟩
  have B1 := Lib.hid b1
  clear b1
  go_wp2_with fail
  refine (text_any w1 A N c l xs HX.out (by omega) hl (HR.out.below B1.out)).mono ?_
  rintro e w2 ⟨rfl, rfl⟩
  rw [← HBS.out]
  go_wp2_with fail
  refine (reader_any w1 bs HL.out).mono ?_
  rintro e w2 ⟨r, p, rfl, h2, b2, g2⟩
  have R2 := Lib.hid h2
  have B2 := Lib.hid (B1.out.trans (b2.mono B1.out.size))
  have G2 := Lib.hid (Nat.le_trans B1.out.size g2)
  clear h2 b2 g2
  go_wp2_with fail
  refine (KG.out w2 r p R2.out).mono ?_
  rintro e w3 ⟨rfl, g3⟩
  have B3 := Lib.hid (B2.out.trans (grown_below g3 B2.out.size G2.out))
  clear g3
  go_wp2_with fail
  refine (KW.out w3).mono ?_
  rintro e w4 ⟨rfl, rfl⟩
  go_wp2
  go_ret
  exact ⟨rfl, B3.out⟩

set_option maxHeartbeats 2000000 in
set_option maxRecDepth 100000 in
theorem form (w : World) (A : Option Addr) (N c l : Nat) (xs : List Nat) (bs : List Bool) (b : Int) (hbs : bs = unpack xs (8 * N - l % 8)) (hx : ∀ x ∈ xs, x < 256) (hN : N ≤ 12) (hl : l < 256) (h : Reads w A N (u8s xs)) (hb0 : -9223372036854775808 ≤ b) (hb1 : b ≤ 9223372036854775807) (h1 : 1 ≤ b) (hk : wide b ≤ bs.length) (hv : b ≤ (num (bs.take (wide b)) : Nat)) :
    Calls Try.prog 6 #[.slice A N c, .int .u8 (l : Int), .int .i64 b] w fun e w' => e = .returned (.bool true) ∧ Below w.heap.size w w' := by
  have t0 : (N : Int) ≤ 12 := by omega
  have hlen : bs.length ≤ 900 := by rw [hbs, length_unpack]; omega
  have hsz := size_str bs
  have hd := wide_le b (by omega)
  have KW := Lib.hid (fun w => rwidth_any w b (by omega) (by omega))
  have HBS := Lib.hid hbs
  have HX := Lib.hid hx
  have HR := Lib.hid h
  have HL := Lib.hid hlen
  clear hbs hx h
  obtain ⟨m, hm⟩ : ∃ m, bs.length = m := ⟨_, rfl⟩
  have HM := Lib.hid hm
  have CG : ∀ (w : World) (r p : Nat), RIs w r p bs 0 → Calls Try.prog 26 #[.pointer (some ⟨r, 0, none⟩), .int .i64 b] w fun e w' => e = .returned (.tuple #[.int .i64 0, .int .i64 3]) ∧ w.grownBy w' (some r) :=
    fun w r p hr => unfixed_form w r p bs 0 b hr h1 (by omega) (by omega) (by rw [List.drop_zero]; exact hv)
  have t1 : (wide b : Int) ≤ m := by omega
  have CV := fun w => value_any w (bs.take (wide b)) (by rw [List.length_take]; omega)
  have HC := Lib.hid (show (str bs).extract 0 (wide b) = str (bs.take (wide b)) by rw [str_slice]; rfl)
  generalize num (bs.take (wide b)) = y at *
  have KV := Lib.hid CV
  clear CV
  have KG := Lib.hid CG
  rw [hm] at hsz hlen
  clear hm CG
  go_enter Try.func6, Try.ntmps6
  go_wp2_with fail
  refine (awake_true w).mono ?_
  rintro e w1 ⟨rfl, b1⟩
  have B1 := Lib.hid b1
  clear b1
  go_wp2_with fail
  refine (text_any w1 A N c l xs HX.out (by omega) hl (HR.out.below B1.out)).mono ?_
  rintro e w2 ⟨rfl, rfl⟩
  rw [← HBS.out]
  go_wp2_with fail
  refine (reader_any w1 bs HL.out).mono ?_
  rintro e w2 ⟨r, p, rfl, h2, b2, g2⟩
  have R2 := Lib.hid h2
  have B2 := Lib.hid (B1.out.trans (b2.mono B1.out.size))
  have G2 := Lib.hid (Nat.le_trans B1.out.size g2)
  clear h2 b2 g2
  go_wp2_with fail
  refine (KG.out w2 r p R2.out).mono ?_
  rintro e w3 ⟨rfl, g3⟩
  have B3 := Lib.hid (B2.out.trans (grown_below g3 B2.out.size G2.out))
  clear g3
  go_wp2_with fail
  refine (KW.out w3).mono ?_
  rintro e w4 ⟨rfl, rfl⟩
  go_wp2_with fail
  rw [HC.out]
  refine (KV.out w3).mono ?_
  rintro e w4 ⟨rfl, rfl⟩
  go_wp2
  go_ret
  exact ⟨rfl, B3.out⟩

set_option maxHeartbeats 2000000 in
set_option maxRecDepth 100000 in
theorem taken (w : World) (A : Option Addr) (N c l : Nat) (xs : List Nat) (bs : List Bool) (b : Int) (hbs : bs = unpack xs (8 * N - l % 8)) (hx : ∀ x ∈ xs, x < 256) (hN : N ≤ 12) (hl : l < 256) (h : Reads w A N (u8s xs)) (hb0 : -9223372036854775808 ≤ b) (hb1 : b ≤ 9223372036854775807) (h1 : 1 ≤ b) (hk : wide b ≤ bs.length) (hv : ((num (bs.take (wide b)) : Nat) : Int) < b) :
    Calls Try.prog 6 #[.slice A N c, .int .u8 (l : Int), .int .i64 b] w fun e w' => e = .returned (.bool true) ∧ Below w.heap.size w w' := by
  have t0 : (N : Int) ≤ 12 := by omega
  have hlen : bs.length ≤ 900 := by rw [hbs, length_unpack]; omega
  have hsz := size_str bs
  have hd := wide_le b (by omega)
  have KW := Lib.hid (fun w => rwidth_any w b (by omega) (by omega))
  have HBS := Lib.hid hbs
  have HX := Lib.hid hx
  have HR := Lib.hid h
  have HL := Lib.hid hlen
  clear hbs hx h
  obtain ⟨m, hm⟩ : ∃ m, bs.length = m := ⟨_, rfl⟩
  have HM := Lib.hid hm
  have CG : ∀ (w : World) (r p : Nat), RIs w r p bs 0 → Calls Try.prog 26 #[.pointer (some ⟨r, 0, none⟩), .int .i64 b] w fun e w' => e = .returned (.tuple #[.int .i64 (num (bs.take (wide b)) : Nat), .int .i64 0]) ∧ RIs w' r p bs (wide b) ∧ w.grownBy w' (some r) :=
    fun w r p hr => by
      have := unfixed_ok w r p bs 0 b hr h1 (by omega) (by omega) (by rw [List.drop_zero]; exact hv)
      rwa [List.drop_zero, Nat.zero_add] at this
  have t1 : (wide b : Int) ≤ m := by omega
  have CV := fun w => value_any w (bs.take (wide b)) (by rw [List.length_take]; omega)
  have HC := Lib.hid (show (str bs).extract 0 (wide b) = str (bs.take (wide b)) by rw [str_slice]; rfl)
  generalize num (bs.take (wide b)) = y at *
  have KV := Lib.hid CV
  clear CV
  have KG := Lib.hid CG
  rw [hm] at hsz hlen
  clear hm CG
  go_enter Try.func6, Try.ntmps6
  go_wp2_with fail
  refine (awake_true w).mono ?_
  rintro e w1 ⟨rfl, b1⟩
  have B1 := Lib.hid b1
  clear b1
  go_wp2_with fail
  refine (text_any w1 A N c l xs HX.out (by omega) hl (HR.out.below B1.out)).mono ?_
  rintro e w2 ⟨rfl, rfl⟩
  rw [← HBS.out]
  go_wp2_with fail
  refine (reader_any w1 bs HL.out).mono ?_
  rintro e w2 ⟨r, p, rfl, h2, b2, g2⟩
  have R2 := Lib.hid h2
  have B2 := Lib.hid (B1.out.trans (b2.mono B1.out.size))
  have G2 := Lib.hid (Nat.le_trans B1.out.size g2)
  clear h2 b2 g2
  go_wp2_with fail
  refine (KG.out w2 r p R2.out).mono ?_
  rintro e w3 ⟨rfl, h3, g3⟩
  have B3 := Lib.hid (B2.out.trans (grown_below g3 B2.out.size G2.out))
  have R3 := Lib.hid h3
  clear g3 h3
  go_wp2_with fail
  refine (KW.out w3).mono ?_
  rintro e w4 ⟨rfl, rfl⟩
  go_wp2_with fail
  rw [HC.out]
  refine (KV.out w3).mono ?_
  rintro e w4 ⟨rfl, rfl⟩
  go_wp2_with fail
  rw [HC.out]
  refine (KV.out w3).mono ?_
  rintro e w4 ⟨rfl, rfl⟩
  go_wp2_with fail
  refine (left_any w3 r p bs (wide b) R3.out).mono ?_
  rintro e w4 ⟨rfl, s4⟩
  rw [HM.out]
  have B4 := Lib.hid (B3.out.trans s4.below)
  clear s4
  go_wp2
  go_ret
  exact ⟨rfl, B4.out⟩

theorem walk (A : Option Addr) (N c : Nat) (xs : List Nat) (l b : Int) (w : World) (hx : ∀ x ∈ xs, x < 256) (h : Reads w A N (u8s xs)) (h0 : 0 ≤ l) (h1 : l ≤ 255) (hb0 : -9223372036854775808 ≤ b) (hb1 : b ≤ 9223372036854775807) :
    Calls Try.prog 6 #[.slice A N c, .int .u8 l, .int .i64 b] w fun e w' => e = .returned (.bool true) ∧ Below w.heap.size w w' := by
  by_cases hN : 12 < N
  · exact many w A N c l b hN
  obtain ⟨m, rfl⟩ := Int.eq_ofNat_of_zero_le h0
  obtain ⟨bs, hbs⟩ : ∃ bs, bs = unpack xs (8 * N - m % 8) := ⟨_, rfl⟩
  have hn : N ≤ 12 := by omega
  have hm : m < 256 := by omega
  by_cases c1 : b < 1
  · exact range w A N c m xs bs b hbs hx hn hm h hb0 hb1 c1
  by_cases c2 : bs.length < wide b
  · exact short w A N c m xs bs b hbs hx hn hm h hb0 hb1 (by omega) c2
  by_cases c3 : b ≤ (num (bs.take (wide b)) : Nat)
  · exact form w A N c m xs bs b hbs hx hn hm h hb0 hb1 (by omega) (by omega) c3
  · exact taken w A N c m xs bs b hbs hx hn hm h hb0 hb1 (by omega) (by omega) (by omega)

set_option maxRecDepth 100000 in
theorem lifted (os : Os) (started : os.Started) (H : Type) (enc : TypeId × Value → H) :
    ReturnsInHanded {} Try.checked os 6 .any (Rows.numUnfixedSpec.pre6 enc Try.prog Try.f6 Rows.numUnfixedRow.domain false) (Rows.numUnfixedSpec.post enc Try.prog Try.f6 false true false false) := by
  refine returnsInHanded_of_change (C := Try.checked) own_knob started (by kernel_rfl) Try.func6
    (ChangeSpec.witness6 (enc := enc) (C := Try.checked) false ⟨#[], #[.slice none 0 0, .int .u8 0, .int .i64 0], []⟩ 8 (by kernel_rfl) (by kernel_rfl) (by kernel_rfl) (by kernel_rfl)) ?_
  intro W base args ds gs before hval0 hW hcnd _
  have hval : ∀ (j : Nat) t v, Try.f6.params[j]? = some t → args[j]? = some v → Value.okWide Try.prog W .any base t v := hval0
  have hW' := hW
  obtain ⟨p, q, hA0, hV, rfl, hfz, hnd⟩ := hW
  have hA : DataW.TrodAll enc Try.prog W 0 (fun _ => true) true Try.f6.params.toList args.toList ds p := hA0
  rw [Try.params6] at hA hval
  obtain ⟨v0, vs0, d0, ds0, p0, q0, hargs, rfl, rfl, h0, r0⟩ := trodAll_cons hA
  obtain ⟨v1, vs1, d1, ds1, p1, q1, rfl, rfl, rfl, h1, r1⟩ := trodAll_cons r0
  obtain ⟨v2, vs2, d2, ds2, p2, q2, rfl, rfl, rfl, h2, r2⟩ := trodAll_cons r1
  obtain ⟨rfl, rfl, rfl⟩ := trodAll_nil r2
  obtain rfl : args = #[v0, v1, v2] := by cases args; simp_all
  obtain ⟨rfl, rfl⟩ := trodVars_none hV
  obtain ⟨a0, len0, cap0, rfl⟩ := okWide_slice Try.underlying25 (hval 0 25 v0 rfl rfl)
  have lt0 : ∀ x ∈ p0, x.block < W.heap.size := by obtain ⟨m, hm⟩ := h0; exact DataW.trod_lt m _ _ _ hm
  obtain ⟨_, xs0, hx0, hr0⟩ := arg_bytes h0
  obtain ⟨a1, rfl, rfl, rfl, w1⟩ := open_int Try.underlying5 (hval 1 5 v1 rfl rfl) h1
  have bd1 := bounds_u8 w1
  obtain ⟨a2, rfl, rfl, rfl, w2⟩ := open_int Try.underlying3 (hval 2 3 v2 rfl rfl) h2
  have bd2 := bounds_i64 w2
  clear hA0 hval0
  refine (walk a0 len0 cap0 xs0 a1 a2 W hx0 hr0 (by omega) (by omega) (by omega) (by omega)).mono fun e W' ⟨he, bel⟩ => ?_
  subst he
  exact ⟨_, rfl, _, _, _, [], _, [], hW', trodAll_mk1 (shut_bool Try.underlying4 _), (trodAll_cons_mk (Below.trod laid_out (by kernel_rfl) (of_decide_eq_true (by kernel_rfl)) h0 bel lt0) (trodAll_cons_mk (shut_int Try.underlying5 w1) (trodAll_cons_mk (shut_int Try.underlying3 w2) trodAll_mk0))), rfl, bel.frame _, fun h => by cases h⟩

theorem over : Rows.numUnfixedRow.holds Try.pinned (OpenSpec.ofChange Rows.numUnfixedSpec) :=
  OpenClaim.holds_of_wide 6 Try.f6 rfl rfl rfl rfl rfl rfl rfl ⟨rfl, rfl, rfl, rfl, rfl⟩ rfl rfl rfl rfl rfl (by kernel_rfl) Try.func6 (by kernel_rfl)
    (of_decide_eq_true (by kernel_rfl)) (by unfold Func.isWrapper; first | (rw [if_pos (by decide +kernel)]; kernel_rfl) | (rw [if_neg (by decide +kernel)]; exact ⟨rfl, rfl⟩))
    (fun os started H enc _ => lifted os started H enc)

theorem proved : Rows.NumUnfixedSaid := over
end Go.Proofs.Ytdlblpmjghjhlaa.numUnfixed
