/- NumGets: of any bytes (at most 40) and any count of bits, what Get reads, and how many bits are left, or why there is nothing, is the document's. No condition. -/
import Derived.Test.YtdlblpmjghjhlaaAwakeTwo
import Derived.Test.YtdlblpmjghjhlaaArgsB
namespace Go.Proofs.Ytdlblpmjghjhlaa.numGets
open Go.ChangeShapes Go.WideShapes Go.ChangeAt Go.RowKit

theorem first (bs : List Bool) : ∀ k : Nat, (∃ z, z < k ∧ z < bs.length ∧ (∀ j, j < z → bs.getD j false = false) ∧ bs.getD z false = true) ∨ (∀ j, j < k → bs.getD j false = false)
  | 0 => .inr (fun j hj => absurd hj (by omega))
  | k + 1 => by
    rcases first bs k with ⟨z, h1, h2⟩ | h
    · exact .inl ⟨z, by omega, h2⟩
    · by_cases hb : bs.getD k false = true
      · by_cases hl : k < bs.length
        · exact .inl ⟨k, by omega, hl, h, hb⟩
        · rw [getD_over bs k (by omega)] at hb
          exact absurd hb (by decide)
      · refine .inr fun j hj => ?_
        by_cases hjk : j = k
        · subst hjk; simpa using hb
        · exact h j (by omega)

set_option maxHeartbeats 2000000 in
set_option maxRecDepth 100000 in
theorem many (w : World) (A : Option Addr) (N c : Nat) (l : Int) (h : 40 < N) :
    Calls Try.prog 4 #[.slice A N c, .int .u8 l] w fun e w' => e = .returned (.bool true) ∧ Below w.heap.size w w' := by
  have t0 : (40 : Int) < N := by omega
  go_enter Try.func4, Try.ntmps4
  go_wp2_with fail
  refine (awake_true w).mono ?_
  rintro e w1 ⟨rfl, b1⟩
  have B1 := Lib.hid b1
  clear b1
  go_wp2
  go_ret
  exact ⟨rfl, B1.out⟩

set_option maxHeartbeats 2000000 in
set_option maxRecDepth 100000 in
theorem bad (w : World) (A : Option Addr) (N c l : Nat) (xs : List Nat) (bs : List Bool) (hbs : bs = unpack xs (8 * N - l % 8)) (hx : ∀ x ∈ xs, x < 256) (hN : N ≤ 40) (hl : l < 256) (h : Reads w A N (u8s xs)) (er : Int) (her : (er != 0) = true)
    (CG : ∀ w r p, RIs w r p bs 0 → Calls Try.prog 19 #[.pointer (some ⟨r, 0, none⟩)] w fun e w' => e = .returned (.tuple #[.int .u64 0, .int .i64 er]) ∧ w.grownBy w' (some r))
    (CR : ∀ w, Calls Try.prog 20 #[.string (str bs)] w fun e w' => e = .returned (.tuple #[.int .u64 0, .int .i64 0, .int .i64 er]) ∧ w = w') :
    Calls Try.prog 4 #[.slice A N c, .int .u8 (l : Int)] w fun e w' => e = .returned (.bool true) ∧ Below w.heap.size w w' := by
  have t0 : (N : Int) ≤ 40 := by omega
  have hlen : bs.length ≤ 900 := by rw [hbs, length_unpack]; omega
  have HBS := Lib.hid hbs
  have HX := Lib.hid hx
  have HR := Lib.hid h
  have KG := Lib.hid CG
  have KR := Lib.hid CR
  have HL := Lib.hid hlen
  clear hbs hx h CG CR hlen
  go_enter Try.func4, Try.ntmps4
  go_wp2_with fail
  refine (awake_true w).mono ?_
  rintro e w1 ⟨rfl, b1⟩
  have B1 := Lib.hid b1
  clear b1
  go_wp2_with fail
  refine (text_any w1 A N c l xs HX.out (by omega) hl (HR.out.below B1.out)).mono ?_
  rintro e w2 ⟨rfl, rfl⟩
  rw [← HBS.out]
  go_wp2_with fail
  refine (reader_any w1 bs HL.out).mono ?_
  rintro e w2 ⟨r, p, rfl, h2, b2, g2⟩
  have R2 := Lib.hid h2
  have B2 := Lib.hid (B1.out.trans (b2.mono B1.out.size))
  have G2 := Lib.hid (Nat.le_trans B1.out.size g2)
  clear h2 b2 g2
  go_wp2_with fail
  refine (KG.out w2 r p R2.out).mono ?_
  rintro e w3 ⟨rfl, g3⟩
  have B3 := Lib.hid (B2.out.trans (grown_below g3 B2.out.size G2.out))
  clear g3
  go_wp2_with fail
  refine (KR.out w3).mono ?_
  rintro e w4 ⟨rfl, rfl⟩
  go_wp2
  go_ret
  exact ⟨rfl, B3.out⟩

set_option maxHeartbeats 2000000 in
set_option maxRecDepth 100000 in
theorem good (w : World) (A : Option Addr) (N c l : Nat) (xs : List Nat) (bs : List Bool) (hbs : bs = unpack xs (8 * N - l % 8)) (hx : ∀ x ∈ xs, x < 256) (hN : N ≤ 40) (hl : l < 256) (h : Reads w A N (u8s xs)) (val k : Nat) (hk : k ≤ bs.length)
    (CG : ∀ w r p, RIs w r p bs 0 → Calls Try.prog 19 #[.pointer (some ⟨r, 0, none⟩)] w fun e w' => e = .returned (.tuple #[.int .u64 (val : Int), .int .i64 0]) ∧ RIs w' r p bs k ∧ w.grownBy w' (some r))
    (CR : ∀ w, Calls Try.prog 20 #[.string (str bs)] w fun e w' => e = .returned (.tuple #[.int .u64 (val : Int), .int .i64 (k : Int), .int .i64 0]) ∧ w = w') :
    Calls Try.prog 4 #[.slice A N c, .int .u8 (l : Int)] w fun e w' => e = .returned (.bool true) ∧ Below w.heap.size w w' := by
  have t0 : (N : Int) ≤ 40 := by omega
  have hlen : bs.length ≤ 900 := by rw [hbs, length_unpack]; omega
  have hsz := size_str bs
  have HBS := Lib.hid hbs
  have HX := Lib.hid hx
  have HR := Lib.hid h
  have KG := Lib.hid CG
  have KR := Lib.hid CR
  have HL := Lib.hid hlen
  clear hbs hx h CG CR
  obtain ⟨m, hm⟩ : ∃ m, bs.length = m := ⟨_, rfl⟩
  have HM := Lib.hid hm
  rw [hm] at hsz hk hlen
  clear hm
  go_enter Try.func4, Try.ntmps4
  go_wp2_with fail
  refine (awake_true w).mono ?_
  rintro e w1 ⟨rfl, b1⟩
  have B1 := Lib.hid b1
  clear b1
  go_wp2_with fail
  refine (text_any w1 A N c l xs HX.out (by omega) hl (HR.out.below B1.out)).mono ?_
  rintro e w2 ⟨rfl, rfl⟩
  rw [← HBS.out]
  go_wp2_with fail
  refine (reader_any w1 bs HL.out).mono ?_
  rintro e w2 ⟨r, p, rfl, h2, b2, g2⟩
  have R2 := Lib.hid h2
  have B2 := Lib.hid (B1.out.trans (b2.mono B1.out.size))
  have G2 := Lib.hid (Nat.le_trans B1.out.size g2)
  clear h2 b2 g2
  go_wp2_with fail
  refine (KG.out w2 r p R2.out).mono ?_
  rintro e w3 ⟨rfl, h3, g3⟩
  have R3 := Lib.hid h3
  have B3 := Lib.hid (B2.out.trans (grown_below g3 B2.out.size G2.out))
  clear g3 h3
  go_wp2_with fail
  refine (KR.out w3).mono ?_
  rintro e w4 ⟨rfl, rfl⟩
  go_wp2_with fail
  refine (left_any w3 r p bs k R3.out).mono ?_
  rintro e w4 ⟨rfl, s4⟩
  rw [HM.out]
  have B4 := Lib.hid (B3.out.trans s4.below)
  clear s4
  go_wp2
  go_ret
  exact ⟨rfl, B4.out⟩

theorem walk (A : Option Addr) (N c : Nat) (xs : List Nat) (l : Int) (w : World) (hx : ∀ x ∈ xs, x < 256) (h : Reads w A N (u8s xs)) (h0 : 0 ≤ l) (h1 : l ≤ 255) :
    Calls Try.prog 4 #[.slice A N c, .int .u8 l] w fun e w' => e = .returned (.bool true) ∧ Below w.heap.size w w' := by
  by_cases hN : 40 < N
  · exact many w A N c l hN
  obtain ⟨m, rfl⟩ := Int.eq_ofNat_of_zero_le h0
  obtain ⟨bs, hbs⟩ : ∃ bs, bs = unpack xs (8 * N - m % 8) := ⟨_, rfl⟩
  have hn : N ≤ 40 := by omega
  have hm : m < 256 := by omega
  have z0 : ∀ {z : Nat}, (∀ j, j < z → bs.getD j false = false) → ∀ j, j < z → bs.getD (0 + j) false = false := fun h j hj => by rw [Nat.zero_add]; exact h j hj
  rcases first bs 33 with ⟨z, hz, hl, hf, ht⟩ | hf
  · have ht' : bs.getD (0 + z) false = true := by rw [Nat.zero_add]; exact ht
    by_cases hs : bs.length < 2 * z + 1
    · exact bad w A N c m xs bs hbs hx hn hm h 4 rfl (fun w r p hr => nget_short w r p bs 0 hr z (by omega) (by omega) (by omega) (z0 hf) ht') (fun w => rget_short w bs z (by omega) hl hf ht hs)
    · by_cases hv : told bs 0 z ≤ 4294967296
      · refine good w A N c m xs bs hbs hx hn hm h (told bs 0 z) (2 * z + 1) (by omega) (fun w r p hr => ?_) (fun w => rget_ok w bs z (by omega) hl hf ht (by omega) hv)
        have := nget_ok w r p bs 0 hr z (by omega) (by omega) (z0 hf) ht' hv
        rwa [Nat.zero_add] at this
      · exact bad w A N c m xs bs hbs hx hn hm h 3 rfl (fun w r p hr => nget_over w r p bs 0 hr z (by omega) (by omega) (z0 hf) ht' (by omega)) (fun w => rget_over w bs z (by omega) hl hf ht (by omega) (by omega))
  · by_cases hs : bs.length ≤ 32
    · exact bad w A N c m xs bs hbs hx hn hm h 4 rfl (fun w r p hr => nget_end w r p bs 0 hr bs.length (by omega) (by omega) (z0 (fun j hj => hf j (by omega)))) (fun w => rget_end w bs hs (fun j hj => hf j (by omega)))
    · exact bad w A N c m xs bs hbs hx hn hm h 3 rfl (fun w r p hr => nget_form w r p bs 0 hr (by omega) (z0 hf)) (fun w => rget_form w bs (by omega) hf)

set_option maxRecDepth 100000 in
theorem lifted (os : Os) (started : os.Started) (H : Type) (enc : TypeId × Value → H) :
    ReturnsInHanded {} Try.checked os 4 .any (Rows.numGetsSpec.pre6 enc Try.prog Try.f4 Rows.numGetsRow.domain false) (Rows.numGetsSpec.post enc Try.prog Try.f4 false true false false) := by
  refine returnsInHanded_of_change (C := Try.checked) own_knob started (by kernel_rfl) Try.func4
    (ChangeSpec.witness6 (enc := enc) (C := Try.checked) false ⟨#[], #[.slice none 0 0, .int .u8 0], []⟩ 8 (by kernel_rfl) (by kernel_rfl) (by kernel_rfl) (by kernel_rfl)) ?_
  intro W base args ds gs before hval0 hW hcnd _
  have hval : ∀ (j : Nat) t v, Try.f4.params[j]? = some t → args[j]? = some v → Value.okWide Try.prog W .any base t v := hval0
  have hW' := hW
  obtain ⟨p, q, hA0, hV, rfl, hfz, hnd⟩ := hW
  have hA : DataW.TrodAll enc Try.prog W 0 (fun _ => true) true Try.f4.params.toList args.toList ds p := hA0
  rw [Try.params4] at hA hval
  obtain ⟨v0, vs0, d0, ds0, p0, q0, hargs, rfl, rfl, h0, r0⟩ := trodAll_cons hA
  obtain ⟨v1, vs1, d1, ds1, p1, q1, rfl, rfl, rfl, h1, r1⟩ := trodAll_cons r0
  obtain ⟨rfl, rfl, rfl⟩ := trodAll_nil r1
  obtain rfl : args = #[v0, v1] := by cases args; simp_all
  obtain ⟨rfl, rfl⟩ := trodVars_none hV
  obtain ⟨a0, len0, cap0, rfl⟩ := okWide_slice Try.underlying25 (hval 0 25 v0 rfl rfl)
  have lt0 : ∀ x ∈ p0, x.block < W.heap.size := by obtain ⟨m, hm⟩ := h0; exact DataW.trod_lt m _ _ _ hm
  obtain ⟨_, xs0, hx0, hr0⟩ := arg_bytes h0
  obtain ⟨a1, rfl, rfl, rfl, w1⟩ := open_int Try.underlying5 (hval 1 5 v1 rfl rfl) h1
  have bd1 := bounds_u8 w1
  clear hA0 hval0
  refine (walk a0 len0 cap0 xs0 a1 W hx0 hr0 (by omega) (by omega)).mono fun e W' ⟨he, bel⟩ => ?_
  subst he
  exact ⟨_, rfl, _, _, _, [], _, [], hW', trodAll_mk1 (shut_bool Try.underlying4 _), (trodAll_cons_mk (Below.trod laid_out (by kernel_rfl) (of_decide_eq_true (by kernel_rfl)) h0 bel lt0) (trodAll_cons_mk (shut_int Try.underlying5 w1) trodAll_mk0)), rfl, bel.frame _, fun h => by cases h⟩

theorem over : Rows.numGetsRow.holds Try.pinned (OpenSpec.ofChange Rows.numGetsSpec) :=
  OpenClaim.holds_of_wide 4 Try.f4 rfl rfl rfl rfl rfl rfl rfl ⟨rfl, rfl, rfl, rfl, rfl⟩ rfl rfl rfl rfl rfl (by kernel_rfl) Try.func4 (by kernel_rfl)
    (of_decide_eq_true (by kernel_rfl)) (by unfold Func.isWrapper; first | (rw [if_pos (by decide +kernel)]; kernel_rfl) | (rw [if_neg (by decide +kernel)]; exact ⟨rfl, rfl⟩))
    (fun os started H enc _ => lifted os started H enc)

theorem proved : Rows.NumGetsSaid := over
end Go.Proofs.Ytdlblpmjghjhlaa.numGets
