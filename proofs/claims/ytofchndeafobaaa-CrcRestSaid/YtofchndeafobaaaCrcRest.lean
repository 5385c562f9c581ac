/- CrcRest: a text (of up to 500 bytes) and its own sum behind it, the lowest byte first, has one and the same sum, that of four noughts. No condition. -/
import Derived.Test.YtofchndeafobaaaCrcLaw
import Derived.Test.YtofchndeafobaaaArgB4
namespace Go.Proofs.Ytofchndeafobaaa.crcRest
open Go.ChangeShapes Go.WideShapes Go.ChangeAt Go.RowKit

theorem reads_made4 (w : World) (a b c d : Nat) : Reads (w.alloc (.cells #[.int .u8 (a : Int), .int .u8 (b : Int), .int .u8 (c : Int), .int .u8 (d : Int)] 5)) (some ⟨w.heap.size, 0, none⟩) 4 (bts [a, b, c, d]) :=
  Reads.of_block (xs := bts [a, b, c, d]) (heap_alloc_last w _)

set_option maxHeartbeats 3200000 in
set_option maxRecDepth 100000 in
theorem walk (A : Option Addr) (n c : Nat) (l : List Nat) (w : World) (_ : (A = none → c = 0) ∧ n ≤ c) (hd : Dig l) (h : Reads w A n (bts l)) :
    Calls Try.prog 8 #[.slice A n c] w fun e w' => e = .returned (.bool true) ∧ Below w.heap.size w w' := by
  have HR := Lib.hid h
  have HD := Lib.hid hd
  clear h hd
  go_enter Try.func8, Try.ntmps8
  go_wp2_with fail
  refine (awake6_true w).mono ?_
  rintro e w1 ⟨rfl, b1⟩
  have B1 := Lib.hid b1
  clear b1
  by_cases hg : 500 < n
  · have t0 : (500 : Int) < n := by omega
    go_wp2
    go_ret
    exact ⟨rfl, B1.out⟩
  · have t0 : ¬ (500 : Int) < n := by omega
    have KS := Lib.hid (csum_any w1 A n c l (HR.out.below B1.out) HD.out (by omega))
    have hs := crcSum_lt l
    generalize crcSum l = s at *
    have HS := Lib.hid hs
    obtain ⟨S, hS⟩ : ∃ S : Int, S = (s : Int) := ⟨_, rfl⟩
    have e0 : IntKind.u8.wrap S = ((s % 256 : Nat) : Int) := by rw [IntKind.wrap_u8]; omega
    have e1 : IntKind.u8.wrap (S / 256) = ((s / 256 % 256 : Nat) : Int) := by rw [IntKind.wrap_u8]; omega
    have e2 : IntKind.u8.wrap (S / 65536) = ((s / 65536 % 256 : Nat) : Int) := by rw [IntKind.wrap_u8]; omega
    have e3 : IntKind.u8.wrap (S / 16777216) = ((s / 16777216 % 256 : Nat) : Int) := by rw [IntKind.wrap_u8]; omega
    have bS : 0 ≤ S ∧ S < 4294967296 := by omega
    have KU := Lib.hid (fun w2 => cupdate_any _ _ 4 4 _ s (reads_made4 w2 (s % 256) (s / 256 % 256) (s / 65536 % 256) (s / 16777216 % 256)) (dig_low4 s) hs (by omega))
    rw [show crcUpd s [s % 256, s / 256 % 256, s / 65536 % 256, s / 16777216 % 256] = crcSum [0, 0, 0, 0] from sum_rest s _ hs rfl (leNum_four s hs)] at KU
    have KZ := Lib.hid (fun w2 => csum_any _ _ 4 4 _ (reads_made4 w2 0 0 0 0) (by intro d hd; simp at hd; omega) (by omega))
    generalize crcSum [0, 0, 0, 0] = Z at *
    generalize s % 256 = a0 at *
    generalize s / 256 % 256 = a1 at *
    generalize s / 65536 % 256 = a2 at *
    generalize s / 16777216 % 256 = a3 at *
    rw [← hS] at KS KU
    clear hs hS HS
    go_wp2_with fail
    refine KS.out.mono ?_
    rintro e w2 ⟨rfl, b2⟩
    have B2 := Lib.hid (up2 B1.out b2)
    clear b2
    go_wp2_with fail
    refine (KU.out w2).mono ?_
    rintro e w3 ⟨rfl, b3⟩
    have B3 := Lib.hid (up2 (up1 B2.out _) b3)
    clear b3
    go_wp2_with fail
    refine (KZ.out w3).mono ?_
    rintro e w4 ⟨rfl, b4⟩
    have B4 := Lib.hid (up2 (up1 B3.out _) b4)
    clear b4
    go_wp2
    go_ret
    exact ⟨rfl, B4.out⟩

set_option maxRecDepth 100000 in
theorem lifted (os : Os) (started : os.Started) (H : Type) (enc : TypeId × Value → H) :
    ReturnsInHanded {} Try.checked os 8 .any (Rows.crcRestSpec.pre6 enc Try.prog Try.f8 Rows.crcRestRow.domain false) (Rows.crcRestSpec.post enc Try.prog Try.f8 false true false false) := by
  refine returnsInHanded_of_change (C := Try.checked) own_knob started (by kernel_rfl) Try.func8
    (ChangeSpec.witness6 (enc := enc) (C := Try.checked) false ⟨#[], #[.slice none 0 0], []⟩ 8 (by kernel_rfl) (by kernel_rfl) (by kernel_rfl) (by kernel_rfl)) ?_
  intro W base args ds gs before hval0 hW hcnd _
  have hval : ∀ (j : Nat) t v, Try.f8.params[j]? = some t → args[j]? = some v → Value.okWide Try.prog W .any base t v := hval0
  have hW' := hW
  obtain ⟨p, q, hA0, hV, rfl, hfz, hnd⟩ := hW
  have hA : DataW.TrodAll enc Try.prog W 0 (fun _ => true) true Try.f8.params.toList args.toList ds p := hA0
  rw [Try.params8] at hA hval
  obtain ⟨v0, vs0, d0, ds0, p0, q0, hargs, rfl, rfl, h0, r0⟩ := trodAll_cons hA
  obtain ⟨rfl, rfl, rfl⟩ := trodAll_nil r0
  obtain rfl : args = #[v0] := by cases args; simp_all
  obtain ⟨rfl, rfl⟩ := trodVars_none hV
  obtain ⟨a0, len0, cap0, rfl⟩ := okWide_slice Try.underlying22 (hval 0 22 v0 rfl rfl)
  have lt0 : ∀ x ∈ p0, x.block < W.heap.size := by obtain ⟨m, hm⟩ := h0; exact DataW.trod_lt m _ _ _ hm
  obtain ⟨hc0, xs0, hx0, hr0⟩ := arg_bytes4 h0
  clear hA0 hval0
  refine (walk a0 len0 cap0 xs0 W hc0 hx0 hr0).mono fun e W' ⟨he, bel⟩ => ?_
  subst he
  exact ⟨_, rfl, _, _, _, [], _, [], hW', trodAll_mk1 (shut_bool Try.underlying4 _), (trodAll_cons_mk (Below.trod laid_out (by kernel_rfl) (of_decide_eq_true (by kernel_rfl)) h0 bel lt0) trodAll_mk0), rfl, bel.frame _, fun h => by cases h⟩

theorem over : Rows.crcRestRow.holds Try.pinned (OpenSpec.ofChange Rows.crcRestSpec) :=
  OpenClaim.holds_of_wide 8 Try.f8 rfl rfl rfl rfl rfl rfl rfl ⟨rfl, rfl, rfl, rfl, rfl⟩ rfl rfl rfl rfl rfl (by kernel_rfl) Try.func8 (by kernel_rfl)
    (of_decide_eq_true (by kernel_rfl)) (by unfold Func.isWrapper; first | (rw [if_pos (by decide +kernel)]; kernel_rfl) | (rw [if_neg (by decide +kernel)]; exact ⟨rfl, rfl⟩))
    (fun os started H enc _ => lifted os started H enc)

theorem proved : Rows.CrcRestSaid := over
end Go.Proofs.Ytofchndeafobaaa.crcRest
