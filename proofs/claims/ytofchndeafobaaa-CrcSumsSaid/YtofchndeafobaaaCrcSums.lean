/- CrcSums: the sum of any text (of up to 500 bytes) is the document's; the text stays. No condition. -/
import Derived.Test.YtofchndeafobaaaCrcLaw
import Derived.Test.YtofchndeafobaaaCrcRef
import Derived.Test.YtofchndeafobaaaBstr
import Derived.Test.YtofchndeafobaaaArgB4
namespace Go.Proofs.Ytofchndeafobaaa.crcSums
open Go.ChangeShapes Go.WideShapes Go.ChangeAt Go.RowKit

set_option maxHeartbeats 3200000 in
set_option maxRecDepth 100000 in
theorem walk (A : Option Addr) (n c : Nat) (l : List Nat) (w : World) (hA : (A = none → c = 0) ∧ n ≤ c) (hd : Dig l) (h : Reads w A n (bts l)) :
    Calls Try.prog 3 #[.slice A n c] w fun e w' => e = .returned (.bool true) ∧ Below w.heap.size w w' := by
  obtain ⟨i0, hi, hz0, hz1, hz2⟩ := info_parts Try.infoU8
  have HI := Lib.hid hi
  have HZ := Lib.hid (And.intro hz0 (And.intro hz1 hz2))
  have HR := Lib.hid h
  have HA := Lib.hid hA.1
  have HD := Lib.hid hd
  clear h hA hd hi hz0 hz1 hz2
  go_enter Try.func3, Try.ntmps3
  go_wp2_with fail
  refine (awake6_true w).mono ?_
  rintro e w1 ⟨rfl, b1⟩
  have B1 := Lib.hid b1
  clear b1
  by_cases hg : 500 < n
  · have t0 : (500 : Int) < n := by omega
    go_wp2
    go_ret
    exact ⟨rfl, B1.out⟩
  · have t0 : ¬ (500 : Int) < n := by omega
    have hn : n ≤ 500 := by omega
    have E1 := Lib.hid (World.ownsRow_made (base := w.heap.size) (e := 5) (size := 1) w1 #[] 0 B1.out.size (by unfold maxLen; omega) rfl)
    have B2 := Lib.hid (up1 B1.out (.cells #[] 5))
    have R2 := Lib.hid (HR.out.below B2.out)
    go_wp2_with (at_builtin; refine wpList_append_reads rfl (.tmp 9) (.tmp 10) 22 rfl w.heap.size 5 i0 (.int .u8 0) 1 Try.underlying22 HI.out HZ.out rfl (.slice (some ⟨w1.heap.size, 0, none⟩) 0 0) 0 [] rfl E1.out A n c (bts l) rfl R2.out HA.out (bts_one l) ?b1 ?b2 ?b3 ?_)
    case b1 => unfold maxLen; omega
    case b2 => omega
    case b3 => exact B2.out.size
    intro v3 w3 hown0 hgr
    have hown : w3.ownsRow w.heap.size 5 1 v3 n (bts l) := by simpa using hown0
    have B3 := Lib.hid (own_grown_below B2.out hgr B2.out.size (fun k hk => by simp [Value.ownBlock] at hk; have := B1.out.size; omega))
    obtain ⟨A3, c3, rfl, _, hr3⟩ := Reads.of_own hown
    have R3 := Lib.hid hr3
    clear hown0 hgr hown hr3
    have KS := Lib.hid (csum_any w3 A3 n c3 l R3.out HD.out (by omega))
    generalize hS : crcSum l = S at *
    have HS := Lib.hid hS
    clear hS
    go_wp2_with fail
    refine KS.out.mono ?_
    rintro e w4 ⟨rfl, b4⟩
    have B4 := Lib.hid (up2 B3.out b4)
    have R4 := Lib.hid (R3.out.below b4)
    have RB4 := Lib.hid (HR.out.below B4.out)
    clear b4
    have KR := Lib.hid (rsum_any w4 A n c l RB4.out HD.out (by omega))
    rw [HS.out] at KR
    have s1 := run_bstr w4 A3 n c3 l R4.out
    have s2 := run_bstr w4 A n c l RB4.out
    have e1 : ((bstr l).toList == (bstr l).toList) = true := by simp
    generalize bstr l = T at *
    go_wp2_with fail
    refine KR.out.mono ?_
    rintro e w5 ⟨rfl, rfl⟩
    go_wp2
    go_ret
    exact ⟨rfl, B4.out⟩

set_option maxRecDepth 100000 in
theorem lifted (os : Os) (started : os.Started) (H : Type) (enc : TypeId × Value → H) :
    ReturnsInHanded {} Try.checked os 3 .any (Rows.crcSumsSpec.pre6 enc Try.prog Try.f3 Rows.crcSumsRow.domain false) (Rows.crcSumsSpec.post enc Try.prog Try.f3 false true false false) := by
  refine returnsInHanded_of_change (C := Try.checked) own_knob started (by kernel_rfl) Try.func3
    (ChangeSpec.witness6 (enc := enc) (C := Try.checked) false ⟨#[], #[.slice none 0 0], []⟩ 8 (by kernel_rfl) (by kernel_rfl) (by kernel_rfl) (by kernel_rfl)) ?_
  intro W base args ds gs before hval0 hW hcnd _
  have hval : ∀ (j : Nat) t v, Try.f3.params[j]? = some t → args[j]? = some v → Value.okWide Try.prog W .any base t v := hval0
  have hW' := hW
  obtain ⟨p, q, hA0, hV, rfl, hfz, hnd⟩ := hW
  have hA : DataW.TrodAll enc Try.prog W 0 (fun _ => true) true Try.f3.params.toList args.toList ds p := hA0
  rw [Try.params3] at hA hval
  obtain ⟨v0, vs0, d0, ds0, p0, q0, hargs, rfl, rfl, h0, r0⟩ := trodAll_cons hA
  obtain ⟨rfl, rfl, rfl⟩ := trodAll_nil r0
  obtain rfl : args = #[v0] := by cases args; simp_all
  obtain ⟨rfl, rfl⟩ := trodVars_none hV
  obtain ⟨a0, len0, cap0, rfl⟩ := okWide_slice Try.underlying22 (hval 0 22 v0 rfl rfl)
  have lt0 : ∀ x ∈ p0, x.block < W.heap.size := by obtain ⟨m, hm⟩ := h0; exact DataW.trod_lt m _ _ _ hm
  obtain ⟨hc0, xs0, hx0, hr0⟩ := arg_bytes4 h0
  clear hA0 hval0
  refine (walk a0 len0 cap0 xs0 W hc0 hx0 hr0).mono fun e W' ⟨he, bel⟩ => ?_
  subst he
  exact ⟨_, rfl, _, _, _, [], _, [], hW', trodAll_mk1 (shut_bool Try.underlying4 _), (trodAll_cons_mk (Below.trod laid_out (by kernel_rfl) (of_decide_eq_true (by kernel_rfl)) h0 bel lt0) trodAll_mk0), rfl, bel.frame _, fun h => by cases h⟩

theorem over : Rows.crcSumsRow.holds Try.pinned (OpenSpec.ofChange Rows.crcSumsSpec) :=
  OpenClaim.holds_of_wide 3 Try.f3 rfl rfl rfl rfl rfl rfl rfl ⟨rfl, rfl, rfl, rfl, rfl⟩ rfl rfl rfl rfl rfl (by kernel_rfl) Try.func3 (by kernel_rfl)
    (of_decide_eq_true (by kernel_rfl)) (by unfold Func.isWrapper; first | (rw [if_pos (by decide +kernel)]; kernel_rfl) | (rw [if_neg (by decide +kernel)]; exact ⟨rfl, rfl⟩))
    (fun os started H enc _ => lifted os started H enc)

theorem proved : Rows.CrcSumsSaid := over
end Go.Proofs.Ytofchndeafobaaa.crcSums
