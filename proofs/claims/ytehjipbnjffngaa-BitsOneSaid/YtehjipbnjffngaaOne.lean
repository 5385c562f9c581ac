/- BitsOne: for all bytes and every number of bits, bytes that are taken as so many bits are those that are written of them, and those that are refused give no reader. No condition. -/
import Derived.Test.YtehjipbnjffngaaOneWalk
import Derived.Test.YtehjipbnjffngaaArgs
namespace Go.Proofs.Ytehjipbnjffngaa.bitsOne
open Go.ChangeShapes Go.WideShapes Go.ChangeAt Go.RowKit

theorem walk (a0 : Option Addr) (n c : Nat) (xs : List Nat) (a1 : Int) (w : World) (hx : ∀ x ∈ xs, x < 256) (h : Reads w a0 n (u8s xs)) (h0 : 0 ≤ a1) (h1 : a1 < 65536) :
    Calls Try.prog 7 #[.slice a0 n c, .int .u16 a1] w fun e w' => e = .returned (.bool true) ∧ Below w.heap.size w w' := by
  by_cases hn : 120 < n
  · exact many w a0 n c a1 h0 h1 hn
  have hl : xs.length = n := by have := h.1; rwa [length_u8s] at this
  obtain ⟨m, hm⟩ : ∃ m : Nat, a1 % 969 = (m : Int) := ⟨(a1 % 969).toNat, by omega⟩
  have hm9 : m < 969 := by omega
  by_cases c1 : n < (m + 7) / 8
  · exact refused w a0 n c a1 h0 h1 (by omega) 4 rfl fun w1 _ => by rw [hm]; exact nr_end w1 a0 n c m (by omega) c1
  by_cases c2 : (m + 7) / 8 < n
  · exact refused w a0 n c a1 h0 h1 (by omega) 5 rfl fun w1 _ => by rw [hm]; exact nr_more w1 a0 n c m (by omega) c2
  by_cases c3 : m % 8 = 0 ∨ xs.getD (m / 8) 0 * 2 ^ (m % 8) % 256 = 0
  · have hp := pack_unpack xs m hx (by omega) c3
    have hu := length_unpack xs m
    have key := taken w a0 c a1 (unpack xs m) h0 h1 (by rw [hu]; exact hm) (by rw [hp]; omega)
    rw [hp, hl] at key
    exact key h
  · have hu : m % 8 ≠ 0 := fun e => c3 (.inl e)
    have hf : xs.getD (m / 8) 0 * 2 ^ (m % 8) % 256 ≠ 0 := fun e => c3 (.inr e)
    obtain ⟨ad, rfl, hc⟩ := h.2 (by omega)
    have hn1 : m / 8 + 1 = n := by omega
    have hlt : m / 8 < xs.length := by omega
    have hcx : w.cell? (ad.add (m / 8)) = some (.int .u8 (xs.getD (m / 8) 0 : Nat)) := hc _ _ (by
      simp [u8s, List.getElem?_eq_getElem hlt])
    refine refused w (some ad) n c a1 h0 h1 (by omega) 3 rfl fun w1 hb => ?_
    rw [hm, ← hn1]
    exact nr_form w1 ad (m / 8) c m (xs.getD (m / 8) 0) (by omega) (by omega) hu ((hb.cell (World.block_lt_of_cell? w _ hcx)).trans hcx) hf

set_option maxRecDepth 100000 in
theorem lifted (os : Os) (started : os.Started) (H : Type) (enc : TypeId × Value → H) :
    ReturnsInHanded {} Try.checked os 7 .any (Rows.bitsOneSpec.pre6 enc Try.prog Try.f7 Rows.bitsOneRow.domain false) (Rows.bitsOneSpec.post enc Try.prog Try.f7 false true false false) := by
  refine returnsInHanded_of_change (C := Try.checked) own_knob started (by kernel_rfl) Try.func7
    (ChangeSpec.witness6 (enc := enc) (C := Try.checked) false ⟨#[], #[.slice none 0 0, .int .u16 0], []⟩ 8 (by kernel_rfl) (by kernel_rfl) (by kernel_rfl) (by kernel_rfl)) ?_
  intro W base args ds gs before hval0 hW hcnd _
  have hval : ∀ (j : Nat) t v, Try.f7.params[j]? = some t → args[j]? = some v → Value.okWide Try.prog W .any base t v := hval0
  have hW' := hW
  obtain ⟨p, q, hA0, hV, rfl, hfz, hnd⟩ := hW
  have hA : DataW.TrodAll enc Try.prog W 0 (fun _ => true) true Try.f7.params.toList args.toList ds p := hA0
  rw [Try.params7] at hA hval
  obtain ⟨v0, vs0, d0, ds0, p0, q0, hargs, rfl, rfl, h0, r0⟩ := trodAll_cons hA
  obtain ⟨v1, vs1, d1, ds1, p1, q1, rfl, rfl, rfl, h1, r1⟩ := trodAll_cons r0
  obtain ⟨rfl, rfl, rfl⟩ := trodAll_nil r1
  obtain rfl : args = #[v0, v1] := by cases args; simp_all
  obtain ⟨rfl, rfl⟩ := trodVars_none hV
  obtain ⟨a0, len0, cap0, rfl⟩ := okWide_slice Try.underlying24 (hval 0 24 v0 rfl rfl)
  have lt0 : ∀ x ∈ p0, x.block < W.heap.size := by obtain ⟨m, hm⟩ := h0; exact DataW.trod_lt m _ _ _ hm
  obtain ⟨_, xs, hx, hr⟩ := arg_bytes h0
  obtain ⟨a1, rfl, rfl, rfl, w1⟩ := open_int Try.underlying55 (hval 1 55 v1 rfl rfl) h1
  have bd := bounds_u16 w1
  clear hA0 hval0
  refine (walk a0 len0 cap0 xs a1 W hx hr (by omega) (by omega)).mono fun e W' ⟨he, bel⟩ => ?_
  subst he
  exact ⟨_, rfl, _, _, _, [], _, [], hW', trodAll_mk1 (shut_bool Try.underlying4 _), (trodAll_cons_mk (Below.trod laid_out (by kernel_rfl) (of_decide_eq_true (by kernel_rfl)) h0 bel lt0) (trodAll_cons_mk (shut_int Try.underlying55 w1) trodAll_mk0)), rfl, bel.frame _, fun h => by cases h⟩

theorem over : Rows.bitsOneRow.holds Try.pinned (OpenSpec.ofChange Rows.bitsOneSpec) :=
  OpenClaim.holds_of_wide 7 Try.f7 rfl rfl rfl rfl rfl rfl rfl ⟨rfl, rfl, rfl, rfl, rfl⟩ rfl rfl rfl rfl rfl (by kernel_rfl) Try.func7 (by kernel_rfl)
    (of_decide_eq_true (by kernel_rfl)) (by unfold Func.isWrapper; first | (rw [if_pos (by decide +kernel)]; kernel_rfl) | (rw [if_neg (by decide +kernel)]; exact ⟨rfl, rfl⟩))
    (fun os started H enc _ => lifted os started H enc)

theorem proved : Rows.BitsOneSaid := over
end Go.Proofs.Ytehjipbnjffngaa.bitsOne
