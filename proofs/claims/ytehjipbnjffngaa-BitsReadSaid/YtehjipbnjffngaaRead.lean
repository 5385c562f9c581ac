/- BitsRead: for all bytes, every number of bits and all widths, whether a reader is made, and what it reads, is what the document's own answer says. No condition. -/
import Derived.Test.YtehjipbnjffngaaReadTaken
import Derived.Test.YtehjipbnjffngaaArgs
namespace Go.Proofs.Ytehjipbnjffngaa.bitsRead
open Go.ChangeShapes Go.WideShapes Go.ChangeAt Go.RowKit

theorem walk (a0 : Option Addr) (n c : Nat) (a1 : Int) (a2 : Option Addr) (k d : Nat) (xs : List Nat) (ws : List Int) (w : World) (hx : ∀ x ∈ xs, x < 256) (h : Reads w a0 n (u8s xs)) (hc : a0 = none → c = 0) (hw : Reads w a2 k (ws.map (Value.int .i64))) :
    Calls Try.prog 4 #[.slice a0 n c, .int .i64 a1, .slice a2 k d] w fun e w' => e = .returned (.bool true) ∧ Below w.heap.size w w' := by
  by_cases hn : 120 < n
  · exact many w a0 n c a1 a2 k d (.inl hn)
  by_cases hk : 60 < k
  · exact many w a0 n c a1 a2 k d (.inr ⟨by omega, hk⟩)
  have hl : xs.length = n := by have := h.1; rwa [length_u8s] at this
  by_cases hm : a1 < 0 ∨ 33554432 < a1
  · exact refused w a0 n c a1 a2 k d xs (by omega) (by omega) h hc 2 rfl (fun W Ao co _ _ => nr_range W Ao n co a1 hm)
      (fun W _ => (open_range W a0 n c a1 hm).mono fun e w' ⟨he, hww⟩ => ⟨he, by subst hww; exact Below.refl _ _⟩)
  obtain ⟨m, rfl⟩ : ∃ m : Nat, a1 = (m : Int) := ⟨a1.toNat, by omega⟩
  by_cases c1 : n < (m + 7) / 8
  · exact refused w a0 n c m a2 k d xs (by omega) (by omega) h hc 4 rfl (fun W Ao co _ _ => nr_end W Ao n co m (by omega) c1)
      (fun W _ => (open_end W a0 n c m (by omega) (by omega) (by omega)).mono fun e w' ⟨he, hww⟩ => ⟨he, by subst hww; exact Below.refl _ _⟩)
  by_cases c2 : (m + 7) / 8 < n
  · exact refused w a0 n c m a2 k d xs (by omega) (by omega) h hc 5 rfl (fun W Ao co _ _ => nr_more W Ao n co m (by omega) c2)
      (fun W _ => (open_more W a0 n c m (by omega) (by omega) (by omega)).mono fun e w' ⟨he, hww⟩ => ⟨he, by subst hww; exact Below.refl _ _⟩)
  by_cases c3 : m % 8 = 0 ∨ xs.getD (m / 8) 0 * 2 ^ (m % 8) % 256 = 0
  · exact taken w a0 n c m a2 k d xs ws (by omega) (by omega) h hc hx hw (by omega) c3
  · have hu : m % 8 ≠ 0 := fun e => c3 (.inl e)
    have hf : xs.getD (m / 8) 0 * 2 ^ (m % 8) % 256 ≠ 0 := fun e => c3 (.inr e)
    obtain ⟨i, hi1, hi2, hib⟩ := tail_one xs m (by omega) hu hf
    have hn1 : m / 8 + 1 = n := by omega
    have hlt : m / 8 < xs.length := by omega
    refine refused w a0 n c m a2 k d xs (by omega) (by omega) h hc 3 rfl (fun W Ao co _ hr => ?_) (fun W hb => open_form W a0 n c m i xs (by omega) hx (h.below hb) (by omega) hi1 (by omega) hib)
    obtain ⟨ad, rfl, hcell⟩ := hr.2 (by omega)
    have hcx : W.cell? (ad.add (m / 8)) = some (.int .u8 (xs.getD (m / 8) 0 : Nat)) := hcell _ _ (by
      simp [u8s, List.getElem?_eq_getElem hlt])
    rw [← hn1]
    exact nr_form W ad (m / 8) co m (xs.getD (m / 8) 0) (by omega) (by omega) hu hcx hf

set_option maxRecDepth 100000 in
theorem lifted (os : Os) (started : os.Started) (H : Type) (enc : TypeId × Value → H) :
    ReturnsInHanded {} Try.checked os 4 .any (Rows.bitsReadSpec.pre6 enc Try.prog Try.f4 Rows.bitsReadRow.domain false) (Rows.bitsReadSpec.post enc Try.prog Try.f4 false true false false) := by
  refine returnsInHanded_of_change (C := Try.checked) own_knob started (by kernel_rfl) Try.func4
    (ChangeSpec.witness6 (enc := enc) (C := Try.checked) false ⟨#[], #[.slice none 0 0, .int .i64 0, .slice none 0 0], []⟩ 8 (by kernel_rfl) (by kernel_rfl) (by kernel_rfl) (by kernel_rfl)) ?_
  intro W base args ds gs before hval0 hW hcnd _
  have hval : ∀ (j : Nat) t v, Try.f4.params[j]? = some t → args[j]? = some v → Value.okWide Try.prog W .any base t v := hval0
  have hW' := hW
  obtain ⟨p, q, hA0, hV, rfl, hfz, hnd⟩ := hW
  have hA : DataW.TrodAll enc Try.prog W 0 (fun _ => true) true Try.f4.params.toList args.toList ds p := hA0
  rw [Try.params4] at hA hval
  obtain ⟨v0, vs0, d0, ds0, p0, q0, hargs, rfl, rfl, h0, r0⟩ := trodAll_cons hA
  obtain ⟨v1, vs1, d1, ds1, p1, q1, rfl, rfl, rfl, h1, r1⟩ := trodAll_cons r0
  obtain ⟨v2, vs2, d2, ds2, p2, q2, rfl, rfl, rfl, h2, r2⟩ := trodAll_cons r1
  obtain ⟨rfl, rfl, rfl⟩ := trodAll_nil r2
  obtain rfl : args = #[v0, v1, v2] := by cases args; simp_all
  obtain ⟨rfl, rfl⟩ := trodVars_none hV
  obtain ⟨a0, len0, cap0, rfl⟩ := okWide_slice Try.underlying24 (hval 0 24 v0 rfl rfl)
  have lt0 : ∀ x ∈ p0, x.block < W.heap.size := by obtain ⟨m, hm⟩ := h0; exact DataW.trod_lt m _ _ _ hm
  obtain ⟨hc, xs, hx, hr⟩ := arg_bytes h0
  obtain ⟨a1, rfl, rfl, rfl, w1⟩ := open_int Try.underlying3 (hval 1 3 v1 rfl rfl) h1
  obtain ⟨a2, len2, cap2, rfl⟩ := okWide_slice Try.underlying27 (hval 2 27 v2 rfl rfl)
  have lt2 : ∀ x ∈ p2, x.block < W.heap.size := by obtain ⟨m, hm⟩ := h2; exact DataW.trod_lt m _ _ _ hm
  obtain ⟨ws, hws⟩ := arg_ints h2
  clear hA0 hval0
  refine (walk a0 len0 cap0 a1 a2 len2 cap2 xs ws W hx hr hc hws).mono fun e W' ⟨he, bel⟩ => ?_
  subst he
  exact ⟨_, rfl, _, _, _, [], _, [], hW', trodAll_mk1 (shut_bool Try.underlying4 _), (trodAll_cons_mk (Below.trod laid_out (by kernel_rfl) (of_decide_eq_true (by kernel_rfl)) h0 bel lt0) (trodAll_cons_mk (shut_int Try.underlying3 w1) (trodAll_cons_mk (Below.trod laid_out (by kernel_rfl) (of_decide_eq_true (by kernel_rfl)) h2 bel lt2) trodAll_mk0))), rfl, bel.frame _, fun h => by cases h⟩

theorem over : Rows.bitsReadRow.holds Try.pinned (OpenSpec.ofChange Rows.bitsReadSpec) :=
  OpenClaim.holds_of_wide 4 Try.f4 rfl rfl rfl rfl rfl rfl rfl ⟨rfl, rfl, rfl, rfl, rfl⟩ rfl rfl rfl rfl rfl (by kernel_rfl) Try.func4 (by kernel_rfl)
    (of_decide_eq_true (by kernel_rfl)) (by unfold Func.isWrapper; first | (rw [if_pos (by decide +kernel)]; kernel_rfl) | (rw [if_neg (by decide +kernel)]; exact ⟨rfl, rfl⟩))
    (fun os started H enc _ => lifted os started H enc)

theorem proved : Rows.BitsReadSaid := over
end Go.Proofs.Ytehjipbnjffngaa.bitsRead
