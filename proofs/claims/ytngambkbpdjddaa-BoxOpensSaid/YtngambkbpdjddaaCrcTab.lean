/- registers (layer 6): the table of 256 registers. -/
import Derived.Test.YtngambkbpdjddaaCrcStep
import Derived.Test.YtngambkbpdjddaaBts
import Derived.Deep.WholeRow
import Derived.Deep.MidRow
import Derived.Laws.ResultCell
import Derived.Deep.LoopGhost
namespace Go.Proofs.Ytngambkbpdjddaa
open Go.RowKit

/-- A table of 256 registers, as cells. -/
def regsOf (f : Nat → Nat) : Array Value := ((List.range 256).map fun i => Value.int .u32 (f i : Int)).toArray
def regs6 : Array Value := regsOf (it6 8)
theorem regsOf_size (f : Nat → Nat) : (regsOf f).size = 256 := by simp [regsOf]
theorem regsOf_at (f : Nat → Nat) (i : Nat) (h : i < 256) : (regsOf f)[i]? = some (.int .u32 (f i : Int)) := by
  simp [regsOf, h]
theorem regsOf_zero : Array.replicate 256 (Value.int .u32 0) = regsOf (fun _ => 0) := by
  apply Array.ext_getElem?
  intro i
  by_cases h : i < 256
  · rw [regsOf_at _ i h, Array.getElem?_replicate, if_pos h]; rfl
  · rw [Array.getElem?_eq_none (by simp; omega), Array.getElem?_eq_none (by rw [regsOf_size]; omega)]
theorem regsOf_set (f : Nat → Nat) (i x : Nat) (h : i < 256) : (regsOf f).setIfInBounds i (.int .u32 (x : Int)) = regsOf (fun j => if j = i then x else f j) := by
  apply Array.ext_getElem?
  intro j
  rw [Array.getElem?_setIfInBounds]
  by_cases hj : j < 256
  · rw [regsOf_at (fun j => if j = i then x else f j) j hj]
    by_cases e : i = j
    · subst e; simp [regsOf_size, h]
    · have e' : ¬ j = i := fun h => e h.symm
      simp [e, e', regsOf_at f j hj]
  · rw [Array.getElem?_eq_none (xs := regsOf _) (by rw [regsOf_size]; omega)]
    by_cases e : i = j
    · omega
    · simp [e]; rw [regsOf_size]; omega
theorem regsOf_one (f : Nat → Nat) : (regsOf f).all (·.oneCell') = true := by
  rw [Array.all_eq_true_iff_forall_mem]
  intro v hv
  simp only [regsOf, List.mem_toArray, List.mem_map] at hv
  obtain ⟨i, _, rfl⟩ := hv
  rfl
theorem regsOf_congr {f g : Nat → Nat} (h : ∀ i, i < 256 → f i = g i) : regsOf f = regsOf g := by
  unfold regsOf
  congr 1
  exact List.map_congr_left fun i hi => by rw [h i (List.mem_range.1 hi)]

/-- What stands once the multiples of M are there, and of the others of the half of M those below h. -/
def Reg (M h : Nat) (f : Nat → Nat) : Prop := ∀ i, i < 256 → i % M = 0 → (i % (2 * M) = 0 ∨ i < h) → f i = it6 8 i
def IsBit (M : Nat) : Prop := M = 128 ∨ M = 64 ∨ M = 32 ∨ M = 16 ∨ M = 8 ∨ M = 4 ∨ M = 2 ∨ M = 1
theorem add_xor (m h : Nat) (hm : m < 8) (hh : h < 256) (hd : h % 2 ^ (m + 1) = 0) : h ^^^ 2 ^ m = h + 2 ^ m := by
  have : ∀ h, h < 256 → ∀ m, m < 8 → h % 2 ^ (m + 1) = 0 → h ^^^ 2 ^ m = h + 2 ^ m := by decide +kernel
  exact this h hh m hm hd
theorem isBit_pow {M : Nat} (h : IsBit M) : ∃ m, m < 8 ∧ M = 2 ^ m := by
  rcases h with h | h | h | h | h | h | h | h <;> subst h
  · exact ⟨7, by omega, rfl⟩
  · exact ⟨6, by omega, rfl⟩
  · exact ⟨5, by omega, rfl⟩
  · exact ⟨4, by omega, rfl⟩
  · exact ⟨3, by omega, rfl⟩
  · exact ⟨2, by omega, rfl⟩
  · exact ⟨1, by omega, rfl⟩
  · exact ⟨0, by omega, rfl⟩
theorem reg_value {M h : Nat} (hM : IsBit M) (hh : h < 256) (hd : h % (2 * M) = 0) : it6 8 h ^^^ it6 8 M = it6 8 (h + M) := by
  obtain ⟨m, hm, rfl⟩ := isBit_pow hM
  rw [← it6_xor, add_xor m h hm hh (by rw [Nat.pow_succ, Nat.mul_comm]; exact hd)]
theorem Reg.next {M h : Nat} {f : Nat → Nat} (hM : IsBit M) (hr : Reg M h f) (hh : h < 256) (hd : h % (2 * M) = 0) : Reg M (h + 2 * M) (fun j => if j = h + M then it6 8 h ^^^ it6 8 M else f j) := by
  intro i hi h0 h1
  show (if i = h + M then _ else f i) = _
  by_cases e : i = h + M
  · rw [if_pos e, e, reg_value hM hh hd]
  · rw [if_neg e]
    refine hr i hi h0 ?_
    rcases hM with h | h | h | h | h | h | h | h <;> subst h <;> omega
theorem Reg.half {M M' : Nat} {f : Nat → Nat} (hM : IsBit M) (h2 : M = 2 * M') {h : Nat} (hh : 256 ≤ h) (hr : Reg M h f) : Reg M' 0 f := by
  subst h2
  intro i hi h0 h1
  refine hr i hi ?_ (by omega)
  rcases h1 with h1 | h1
  · exact h1
  · omega
theorem Reg.start (f : Nat → Nat) (h0 : f 0 = 0) : Reg 128 0 f := by
  intro i hi h1 h2
  have : i = 0 := by omega
  subst this
  rw [h0, it6_zero]
theorem Reg.all {f : Nat → Nat} {h : Nat} (hh : 256 ≤ h) (hr : Reg 1 h f) : regsOf f = regs6 := regsOf_congr fun i hi => hr i hi (by omega) (by omega)

theorem Try.infoRegs : (Try.prog.info? 87).map (fun i => (i.zero, i.size)) = some (some (.agg (Array.replicate 256 (.int .u32 0))), 256) := by kernel_rfl

/-- A new block: a table. -/
def TabAt (w : World) (b : Nat) (f : Nat → Nat) (wr : World) : Prop := wr.heap[b]? = some (.cells (regsOf f) 87 (0, 0)) ∧ wr.heap[w.heap.size]? = some (.cells (regsOf fun _ => 0) 87 (0, 0)) ∧ w.heap.size < b ∧ Below w.heap.size w wr
theorem TabAt.set {w wr : World} {b : Nat} {f : Nat → Nat} (h : TabAt w b f wr) (i x : Nat) (hi : i < 256) : TabAt w b (fun j => if j = i then x else f j) (wr.setCell ⟨b, i, none⟩ (.int .u32 (x : Int))) := by
  obtain ⟨h1, h2, h3, h4⟩ := h
  refine ⟨?_, ?_, h3, h4.setCell (p := ⟨b, i, none⟩) (by show _ ≤ b; omega) _⟩
  · rw [heap_set h1, regsOf_set f i x hi]
  · exact heap_far h2 (by show _ ≠ b; omega) _

theorem it6_succ (k x : Nat) : it6 (k + 1) x = stp6 (it6 k x) := by rw [it6_add]; rfl
theorem step_bit (M : Nat) : stp6 (it6 8 (2 * M)) = it6 8 M := by
  rw [show it6 8 (2 * M) = it6 7 (stp6 (2 * M)) from rfl, stp6_double, ← it6_succ]
theorem isBit_lt {M : Nat} (h : IsBit M) : 1 ≤ M ∧ M ≤ 128 := by unfold IsBit at h; omega
theorem high_lt {M h : Nat} (hM : IsBit M) (hh : h < 256) (hd : h % (2 * M) = 0) : h + 2 * M ≤ 256 ∧ (h + 2 * M) % (2 * M) = 0 := by
  rcases hM with e | e | e | e | e | e | e | e <;> subst e <;> omega

theorem results_cell_one {fn : Func} {p : Tmp} {ty : TypeId} (h : fn.results = #[.cell p ty]) (tmps : Array Value) (P : Program) (w : World) :
    (results fn tmps).run P w = ((asAddr (tmps.getD p undef)).run P w).andThen fun a w₁ => ((loadVar ty a).run P w₁) := by
  simp only [results, h]
  simp [Sem.run_bind, Result.andThen]

def RegsAt (w : World) (b : Nat) (s m : Value) (wr : World) : Prop :=
  ∃ M S f, m = .int .i64 ((M : Nat) : Int) ∧ s = .int .u32 ((S : Nat) : Int) ∧ M ≤ 128 ∧ TabAt w b f wr ∧ ((M = 0 ∧ regsOf f = regs6) ∨ (IsBit M ∧ Reg M 0 f ∧ S = it6 8 (2 * M)))
theorem below_setCells {B b : Nat} {w : World} (hb : B ≤ b) (vs : List Value) (o : Nat) {w1 : World} (h : Below B w w1) : Below B w (w1.setCells b o vs) := by
  induction vs generalizing o w1 with
  | nil => exact h
  | cons v vs ih => exact ih (o + 1) (h.setCell (p := ⟨b, o, none⟩) hb v)
def HighAt (w : World) (b M : Nat) (i : Value) (wr : World) : Prop :=
  ∃ h f, i = .int .i64 ((h : Nat) : Int) ∧ h ≤ 256 ∧ h % (2 * M) = 0 ∧ TabAt w b f wr ∧ Reg M h f

set_option maxHeartbeats 2000000 in
set_option maxRecDepth 100000 in
theorem regs_any (w : World) : Calls Try.prog 57 #[] w fun e w' => e = .returned (.agg regs6) ∧ Below w.heap.size w w' := by
  obtain ⟨hv, hi⟩ := zero_of_info Try.infoRegs
  have HV := Lib.hid hi
  have T0 := Lib.hid (show TabAt w (w.heap.size + 1) (fun _ => 0) ((w.alloc (.cells (Array.replicate 256 (.int .u32 0)) 87)).alloc (.cells (Array.replicate 256 (.int .u32 0)) 87)) by
    rw [regsOf_zero]
    have n : ∀ (w : World) (o : Obj), (w.alloc o).heap[w.heap.size]? = some o := fun w o => heap_alloc_last w o
    have b1 := mk_below w (.cells (regsOf fun _ => 0) 87)
    have b2 := mk_below (w.alloc (.cells (regsOf fun _ => 0) 87)) (.cells (regsOf fun _ => 0) 87)
    have hs : (w.alloc (.cells (regsOf fun _ => 0) 87)).heap.size = w.heap.size + 1 := by simp
    refine ⟨?_, ?_, by omega, b1.trans (b2.mono (by omega))⟩
    · have := n (w.alloc (.cells (regsOf fun _ => 0) 87)) (.cells (regsOf fun _ => 0) 87)
      rwa [hs] at this
    · rw [b2.block _ (by omega)]
      exact n w _)
  clear hi
  go_enter Try.func57, Try.ntmps57
  go_wp2_with fail
  generalize hb : w.heap.size + 1 = b at *
  have HB := Lib.hid hb
  clear hb
  go_loopw [2, 3] (RegsAt w b) (fun _ m _ => (intOf m).toNat)
  case atStart => exact ⟨128, 1, _, rfl, rfl, by omega, T0.out, .inr ⟨.inl rfl, Reg.start _ rfl, by rw [show 2 * 128 = 2 ^ 8 * 1 from rfl, it6_pow]⟩⟩
  case round =>
    obtain ⟨M, S, f, rfl, rfl, hM, ht, hr⟩ := hrel
    rcases hr with ⟨rfl, hr⟩ | ⟨hbit, hr, rfl⟩
    · have h1 : wr.rangeAt b 0 regs6.toList := fun j v hv => by
        rw [Nat.zero_add, cell_in ht.1, hr]; simpa using hv
      have h2 : wr.there w.heap.size 0 regs6.size := fun j hj => by
        have h256 : regs6.size = 256 := regsOf_size _
        rw [Nat.zero_add, cell_in ht.2.1, regsOf_at _ j (by omega)]
        exact ⟨rfl, frozen_in ht.2.1 j⟩
      have h3 : Below w.heap.size w (wr.setCells w.heap.size 0 regs6.toList) := below_setCells (Nat.le_refl _) _ _ ht.2.2.2
      have h4 := World.rangeAt_setCells_same wr w.heap.size 0 regs6.toList (by simpa using h2)
      have hsz : (Try.prog.info? 87).map (·.size) = some regs6.toList.length := by rw [Array.length_toList, show regs6.size = 256 from regsOf_size _]; exact HV.out
      have hsz2 : (Try.prog.info? 87).map (·.size) = some regs6.size := by rw [show regs6.size = 256 from regsOf_size _]; exact HV.out
      have hld := run_loadVar_mid (P := Try.prog) _ w.heap.size 0 87 regs6.toList _ h4 Try.underlying87 rfl hsz
      rw [Array.toArray_toList] at hld
      have H := Lib.hid (And.intro h1 (And.intro h2 (And.intro h3 (And.intro hsz (And.intro hsz2 hld)))))
      have H1 := Lib.hid (show regs6.all (·.oneCell') = true from regsOf_one _)
      clear h1 h2 h3 h4 hsz hsz2 hld ht hr hv
      go_wp2_with fail
      refine wp_load_mid 87 (.tmp 1) rfl b 0 rfl regs6.toList _ H.out.1 Try.underlying87 rfl H.out.2.2.2.1 ?_
      rw [Array.toArray_toList]
      have hst : (storeCells ⟨w.heap.size, 0, none⟩ regs6.toList).run Try.prog wr = .ok () (wr.setCells w.heap.size 0 regs6.toList) := by
        have := run_storeCells_cells (P := Try.prog) w.heap.size 0 regs6.toList 0 wr (fun j hj => by simpa using (H.out.2.1 j (by simpa using hj)).1) (fun j hj => by simpa using (H.out.2.1 j (by simpa using hj)).2)
          (fun v hv => (Array.all_eq_true_iff_forall_mem.1 H1.out) v (by simpa using hv))
        simpa using this
      have h256 : regs6.size = 256 := regsOf_size _
      generalize hR : regs6 = R at *
      have HRR := Lib.hid hR
      clear hR
      go_wp2_with fail
      (try simp only [Exit.inBlock, Exit.then])
      refine bodyPost_ret (v := .agg R) ?_ rfl ⟨by rw [HRR.out], H.out.2.2.1⟩
      rw [results_cell_one rfl]
      have hld := H.out.2.2.2.2.2
      simp [asAddr, Result.andThen, hld]
    · have HT := Lib.hid ht
      have HR := Lib.hid (And.intro hbit hr)
      have K := Lib.hid (fun w => cstep_any w (it6 8 (2 * M)) (it6_lt 8 _ (by omega)))
      rw [step_bit] at K
      have hM1 := (isBit_lt hbit).1
      have hM2 : (0:Int) < M := by omega
      have hs := it6_lt 8 M (by omega)
      have HS := Lib.hid hs
      clear ht hr hbit hs
      generalize hG : it6 8 M = G at *
      generalize hG2 : it6 8 (2 * M) = G2 at *
      have HG := Lib.hid hG
      clear hG hG2
      go_wp2_with fail
      refine (K.out _).mono ?_
      rintro e w1 ⟨rfl, rfl⟩
      go_wp2_with fail
      go_loopw [4] (HighAt w b M) (fun i _ => 256 - (intOf i).toNat)
      case atStart => exact ⟨0, f, rfl, by omega, Nat.zero_mod _, HT.out, HR.out.2⟩
      case round =>
        obtain ⟨h, f, rfl, hh, hd, ht, hr⟩ := hrel
        by_cases hlt : h < 256
        · have hl := high_lt HR.out.1 hlt hd
          have c1 : wr.cell? ⟨b, h, none⟩ = some (.int .u32 ((it6 8 h : Nat) : Int)) := by
            rw [cell_in ht.1, regsOf_at f h hlt, hr h hlt (by have := HR.out.1; rcases this with e | e | e | e | e | e | e | e <;> subst e <;> omega) (.inl hd)]
          have c2 : wr.cell? ⟨b, h + M, none⟩ = some (.int .u32 ((f (h + M) : Nat) : Int)) := by
            rw [cell_in ht.1, regsOf_at f (h + M) (by omega)]
          have f2 := frozen_in ht.1 (h + M)
          have hx := u32_xor_nat (it6 8 h) G (it6_lt 8 _ (by omega)) HS.out
          have N1 := Lib.hid (show HighAt w b M (.int .i64 ((h + 2 * M : Nat) : Int)) (wr.setCell ⟨b, h + M, none⟩ (.int .u32 ((it6 8 h ^^^ G : Nat) : Int))) from
            ⟨h + 2 * M, _, rfl, hl.1, hl.2, ht.set (h + M) (it6 8 h ^^^ G) (by omega), by rw [← HG.out]; exact hr.next HR.out.1 hlt hd⟩)
          have t1 : (h : Int) < 256 := by omega
          have t2 : (0 : Int) ≤ (h : Int) + (M : Int) ∧ (h : Int) + (M : Int) < 256 := by omega
          have hl1 := hl.1
          clear hl ht hr hd
          generalize f (h + M) = z at *
          generalize hE : it6 8 h ^^^ G = E at *
          generalize it6 8 h = R at *
          clear hE
          go_wp2_with fail
          refine ⟨?_, by simp [intOf]; omega⟩
          have := N1.out
          rw [show ((h + 2 * M : Nat) : Int) = (h : Int) + 2 * (M : Int) by omega] at this
          exact this
        · obtain ⟨M', hM'⟩ : ∃ M', M / 2 = M' := ⟨_, rfl⟩
          have N1 := Lib.hid (show RegsAt w b (.int .u32 ((G : Nat) : Int)) (.int .i64 ((M' : Nat) : Int)) wr by
            have hb := HR.out.1
            by_cases h1 : M = 1
            · subst h1
              have h0 : M' = 0 := by omega
              subst h0
              exact ⟨0, G, f, rfl, rfl, by omega, ht, .inl ⟨rfl, hr.all (by omega)⟩⟩
            · have h2 : M = 2 * M' := by rcases hb with e | e | e | e | e | e | e | e <;> subst e <;> omega
              refine ⟨M', G, f, rfl, rfl, by omega, ht, .inr ⟨?_, hr.half hb h2 (by omega), by rw [← HG.out, h2]⟩⟩
              unfold IsBit at hb ⊢
              omega)
          have t1 : ¬ (h : Int) < 256 := by omega
          have t2 : (M : Int) / 2 = (M' : Int) := by omega
          have t3 : M' < M := by omega
          clear ht hr hd hM'
          go_wp2_with fail
          exact ⟨N1.out, by simp [intOf]; omega⟩
end Go.Proofs.Ytngambkbpdjddaa
