/- Layer 9: the examiner of the kind Mirrored. -/
import Derived.Test.YtelbmjbjpgcdaaaCeMirP
import Derived.Test.YtelbmjbjpgcdaaaCeSeen
import Derived.Test.YtelbmjbjpgcdaaaCeIndex
import Derived.StillTailTactics
import Derived.Deep.RegionHeld3
namespace Go.Proofs.Ytelbmjbjpgcdaaa
open Go.RowKit

/-- The list, with its map of directed edges. -/
structure Full (S : Nat → Prop) (g : Nat) (N : Int) (A : Option Addr) (n c b : Nat) (tl : List Tr) (w : World) : Prop where
  seen : Seen S g N A n c (some b) tl w
  mp : MapL w b (edL tl (3 * n))
  nb : ¬ S b
theorem Full.chg {S : Nat → Prop} {g : Nat} {N : Int} {A : Option Addr} {n c b : Nat} {tl : List Tr} {w w' : World} (h : Full S g N A n c b tl w) (hc : Chg S w w') : Full S g N A n c b tl w' :=
  ⟨h.seen.chg hc, h.mp.kept (hc.far b h.mp.lt h.nb), h.nb⟩
theorem T3.slice {w : World} {b off n : Nat} {l : List Tr} (h : T3 w (some ⟨b, off, none⟩) n l) (k : Nat) (hk : k < n) : Reads w (some ⟨b, off + k * 3, none⟩) 3 (ints [(l.getD k z3).1, (l.getD k z3).2.1, (l.getD k z3).2.2]) := by
  obtain ⟨b', off', e, hc⟩ := h.2 (by omega)
  injection e with e
  injection e with e1 e2
  subst e1 e2
  obtain ⟨c0, c1, c2⟩ := hc k hk
  refine ⟨rfl, fun _ => ⟨_, rfl, fun j u hu => ?_⟩⟩
  have ea : ∀ j, (⟨b, off + k * 3, none⟩ : Addr).add j = ⟨b, off + k * 3 + j, none⟩ := fun j => by unfold Addr.add; split <;> simp_all
  rw [ea]
  match j, hu with
  | 0, hu => simp [ints] at hu; subst hu; exact c0
  | 1, hu => simp [ints] at hu; subst hu; exact c1
  | 2, hu => simp [ints] at hu; subst hu; exact c2
  | j + 3, hu => simp [ints] at hu

set_option maxHeartbeats 8000000 in
set_option maxRecDepth 100000 in
theorem cmirr_any {f : FuncId} {caps : List Value} {ws : List Wt} {go : List Wt → Bool} {S : Nat → Prop} {Inv : List Wt → World → Prop} (H : Taker f caps ws go S Inv) (w : World) (g b : Nat) (N : Int) (A : Option Addr) (n c : Nat) (tl : List Tr) (hs : Full S g N A n c b tl w) (hi : Inv [] w)
    (hws : ws = pairW 4 m9 tl) (hn : n ≤ 8192) (hN : N ≤ 4096) (hin : ∀ t ∈ tl, inN N t.1 ∧ inN N t.2.1 ∧ inN N t.2.2) (hlp : ∀ t ∈ tl, ¬ loopT t) (htw : tl.Pairwise fun t u => ¬ twice t u) : Calls Try.prog 39 #[.pointer (some ⟨g, 0, none⟩), .func (.func f) #[] caps.toArray] w (Ended ws go S Inv w) := by
  have HS := Lib.hid hs
  have HI := Lib.hid hi
  have hl := hs.seen.t3.1
  have HW := Lib.hid (show ws = pairP 4 m9 tl n 0 by rw [hws, ← hl, pairP_all])
  have HL := Lib.hid hl
  have HP := Lib.hid (And.intro hin (And.intro hlp htw))
  have c1 := hs.seen.c1
  have hen := H.enter
  have KE := Lib.hid (fun W (h : W.heap[g]? = some (.cells #[.int .i64 N, .slice A n c, .map (some b)] 56 (0, 0))) => cedges_set W g b N A n c h)
  clear hs hi hws hl hin hlp htw
  go_enter Try.func39, Try.ntmps39
  go_wp2_with fail
  go_loopw [14] (TriAt S Inv go (fun k => pairP 4 m9 tl k 0) n w) (fun i _ => n - (intOf i).toNat)
  case atStart => exact ⟨0, Nat.zero_le _, rfl, HI.out, AllGo.nil _, Chg.refl _ _⟩
  case round =>
    obtain ⟨k, hk, rfl, hst⟩ := hrel
    have HR := Lib.hid hst
    clear hst
    by_cases hlt : k < n
    case neg =>
      obtain rfl : k = n := by omega
      have b1 : ¬ (k : Int) < k := by omega
      go_wp2
      refine bodyPost_ret (results_none rfl _ _ _) rfl ?_
      exact ⟨rfl, _, .inl ⟨HW.out.symm, HR.out.all⟩, HR.out.inv, HR.out.chg⟩
    have b1 : (k : Int) < n := by omega
    have fr := HS.out.chg HR.out.chg
    obtain ⟨bA, off, rfl, hat⟩ := fr.seen.t3.2 (by omega)
    obtain ⟨c0, c1', c2⟩ := hat k hlt
    clear hat
    obtain ⟨x, hx⟩ : ∃ x, tl.getD k z3 = x := ⟨_, rfl⟩
    rw [hx] at c0 c1' c2
    have hinx := HP.out.1 _ (show x ∈ tl by rw [← hx]; exact getD3_mem (by rw [HL.out]; exact hlt))
    have HX := Lib.hid hx
    clear hx
    obtain ⟨x0, x1, x2⟩ := x
    obtain ⟨w1, hw1⟩ : ∃ w1, wr.alloc (.cells #[.int .i64 x0, .int .i64 x1, .int .i64 x2] 41) = w1 := ⟨_, rfl⟩
    have b1' : Below wr.heap.size wr w1 := by rw [← hw1]; exact (Below.refl _ wr).alloc (Nat.le_refl _) _
    obtain ⟨q, hq⟩ : ∃ q, wr.heap.size = q := ⟨_, rfl⟩
    have q0 : w1.heap[q]? = some (.cells #[.int .i64 x0, .int .i64 x1, .int .i64 x2] 41 (0, 0)) := by rw [← hw1, ← hq]; exact heap_alloc_new wr _
    have q1 := cell_in q0 0
    have q2 := cell_in q0 1
    have q3 := cell_in q0 2
    simp only [List.getElem?_toArray, List.getElem?_cons_zero, List.getElem?_cons_succ] at q1 q2 q3
    have fr1 := fr.chg (.of_below b1')
    have hwf : wfE (x1, x0) := ⟨wf_in hinx.2.1 hN, wf_in hinx.1 hN⟩
    have hlk := fun m => (show MapL (w1.drewN m) b (edL tl (3 * n)) from fr1.mp.kept rfl).look (x1, x0) hwf
    have KE1 := Lib.hid (fun m => KE.out (w1.drewN m) fr1.seen.lb)
    have R1 := Lib.hid (And.intro (HR.out.below H b1') fr1)
    clear b1' q0 fr hinx hwf fr1
    obtain ⟨v, hv⟩ : ∃ v, lastV (edL tl (3 * n)) (x1, x0) = v := ⟨_, rfl⟩
    rw [hv] at hlk
    have HV := Lib.hid hv
    clear hv
    go_wp2_with fail
    go_quiet ((go_at_call 42; exact Calls.quiet_of_same (KE1.out _)))
    obtain ⟨W, hW⟩ : ∃ W, w1.drewN nq = W := ⟨_, rfl⟩
    have rW : Reading w1 W := ⟨nq, hW.symm⟩
    have q1 : W.cell? ⟨q, 0, none⟩ = some (.int .i64 x0) := by rw [← hW]; exact q1
    have q2 : W.cell? ⟨q, 1, none⟩ = some (.int .i64 x1) := by rw [← hW]; exact q2
    have q3 : W.cell? ⟨q, 2, none⟩ = some (.int .i64 x2) := by rw [← hW]; exact q3
    have RW := Lib.hid (And.intro (R1.out.1.below H rW.below) (R1.out.2.chg (.of_read rW)))
    have g1 := RW.out.2.seen.c1
    simp only [hW]
    clear hW rW hlk KE1 R1
    cases v with
    | none =>
      have hno := edge_none (e := (x1, x0)) (tl := tl) (by rw [HL.out]; exact HV.out)
      have EP := Lib.hid (mirr_no HP.out.2.1 HP.out.2.2 (b := k) (by rw [HL.out]; exact hlt) fun a ha hx => by
        rw [HX.out] at hx
        exact hno a (by rw [HL.out]; omega) hx.1)
      clear hno
      simp only [Option.getD_none, Option.isSome_none]
      go_wp2_with fail
      go_quiet (fail)
      go_wp2_with fail
      refine ⟨⟨k + 1, by omega, by go_num, ?_⟩, by simp [intOf]; omega⟩
      show TriSt S Inv go (pairP 4 m9 tl (k + 1) 0) w _
      rw [EP.out]
      exact RW.out.1.below H (Reading.below ⟨_, rfl⟩)
    | some v =>
      obtain ⟨a, rfl, hal, hae⟩ := edge_told (e := (x1, x0)) (tl := tl) (by rw [HL.out]; exact HV.out)
      rw [HL.out] at hal
      have hone : ∀ a', a' < n → hasE (tl.getD a' z3) x1 x0 → a' = a := fun a' ha' h' => by
        have h1 := edge_one HP.out.2.2 (a := a') (e := (x1, x0)) (by rw [HL.out]; exact ha') h'
        rw [HL.out, HV.out] at h1
        have := Option.some.inj h1
        omega
      have HE := Lib.hid (And.intro hae hone)
      have hrd := Lib.hid (RW.out.2.seen.t3.slice a hal)
      clear hae hone
      simp only [Option.getD_some, Option.isSome_some]
      have m1 : (a : Int) < n := by omega
      have m2 : 0 ≤ (a : Int) := by omega
      by_cases hak : a < k
      case neg =>
        have EP := Lib.hid (mirr_no HP.out.2.1 HP.out.2.2 (b := k) (by rw [HL.out]; exact hlt) fun a' ha' hx => by
          rw [HX.out] at hx
          have := HE.out.2 a' (by omega) hx.1
          omega)
        have d1 : decide ((a : Int) < (k : Int)) = false := by simp; omega
        have d2 : decide (a < k) = false := by simp; omega
        clear hak
        go_wp2_with fail
        go_quiet (fail)
        go_wp2_with fail
        refine ⟨⟨k + 1, by omega, by go_num, ?_⟩, by simp [intOf]; omega⟩
        show TriSt S Inv go (pairP 4 m9 tl (k + 1) 0) w _
        rw [EP.out]
        exact RW.out.1.below H (Reading.below ⟨_, rfl⟩)
      have d1 : decide ((a : Int) < (k : Int)) = true := by simp; omega
      have d2 : decide (a < k) = true := by simp; omega
      have KC := Lib.hid (fun m => contI_any (W.drewN m) (some ⟨bA, off + a * 3, none⟩) 3 3 _ x2 (hrd.out.read ⟨m, rfl⟩) (by omega))
      have hmem : x2 ∈ [(tl.getD a z3).1, (tl.getD a z3).2.1, (tl.getD a z3).2.2] ↔ hasV (tl.getD a z3) x2 := by
        simp only [List.mem_cons, List.not_mem_nil, or_false]
        exact ⟨fun h => h.imp Eq.symm (Or.imp Eq.symm Eq.symm), fun h => h.imp Eq.symm (Or.imp Eq.symm Eq.symm)⟩
      cases hy : decide (x2 ∈ [(tl.getD a z3).1, (tl.getD a z3).2.1, (tl.getD a z3).2.2])
      · simp only [hy] at KC
        have EP := Lib.hid (mirr_no HP.out.2.1 HP.out.2.2 (b := k) (by rw [HL.out]; exact hlt) fun a' ha' hx => by
          rw [HX.out] at hx
          have := HE.out.2 a' (by omega) hx.1
          subst this
          exact of_decide_eq_false hy (hmem.2 hx.2))
        clear hmem hy hak
        go_wp2_with fail
        go_quiet ((go_at_call 44; exact Calls.quiet_of_same (KC.out _)))
        go_wp2_with fail
        refine ⟨⟨k + 1, by omega, by go_num, ?_⟩, by simp [intOf]; omega⟩
        show TriSt S Inv go (pairP 4 m9 tl (k + 1) 0) w _
        rw [EP.out]
        exact RW.out.1.below H (Reading.below ⟨_, rfl⟩)
      · simp only [hy] at KC
        have EP := mirr_yes HP.out.2.1 HP.out.2.2 hak (by rw [HL.out]; exact hlt) (by rw [HX.out]; exact HE.out.1) (by rw [HX.out]; exact hmem.1 (of_decide_eq_true hy))
        clear hmem hy hak
        have hc := fun (W' : World) (hW : Reading W W') => (RW.out.1.below H hW.below).hand H EP (by rw [HW.out]; exact pairP_up 4 m9 tl (by omega))
        obtain ⟨bb, hb⟩ : ∃ bb, go (pairP 4 m9 tl (k + 1) 0) = bb := ⟨_, rfl⟩
        simp only [hb] at hc
        have HC := Lib.hid hc
        clear hc hb EP
        go_wp2_with fail
        refine wp_region_still_tail 24 (by kernel_rfl) (by kernel_rfl) ?_
        simp only [List.take_succ_cons, List.take_zero, List.drop_succ_cons, List.drop_zero]
        repeat still_step
        still_call (KC.out 1)
        repeat still_step
        try refine wpStill_nil ?_
        change wpList _ _ _ _ _ (W.drewN 1)
        go_wp2_with fail
        refine (HC.out _ ⟨1, rfl⟩).mono ?_
        rintro e w2 ⟨rfl, hy, hn, _⟩
        have HY := Lib.hid (And.intro hy hn)
        clear hy hn
        cases bb
        · go_wp2_with fail
          refine bodyPost_ret (results_none rfl _ _ _) rfl ?_
          exact ⟨rfl, HY.out.2 (by trivial)⟩
        · go_wp2_with fail
          exact ⟨⟨k + 1, by omega, by go_num, HY.out.1 (by trivial)⟩, by simp [intOf]; omega⟩
end Go.Proofs.Ytelbmjbjpgcdaaa
