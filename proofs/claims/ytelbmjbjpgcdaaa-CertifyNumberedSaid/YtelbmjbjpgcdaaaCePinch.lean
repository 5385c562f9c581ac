/- Layer 9: the examiner of the kind Pinch. -/
import Derived.Test.YtelbmjbjpgcdaaaCeMet
import Derived.Test.YtelbmjbjpgcdaaaCeStart
import Derived.Test.YtelbmjbjpgcdaaaCeTwice
namespace Go.Proofs.Ytelbmjbjpgcdaaa
open Go.RowKit

/-- The state while vertices are counted: three rows. -/
structure PiSt (S : Nat → Prop) (Inv : List Wt → World → Prop) (go : List Wt → Bool) (w wr : World) (ab tb sb : Nat) (al cl sl : List Int) (l : List Wt) : Prop where
  tri : TriSt S Inv go l w wr
  ra : TripRow wr ab al
  rc : wr.heap[tb]? = some (.cells (ints cl).toArray 3 (0, 0))
  rs : wr.heap[sb]? = some (.cells (ints sl).toArray 3 (0, 0))
  b1 : w.heap.size ≤ ab
  b2 : ab < tb
  b4 : ab < sb
  b3 : tb ≠ sb
section
variable {f : FuncId} {caps : List Value} {ws : List Wt} {go : List Wt → Bool} {S : Nat → Prop} {Inv : List Wt → World → Prop} {w wr w' : World} {ab tb sb : Nat} {al cl sl : List Int} {l : List Wt}
theorem PiSt.below (H : Taker f caps ws go S Inv) (h : PiSt S Inv go w wr ab tb sb al cl sl l) (hb : Below wr.heap.size wr w') : PiSt S Inv go w w' ab tb sb al cl sl l :=
  ⟨h.tri.below H hb, (hb.block ab (heap_lt h.ra)).trans h.ra, (hb.block tb (heap_lt h.rc)).trans h.rc, (hb.block sb (heap_lt h.rs)).trans h.rs, h.b1, h.b2, h.b4, h.b3⟩
theorem PiSt.setS (H : Taker f caps ws go S Inv) (hS : ∀ b, S b → b < w.heap.size) (h : PiSt S Inv go w wr ab tb sb al cl sl l) (a : Nat) (v : Int) : PiSt S Inv go w (wr.setCell ⟨sb, a, none⟩ (.int .i64 v)) ab tb sb al cl (sl.set a v) l := by
  have h1 := h.b1
  have h2 := h.b2
  have h3 := h.b3
  have h4 := h.b4
  refine ⟨h.tri.set H ⟨sb, a, none⟩ _ (show w.heap.size ≤ sb by omega) (fun hs => by have := hS _ hs; have : sb < w.heap.size := this; omega), heap_far h.ra (p := ⟨sb, a, none⟩) (show ab ≠ sb by omega) _, heap_far h.rc (p := ⟨sb, a, none⟩) (show tb ≠ sb by omega) _, ?_, h.b1, h.b2, h.b4, h.b3⟩
  rw [heap_set h.rs a _, ints_set]
  simp
theorem PiSt.setC (H : Taker f caps ws go S Inv) (hS : ∀ b, S b → b < w.heap.size) (h : PiSt S Inv go w wr ab tb sb al cl sl l) (a : Nat) (v : Int) : PiSt S Inv go w (wr.setCell ⟨tb, a, none⟩ (.int .i64 v)) ab tb sb al (cl.set a v) sl l := by
  have h1 := h.b1
  have h2 := h.b2
  have h3 := h.b3
  have h4 := h.b4
  refine ⟨h.tri.set H ⟨tb, a, none⟩ _ (show w.heap.size ≤ tb by omega) (fun hs => by have := hS _ hs; have : tb < w.heap.size := this; omega), heap_far h.ra (p := ⟨tb, a, none⟩) (show ab ≠ tb by omega) _, ?_, heap_far h.rs (p := ⟨tb, a, none⟩) (show sb ≠ tb by omega) _, h.b1, h.b2, h.b4, h.b3⟩
  rw [heap_set h.rc a _, ints_set]
  simp
theorem PiSt.gone (hS : ∀ b, S b → b < w.heap.size) (h : PiSt S Inv go w wr ab tb sb al cl sl l) {l' : List Wt} (hg : TriSt S Inv go l' w w') (hc : Chg S wr w') : PiSt S Inv go w w' ab tb sb al cl sl l' := by
  have h1 := h.b1
  have h2 := h.b2
  have h3 := h.b3
  have h4 := h.b4
  have k : ∀ q, w.heap.size ≤ q → ¬ S q := fun q hq hs => by have := hS q hs; omega
  exact ⟨hg, (hc.far ab (heap_lt h.ra) (k _ (by omega))).trans h.ra, (hc.far tb (heap_lt h.rc) (k _ (by omega))).trans h.rc, (hc.far sb (heap_lt h.rs) (k _ (by omega))).trans h.rs, h.b1, h.b2, h.b4, h.b3⟩
end
def PiOut (S : Nat → Prop) (Inv : List Wt → World → Prop) (go : List Wt → Bool) (w : World) (ab tb sb N n : Nat) (al : List Int) (tl : List Tr) (i : Value) (wr : World) : Prop := ∃ k : Nat, k ≤ n ∧ i = .int .i64 (k : Int) ∧ ∃ cl sl, PiSt S Inv go w wr ab tb sb al cl sl [] ∧ Begin tl N k 0 cl sl
def PiIn (S : Nat → Prop) (Inv : List Wt → World → Prop) (go : List Wt → Bool) (w : World) (ab tb sb N k : Nat) (al : List Int) (tl : List Tr) (j : Value) (wr : World) : Prop := ∃ m : Nat, m ≤ 3 ∧ j = .int .i64 (m : Int) ∧ ∃ cl sl, PiSt S Inv go w wr ab tb sb al cl sl [] ∧ Begin tl N k m cl sl
def PiV (S : Nat → Prop) (Inv : List Wt → World → Prop) (go : List Wt → Bool) (w : World) (ab tb sb N : Nat) (al cl sl : List Int) (q : Int → Bool) (i : Value) (wr : World) : Prop := ∃ v : Nat, v ≤ N ∧ i = .int .i64 (v : Int) ∧ PiSt S Inv go w wr ab tb sb al cl sl (vertP 6 q v)

def PiReady (S : Nat → Prop) (Inv : List Wt → World → Prop) (go : List Wt → Bool) (w : World) (ab N : Nat) (al : List Int) (t5 t6 : Value) (wr : World) : Prop := ∃ tb sb, t5 = .slice (some ⟨tb, 0, none⟩) N N ∧ t6 = .slice (some ⟨sb, 0, none⟩) N N ∧ PiSt S Inv go w wr ab tb sb al (List.replicate N 0) (List.replicate N 0) []
theorem pi_ready {f : FuncId} {caps : List Value} {ws : List Wt} {go : List Wt → Bool} {S : Nat → Prop} {Inv : List Wt → World → Prop} (H : Taker f caps ws go S Inv) {w w1 : World} {ab N : Nat} {al : List Int} (h : TriSt S Inv go [] w w1) (ra : TripRow w1 ab al) (hab : w.heap.size ≤ ab) {tb sb : Nat} (hts : (tb = w1.heap.size ∧ sb = w1.heap.size + 1) ∨ (tb = w1.heap.size + 1 ∧ sb = w1.heap.size)) :
    PiSt S Inv go w ((w1.alloc (.cells (ints (List.replicate N 0)).toArray 3)).alloc (.cells (ints (List.replicate N 0)).toArray 3)).drew ab tb sb al (List.replicate N 0) (List.replicate N 0) [] := by
  have hlt := heap_lt ra
  have b1 := (Below.refl _ w1).alloc (Nat.le_refl _) (.cells (ints (List.replicate N 0)).toArray 3)
  have b2 := (Below.refl _ (w1.alloc (.cells (ints (List.replicate N 0)).toArray 3))).alloc (Nat.le_refl _) (.cells (ints (List.replicate N 0)).toArray 3)
  have b3 : Below w1.heap.size w1 ((w1.alloc (.cells (ints (List.replicate N 0)).toArray 3)).alloc (.cells (ints (List.replicate N 0)).toArray 3)).drew := upd (b1.trans (b2.mono b1.size))
  have r1 : ((w1.alloc (.cells (ints (List.replicate N 0)).toArray 3)).alloc (.cells (ints (List.replicate N 0)).toArray 3)).drew.heap[w1.heap.size]? = some (.cells (ints (List.replicate N 0)).toArray 3 (0, 0)) := heap_alloc2_old w1 _ _
  have r2 : ((w1.alloc (.cells (ints (List.replicate N 0)).toArray 3)).alloc (.cells (ints (List.replicate N 0)).toArray 3)).drew.heap[w1.heap.size + 1]? = some (.cells (ints (List.replicate N 0)).toArray 3 (0, 0)) := heap_alloc2_new w1 _ _
  rcases hts with ⟨rfl, rfl⟩ | ⟨rfl, rfl⟩
  · exact ⟨h.below H b3, (b3.block ab hlt).trans ra, r1, r2, hab, by omega, by omega, by omega⟩
  · exact ⟨h.below H b3, (b3.block ab hlt).trans ra, r2, r1, hab, by omega, by omega, by omega⟩

set_option maxHeartbeats 8000000 in
set_option maxRecDepth 100000 in
theorem cpinch_any {f : FuncId} {caps : List Value} {ws : List Wt} {go : List Wt → Bool} {S : Nat → Prop} {Inv : List Wt → World → Prop} (H : Taker f caps ws go S Inv) (w : World) (g b N : Nat) (A : Option Addr) (n c : Nat) (tl : List Tr) (p : Int → Bool) (hs : Full S g (N : Int) A n c b tl w) (hi : Inv [] w)
    (hp : IsPin tl p) (hws : ws = vertW 6 p (N : Int)) (hn : n ≤ 8192) (hN : N ≤ 4096) (hin : ∀ t ∈ tl, inN N t.1 ∧ inN N t.2.1 ∧ inN N t.2.2) (hlp : ∀ t ∈ tl, ¬ loopT t) (htw : tl.Pairwise fun t u => ¬ twice t u) (hus : ∀ v : Int, inN N v → ∃ t ∈ tl, hasV t v) : Calls Try.prog 41 #[.pointer (some ⟨g, 0, none⟩), .func (.func f) #[] caps.toArray] w (Ended ws go S Inv w) := by
  have HL := Lib.hid hs.seen.t3.1
  have HW := Lib.hid (show ws = vertP 6 p N from hws)
  have hen := H.enter
  have hSS := H.lt _ _ hi
  have KA := Lib.hid (cacross_any S w g b (N : Int) A n c tl hs hn (by omega) hin)
  have HS := Lib.hid hs
  have HSS := Lib.hid hSS
  have HP := Lib.hid (And.intro hin (And.intro hlp (And.intro htw (And.intro hus hp))))
  have HI := Lib.hid hi
  have hmi := fun W => makeI9 N (by omega) W
  clear hs hi hws hSS hin hlp htw hus hp
  go_enter Try.func41, Try.ntmps41
  go_wp2_with fail
  refine KA.out.mono ?_
  rintro e w1 ⟨ab, rfl, row1, b1, hab⟩
  have fr1 := HS.out.chg (.of_below b1)
  have z0 := fr1.seen.c0
  have z1 := fr1.seen.c1
  have T1 := Lib.hid (And.intro ((TriSt.mk HI.out (AllGo.nil go) (Chg.refl S w)).below H b1) (And.intro row1 (And.intro b1 hab)))
  have G1 := heap_lt fr1.seen.lb
  clear row1 b1 hab fr1
  go_upto_region 1 with fail
  go_cut [5, 6] (PiReady S Inv go w ab N (halfI (acr tl) (3 * n) (3 * n)))
  case first =>
    go_wp2_with fail
    go_region
    · go_wp2_with fail
      go_meet
      exact ⟨_, _, rfl, rfl, pi_ready H T1.out.1 T1.out.2.1 T1.out.2.2.2 (.inl ⟨rfl, rfl⟩)⟩
    · go_wp2_with fail
      go_meet
      exact ⟨_, _, rfl, rfl, pi_ready H T1.out.1 T1.out.2.1 T1.out.2.2.2 (.inr ⟨rfl, rfl⟩)⟩
  case rest =>
    obtain ⟨tb, sb, rfl, rfl, hst0⟩ := hcut
    have z2 := (HS.out.chg hst0.tri.chg).seen.c1

    have S0 := Lib.hid hst0
    clear hst0 hmi z0 z1
    obtain ⟨al, hal⟩ : ∃ al, halfI (acr tl) (3 * n) (3 * n) = al := ⟨_, rfl⟩
    have HAL := Lib.hid hal
    rw [hal] at S0
    clear hal
    go_wp2_with fail
    clear z2
    go_loopw [32] (PiOut S Inv go w ab tb sb N n al tl) (fun i _ => n - (intOf i).toNat)
    case atStart => exact ⟨0, Nat.zero_le _, rfl, _, _, S0.out, Begin.start tl N⟩
    case round =>
      obtain ⟨k, hk, rfl, cl, sl, hst, hbg⟩ := hrel
      have HR := Lib.hid (And.intro hst hbg)
      clear hst hbg
      by_cases hlt : k < n
      case neg =>
        obtain rfl : k = n := by omega
        have b1 : ¬ (k : Int) < k := by omega
        have z4 := (HS.out.chg HR.out.1.tri.chg).seen.c0
        go_wp2_with fail
        clear z4
        go_loopw [73] (PiV S Inv go w ab tb sb N al cl sl p) (fun i _ => N - (intOf i).toNat)
        case atStart => exact ⟨0, Nat.zero_le _, rfl, HR.out.1⟩
        case round =>
          obtain ⟨v, hv, rfl, hst⟩ := hrel
          by_cases hvN : v < N
          case neg =>
            obtain rfl : v = N := by omega
            have b2 : ¬ (v : Int) < v := by omega
            have HV := Lib.hid hst
            clear hst
            go_wp2
            refine bodyPost_ret (results_none rfl _ _ _) rfl ?_
            exact ⟨rfl, _, .inl ⟨HW.out.symm, HV.out.tri.all⟩, HV.out.tri.inv, HV.out.tri.chg⟩
          have b2 : (v : Int) < N := by omega
          have hb9 : Begin tl N tl.length 0 cl sl := by rw [HL.out]; exact HR.out.2
          obtain ⟨hcl, a0, hsl, ha0, hst9⟩ := hb9.done hvN (HP.out.2.2.2.1 (v : Int) ⟨by omega, b2⟩)
          obtain ⟨L, hLc, hLe⟩ := chain_from HP.out.2.1 HP.out.2.2.1 ha0
          have hmi := met_iff HP.out.2.1 HP.out.2.2.1 hLc hLe hst9
          have hpv := HP.out.2.2.2.2 (v : Int)
          have y0 := row_cell hst.rc v (by rw [hb9.l1]; exact hvN)
          have y1 := row_cell hst.rs v (by rw [hb9.l2]; exact hvN)
          rw [hcl] at y0
          rw [hsl] at y1
          have fr := HS.out.chg hst.tri.chg
          have KM := Lib.hid (fun s => cmet_any S (wr.drewN s) g b ab (N : Int) A k c tl (v : Int) a0 L (fr.chg (.of_read ⟨s, rfl⟩)) hn (by rw [HAL.out]; exact hst.ra) HP.out.2.1 hLc hLe)
          have HV := Lib.hid hst
          obtain ⟨M, hM⟩ : ∃ M, L.length = M := ⟨_, rfl⟩
          obtain ⟨C, hC⟩ : ∃ C, (atV tl (v : Int)).length = C := ⟨_, rfl⟩
          rw [hM, hC] at hmi
          rw [hC] at y0
          simp only [hM] at KM
          clear hst hb9 hcl hsl ha0 hst9 hLc hLe fr hM hC
          by_cases hlt9 : M < C
          · have e1 := vertP_yes (kd := 6) (q := p) (a := v) (hpv.2 (hmi.1 hlt9))
            have hc := fun (W : World) (hW : Reading wr W) => (HV.out.tri.below H hW.below).hand H e1 (by rw [HW.out]; exact vertP_pre _ _ (by omega))
            obtain ⟨bb, hb⟩ : ∃ bb, go (vertP 6 p (v + 1)) = bb := ⟨_, rfl⟩
            simp only [hb] at hc
            have HC := Lib.hid hc
            have d1 : decide ((M : Int) < (C : Int)) = true := by simp; omega
            have d2 : decide (M < C) = true := by simp; omega
            have m1 : (M : Int) < C := by omega
            clear hc hb e1 hmi hpv
            go_wp2_with fail
            refine wp_region_still_tail 17 (by kernel_rfl) (by kernel_rfl) ?_
            simp only [List.take_succ_cons, List.take_zero, List.drop_succ_cons, List.drop_zero]
            repeat still_step
            still_call (KM.out 1)
            repeat still_step
            try refine wpStill_nil ?_
            change wpList _ _ _ _ _ (wr.drewN 1)
            go_wp2_with fail
            refine (HC.out _ ⟨1, rfl⟩).mono ?_
            rintro e w9 ⟨rfl, hy, hn, hstep⟩
            have HY := Lib.hid (And.intro hy (And.intro hn hstep))
            clear hy hn hstep
            cases bb
            · go_wp2_with fail
              refine bodyPost_ret (results_none rfl _ _ _) rfl ?_
              exact ⟨rfl, HY.out.2.1 (by trivial)⟩
            · go_wp2_with fail
              exact ⟨⟨v + 1, by omega, by go_num, (HV.out.below H (Reading.below ⟨1, rfl⟩)).gone HSS.out (HY.out.1 (by trivial)) HY.out.2.2⟩, by simp [intOf]; omega⟩
          · have EP := Lib.hid (vertP_no (kd := 6) (q := p) (a := v) (by
              have h1 : ¬ p (v : Int) = true := fun h => hlt9 (hmi.2 (hpv.1 h))
              simpa using h1))
            have d1 : decide ((M : Int) < (C : Int)) = false := by simp; omega
            have d2 : decide (M < C) = false := by simp; omega
            clear hmi hpv
            go_wp2_with fail
            go_quiet ((go_at_call 46; exact Calls.quiet_of_same (KM.out _)))
            go_wp2_with fail
            refine ⟨⟨v + 1, by omega, by go_num, ?_⟩, by simp [intOf]; omega⟩
            rw [EP.out]
            exact HV.out.below H (Reading.below ⟨_, rfl⟩)
      have b1 : (k : Int) < n := by omega
      obtain ⟨bA, off, rfl, hat⟩ := (HS.out.chg HR.out.1.tri.chg).seen.t3.2 (by omega)
      obtain ⟨c0, c1, c2⟩ := hat k hlt
      clear hat
      obtain ⟨x, hx⟩ : ∃ x, tl.getD k z3 = x := ⟨_, rfl⟩
      rw [hx] at c0 c1 c2
      have hmx : x ∈ tl := by rw [← hx]; exact getD3_mem (by rw [HL.out]; exact hlt)
      have HX := Lib.hid (And.intro hx (And.intro (HP.out.1 _ hmx) (HP.out.2.1 _ hmx)))
      clear hx hmx
      obtain ⟨x0, x1, x2⟩ := x
      obtain ⟨w2, hw2⟩ : ∃ w2, wr.alloc (.cells #[.int .i64 x0, .int .i64 x1, .int .i64 x2] 41) = w2 := ⟨_, rfl⟩
      have b2 : Below wr.heap.size wr w2 := by rw [← hw2]; exact (Below.refl _ wr).alloc (Nat.le_refl _) _
      obtain ⟨q, hq⟩ : ∃ q, wr.heap.size = q := ⟨_, rfl⟩
      have q0 : w2.heap[q]? = some (.cells #[.int .i64 x0, .int .i64 x1, .int .i64 x2] 41 (0, 0)) := by rw [← hw2, ← hq]; exact heap_alloc_new wr _
      have q1 := cell_in q0 0
      have q2 := cell_in q0 1
      have q3 := cell_in q0 2
      simp only [List.getElem?_toArray, List.getElem?_cons_zero, List.getElem?_cons_succ] at q1 q2 q3
      have T2 := Lib.hid (And.intro (HR.out.1.below H b2) HR.out.2)
      clear b2 q0
      go_wp2_with fail
      clear hw2 hq q1 q2 q3 c0 c1 c2
      go_loopw [38] (PiIn S Inv go w ab tb sb N k al tl) (fun i _ => 3 - (intOf i).toNat)
      case atStart => exact ⟨0, by omega, rfl, _, _, T2.out⟩
      case round =>
        obtain ⟨m, hm, rfl, cl2, sl2, hst2, hbg2⟩ := hrel
        by_cases hm3 : m < 3
        case neg =>
          obtain rfl : m = 3 := by omega
          have HM := Lib.hid (And.intro hst2 hbg2)
          clear hst2 hbg2
          go_wp2_with fail
          exact ⟨⟨k + 1, by omega, by go_num, _, _, HM.out.1, HM.out.2.next (by rw [HX.out.1]; exact HX.out.2.2)⟩, by simp [intOf]; omega⟩
        have m1 : (m : Int) < 3 := by omega
        have m0 : 0 ≤ (m : Int) := by omega
        have hix := fun W => index9 x0 x1 x2 m hm3 W
        have hvi := vx_in (x := (x0, x1, x2)) HX.out.2.1 m
        obtain ⟨v, hv⟩ : ∃ v : Nat, vx (x0, x1, x2) m = (v : Int) := ⟨(vx (x0, x1, x2) m).toNat, by have := hvi.1; omega⟩
        rw [hv] at hix hvi
        have hvN : v < N := by have := hvi.2; omega
        have m2 : (v : Int) < N := by omega
        have m3 : 0 ≤ (v : Int) := by omega
        have hvx : vx (tl.getD k z3) m = (v : Int) := by rw [HX.out.1]; exact hv
        have y0 := row_cell hst2.rc v (by rw [hbg2.l1]; exact hvN)
        have hcn := hbg2.cnt v hvN
        have hle : cnt9 tl k m (v : Int) ≤ k + m := by
          unfold cnt9
          have h1 := List.length_filter_le (fun a => decide (hasV (tl.getD a z3) (v : Int))) (List.range k)
          have h2 := List.length_filter_le (fun j => decide (vx (tl.getD k z3) j = (v : Int))) (List.range m)
          rw [List.length_range] at h1 h2
          omega
        rw [hcn] at y0
        have a0 := hst2.ra.cell (k * 3 + m) (by rw [← HAL.out, halfI_len]; omega)
        have ha : al.getD (k * 3 + m) 0 = acr tl (3 * k + m) := by rw [← HAL.out, halfI_at _ _ (by omega), Nat.mul_comm]
        have hld := acr_lead HP.out.2.1 HP.out.2.2.1 (i := k) (k := m) (by rw [HL.out]; exact hlt) hm3
        rw [hvx] at hld
        rw [ha] at a0
        obtain ⟨cn, hcn'⟩ : ∃ cn, cnt9 tl k m (v : Int) = cn := ⟨_, rfl⟩
        obtain ⟨az, haz⟩ : ∃ az, acr tl (3 * k + m) = az := ⟨_, rfl⟩
        rw [hcn'] at y0 hle hcn
        rw [haz] at a0 hld
        have s0 := row_cell hst2.rs v (by rw [hbg2.l2]; exact hvN)
        have s1 := frozen_in hst2.rs v
        have t1 := frozen_in hst2.rc v
        have HM := Lib.hid (And.intro hst2 (And.intro hbg2 (And.intro hvx (And.intro hcn (And.intro hcn' hld)))))
        have wa : IntKind.i64.wrap ((cn : Int) + 1) = (cn : Int) + 1 := IntWalk.i64_in _ (by omega)
        have st1 := hst2.setS H HSS.out v (k : Int)
        obtain ⟨w3, hw3⟩ : ∃ w3, wr.setCell ⟨sb, v, none⟩ (.int .i64 (k : Int)) = w3 := ⟨_, rfl⟩
        rw [hw3] at st1
        have y3 : w3.cell? ⟨tb, v, none⟩ = some (.int .i64 (cn : Int)) := by rw [row_cell st1.rc v (by rw [hbg2.l1]; exact hvN), hcn]
        have t3 := frozen_in st1.rc v
        have ST1 := Lib.hid st1
        clear hst2 hbg2 hv hvi hvx hcn hcn' ha haz hld st1
        by_cases hz : cn = 0
        · have g1 : ((cn : Int) == 0) = true := by simp; omega
          go_wp2_with fail
          have N1 := HM.out.2.1.corner hvN HM.out.2.2.1 (sl' := sl2.set v (k : Int)) (.inl ⟨rfl, .inl (by rw [HM.out.2.2.2.2.1]; exact hz)⟩)
          have N2 := ST1.out.setC H HSS.out v ((cn : Int) + 1)
          rw [HM.out.2.2.2.1] at N1
          rw [show (cn : Int) + 1 = 1 by omega] at N1 N2
          exact ⟨⟨m + 1, by omega, by go_num, _, _, N2, N1⟩, by simp [intOf]; omega⟩
        · have g1 : ((cn : Int) == 0) = false := by simp; omega
          by_cases hneg : az < 0
          · go_wp2_with fail
            have N1 := HM.out.2.1.corner hvN HM.out.2.2.1 (sl' := sl2.set v (k : Int)) (.inl ⟨rfl, .inr (HM.out.2.2.2.2.2.1 hneg)⟩)
            have N2 := ST1.out.setC H HSS.out v ((cn : Int) + 1)
            rw [HM.out.2.2.2.1] at N1
            exact ⟨⟨m + 1, by omega, by go_num, _, _, N2, N1⟩, by simp [intOf]; omega⟩
          · clear hw3
            go_wp2_with fail
            have N1 := HM.out.2.1.corner hvN HM.out.2.2.1 (sl' := sl2) (.inr ⟨rfl, by rw [HM.out.2.2.2.2.1]; exact hz, fun h => hneg (HM.out.2.2.2.2.2.2 h)⟩)
            have N2 := HM.out.1.setC H HSS.out v ((cn : Int) + 1)
            rw [HM.out.2.2.2.1] at N1
            exact ⟨⟨m + 1, by omega, by go_num, _, _, N2, N1⟩, by simp [intOf]; omega⟩
end Go.Proofs.Ytelbmjbjpgcdaaa
