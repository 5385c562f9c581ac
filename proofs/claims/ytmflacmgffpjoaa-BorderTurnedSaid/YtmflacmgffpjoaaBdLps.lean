/- Layer 12: the document's answers: all loops; are two lists of lists the same. -/
import Derived.Test.YtmflacmgffpjoaaBdEdg
import Derived.Test.YtmflacmgffpjoaaBdLpP
import Derived.Deep.DeepCutAuto
namespace Go.Proofs.Ytmflacmgffpjoaa
open Go.RowKit

def LpR (w1 : World) (N : Int) (l : List Tr) (o i : Value) (wr : World) : Prop := Below w1.heap.size w1 wr ∧ ∃ k : Nat, k ≤ N.toNat ∧ i = .int .i64 (k : Int) ∧ ∃ LL, IsLoopsK N l k LL ∧ RowsOwn wr w1.heap.size o (LL.map natsI)
def LeastUp (L : List Nat) (k j : Nat) : Prop := ∀ a, a < j → k ≤ L.getD a 0
instance (L : List Nat) (k j : Nat) : Decidable (LeastUp L k j) := inferInstanceAs (Decidable (∀ a, a < j → k ≤ L.getD a 0))
theorem leastUp_succ {L : List Nat} {k j : Nat} : LeastUp L k (j + 1) ↔ LeastUp L k j ∧ k ≤ L.getD j 0 := by
  constructor
  · exact fun h => ⟨fun a ha => h a (by omega), h j (by omega)⟩
  · rintro ⟨h1, h2⟩ a ha
    rcases Nat.lt_or_ge a j with g | g
    · exact h1 a g
    · rw [show a = j by omega]; exact h2
theorem leastUp_all {L : List Nat} {k : Nat} : LeastUp L k L.length ↔ ∀ x ∈ L, k ≤ x := by
  constructor
  · intro h x hx
    obtain ⟨i, hi, rfl⟩ := memn_getD hx
    exact h i hi
  · exact fun h a ha => h _ (getDn_mem ha)
theorem map_natsI (LL : List (List Nat)) (L : List Nat) : (LL ++ [L]).map natsI = LL.map natsI ++ [natsI L] := by simp
def InR (L : List Nat) (k : Nat) (b i : Value) : Prop := ∃ j : Nat, j ≤ L.length ∧ i = .int .i64 (j : Int) ∧ b = .bool (decide (LeastUp L k j))
set_option maxHeartbeats 8000000 in
set_option maxRecDepth 100000 in
theorem r12loops_any (w : World) (N : Int) (A : Option Addr) (n c : Nat) (l : List Tr) (ht : T3 w A n l) (h : Surf N l) (LL : List (List Nat)) (hLL : IsLoops N l LL) : Calls Try.prog 20 #[.agg #[.int .i64 N, .slice A n c]] w (RowsTold w (LL.map natsI)) := by
  obtain rfl := ht.1
  obtain ⟨w1, hw1⟩ : ∃ w1, w.alloc (.cells #[.int .i64 N, .slice A l.length c] 24) = w1 := ⟨_, rfl⟩
  obtain ⟨g, hg⟩ : ∃ g, w.heap.size = g := ⟨_, rfl⟩
  have b1 : Below w.heap.size w w1 := by rw [← hw1]; exact (Below.refl _ w).alloc (Nat.le_refl _) _
  have x1 : Bx w1 g N A l.length c := by rw [← hw1, ← hg]; exact Bx.made w N A l.length c
  have hn : l.length ≤ 8192 := h.t1
  have hN0 := h.n0
  have hN1 := h.n1
  have HL := Lib.hid ht
  have B1 := Lib.hid b1
  have HS := Lib.hid (fun W (b : Below w1.heap.size w1 W) => (show W.cell? ⟨g, 0, none⟩ = some (.int .i64 N) ∧ W.cell? ⟨g, 1, none⟩ = some (.slice A l.length c) from ⟨(x1.below b).c0, (x1.below b).c1⟩))
  have HF := Lib.hid h
  have HLL := Lib.hid hLL
  clear b1 x1 ht h hLL
  go_enter Try.func20, Try.ntmps20
  go_wp2_with fail
  clear hw1 hg
  go_loopw [3, 4] (LpR w1 N l) (fun _ i _ => N.toNat - (intOf i).toNat)
  case atStart => exact ⟨Below.refl _ _, 0, Nat.zero_le _, rfl, [], IsLoopsK.nil N l, RowsOwn.nil _ _⟩
  case round =>
    obtain ⟨hb, k, hk, rfl, KK, hKK, ho⟩ := hrel
    have h0 := HS.out wr hb
    by_cases hlt : k < N.toNat
    case neg =>
      obtain rfl : k = N.toNat := by omega
      have b1 : ¬ (((N.toNat : Nat) : Int) < N) := by omega
      have b2 : decide (((N.toNat : Nat) : Int) < N) = false := decide_eq_false b1
      have HE := Lib.hid (show KK = LL from IsLoopsK.one hKK HLL.out)
      have HO := Lib.hid (And.intro hb ho)
      clear hb ho hKK
      obtain ⟨Ao, co, rfl⟩ := HO.out.2.form
      go_wp2_with fail
      go_ret
      refine ⟨_, _, _, rfl, ?_, up2 B1.out HO.out.1⟩
      have := (HO.out.2.base B1.out.size).reads
      simpa only [HE.out, List.length_map] using this
    have b1 : (k : Int) < N := by omega
    have hkl := loopsK_le hKK
    obtain ⟨xs, hxs⟩ := walk_exists HF.out (k : Int)
    have KW := Lib.hid (r12walk_any wr N A l.length c l (HL.out.below (up2 B1.out hb)) HF.out (k : Int) xs hxs)
    have HB := Lib.hid (And.intro hb (And.intro hKK ho))
    have hsz := hb.size
    clear hb hKK ho
    rcases hxs with ⟨hz0, rfl⟩ | ⟨hz0, L, hL, rfl⟩
    · have HN := Lib.hid (show ¬ IsLeast N l k from fun hl => by
        obtain ⟨y, hy⟩ := (bV_mem HF.out).1 hl.mem
        rw [(after_iff HF.out (by omega)).2 hy] at hz0; omega)
      clear hz0
      go_wp2_with fail
      refine KW.out.mono ?_
      rintro e w5 ⟨A5, n5, c5, rfl, r5, b5⟩
      obtain rfl : n5 = 0 := by have := r5.1; rw [length_ints] at this; simpa using this.symm
      have H5 := Lib.hid (And.intro (up2 HB.out.1 b5) (HB.out.2.2.up b5))
      clear b5 r5
      have e0 : decide ((((0 : Nat) : Int)) > 0) = false := rfl
      go_wp2_with fail
      go_loop [6, 7] (fun b i => b = .bool false ∧ i = .int .i64 0) (fun _ _ => 0)
      case atStart => exact ⟨rfl, rfl⟩
      case round =>
        obtain ⟨rfl, rfl⟩ := hrel
        go_wp2_with fail
        exact ⟨⟨H5.out.1, k + 1, by omega, by go_num, KK, HB.out.2.1.skip HN.out, H5.out.2⟩, by simp [intOf]; omega⟩
    rw [Int.toNat_natCast] at hL
    have hne := hL.chain.ne
    have hll := loop_len HF.out hL
    have HLP := Lib.hid hL
    have HXL := Lib.hid (natsI_len L)
    clear hz0 hL
    go_wp2_with fail
    refine KW.out.mono ?_
    rintro e w5 ⟨A5, n5, c5, rfl, r5, b5⟩
    obtain rfl : n5 = L.length := by have := r5.1; rw [length_ints, HXL.out] at this; omega
    obtain ⟨A', c', e', _, hr⟩ := Reads.of_own r5
    injection e' with e1 _ e3
    subst e1 e3
    have hcell : ∀ j, j < L.length → ∃ ad, A5 = some ad ∧ w5.cell? (ad.add j) = some (.int .i64 ((L.getD j 0 : Nat) : Int)) := fun j hj => by
      obtain ⟨ad, h1, h2⟩ := hr.int j hj
      rw [natsI_at] at h2
      exact ⟨ad, h1, h2⟩
    obtain ⟨ad, rfl, _⟩ := hcell 0 hne
    have HC := Lib.hid (fun j hj => show w5.cell? (ad.add j) = some (.int .i64 ((L.getD j 0 : Nat) : Int)) from by
      obtain ⟨ad', h1, h2⟩ := hcell j hj
      injection h1 with h1
      subst h1
      exact h2)
    have H5 := Lib.hid (And.intro (up2 HB.out.1 b5) (And.intro (HB.out.2.2.up b5) (ownK_base r5 hsz)))
    have hs5 := Nat.le_trans hsz b5.size
    clear b5 r5 hr hcell
    have e0 : decide ((L.length : Int) > 0) = true := decide_eq_true (by omega)
    go_wp2_with fail
    go_loop [6, 7] (InR L k) (fun _ i => L.length - (intOf i).toNat)
    case atStart => exact ⟨0, Nat.zero_le _, rfl, by rw [decide_eq_true (show LeastUp L k 0 from fun a ha => absurd ha (by omega))]⟩
    case round =>
      obtain ⟨j, hj, rfl, rfl⟩ := hrel
      by_cases hjl : j < L.length
      · have b3 : (j : Int) < (L.length : Int) := by omega
        have b4 : 0 ≤ (j : Int) := by omega
        have hc := HC.out j hjl
        have hsu := leastUp_succ (L := L) (k := k) (j := j)
        obtain ⟨x, hx⟩ : ∃ x, L.getD j 0 = x := ⟨_, rfl⟩
        rw [hx] at hc hsu
        clear hx
        by_cases hlu : LeastUp L k j
        · have d1 : decide (LeastUp L k j) = true := decide_eq_true hlu
          have hd : decide ((x : Int) ≥ (k : Int)) = decide (LeastUp L k (j + 1)) := decide_eq_decide.2 ⟨fun h => hsu.2 ⟨hlu, by omega⟩, fun h => by have := (hsu.1 h).2; omega⟩
          simp only [d1]
          obtain ⟨bb, hbb⟩ : ∃ bb, decide (LeastUp L k (j + 1)) = bb := ⟨_, rfl⟩
          rw [hbb] at hd
          have HD := Lib.hid (show decide (k ≤ x) = bb by rw [← hd]; exact decide_eq_decide.2 (by omega))
          have HBB := Lib.hid hbb
          clear hlu d1 hsu hbb
          go_wp2_with fail
          exact ⟨⟨j + 1, by omega, by go_num, by rw [HBB.out, HD.out]⟩, by simp [intOf]; omega⟩
        · have d1 : decide (LeastUp L k j) = false := decide_eq_false hlu
          have HBB := Lib.hid (show decide (LeastUp L k (j + 1)) = false from decide_eq_false fun h => hlu (hsu.1 h).1)
          simp only [d1]
          clear hlu d1 hsu
          go_wp2_with fail
          exact ⟨⟨j + 1, by omega, by go_num, by rw [HBB.out]⟩, by simp [intOf]; omega⟩
      · obtain rfl : j = L.length := by omega
        have b3 : ¬ ((L.length : Int) < (L.length : Int)) := by omega
        have hla := leastUp_all (L := L) (k := k)
        by_cases hlu : LeastUp L k L.length
        · have d1 : decide (LeastUp L k L.length) = true := decide_eq_true hlu
          have HN := Lib.hid (HB.out.2.1.add HLP.out (hla.1 hlu))
          have HRX := Lib.hid (show w5.ownsRow w1.heap.size 3 1 (.slice (some ad) L.length c5) (natsI L).length (ints (natsI L)) by rw [HXL.out]; exact H5.out.2.2)
          have hkm : (KK.map natsI).length ≤ 1000000 := by rw [List.length_map]; omega
          simp only [d1]
          clear hlu d1 hla
          go_wp2_with (at_builtin; refine wpl_snocR H5.out.2.1 HRX.out hs5 hkm rfl (.tmp 36) (.tmp 38) rfl (by go_simp) rfl ?_)
          intro A9 c9 w9 b9 own9
          have H9 := Lib.hid (And.intro (H5.out.1.trans b9) own9)
          clear b9 own9
          go_wp2_with fail
          exact ⟨⟨H9.out.1, k + 1, by omega, by go_num, KK ++ [L], HN.out, by rw [map_natsI]; exact H9.out.2⟩, by simp [intOf]; omega⟩
        · have d1 : decide (LeastUp L k L.length) = false := decide_eq_false hlu
          have HN := Lib.hid (show ¬ IsLeast N l k from fun ⟨M, hM, hl⟩ => hlu (hla.2 (by rw [HLP.out.one hM]; exact hl)))
          simp only [d1]
          clear hlu d1 hla
          go_wp2_with fail
          exact ⟨⟨H5.out.1, k + 1, by omega, by go_num, KK, HB.out.2.1.skip HN.out, H5.out.2.1⟩, by simp [intOf]; omega⟩
end Go.Proofs.Ytmflacmgffpjoaa
