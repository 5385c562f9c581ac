/- Texts laid one behind the other: RgRef, RgAt, RgAr, RgLk, RgLnk, RgMir, RgEdg, RgCnt. -/
import Derived.Test.YtoianhaocjiffaaGP
import Derived.Test.YtoianhaocjiffaaGK
import Derived.Test.YtoianhaocjiffaaGM
import Derived.Deep.DeepCutAuto
import Derived.Deep.CutBlock
import Derived.Test.YtoianhaocjiffaaGN

/- Layer 11: the document's answers: the triangle that has a directed edge, a vertex's corner in a triangle, the vertex behind a corner, are two near, the same numbers. -/
namespace Go.Proofs.Ytoianhaocjiffaa
open Go.RowKit

def WithP (l : List Tr) (a b : Int) (j : Nat) : Prop := vtx l j = a ∧ vtx l (nxt j) = b
def WiOut (w : World) (n : Nat) (l : List Tr) (a b : Int) (i : Value) (wr : World) : Prop := Below w.heap.size w wr ∧ ∃ k : Nat, k ≤ n ∧ i = .int .i64 (k : Int) ∧ ∀ j, j < 3 * k → ¬ WithP l a b j
def WiIn (w : World) (l : List Tr) (a b : Int) (k : Nat) (i : Value) (wr : World) : Prop := Below w.heap.size w wr ∧ ∃ m : Nat, m ≤ 3 ∧ i = .int .i64 (m : Int) ∧ ∀ j, j < 3 * k + m → ¬ WithP l a b j
theorem vtx_three (l : List Tr) (k : Nat) : vtx l (3 * k) = (l.getD k z3).1 ∧ vtx l (3 * k + 1) = (l.getD k z3).2.1 ∧ vtx l (3 * k + 2) = (l.getD k z3).2.2 := by
  unfold vtx
  rw [show (3 * k) / 3 = k by omega, show (3 * k) % 3 = 0 by omega, show (3 * k + 1) / 3 = k by omega, show (3 * k + 1) % 3 = 1 by omega, show (3 * k + 2) / 3 = k by omega, show (3 * k + 2) % 3 = 2 by omega]
  exact ⟨rfl, rfl, rfl⟩
theorem nxt_three (k : Nat) : nxt (3 * k) = 3 * k + 1 ∧ nxt (3 * k + 1) = 3 * k + 2 ∧ nxt (3 * k + 2) = 3 * k := by
  refine ⟨?_, ?_, ?_⟩ <;> unfold nxt <;> split <;> omega
set_option maxHeartbeats 4000000 in
set_option maxRecDepth 100000 in
theorem r11with_any (w : World) (N : Int) (A : Option Addr) (n c : Nat) (l : List Tr) (ht : T3 w A n l) (hn : n ≤ 1000000) (a b : Int) : Calls Try.prog 30 #[.agg #[.int .i64 N, .slice A n c], .int .i64 a, .int .i64 b] w (IntTold w (withC l a b)) := by
  obtain ⟨w1, hw1⟩ : ∃ w1, w.alloc (.cells #[.int .i64 N, .slice A n c] 24) = w1 := ⟨_, rfl⟩
  obtain ⟨g, hg⟩ : ∃ g, w.heap.size = g := ⟨_, rfl⟩
  have b1 : Below w.heap.size w w1 := by rw [← hw1]; exact (Below.refl _ w).alloc (Nat.le_refl _) _
  have x1 : Bx w1 g N A n c := by rw [← hw1, ← hg]; exact Bx.made w N A n c
  have B1 := Lib.hid (And.intro b1 x1)
  have HL := Lib.hid ht
  clear b1 x1 ht
  go_enter Try.func30, Try.ntmps30
  go_wp2_with fail
  clear hw1 hg
  go_loopw [7] (WiOut w1 n l a b) (fun i _ => n - (intOf i).toNat)
  case atStart => exact ⟨Below.refl _ _, 0, Nat.zero_le _, rfl, fun j hj => absurd hj (by omega)⟩
  case round =>
    obtain ⟨hb, k, hk, rfl, hno⟩ := hrel
    have x2 := B1.out.2.below hb
    have e1 := x2.c1
    have HR := Lib.hid (And.intro hb hno)
    clear hb hno x2
    by_cases hlt : k < n
    case neg =>
      obtain rfl : k = n := by omega
      have c1 : ¬ (k : Int) < k := by omega
      go_wp2
      go_ret
      refine ⟨?_, up2 B1.out.1 HR.out.1⟩
      rw [withC_none fun j hj => HR.out.2 j (by rw [HL.out.1] at hj; exact hj)]
      rfl
    have c1 : (k : Int) < n := by omega
    go_wp2_with fail
    go_loopw [8] (WiIn w1 l a b k) (fun i _ => 3 - (intOf i).toNat)
    case atStart => exact ⟨HR.out.1, 0, by omega, rfl, fun j hj => HR.out.2 j (by omega)⟩
    case round =>
      obtain ⟨hb, m, hm, rfl, hno⟩ := hrel
      have x2 := B1.out.2.below hb
      have e1 := x2.c1
      have HR2 := Lib.hid (And.intro hb hno)
      clear hb hno x2
      by_cases hm3 : m < 3
      case neg =>
        obtain rfl : m = 3 := by omega
        go_wp2_with fail
        exact ⟨⟨HR2.out.1, k + 1, by omega, by go_num, fun j hj => HR2.out.2 j (by omega)⟩, by simp [intOf]; omega⟩
      obtain ⟨bA, off, rfl, hat⟩ := (HL.out.below (up2 B1.out.1 HR2.out.1)).2 (by omega)
      obtain ⟨v0, v1, v2⟩ := hat k hlt
      clear hat
      have HV := Lib.hid (vtx_three l k)
      have HN := Lib.hid (nxt_three k)
      have k0 : 0 ≤ (k : Int) := by omega
      obtain ⟨x, hx⟩ : ∃ x, l.getD k z3 = x := ⟨_, rfl⟩
      rw [hx] at v0 v1 v2 HV
      have hkl : k < l.length := by rw [HL.out.1]; exact hlt
      have HKL := Lib.hid hkl
      clear hx hkl
      obtain ⟨x0, x1, x2⟩ := x
      rcases (show m = 0 ∨ m = 1 ∨ m = 2 by omega) with rfl | rfl | rfl
      · have m1 : ((0 : Nat) : Int) < 3 := by omega
        by_cases h0 : x0 = a
        · by_cases h1 : x1 = b
          · subst h0 h1
            go_wp2_with fail
            go_ret
            refine ⟨?_, up2 B1.out.1 HR2.out.1⟩
            rw [withC_at (j := 3 * k) (by have := HKL.out; omega) ⟨HV.out.1, by rw [HN.out.1]; exact HV.out.2.1⟩ (fun i hi => HR2.out.2 i (by omega)), show 3 * k / 3 = k by omega]
            rfl
          · subst h0
            have d1 : (x1 == b) = false := by simpa using h1
            have H1 := Lib.hid h1
            clear h1
            go_wp2_with fail
            refine ⟨⟨HR2.out.1, 1, by omega, by go_num, fun j hj hp => ?_⟩, by simp [intOf]⟩
            rcases Nat.lt_or_ge j (3 * k) with h | h
            · exact HR2.out.2 j (by omega) hp
            · obtain rfl : j = 3 * k := by omega
              exact H1.out (by have := hp.2; rw [HN.out.1, HV.out.2.1] at this; exact this)
        · have d0 : (x0 == a) = false := by simpa using h0
          have H0 := Lib.hid h0
          clear h0
          go_wp2_with fail
          refine ⟨⟨HR2.out.1, 1, by omega, by go_num, fun j hj hp => ?_⟩, by simp [intOf]⟩
          rcases Nat.lt_or_ge j (3 * k) with h | h
          · exact HR2.out.2 j (by omega) hp
          · obtain rfl : j = 3 * k := by omega
            exact H0.out (by have := hp.1; rw [HV.out.1] at this; exact this)
      · by_cases h0 : x1 = a
        · by_cases h1 : x2 = b
          · subst h0 h1
            go_wp2_with fail
            go_ret
            refine ⟨?_, up2 B1.out.1 HR2.out.1⟩
            rw [withC_at (j := 3 * k + 1) (by have := HKL.out; omega) ⟨HV.out.2.1, by rw [HN.out.2.1]; exact HV.out.2.2⟩ (fun i hi => HR2.out.2 i (by omega)), show (3 * k + 1) / 3 = k by omega]
            rfl
          · subst h0
            have d1 : (x2 == b) = false := by simpa using h1
            have H1 := Lib.hid h1
            clear h1
            go_wp2_with fail
            refine ⟨⟨HR2.out.1, 2, by omega, by go_num, fun j hj hp => ?_⟩, by simp [intOf]⟩
            rcases Nat.lt_or_ge j (3 * k + 1) with h | h
            · exact HR2.out.2 j (by omega) hp
            · obtain rfl : j = 3 * k + 1 := by omega
              exact H1.out (by have := hp.2; rw [HN.out.2.1, HV.out.2.2] at this; exact this)
        · have d0 : (x1 == a) = false := by simpa using h0
          have H0 := Lib.hid h0
          clear h0
          go_wp2_with fail
          refine ⟨⟨HR2.out.1, 2, by omega, by go_num, fun j hj hp => ?_⟩, by simp [intOf]⟩
          rcases Nat.lt_or_ge j (3 * k + 1) with h | h
          · exact HR2.out.2 j (by omega) hp
          · obtain rfl : j = 3 * k + 1 := by omega
            exact H0.out (by have := hp.1; rw [HV.out.2.1] at this; exact this)
      · by_cases h0 : x2 = a
        · by_cases h1 : x0 = b
          · subst h0 h1
            go_wp2_with fail
            go_ret
            refine ⟨?_, up2 B1.out.1 HR2.out.1⟩
            rw [withC_at (j := 3 * k + 2) (by have := HKL.out; omega) ⟨HV.out.2.2, by rw [HN.out.2.2]; exact HV.out.1⟩ (fun i hi => HR2.out.2 i (by omega)), show (3 * k + 2) / 3 = k by omega]
            rfl
          · subst h0
            have d1 : (x0 == b) = false := by simpa using h1
            have H1 := Lib.hid h1
            clear h1
            go_wp2_with fail
            refine ⟨⟨HR2.out.1, 3, by omega, by go_num, fun j hj hp => ?_⟩, by simp [intOf]⟩
            rcases Nat.lt_or_ge j (3 * k + 2) with h | h
            · exact HR2.out.2 j (by omega) hp
            · obtain rfl : j = 3 * k + 2 := by omega
              exact H1.out (by have := hp.2; rw [HN.out.2.2, HV.out.1] at this; exact this)
        · have d0 : (x2 == a) = false := by simpa using h0
          have H0 := Lib.hid h0
          clear h0
          go_wp2_with fail
          refine ⟨⟨HR2.out.1, 3, by omega, by go_num, fun j hj hp => ?_⟩, by simp [intOf]⟩
          rcases Nat.lt_or_ge j (3 * k + 2) with h | h
          · exact HR2.out.2 j (by omega) hp
          · obtain rfl : j = 3 * k + 2 := by omega
            exact H0.out (by have := hp.1; rw [HV.out.2.2] at this; exact this)
end Go.Proofs.Ytoianhaocjiffaa

/- Layer 11: the document's answers: a vertex's corner in a triangle, the vertex behind a corner, are two near, the same numbers. -/
namespace Go.Proofs.Ytoianhaocjiffaa
open Go.RowKit

def AtAt (w1 : World) (l : List Tr) (t : Nat) (v : Int) (i : Value) (wr : World) : Prop := wr = w1 ∧ ∃ m : Nat, m ≤ 3 ∧ i = .int .i64 (m : Int) ∧ ∀ j, j < m → vtx l (3 * t + j) ≠ v
set_option maxHeartbeats 4000000 in
set_option maxRecDepth 100000 in
theorem r11at_any (w : World) (N : Int) (A : Option Addr) (n c : Nat) (l : List Tr) (ht : T3 w A n l) (hn : n ≤ 1000000) (t : Nat) (htn : t < n) (v : Int) : Calls Try.prog 32 #[.agg #[.int .i64 N, .slice A n c], .int .i64 (t : Int), .int .i64 v] w (IntTold w (atC l t v)) := by
  obtain ⟨w1, hw1⟩ : ∃ w1, w.alloc (.cells #[.int .i64 N, .slice A n c] 24) = w1 := ⟨_, rfl⟩
  obtain ⟨g, hg⟩ : ∃ g, w.heap.size = g := ⟨_, rfl⟩
  have b1 : Below w.heap.size w w1 := by rw [← hw1]; exact (Below.refl _ w).alloc (Nat.le_refl _) _
  have x1 : Bx w1 g N A n c := by rw [← hw1, ← hg]; exact Bx.made w N A n c
  have e1 := x1.c1
  obtain ⟨bA, off, rfl, hat⟩ := (ht.below b1).2 (by omega)
  obtain ⟨v0, v1, v2⟩ := hat t htn
  obtain ⟨hv0, hv1, hv2⟩ := vtx_three l t
  obtain ⟨x, hx⟩ : ∃ x, l.getD t z3 = x := ⟨_, rfl⟩
  rw [hx] at v0 v1 v2 hv0 hv1 hv2
  obtain ⟨x0, x1', x2⟩ := x
  simp only at hv0 hv1 hv2 v0 v1 v2
  have B1 := Lib.hid b1
  have HV := Lib.hid (And.intro hv0 (And.intro hv1 hv2))
  have t0 : (t : Int) < n := by omega
  have t1 : 0 ≤ (t : Int) := by omega
  have w0 : IntKind.i64.wrap (3 * (t : Int)) = 3 * (t : Int) := IntWalk.i64_in _ (by omega)
  have w1' : IntKind.i64.wrap (3 * (t : Int) + 1) = 3 * (t : Int) + 1 := IntWalk.i64_in _ (by omega)
  have w2' : IntKind.i64.wrap (3 * (t : Int) + 2) = 3 * (t : Int) + 2 := IntWalk.i64_in _ (by omega)
  clear ht x1 b1 hat hv0 hv1 hv2 hx
  go_enter Try.func32, Try.ntmps32
  go_wp2_with fail
  clear hw1 hg
  go_loopw [7] (AtAt w1 l t v) (fun i _ => 3 - (intOf i).toNat)
  case atStart => exact ⟨rfl, 0, by omega, rfl, fun j hj => absurd hj (by omega)⟩
  case round =>
    obtain ⟨rfl, m, hm, rfl, hno⟩ := hrel
    have HR := Lib.hid hno
    clear hno
    rcases (show m = 0 ∨ m = 1 ∨ m = 2 ∨ m = 3 by omega) with rfl | rfl | rfl | rfl
    · by_cases h : x0 = v
      · subst h
        go_wp2
        go_ret
        refine ⟨?_, B1.out⟩
        unfold atC
        rw [if_pos HV.out.1]
        go_num
      · have d0 : (x0 == v) = false := by simpa using h
        have H := Lib.hid h
        clear h
        go_wp2_with fail
        refine ⟨⟨rfl, 1, by omega, by go_num, fun j hj => ?_⟩, by simp [intOf]⟩
        obtain rfl : j = 0 := by omega
        rw [Nat.add_zero, HV.out.1]; exact H.out
    · by_cases h : x1' = v
      · subst h
        go_wp2
        go_ret
        refine ⟨?_, B1.out⟩
        unfold atC
        rw [if_neg (by have := HR.out 0 (by omega); rwa [Nat.add_zero] at this), if_pos HV.out.2.1]
        go_num
      · have d0 : (x1' == v) = false := by simpa using h
        have H := Lib.hid h
        clear h
        go_wp2_with fail
        refine ⟨⟨rfl, 2, by omega, by go_num, fun j hj => ?_⟩, by simp [intOf]⟩
        rcases (show j = 0 ∨ j = 1 by omega) with rfl | rfl
        · exact HR.out 0 (by omega)
        · rw [HV.out.2.1]; exact H.out
    · by_cases h : x2 = v
      · subst h
        go_wp2
        go_ret
        refine ⟨?_, B1.out⟩
        unfold atC
        rw [if_neg (by have := HR.out 0 (by omega); rwa [Nat.add_zero] at this), if_neg (HR.out 1 (by omega)), if_pos HV.out.2.2]
        go_num
      · have d0 : (x2 == v) = false := by simpa using h
        have H := Lib.hid h
        clear h
        go_wp2_with fail
        refine ⟨⟨rfl, 3, by omega, by go_num, fun j hj => ?_⟩, by simp [intOf]⟩
        rcases (show j = 0 ∨ j = 1 ∨ j = 2 by omega) with rfl | rfl | rfl
        · exact HR.out 0 (by omega)
        · exact HR.out 1 (by omega)
        · rw [HV.out.2.2]; exact H.out
    · go_wp2
      go_ret
      refine ⟨?_, B1.out⟩
      unfold atC
      rw [if_neg (by have := HR.out 0 (by omega); rwa [Nat.add_zero] at this), if_neg (HR.out 1 (by omega)), if_neg (HR.out 2 (by omega))]
      rfl
set_option maxHeartbeats 4000000 in
set_option maxRecDepth 100000 in
theorem r11behind_any (w : World) (N : Int) (A : Option Addr) (n c : Nat) (l : List Tr) (ht : T3 w A n l) (hn : n ≤ 1000000) (k : Nat) (hk : k < 3 * n) (y : Nat) (hy : y ≤ 2) : Calls Try.prog 31 #[.agg #[.int .i64 N, .slice A n c], .int .i64 (k : Int), .int .i64 (y : Int)] w (IntTold w (vtx l (besC k y))) := by
  obtain ⟨w1, hw1⟩ : ∃ w1, w.alloc (.cells #[.int .i64 N, .slice A n c] 24) = w1 := ⟨_, rfl⟩
  obtain ⟨g, hg⟩ : ∃ g, w.heap.size = g := ⟨_, rfl⟩
  have b1 : Below w.heap.size w w1 := by rw [← hw1]; exact (Below.refl _ w).alloc (Nat.le_refl _) _
  have x1 : Bx w1 g N A n c := by rw [← hw1, ← hg]; exact Bx.made w N A n c
  have e1 := x1.c1
  obtain ⟨d, hd⟩ : ∃ d, k / 3 = d := ⟨_, rfl⟩
  have hdn : d < n := by omega
  obtain ⟨bA, off, rfl, hat⟩ := (ht.below b1).2 (by omega)
  obtain ⟨c0, c1, c2⟩ := hat d hdn
  have td : Int.tdiv (k : Int) 3 = (d : Int) := by rw [Int.tdiv_eq_ediv_of_nonneg (by omega)]; omega
  have hdn' : (d : Int) < n := by omega
  obtain ⟨r, hr⟩ : ∃ r, k % 3 = r := ⟨_, rfl⟩
  have tm : Int.tmod (k : Int) 3 = (r : Int) := by rw [Int.tmod_eq_emod_of_nonneg (by omega)]; omega
  have w2 : IntKind.i64.wrap ((r : Int) + (y : Int)) = (r : Int) + (y : Int) := IntWalk.i64_in _ (by omega)
  have w3 : IntKind.i64.wrap (d : Int) = (d : Int) := IntWalk.i64_in _ (by omega)
  have B1 := Lib.hid b1
  have HV : ∀ s, (k + y) % 3 = s → vtx l (besC k y) = cor3 (l.getD d z3) s := fun s h => by
    have h1 : besC k y / 3 = d := by unfold besC; omega
    have h2 : besC k y % 3 = s := by unfold besC; omega
    unfold vtx; rw [h1, h2]
  have hs3 : (r + y) % 3 = (k + y) % 3 := by omega
  rcases (show (k + y) % 3 = 0 ∨ (k + y) % 3 = 1 ∨ (k + y) % 3 = 2 by omega) with h | h | h
  · have tm2 : Int.tmod ((r : Int) + (y : Int)) 3 = 0 := by rw [Int.tmod_eq_emod_of_nonneg (by omega)]; omega
    rw [HV 0 h]
    clear b1 x1 ht hat hd h HV hr hs3
    go_enter Try.func31, Try.ntmps31
    go_wp2
    go_ret
    exact ⟨rfl, B1.out⟩
  · have tm2 : Int.tmod ((r : Int) + (y : Int)) 3 = 1 := by rw [Int.tmod_eq_emod_of_nonneg (by omega)]; omega
    rw [HV 1 h]
    clear b1 x1 ht hat hd h HV hr hs3
    go_enter Try.func31, Try.ntmps31
    go_wp2
    go_ret
    exact ⟨rfl, B1.out⟩
  · have tm2 : Int.tmod ((r : Int) + (y : Int)) 3 = 2 := by rw [Int.tmod_eq_emod_of_nonneg (by omega)]; omega
    rw [HV 2 h]
    clear b1 x1 ht hat hd h HV hr hs3
    go_enter Try.func31, Try.ntmps31
    go_wp2
    go_ret
    exact ⟨rfl, B1.out⟩
def NearC (l : List Tr) (a b : Int) : Prop := facing l (a, b) ≠ -1 ∨ facing l (b, a) ≠ -1
instance (l : List Tr) (a b : Int) : Decidable (NearC l a b) := inferInstanceAs (Decidable (_ ∨ _))
set_option maxHeartbeats 2000000 in
set_option maxRecDepth 100000 in
theorem r11near_any (w : World) (N : Int) (A : Option Addr) (n c : Nat) (l : List Tr) (ht : T3 w A n l) (hn : n ≤ 1000000) (a b : Int) : Calls Try.prog 21 #[.agg #[.int .i64 N, .slice A n c], .int .i64 a, .int .i64 b] w (BoolTold10 w (decide (NearC l a b))) := by
  obtain ⟨w1, hw1⟩ : ∃ w1, w.alloc (.cells #[.int .i64 N, .slice A n c] 24) = w1 := ⟨_, rfl⟩
  obtain ⟨g, hg⟩ : ∃ g, w.heap.size = g := ⟨_, rfl⟩
  have b1 : Below w.heap.size w w1 := by rw [← hw1]; exact (Below.refl _ w).alloc (Nat.le_refl _) _
  have x1 : Bx w1 g N A n c := by rw [← hw1, ← hg]; exact Bx.made w N A n c
  have e0 := x1.c0
  have e1 := x1.c1
  have K1 := Lib.hid (r11with_any w1 N A n c l (ht.below b1) hn a b)
  have B1 := Lib.hid (And.intro b1 x1)
  have HL := Lib.hid ht
  clear b1 x1 ht
  go_enter Try.func21, Try.ntmps21
  go_wp2_with fail
  refine K1.out.mono ?_
  rintro e w2 ⟨rfl, b2⟩
  have x2 := B1.out.2.below b2
  have e0 := x2.c0
  have e1 := x2.c1
  have B2 := Lib.hid (up2 B1.out.1 b2)
  have K2 := Lib.hid (r11with_any w2 N A n c l (HL.out.below B2.out) hn b a)
  clear b2 x2
  obtain ⟨x, hx⟩ : ∃ x, withC l a b = x := ⟨_, rfl⟩
  obtain ⟨y, hy⟩ : ∃ y, withC l b a = y := ⟨_, rfl⟩
  have hX := withC_nonneg (l := l) (a := a) (b := b)
  have hY := withC_nonneg (l := l) (a := b) (b := a)
  rw [hx] at hX
  rw [hy] at hY K2
  simp only [hx]
  have HX := Lib.hid (And.intro hX hY)
  clear hx hy hX hY
  by_cases h0 : 0 ≤ x
  · have d0 : decide (x ≥ 0) = true := by simpa using h0
    have HD := Lib.hid (decide_eq_true (show NearC l a b from .inl (HX.out.1.1 h0)))
    clear h0
    go_wp2_with fail
    go_ret
    exact ⟨by rw [HD.out]; rfl, B2.out⟩
  · have d0 : decide (x ≥ 0) = false := by simpa using h0
    have H0 := Lib.hid h0
    clear h0
    go_wp2_with fail
    refine K2.out.mono ?_
    rintro e w3 ⟨rfl, b3⟩
    have B3 := Lib.hid (up2 B2.out b3)
    clear b3
    by_cases h1 : 0 ≤ y
    · have d1 : decide (y ≥ 0) = true := by simpa using h1
      have HD := Lib.hid (decide_eq_true (show NearC l a b from .inr (HX.out.2.1 h1)))
      clear h1
      go_wp2_with fail
      go_ret
      exact ⟨by rw [HD.out]; rfl, B3.out⟩
    · have d1 : decide (y ≥ 0) = false := by simpa using h1
      have HD := Lib.hid (decide_eq_false (show ¬ NearC l a b from fun h => h.elim (fun h => by have := HX.out.1.2 h; have := H0.out; omega) (fun h => h1 (HX.out.2.2 h))))
      clear h1
      go_wp2_with fail
      go_ret
      exact ⟨by rw [HD.out]; rfl, B3.out⟩
def InAt (w : World) (n : Nat) (a b : List Int) (i : Value) (wr : World) : Prop := Below w.heap.size w wr ∧ ∃ k : Nat, k ≤ n ∧ i = .int .i64 (k : Int) ∧ ∀ j, j < k → a.getD j 0 = b.getD j 0
set_option maxHeartbeats 2000000 in
set_option maxRecDepth 100000 in
theorem r11ints_any (w : World) (A B : Option Addr) (n c m d : Nat) (a b : List Int) (ha : Reads w A n (ints a)) (hb : Reads w B m (ints b)) (hn : n ≤ 1000000) : Calls Try.prog 14 #[.slice A n c, .slice B m d] w (BoolTold10 w (decide (a = b))) := by
  have HA := Lib.hid ha
  have HB := Lib.hid hb
  clear ha hb
  by_cases h2 : n = m
  case neg =>
    have f2 : ((n : Int) != (m : Int)) = true := by simp; omega
    have H2 := Lib.hid h2
    clear h2
    go_enter Try.func14, Try.ntmps14
    go_wp2
    go_ret
    exact ⟨by rw [decide_eq_false fun e => H2.out (by rw [← HA.out.len, ← HB.out.len, e])]; rfl, Below.refl _ w⟩
  subst h2
  go_enter Try.func14, Try.ntmps14
  go_wp2_with fail
  go_loopw [5] (InAt w n a b) (fun i _ => n - (intOf i).toNat)
  case atStart => exact ⟨Below.refl _ _, 0, Nat.zero_le _, rfl, fun j hj => absurd hj (by omega)⟩
  case round =>
    obtain ⟨hbw, k, hk, rfl, hab⟩ := hrel
    have HR := Lib.hid (And.intro hbw hab)
    clear hbw hab
    by_cases hlt : k < n
    case neg =>
      obtain rfl : k = n := by omega
      have b1 : ¬ (k : Int) < k := by omega
      have HE := Lib.hid (show a = b from ext_getD (z := 0) (by rw [HA.out.len, HB.out.len]) fun i hi => HR.out.2 i (by rw [← HA.out.len]; exact hi))
      go_wp2
      go_ret
      exact ⟨by rw [decide_eq_true HE.out]; rfl, HR.out.1⟩
    have b1 : (k : Int) < n := by omega
    have b2 : 0 ≤ (k : Int) := by omega
    obtain ⟨ad, rfl, ca⟩ := (HA.out.below HR.out.1).int k hlt
    obtain ⟨bd, rfl, cb⟩ := (HB.out.below HR.out.1).int k hlt
    obtain ⟨x, hx⟩ : ∃ x, a.getD k 0 = x := ⟨_, rfl⟩
    obtain ⟨y, hy⟩ : ∃ y, b.getD k 0 = y := ⟨_, rfl⟩
    rw [hx] at ca
    rw [hy] at cb
    have HX := Lib.hid (And.intro hx hy)
    clear hx hy
    by_cases hxy : x = y
    · subst hxy
      go_wp2_with fail
      go_quiet (fail)
      have BN := Lib.hid (HR.out.1.trans (Reading.below (w := wr) (w' := wr.drewN nq) ⟨nq, rfl⟩))
      go_wp2_with fail
      refine ⟨⟨BN.out, k + 1, by omega, by go_num, fun j hj => ?_⟩, by simp [intOf]; omega⟩
      rcases Nat.lt_or_ge j k with h | h
      · exact HR.out.2 j h
      · obtain rfl : j = k := by omega
        rw [HX.out.1, HX.out.2]
    · have d0 : (x != y) = true := by simpa using hxy
      have HE := Lib.hid (decide_eq_false (show ¬ a = b from fun e => hxy (by rw [← HX.out.1, ← HX.out.2, e])))
      clear hxy
      go_wp2_with fail
      go_quiet (fail)
      have BN := Lib.hid (HR.out.1.trans (Reading.below (w := wr) (w' := wr.drewN nq) ⟨nq, rfl⟩))
      go_wp2_with fail
      go_ret
      exact ⟨by rw [HE.out]; rfl, BN.out⟩
end Go.Proofs.Ytoianhaocjiffaa

/- Layer 11: the document's answer: the corners around a vertex, in order. -/
namespace Go.Proofs.Ytoianhaocjiffaa
open Go.RowKit

theorem T3.vtx {w : World} {b off n : Nat} {l : List Tr} (h : T3 w (some ⟨b, off, none⟩) n l) {k : Nat} (hk : k < 3 * n) : w.cell? ⟨b, off + k / 3 * 3 + k % 3, none⟩ = some (.int .i64 (vtx l k)) := by
  obtain ⟨b', off', e, hc⟩ := h.2 (by omega)
  injection e with e
  injection e with e1 e2
  subst e1 e2
  obtain ⟨c0, c1, c2⟩ := hc (k / 3) (by omega)
  unfold Go.Proofs.Ytoianhaocjiffaa.vtx cor3
  rcases (show k % 3 = 0 ∨ k % 3 = 1 ∨ k % 3 = 2 by omega) with e | e | e <;> rw [e]
  · exact c0
  · exact c1
  · exact c2
/-- A ring, told in a new row. -/
def RingRow (w : World) (l : List Tr) (v : Int) (e : Ending) (w' : World) : Prop := ∃ A n c L, e = .returned (.slice A n c) ∧ IsRing l v L ∧ w'.ownsRow w.heap.size 3 1 (.slice A n c) n (ints (natsI L)) ∧ Below w.heap.size w w'
def FiC (w1 : World) (l : List Tr) (v : Int) (t : Value) (W : World) : Prop := Below w1.heap.size w1 W ∧ ((cAt l v = [] ∧ t = .int .i64 (-1)) ∨ ∃ c0 : Nat, IsFirst l v c0 ∧ t = .int .i64 (c0 : Int))
def FiR (w1 : World) (n : Nat) (l : List Tr) (v : Int) (f i : Value) (wr : World) : Prop := Below w1.heap.size w1 wr ∧ ∃ k : Nat, k ≤ 3 * n ∧ i = .int .i64 (k : Int) ∧
  ((f = .int .i64 (-1) ∧ ∀ d, d < k → vtx l d ≠ v) ∨ ∃ c0 : Nat, f = .int .i64 (c0 : Int) ∧ c0 < k ∧ vtx l c0 = v ∧ (∀ d, d < c0 → vtx l d ≠ v) ∧ ∀ d, d < k → vtx l d = v → oppC l (prv d) ≠ -1)
def ArR (w1 : World) (L : List Nat) (o i : Value) (wr : World) : Prop := Below w1.heap.size w1 wr ∧ ∃ k : Nat, k < L.length ∧ i = .int .i64 (k : Int) ∧ ∃ A c, o = .slice A (k + 1) c ∧ wr.ownsRow w1.heap.size 3 1 (.slice A (k + 1) c) (k + 1) (ints (natsI (L.take (k + 1))))
set_option maxHeartbeats 8000000 in
set_option maxRecDepth 100000 in
theorem r11around_any (w : World) (N : Int) (A : Option Addr) (n c : Nat) (l : List Tr) (ht : T3 w A n l) (hsf : Surf N l) (v : Int) : Calls Try.prog 13 #[.agg #[.int .i64 N, .slice A n c], .int .i64 v] w (RingRow w l v) := by
  obtain rfl := ht.1
  obtain ⟨w1, hw1⟩ : ∃ w1, w.alloc (.cells #[.int .i64 N, .slice A l.length c] 24) = w1 := ⟨_, rfl⟩
  obtain ⟨g, hg⟩ : ∃ g, w.heap.size = g := ⟨_, rfl⟩
  have b1 : Below w.heap.size w w1 := by rw [← hw1]; exact (Below.refl _ w).alloc (Nat.le_refl _) _
  have x1 : Bx w1 g N A l.length c := by rw [← hw1, ← hg]; exact Bx.made w N A l.length c
  have hn : l.length ≤ 8192 := hsf.t1
  have HSF := Lib.hid hsf
  have HL := Lib.hid (ht.below b1)
  have B1 := Lib.hid (And.intro b1 x1)
  have HH := Lib.hid (fun W (b : Below w1.heap.size w1 W) => (show W.cell? ⟨g, 0, none⟩ = some (.int .i64 N) ∧ W.cell? ⟨g, 1, none⟩ = some (.slice A l.length c) from ⟨(x1.below b).c0, (x1.below b).c1⟩))
  have e3 : IntKind.i64.wrap (3 * (l.length : Int)) = 3 * (l.length : Int) := IntWalk.i64_in _ (by omega)
  clear b1 x1 ht hsf
  go_enter Try.func13, Try.ntmps13
  go_upto_block 0 with fail
  clear hw1 hg
  go_cut [5] (FiC w1 l v)
  case first =>
    go_wp2_with fail
    go_loopw [5, 6] (FiR w1 l.length l v) (fun _ i _ => 3 * l.length - (intOf i).toNat)
    case atStart => exact ⟨Below.refl _ _, 0, Nat.zero_le _, rfl, .inl ⟨rfl, fun d hd => absurd hd (by omega)⟩⟩
    case round =>
      obtain ⟨hb, k, hk, rfl, hf⟩ := hrel
      have h0 := HH.out _ hb
      have HB := Lib.hid hb
      clear hb
      by_cases hlt : k < 3 * l.length
      case neg =>
        obtain rfl : k = 3 * l.length := by omega
        have c1 : ¬ (((3 * l.length : Nat) : Int) < 3 * (l.length : Int)) := by omega
        have c2 : decide (((3 * l.length : Nat) : Int) < 3 * (l.length : Int)) = false := decide_eq_false c1
        rcases hf with ⟨rfl, hno⟩ | ⟨c0, rfl, hc0, hv0, hmin, hin⟩
        · have HNO := Lib.hid (cAt_nil hno)
          clear hno
          go_wp2_with fail
          go_meet
          exact ⟨HB.out, .inl ⟨HNO.out, rfl⟩⟩
        · have HF := Lib.hid (show IsFirst l v c0 from ⟨cAt_mem.2 ⟨hc0, hv0⟩, .inr ⟨fun d hd => hin d (cAt_mem.1 hd).1 (cAt_mem.1 hd).2, fun d hd => by
            refine Nat.le_of_not_lt fun h => hmin d h (cAt_mem.1 hd).2⟩⟩)
          clear hc0 hv0 hmin hin
          go_wp2_with fail
          go_meet
          exact ⟨HB.out, .inr ⟨c0, HF.out, rfl⟩⟩
      have c1 : (k : Int) < 3 * (l.length : Int) := by omega
      obtain ⟨bA, off, rfl, hat⟩ := (HL.out.below HB.out).2 (by omega)
      have cv := (HL.out.below HB.out).vtx hlt
      obtain ⟨d, hd⟩ : ∃ d, k / 3 = d := ⟨_, rfl⟩
      obtain ⟨r, hr⟩ : ∃ r, k % 3 = r := ⟨_, rfl⟩
      rw [hd, hr] at cv
      have td : Int.tdiv (k : Int) 3 = (d : Int) := by rw [Int.tdiv_eq_ediv_of_nonneg (by omega)]; omega
      have tm : Int.tmod (k : Int) 3 = (r : Int) := by rw [Int.tmod_eq_emod_of_nonneg (by omega)]; omega
      have tw : IntKind.i64.wrap (d : Int) = (d : Int) := IntWalk.i64_in _ (by omega)
      have d0 : (d : Int) < (l.length : Int) := by omega
      have r0 : (r : Int) < 3 := by omega
      have d1 : 0 ≤ (d : Int) := by omega
      have r1 : 0 ≤ (r : Int) := by omega
      obtain ⟨x, hx⟩ : ∃ x, vtx l k = x := ⟨_, rfl⟩
      rw [hx] at cv
      have HX := Lib.hid (And.intro hx hlt)
      clear hx hd hr hat
      by_cases hxv : x = v
      case neg =>
        have dx : (x != v) = true := by simpa using hxv
        have HV := Lib.hid hxv
        have HF := Lib.hid hf
        clear hxv hf
        go_wp2_with fail
        refine ⟨⟨HB.out, k + 1, by have := HX.out.2; omega, by go_num, ?_⟩, by have := HX.out.2; simp [intOf]; omega⟩
        rcases HF.out with ⟨h1, h2⟩ | ⟨c0, h1, h2, h3, h4, h5⟩
        · refine .inl ⟨h1, fun e he => ?_⟩
          rcases Nat.lt_or_ge e k with h | h
          · exact h2 e h
          · obtain rfl : e = k := by omega
            rw [HX.out.1]; exact HV.out
        · refine .inr ⟨c0, h1, by omega, h3, h4, fun e he hev => ?_⟩
          rcases Nat.lt_or_ge e k with h | h
          · exact h5 e h hev
          · obtain rfl : e = k := by omega
            rw [HX.out.1] at hev; exact absurd hev HV.out
      subst hxv
      have dx : (x != x) = false := by simp
      have hcm : k ∈ cAt l x := cAt_mem.2 ⟨HX.out.2, HX.out.1⟩
      obtain ⟨wi, hwi⟩ : ∃ wi, withC l (vtx l (nxt k)) x = wi := ⟨_, rfl⟩
      have hfw := first_with hcm
      rw [hwi] at hfw
      have HW := Lib.hid (And.intro hcm hfw)
      have KB := Lib.hid (fun W (b : Below w1.heap.size w1 W) => (show Calls Try.prog 31 #[.agg #[.int .i64 N, .slice (some ⟨bA, off, none⟩) l.length c], .int .i64 (k : Int), .int .i64 1] W (IntTold W (vtx l (nxt k))) from by
        have := r11behind_any W N (some ⟨bA, off, none⟩) l.length c l (HL.out.below b) (by omega) k HX.out.2 1 (by omega)
        rwa [besC_one] at this))
      have KW := Lib.hid (fun W (b : Below w1.heap.size w1 W) => (show Calls Try.prog 30 #[.agg #[.int .i64 N, .slice (some ⟨bA, off, none⟩) l.length c], .int .i64 (vtx l (nxt k)), .int .i64 x] W (IntTold W wi) from by
        have := r11with_any W N (some ⟨bA, off, none⟩) l.length c l (HL.out.below b) (by omega) (vtx l (nxt k)) x
        rwa [hwi] at this))
      have bd : Below w1.heap.size w1 wr.drew := up2 HB.out (Reading.below ⟨1, rfl⟩)
      have hd := HH.out wr.drew bd
      clear hwi hfw hcm
      rcases hf with ⟨rfl, hno⟩ | ⟨c0, rfl, hc0, hv0, hmin, hin⟩
      · have HNO := Lib.hid hno
        have f0 : decide ((-1 : Int) < 0) = true := rfl
        clear hno
        go_wp2_with fail
        refine wp_region_noPanic ?_
        refine wp_region_held_drew (S := fun w' => w'.cell? ⟨g, 0, none⟩ = some (.int .i64 N) ∧ w'.cell? ⟨g, 1, none⟩ = some (.slice (some ⟨bA, off, none⟩) l.length c)) (by kernel_rfl) hd (fun _ => ?_)
        refine wpAnyH_take (i := 0) (v := ?v0z1) rfl (by kernel_rfl) (by kernel_rfl) (by kernel_rfl) (fun _ _ _ h => h) (Or.inl ⟨by rfl, ?y0z1⟩) hd ?_
        case y0z1 => (intro w hSw; (try dsimp only at hSw); go_simp; try with_reducible rfl)
        simp only [Act.put, List.setIfInBounds_toArray, List.set_cons_zero, List.set_cons_succ, List.getElem_toArray, List.getElem_cons_zero]
        refine wpAnyH_take (i := 1) (v := ?v1z2) rfl (by kernel_rfl) (by kernel_rfl) (by kernel_rfl) (fun _ _ _ h => h) (Or.inl ⟨by rfl, ?y1z2⟩) hd ?_
        case y1z2 => (intro w hSw; (try dsimp only at hSw); go_simp; try with_reducible rfl)
        simp only [Act.put, List.setIfInBounds_toArray, List.set_cons_zero, List.set_cons_succ, List.getElem_toArray, List.getElem_cons_zero, List.getElem_cons_succ]
        refine wpAnyH_take (i := 2) (v := ?v2z3) rfl (by kernel_rfl) (by kernel_rfl) (by kernel_rfl) (fun _ _ _ h => h) (Or.inl ⟨by rfl, ?y2z3⟩) hd ?_
        case y2z3 => (intro w hSw; (try dsimp only at hSw); go_simp; try with_reducible rfl)
        simp only [Act.put, List.setIfInBounds_toArray, List.set_cons_zero, List.set_cons_succ, List.getElem_toArray, List.getElem_cons_zero, List.getElem_cons_succ]
        refine wpAnyH_take (i := 4) (v := ?v4z4) rfl (by kernel_rfl) (by kernel_rfl) (by kernel_rfl) (fun _ _ _ h => h) (Or.inl ⟨by rfl, ?y4z4⟩) hd ?_
        case y4z4 => (intro w hSw; (try dsimp only at hSw); go_simp; try with_reducible rfl)
        simp only [Act.put, List.setIfInBounds_toArray, List.set_cons_zero, List.set_cons_succ, List.getElem_toArray, List.getElem_cons_zero, List.getElem_cons_succ]
        refine wpAnyH_ready (rs := [3]) (by kernel_rfl) (by simp) ?_
        refine AllReadyH.cons rfl (fun K hK => ?_) AllReadyH.nil
        rw [if_pos (by rfl)]
        go_wp2_with fail
        refine (KB.out _ bd).mono ?_
        rintro e vv1 ⟨rfl, b9⟩
        have dd1 := up2 bd b9
        clear b9
        go_wp2_with fail
        refine hK.out _ _ (HH.out _ dd1) (fun _ => ?_)
        clear hK K
        try simp only [Act.put, List.setIfInBounds_toArray, List.set_cons_zero, List.set_cons_succ, List.getElem_toArray, List.getElem_cons_zero, List.getElem_cons_succ]
        refine wpAnyH_ready (rs := [5]) (by kernel_rfl) (by simp) ?_
        refine AllReadyH.cons rfl (fun K hK => ?_) AllReadyH.nil
        rw [if_pos (by rfl)]
        go_wp2_with fail
        refine (KW.out _ dd1).mono ?_
        rintro e vv2 ⟨rfl, b9⟩
        have dd2 := up2 dd1 b9
        clear b9
        go_wp2_with fail
        refine hK.out _ _ (HH.out _ dd2) (fun _ => ?_)
        clear hK K
        try simp only [Act.put, List.setIfInBounds_toArray, List.set_cons_zero, List.set_cons_succ, List.getElem_toArray, List.getElem_cons_zero, List.getElem_cons_succ]
        refine wpAnyH_take (i := 6) (v := ?v6z5) rfl (by kernel_rfl) (by kernel_rfl) (by kernel_rfl) (fun _ _ _ h => h) (Or.inl ⟨by rfl, ?y6z5⟩) (HH.out _ dd2) ?_
        case y6z5 => (intro w hSw; (try dsimp only at hSw); go_simp; try with_reducible rfl)
        simp only [Act.put, List.setIfInBounds_toArray, List.set_cons_zero, List.set_cons_succ, List.getElem_toArray, List.getElem_cons_zero, List.getElem_cons_succ]
        refine wpAnyH_done (by kernel_rfl) ?_ _
        refine NoPanic.normal ?_
        by_cases hneg : wi < 0
        · have dn : decide (wi < 0) = true := by simpa using hneg
          simp only [dn]
          have HF := Lib.hid (show IsFirst l x k from ⟨HW.out.1, .inl (HW.out.2.1 hneg)⟩)
          clear hneg
          go_wp2_with fail
          go_meet
          exact ⟨dd2, .inr ⟨k, HF.out, rfl⟩⟩
        · have dn : decide (wi < 0) = false := by simpa using hneg
          simp only [dn]
          have HF := Lib.hid (show oppC l (prv k) ≠ -1 from fun h => hneg (HW.out.2.2 h))
          clear hneg
          go_wp2_with fail
          refine ⟨⟨dd2, k + 1, by have := HX.out.2; omega, by go_num, .inr ⟨k, rfl, by omega, HX.out.1, HNO.out, fun e he hev => ?_⟩⟩, by have := HX.out.2; simp [intOf]; omega⟩
          rcases Nat.lt_or_ge e k with h | h
          · exact absurd hev (HNO.out e h)
          · obtain rfl : e = k := by omega
            exact HF.out
      · have HC := Lib.hid (And.intro hc0 (And.intro hv0 (And.intro hmin hin)))
        have f0 : decide ((c0 : Int) < 0) = false := by simp
        clear hc0 hv0 hmin hin
        go_wp2_with fail
        refine wp_region_noPanic ?_
        refine wp_region_held_drew (S := fun w' => w'.cell? ⟨g, 0, none⟩ = some (.int .i64 N) ∧ w'.cell? ⟨g, 1, none⟩ = some (.slice (some ⟨bA, off, none⟩) l.length c)) (by kernel_rfl) hd (fun _ => ?_)
        refine wpAnyH_take (i := 0) (v := ?v0z6) rfl (by kernel_rfl) (by kernel_rfl) (by kernel_rfl) (fun _ _ _ h => h) (Or.inl ⟨by rfl, ?y0z6⟩) hd ?_
        case y0z6 => (intro w hSw; (try dsimp only at hSw); go_simp; try with_reducible rfl)
        simp only [Act.put, List.setIfInBounds_toArray, List.set_cons_zero, List.set_cons_succ, List.getElem_toArray, List.getElem_cons_zero]
        refine wpAnyH_take (i := 1) (v := ?v1z7) rfl (by kernel_rfl) (by kernel_rfl) (by kernel_rfl) (fun _ _ _ h => h) (Or.inl ⟨by rfl, ?y1z7⟩) hd ?_
        case y1z7 => (intro w hSw; (try dsimp only at hSw); go_simp; try with_reducible rfl)
        simp only [Act.put, List.setIfInBounds_toArray, List.set_cons_zero, List.set_cons_succ, List.getElem_toArray, List.getElem_cons_zero, List.getElem_cons_succ]
        refine wpAnyH_take (i := 2) (v := ?v2z8) rfl (by kernel_rfl) (by kernel_rfl) (by kernel_rfl) (fun _ _ _ h => h) (Or.inl ⟨by rfl, ?y2z8⟩) hd ?_
        case y2z8 => (intro w hSw; (try dsimp only at hSw); go_simp; try with_reducible rfl)
        simp only [Act.put, List.setIfInBounds_toArray, List.set_cons_zero, List.set_cons_succ, List.getElem_toArray, List.getElem_cons_zero, List.getElem_cons_succ]
        refine wpAnyH_take (i := 4) (v := ?v4z9) rfl (by kernel_rfl) (by kernel_rfl) (by kernel_rfl) (fun _ _ _ h => h) (Or.inl ⟨by rfl, ?y4z9⟩) hd ?_
        case y4z9 => (intro w hSw; (try dsimp only at hSw); go_simp; try with_reducible rfl)
        simp only [Act.put, List.setIfInBounds_toArray, List.set_cons_zero, List.set_cons_succ, List.getElem_toArray, List.getElem_cons_zero, List.getElem_cons_succ]
        refine wpAnyH_ready (rs := [3]) (by kernel_rfl) (by simp) ?_
        refine AllReadyH.cons rfl (fun K hK => ?_) AllReadyH.nil
        rw [if_pos (by rfl)]
        go_wp2_with fail
        refine (KB.out _ bd).mono ?_
        rintro e vv1 ⟨rfl, b9⟩
        have dd1 := up2 bd b9
        clear b9
        go_wp2_with fail
        refine hK.out _ _ (HH.out _ dd1) (fun _ => ?_)
        clear hK K
        try simp only [Act.put, List.setIfInBounds_toArray, List.set_cons_zero, List.set_cons_succ, List.getElem_toArray, List.getElem_cons_zero, List.getElem_cons_succ]
        refine wpAnyH_ready (rs := [5]) (by kernel_rfl) (by simp) ?_
        refine AllReadyH.cons rfl (fun K hK => ?_) AllReadyH.nil
        rw [if_pos (by rfl)]
        go_wp2_with fail
        refine (KW.out _ dd1).mono ?_
        rintro e vv2 ⟨rfl, b9⟩
        have dd2 := up2 dd1 b9
        clear b9
        go_wp2_with fail
        refine hK.out _ _ (HH.out _ dd2) (fun _ => ?_)
        clear hK K
        try simp only [Act.put, List.setIfInBounds_toArray, List.set_cons_zero, List.set_cons_succ, List.getElem_toArray, List.getElem_cons_zero, List.getElem_cons_succ]
        refine wpAnyH_take (i := 6) (v := ?v6z10) rfl (by kernel_rfl) (by kernel_rfl) (by kernel_rfl) (fun _ _ _ h => h) (Or.inl ⟨by rfl, ?y6z10⟩) (HH.out _ dd2) ?_
        case y6z10 => (intro w hSw; (try dsimp only at hSw); go_simp; try with_reducible rfl)
        simp only [Act.put, List.setIfInBounds_toArray, List.set_cons_zero, List.set_cons_succ, List.getElem_toArray, List.getElem_cons_zero, List.getElem_cons_succ]
        refine wpAnyH_done (by kernel_rfl) ?_ _
        refine NoPanic.normal ?_
        by_cases hneg : wi < 0
        · have dn : decide (wi < 0) = true := by simpa using hneg
          simp only [dn]
          have HF := Lib.hid (show IsFirst l x k from ⟨HW.out.1, .inl (HW.out.2.1 hneg)⟩)
          clear hneg
          go_wp2_with fail
          go_meet
          exact ⟨dd2, .inr ⟨k, HF.out, rfl⟩⟩
        · have dn : decide (wi < 0) = false := by simpa using hneg
          simp only [dn]
          have HF := Lib.hid (show oppC l (prv k) ≠ -1 from fun h => hneg (HW.out.2.2 h))
          clear hneg
          go_wp2_with fail
          refine ⟨⟨dd2, k + 1, by have := HX.out.2; omega, by go_num, .inr ⟨c0, rfl, by have := HC.out.1; omega, HC.out.2.1, HC.out.2.2.1, fun e he hev => ?_⟩⟩, by have := HX.out.2; simp [intOf]; omega⟩
          rcases Nat.lt_or_ge e k with h | h
          · exact HC.out.2.2.2 e h hev
          · obtain rfl : e = k := by omega
            exact HF.out
  case rest =>
    obtain ⟨hb, hf⟩ := hcut
    have HB := Lib.hid hb
    clear hb
    rcases hf with ⟨hno, rfl⟩ | ⟨c0, hf, rfl⟩
    · have HNO := Lib.hid hno
      have f0 : decide ((-1 : Int) < 0) = true := rfl
      clear hno
      go_wp2_with fail
      go_ret
      exact ⟨none, 0, 0, [], rfl, .inl ⟨HNO.out, rfl⟩, World.ownsRow_nil _ _ _ _, up2 B1.out.1 HB.out⟩
    obtain ⟨L, hL⟩ := around_exists HSF.out hf
    have HLL := Lib.hid (And.intro hf hL)
    have f0 : decide ((c0 : Int) < 0) = false := by simp
    have hLn : L.length ≤ l.length := by rw [hL.len]; exact cAt_le HSF.out v
    have hL0 := hL.chain.ne
    obtain ⟨w3, hw3⟩ : ∃ w3, wc.alloc (.cells #[.int .i64 (c0 : Int)] 3) = w3 := ⟨_, rfl⟩
    obtain ⟨q, hq⟩ : ∃ q, wc.heap.size = q := ⟨_, rfl⟩
    have b3 : Below wc.heap.size wc w3 := by rw [← hw3]; exact (Below.refl _ wc).alloc (Nat.le_refl _) _
    have r3 : w3.heap[q]? = some (.cells #[.int .i64 (c0 : Int)] 3 (0, 0)) := by rw [← hw3, ← hq]; exact heap_alloc_new wc _
    have hwq : w1.heap.size ≤ q := by rw [← hq]; exact HB.out.size
    have o3 : w3.ownsRow w1.heap.size 3 1 (.slice (some ⟨q, 0, none⟩) 1 1) 1 (ints (natsI (L.take 1))) := by
      rw [take_snocN hL0, hL.chain.hd]
      exact ⟨by simp [ints, natsI], .inr ⟨q, 1, _, rfl, hwq, r3, Nat.le_refl _, by decide, rfl, by simp [ints, natsI]⟩⟩
    have S3 := Lib.hid (show ArR w1 L (.slice (some ⟨q, 0, none⟩) 1 1) (.int .i64 ((0 : Nat) : Int)) w3 from ⟨up2 HB.out b3, 0, hL0, rfl, _, _, rfl, o3⟩)
    have h0 := HH.out _ (up2 HB.out b3)
    clear hf hL b3 r3 o3 hwq
    go_wp2_with fail
    clear hw3 hq h0
    go_loopw [7, 8] (ArR w1 L) (fun _ i _ => L.length - (intOf i).toNat)
    case atStart => exact S3.out
    case round =>
      obtain ⟨hb, k, hk, rfl, Ao, co, rfl, ho⟩ := hrel
      have h0 := HH.out _ hb
      have HB2 := Lib.hid (And.intro hb ho)
      have b1 : (k : Int) < (l.length : Int) := by omega
      have b2 : decide ((k : Int) < (l.length : Int)) = true := decide_eq_true b1
      obtain ⟨A1, c1', e1, _, hro⟩ := Reads.of_own ho
      injection e1 with e1a _ e1b
      subst e1a e1b
      obtain ⟨ad, rfl, cl⟩ := hro.int k (by omega)
      rw [natsI_at, show (L.take (k + 1)).getD k 0 = L.getD k 0 by rw [List.getD_eq_getElem?_getD, List.getD_eq_getElem?_getD, List.getElem?_take_of_lt (by omega)]] at cl
      obtain ⟨x, hx⟩ : ∃ x, L.getD k 0 = x := ⟨_, rfl⟩
      have hxm : x ∈ cAt l v := by rw [← hx]; exact HLL.out.2.chain.sub _ (getDn_mem hk)
      have hstep := ring_step HSF.out HLL.out.2 hk
      rw [hx] at cl hstep
      obtain ⟨wi, hwi⟩ : ∃ wi, withC l v (vtx l (prv x)) = wi := ⟨_, rfl⟩
      rw [hwi] at hstep
      have HX := Lib.hid (And.intro (cAt_mem.1 hxm).1 hstep)
      have s1 : IntKind.i64.wrap (((k + 1 : Nat) : Int) - 1) = (k : Int) := by rw [IntWalk.i64_in _ (by omega)]; omega
      have s2 : IntKind.i64.wrap (k : Int) = (k : Int) := IntWalk.i64_in _ (by omega)
      have s3 : 0 ≤ (k : Int) := by omega
      have s4 : (k : Int) < (k : Int) + 1 := by omega
      have KB := Lib.hid (fun W (b : Below w1.heap.size w1 W) => (show Calls Try.prog 31 #[.agg #[.int .i64 N, .slice A l.length c], .int .i64 (x : Int), .int .i64 2] W (IntTold W (vtx l (prv x))) from by
        have := r11behind_any W N A l.length c l (HL.out.below b) (by omega) x (cAt_mem.1 hxm).1 2 (by omega)
        rwa [besC_two] at this))
      have KW := Lib.hid (fun W (b : Below w1.heap.size w1 W) => (show Calls Try.prog 30 #[.agg #[.int .i64 N, .slice A l.length c], .int .i64 v, .int .i64 (vtx l (prv x))] W (IntTold W wi) from by
        have := r11with_any W N A l.length c l (HL.out.below b) (by omega) v (vtx l (prv x))
        rwa [hwi] at this))
      have KA := Lib.hid (fun W (b : Below w1.heap.size w1 W) (t : Nat) (ht : t < l.length) => r11at_any W N A l.length c l (HL.out.below b) (by omega) t ht v)
      have bd : Below w1.heap.size w1 wr.drew := up2 hb (Reading.below ⟨1, rfl⟩)
      have hd : (wr.drew.cell? ⟨g, 0, none⟩ = some (.int .i64 N) ∧ wr.drew.cell? ⟨g, 1, none⟩ = some (.slice A l.length c)) ∧ wr.drew.cell? (ad.add k) = some (.int .i64 (x : Int)) := ⟨HH.out wr.drew bd, cl⟩
      have HD := Lib.hid (fun W (b : Below wr.drew.heap.size wr.drew W) => (show (W.cell? ⟨g, 0, none⟩ = some (.int .i64 N) ∧ W.cell? ⟨g, 1, none⟩ = some (.slice A l.length c)) ∧ W.cell? (ad.add k) = some (.int .i64 (x : Int)) from
        ⟨HH.out W (up2 bd b), (b.cell (World.block_lt_of_cell? _ _ hd.2)).trans hd.2⟩))
      have bw : Below wr.drew.heap.size wr.drew wr.drew := Below.refl _ _
      clear hb ho hro hx hxm hstep hwi cl
      go_wp2_with fail
      refine wp_region_noPanic ?_
      refine wp_region_held_drew (S := fun w' => (w'.cell? ⟨g, 0, none⟩ = some (.int .i64 N) ∧ w'.cell? ⟨g, 1, none⟩ = some (.slice A l.length c)) ∧ w'.cell? (ad.add k) = some (.int .i64 (x : Int))) (by kernel_rfl) hd (fun _ => ?_)
      refine wpAnyH_take (i := 0) (v := ?v0z11) rfl (by kernel_rfl) (by kernel_rfl) (by kernel_rfl) (fun _ _ _ h => h) (Or.inl ⟨by rfl, ?y0z11⟩) hd ?_
      case y0z11 => (intro w hSw; (try dsimp only at hSw); go_simp; try with_reducible rfl)
      simp only [Act.put, List.setIfInBounds_toArray, List.set_cons_zero, List.set_cons_succ, List.getElem_toArray, List.getElem_cons_zero]
      refine wpAnyH_take (i := 1) (v := ?v1z12) rfl (by kernel_rfl) (by kernel_rfl) (by kernel_rfl) (fun _ _ _ h => h) (Or.inl ⟨by rfl, ?y1z12⟩) hd ?_
      case y1z12 => (intro w hSw; (try dsimp only at hSw); go_simp; try with_reducible rfl)
      simp only [Act.put, List.setIfInBounds_toArray, List.set_cons_zero, List.set_cons_succ, List.getElem_toArray, List.getElem_cons_zero, List.getElem_cons_succ]
      refine wpAnyH_take (i := 2) (v := ?v2z13) rfl (by kernel_rfl) (by kernel_rfl) (by kernel_rfl) (fun _ _ _ h => h) (Or.inl ⟨by rfl, ?y2z13⟩) hd ?_
      case y2z13 => (intro w hSw; (try dsimp only at hSw); go_simp; try with_reducible rfl)
      simp only [Act.put, List.setIfInBounds_toArray, List.set_cons_zero, List.set_cons_succ, List.getElem_toArray, List.getElem_cons_zero, List.getElem_cons_succ]
      refine wpAnyH_take (i := 3) (v := ?v3z14) rfl (by kernel_rfl) (by kernel_rfl) (by kernel_rfl) (fun _ _ _ h => h) (Or.inl ⟨by rfl, ?y3z14⟩) hd ?_
      case y3z14 => (intro w hSw; (try dsimp only at hSw); go_simp; try with_reducible rfl)
      simp only [Act.put, List.setIfInBounds_toArray, List.set_cons_zero, List.set_cons_succ, List.getElem_toArray, List.getElem_cons_zero, List.getElem_cons_succ]
      refine wpAnyH_take (i := 4) (v := ?v4z15) rfl (by kernel_rfl) (by kernel_rfl) (by kernel_rfl) (fun _ _ _ h => h) (Or.inl ⟨by rfl, ?y4z15⟩) hd ?_
      case y4z15 => (intro w hSw; (try dsimp only at hSw); go_simp; try with_reducible rfl)
      simp only [Act.put, List.setIfInBounds_toArray, List.set_cons_zero, List.set_cons_succ, List.getElem_toArray, List.getElem_cons_zero, List.getElem_cons_succ]
      refine wpAnyH_take (i := 5) (v := ?v5z16) rfl (by kernel_rfl) (by kernel_rfl) (by kernel_rfl) (fun _ _ _ h => h) (Or.inl ⟨by rfl, ?y5z16⟩) hd ?_
      case y5z16 => (intro w hSw; (try dsimp only at hSw); go_simp; try with_reducible rfl)
      simp only [Act.put, List.setIfInBounds_toArray, List.set_cons_zero, List.set_cons_succ, List.getElem_toArray, List.getElem_cons_zero, List.getElem_cons_succ]
      refine wpAnyH_take (i := 6) (v := ?v6z17) rfl (by kernel_rfl) (by kernel_rfl) (by kernel_rfl) (fun _ _ _ h => h) (Or.inl ⟨by rfl, ?y6z17⟩) hd ?_
      case y6z17 => (intro w hSw; (try dsimp only at hSw); go_simp; try with_reducible rfl)
      simp only [Act.put, List.setIfInBounds_toArray, List.set_cons_zero, List.set_cons_succ, List.getElem_toArray, List.getElem_cons_zero, List.getElem_cons_succ]
      refine wpAnyH_take (i := 7) (v := ?v7z18) rfl (by kernel_rfl) (by kernel_rfl) (by kernel_rfl) (fun _ _ _ h => h) (Or.inl ⟨by rfl, ?y7z18⟩) hd ?_
      case y7z18 => (intro w hSw; (try dsimp only at hSw); go_simp; try with_reducible rfl)
      simp only [Act.put, List.setIfInBounds_toArray, List.set_cons_zero, List.set_cons_succ, List.getElem_toArray, List.getElem_cons_zero, List.getElem_cons_succ]
      refine wpAnyH_take (i := 8) (v := ?v8z19) rfl (by kernel_rfl) (by kernel_rfl) (by kernel_rfl) (fun _ _ _ h => h) (Or.inl ⟨by rfl, ?y8z19⟩) hd ?_
      case y8z19 => (intro w hSw; (try dsimp only at hSw); go_simp; try with_reducible rfl)
      simp only [Act.put, List.setIfInBounds_toArray, List.set_cons_zero, List.set_cons_succ, List.getElem_toArray, List.getElem_cons_zero, List.getElem_cons_succ]
      refine wpAnyH_ready (rs := [9]) (by kernel_rfl) (by simp) ?_
      refine AllReadyH.cons rfl (fun K hK => ?_) AllReadyH.nil
      rw [if_pos (by rfl)]
      go_wp2_with fail
      refine (KB.out _ (up2 bd bw)).mono ?_
      rintro e vv1 ⟨rfl, b9⟩
      have dd1 := up2 bw b9
      clear b9
      go_wp2_with fail
      refine hK.out _ _ (HD.out _ dd1) (fun _ => ?_)
      clear hK K
      try simp only [Act.put, List.setIfInBounds_toArray, List.set_cons_zero, List.set_cons_succ, List.getElem_toArray, List.getElem_cons_zero, List.getElem_cons_succ]
      refine wpAnyH_ready (rs := [10]) (by kernel_rfl) (by simp) ?_
      refine AllReadyH.cons rfl (fun K hK => ?_) AllReadyH.nil
      rw [if_pos (by rfl)]
      go_wp2_with fail
      refine (KW.out _ (up2 bd dd1)).mono ?_
      rintro e vv2 ⟨rfl, b9⟩
      have dd2 := up2 dd1 b9
      clear b9
      go_wp2_with fail
      refine hK.out _ _ (HD.out _ dd2) (fun _ => ?_)
      clear hK K
      try simp only [Act.put, List.setIfInBounds_toArray, List.set_cons_zero, List.set_cons_succ, List.getElem_toArray, List.getElem_cons_zero, List.getElem_cons_succ]
      refine wpAnyH_take (i := 11) (v := ?v11z20) rfl (by kernel_rfl) (by kernel_rfl) (by kernel_rfl) (fun _ _ _ h => h) (Or.inl ⟨by rfl, ?y11z20⟩) (HD.out _ dd2) ?_
      case y11z20 => (intro w hSw; (try dsimp only at hSw); go_simp; try with_reducible rfl)
      simp only [Act.put, List.setIfInBounds_toArray, List.set_cons_zero, List.set_cons_succ, List.getElem_toArray, List.getElem_cons_zero, List.getElem_cons_succ]
      refine wpAnyH_done (by kernel_rfl) ?_ _
      refine NoPanic.normal ?_
      have B5 := Lib.hid (up2 bd dd2)
      have O5 := Lib.hid (ownK_up (ownK_up HB2.out.2 (Reading.below (w := wr) (w' := wr.drew) ⟨1, rfl⟩)) dd2)
      obtain ⟨w5, hw5⟩ : ∃ w5, vv2 = w5 := ⟨_, rfl⟩
      rw [hw5] at B5 O5
      simp only [hw5]
      have h0 := HH.out _ B5.out
      clear hd bw bd dd1 dd2 hw5
      rcases HX.out.2 with ⟨hk1, hneg | ⟨t, ht, hwt, hta⟩⟩ | ⟨hk1, t, ht, hwt, hta, hne⟩
      · have dn : decide (wi < 0) = true := by simpa using hneg
        have HK := Lib.hid hk1
        clear hneg hk1
        go_wp2_with fail
        go_ret
        refine ⟨_, _, _, L, rfl, .inr ⟨c0, HLL.out.1, HLL.out.2⟩, ?_, up2 B1.out.1 B5.out⟩
        have := ownK_base O5.out B1.out.1.size
        rwa [List.take_of_length_le (by have := HK.out; omega)] at this
      · subst hwt
        have dn : decide ((t : Int) < 0) = false := by simp
        have K1 := Lib.hid (KA.out w5 B5.out t ht)
        rw [hta] at K1
        have HK := Lib.hid hk1
        clear hk1 hta ht
        go_wp2_with fail
        refine K1.out.mono ?_
        rintro e w6 ⟨rfl, b6⟩
        have B6 := Lib.hid (up2 B5.out b6)
        have O6 := Lib.hid (ownK_up O5.out b6)
        clear b6
        go_wp2_with fail
        go_ret
        refine ⟨_, _, _, L, rfl, .inr ⟨c0, HLL.out.1, HLL.out.2⟩, ?_, up2 B1.out.1 B6.out⟩
        have := ownK_base O6.out B1.out.1.size
        rwa [List.take_of_length_le (by have := HK.out; omega)] at this
      · subst hwt
        have dn : decide ((t : Int) < 0) = false := by simp
        obtain ⟨d, hd⟩ : ∃ d, L.getD (k + 1) 0 = d := ⟨_, rfl⟩
        rw [hd] at hta hne
        have KA1 := Lib.hid (fun W (b : Below w1.heap.size w1 W) => (show Calls Try.prog 32 #[.agg #[.int .i64 N, .slice A l.length c], .int .i64 (t : Int), .int .i64 v] W (IntTold W (d : Int)) from by
          have := KA.out W b t ht; rwa [hta] at this))
        have de : ((d : Int) == (c0 : Int)) = false := by simp; omega
        have HK := Lib.hid (And.intro hk1 (show L.take (k + 1 + 1) = L.take (k + 1) ++ [d] by rw [take_snocN hk1, hd]))
        have hk2 : k + 1 ≤ 8192 := by omega
        clear hta hne ht hd hk1
        go_wp2_with fail
        refine (KA1.out _ B5.out).mono ?_
        rintro e w6 ⟨rfl, b6⟩
        have B6 := Lib.hid (up2 B5.out b6)
        have O6 := Lib.hid (ownK_up O5.out b6)
        have h0 := HH.out _ B6.out
        clear b6
        go_wp2_with fail
        refine (KA1.out _ B6.out).mono ?_
        rintro e w7 ⟨rfl, b7⟩
        have B7 := Lib.hid (up2 B6.out b7)
        obtain ⟨i0, hi, hz0, hz1, hz2⟩ := info_parts Try.infoInt
        have O9 := Lib.hid (ownK_up (ownK_up O6.out b7) ((Below.refl _ w7).alloc (Nat.le_refl _) (.cells #[.int .i64 (d : Int)] 3)))
        have C9 := Lib.hid (up1 B7.out (.cells #[.int .i64 (d : Int)] 3))
        have R9 := Lib.hid (Reads.of_block (xs := ints [(d : Int)]) (heap_alloc_new w7 (.cells #[.int .i64 (d : Int)] 3)))
        clear b7 h0
        go_wp2_with (at_builtin; refine wpList_append_reads rfl (.tmp 72) (.tmp 77) 28 rfl _ 3 i0 (.int .i64 0) 8 Try.underlying28 hi ⟨hz0, hz1, hz2⟩ rfl (.slice (some ad) (k + 1) co) (k + 1) (ints (natsI (L.take (k + 1)))) rfl O9.out (some ⟨w7.heap.size, 0, none⟩) 1 1 (ints [(d : Int)]) rfl R9.out (fun e => (nomatch e)) (ints_one _) ?b1 ?b2 ?b3 ?_)
        case b1 => unfold maxLen; omega
        case b2 => omega
        case b3 => exact C9.out.size
        intro v' w9 own9 gr9
        obtain ⟨A9, c9, rfl⟩ := ownK_form own9
        have Z := Lib.hid (And.intro own9 (own_grown_below C9.out gr9 C9.out.size (fun q hq => ownK_lt O9.out q hq)))
        clear own9 gr9
        go_wp2_with fail
        refine ⟨⟨Z.out.2, k + 1, HK.out.1, by go_num, A9, c9, rfl, ?_⟩, by have := HK.out.1; simp [intOf]; omega⟩
        rw [HK.out.2, natsI_snoc, ints_append]
        exact Z.out.1
end Go.Proofs.Ytoianhaocjiffaa

/- Layer 11: the document's answers: is a vertex inner, its link. -/
namespace Go.Proofs.Ytoianhaocjiffaa
open Go.RowKit

theorem r11around_ring (w : World) (N : Int) (A : Option Addr) (n c : Nat) (l : List Tr) (ht : T3 w A n l) (hsf : Surf N l) (v : Int) (L : List Nat) (hL : IsRing l v L) : Calls Try.prog 13 #[.agg #[.int .i64 N, .slice A n c], .int .i64 v] w (RowTold w (natsI L)) :=
  (r11around_any w N A n c l ht hsf v).mono fun _ _ ⟨A', n', c', M, he, hM, ho, b⟩ => ⟨A', n', c', he, by rw [← hL.one hsf hM]; exact ho, b⟩
def InnerL (l : List Tr) (L : List Nat) : Prop := 0 < L.length ∧ oppC l (prv (L.getD 0 0)) ≠ -1
instance (l : List Tr) (L : List Nat) : Decidable (InnerL l L) := inferInstanceAs (Decidable (_ ∧ _))
def linkL (l : List Tr) (L : List Nat) : List Int := L.map (fun c => vtx l (nxt c)) ++ if 0 < L.length ∧ ¬ InnerL l L then [vtx l (prv (L.getD (L.length - 1) 0))] else []
set_option maxHeartbeats 4000000 in
set_option maxRecDepth 100000 in
theorem r11inner_any (w : World) (N : Int) (A : Option Addr) (n c : Nat) (l : List Tr) (ht : T3 w A n l) (hsf : Surf N l) (v : Int) (L : List Nat) (hL : IsRing l v L) : Calls Try.prog 20 #[.agg #[.int .i64 N, .slice A n c], .int .i64 v] w (BoolTold10 w (decide (InnerL l L))) := by
  obtain rfl := ht.1
  obtain ⟨w1, hw1⟩ : ∃ w1, w.alloc (.cells #[.int .i64 N, .slice A l.length c] 24) = w1 := ⟨_, rfl⟩
  obtain ⟨g, hg⟩ : ∃ g, w.heap.size = g := ⟨_, rfl⟩
  have b1 : Below w.heap.size w w1 := by rw [← hw1]; exact (Below.refl _ w).alloc (Nat.le_refl _) _
  have x1 : Bx w1 g N A l.length c := by rw [← hw1, ← hg]; exact Bx.made w N A l.length c
  have hn : l.length ≤ 8192 := hsf.t1
  have e0 := x1.c0
  have e1 := x1.c1
  have HL := Lib.hid (ht.below b1)
  have B1 := Lib.hid (And.intro b1 x1)
  have KA := Lib.hid (r11around_ring w1 N A l.length c l (ht.below b1) hsf v L hL)
  have HR := Lib.hid hL
  clear b1 x1 ht hsf hL
  go_enter Try.func20, Try.ntmps20
  go_wp2_with fail
  refine KA.out.mono ?_
  rintro e w2 ⟨A2, n2, c2, rfl, ho, b2⟩
  obtain ⟨A2', c2', e2, _, hro⟩ := Reads.of_own ho
  injection e2 with e2a _ e2b
  subst e2a e2b
  have hn2 : L.length = n2 := by have := hro.len; rwa [natsI_len] at this
  have HN2 := Lib.hid hn2
  have x2 := B1.out.2.below b2
  have B2 := Lib.hid (up2 B1.out.1 b2)
  clear e0 e1
  by_cases h0 : n2 = 0
  · have f0 : decide ((n2 : Int) > 0) = false := decide_eq_false (by omega)
    have f0' : decide (0 < n2) = false := decide_eq_false (by omega)
    have HD := Lib.hid (decide_eq_false (show ¬ InnerL l L from fun h => by have := h.1; omega))
    have bd : Below w2.heap.size w2 w2.drew := Reading.below ⟨1, rfl⟩
    have hd : w2.drew.cell? ⟨g, 0, none⟩ = some (.int .i64 N) ∧ w2.drew.cell? ⟨g, 1, none⟩ = some (.slice A l.length c) := ⟨(x2.below bd).c0, (x2.below bd).c1⟩
    clear b2 x2 ho hro h0 hn2
    go_wp2_with fail
    refine wp_region_noPanic ?_
    refine wp_region_held_drew (S := fun w' => w'.cell? ⟨g, 0, none⟩ = some (.int .i64 N) ∧ w'.cell? ⟨g, 1, none⟩ = some (.slice A l.length c)) (by kernel_rfl) hd (fun _ => ?_)
    refine wpAnyH_take (i := 0) (v := ?v0z21) rfl (by kernel_rfl) (by kernel_rfl) (by kernel_rfl) (fun _ _ _ h => h) (Or.inl ⟨by rfl, ?y0z21⟩) hd ?_
    case y0z21 => (intro w hSw; (try dsimp only at hSw); go_simp; try with_reducible rfl)
    simp only [Act.put, List.setIfInBounds_toArray, List.set_cons_zero, List.set_cons_succ, List.getElem_toArray, List.getElem_cons_zero]
    refine wpAnyH_take (i := 1) (v := ?v1z22) rfl (by kernel_rfl) (by kernel_rfl) (by kernel_rfl) (fun _ _ _ h => h) (Or.inl ⟨by rfl, ?y1z22⟩) hd ?_
    case y1z22 => (intro w hSw; (try dsimp only at hSw); go_simp; try with_reducible rfl)
    simp only [Act.put, List.setIfInBounds_toArray, List.set_cons_zero, List.set_cons_succ, List.getElem_toArray, List.getElem_cons_zero, List.getElem_cons_succ]
    refine wpAnyH_take (i := 2) (v := ?v2z23) rfl (by kernel_rfl) (by kernel_rfl) (by kernel_rfl) (fun _ _ _ h => h) (Or.inl ⟨by rfl, ?y2z23⟩) hd ?_
    case y2z23 => (intro w hSw; (try dsimp only at hSw); go_simp; try with_reducible rfl)
    simp only [Act.put, List.setIfInBounds_toArray, List.set_cons_zero, List.set_cons_succ, List.getElem_toArray, List.getElem_cons_zero, List.getElem_cons_succ]
    refine wpAnyH_take (i := 3) (v := ?v3z24) rfl (by kernel_rfl) (by kernel_rfl) (by kernel_rfl) (fun _ _ _ h => h) (Or.inl ⟨by rfl, ?y3z24⟩) hd ?_
    case y3z24 => (intro w hSw; (try dsimp only at hSw); go_simp; try with_reducible rfl)
    simp only [Act.put, List.setIfInBounds_toArray, List.set_cons_zero, List.set_cons_succ, List.getElem_toArray, List.getElem_cons_zero, List.getElem_cons_succ]
    refine wpAnyH_take (i := 4) (v := undef) rfl (by kernel_rfl) (by kernel_rfl) (by kernel_rfl) (fun _ _ _ h => h) (Or.inr ⟨by kernel_rfl, rfl⟩) hd ?_
    simp only [Act.put, List.setIfInBounds_toArray, List.set_cons_zero, List.set_cons_succ, List.getElem_toArray, List.getElem_cons_zero, List.getElem_cons_succ]
    refine wpAnyH_take (i := 5) (v := undef) rfl (by kernel_rfl) (by kernel_rfl) (by kernel_rfl) (fun _ _ _ h => h) (Or.inr ⟨by kernel_rfl, rfl⟩) hd ?_
    simp only [Act.put, List.setIfInBounds_toArray, List.set_cons_zero, List.set_cons_succ, List.getElem_toArray, List.getElem_cons_zero, List.getElem_cons_succ]
    refine wpAnyH_take (i := 6) (v := undef) rfl (by kernel_rfl) (by kernel_rfl) (by kernel_rfl) (fun _ _ _ h => h) (Or.inr ⟨by kernel_rfl, rfl⟩) hd ?_
    simp only [Act.put, List.setIfInBounds_toArray, List.set_cons_zero, List.set_cons_succ, List.getElem_toArray, List.getElem_cons_zero, List.getElem_cons_succ]
    refine wpAnyH_take (i := 7) (v := undef) rfl (by kernel_rfl) (by kernel_rfl) (by kernel_rfl) (fun _ _ _ h => h) (Or.inr ⟨by kernel_rfl, rfl⟩) hd ?_
    simp only [Act.put, List.setIfInBounds_toArray, List.set_cons_zero, List.set_cons_succ, List.getElem_toArray, List.getElem_cons_zero, List.getElem_cons_succ]
    refine wpAnyH_take (i := 8) (v := undef) rfl (by kernel_rfl) (by kernel_rfl) (by kernel_rfl) (fun _ _ _ h => h) (Or.inr ⟨by kernel_rfl, rfl⟩) hd ?_
    simp only [Act.put, List.setIfInBounds_toArray, List.set_cons_zero, List.set_cons_succ, List.getElem_toArray, List.getElem_cons_zero, List.getElem_cons_succ]
    refine wpAnyH_take (i := 9) (v := undef) rfl (by kernel_rfl) (by kernel_rfl) (by kernel_rfl) (fun _ _ _ h => h) (Or.inr ⟨by kernel_rfl, rfl⟩) hd ?_
    simp only [Act.put, List.setIfInBounds_toArray, List.set_cons_zero, List.set_cons_succ, List.getElem_toArray, List.getElem_cons_zero, List.getElem_cons_succ]
    refine wpAnyH_take (i := 10) (v := undef) rfl (by kernel_rfl) (by kernel_rfl) (by kernel_rfl) (fun _ _ _ h => h) (Or.inr ⟨by kernel_rfl, rfl⟩) hd ?_
    simp only [Act.put, List.setIfInBounds_toArray, List.set_cons_zero, List.set_cons_succ, List.getElem_toArray, List.getElem_cons_zero, List.getElem_cons_succ]
    refine wpAnyH_take (i := 11) (v := undef) rfl (by kernel_rfl) (by kernel_rfl) (by kernel_rfl) (fun _ _ _ h => h) (Or.inr ⟨by kernel_rfl, rfl⟩) hd ?_
    simp only [Act.put, List.setIfInBounds_toArray, List.set_cons_zero, List.set_cons_succ, List.getElem_toArray, List.getElem_cons_zero, List.getElem_cons_succ]
    refine wpAnyH_take (i := 12) (v := undef) rfl (by kernel_rfl) (by kernel_rfl) (by kernel_rfl) (fun _ _ _ h => h) (Or.inr ⟨by kernel_rfl, rfl⟩) hd ?_
    simp only [Act.put, List.setIfInBounds_toArray, List.set_cons_zero, List.set_cons_succ, List.getElem_toArray, List.getElem_cons_zero, List.getElem_cons_succ]
    refine wpAnyH_take (i := 13) (v := ?v13z34) rfl (by kernel_rfl) (by kernel_rfl) (by kernel_rfl) (fun _ _ _ h => h) (Or.inl ⟨by rfl, ?y13z34⟩) hd ?_
    case y13z34 => (intro w hSw; (try dsimp only at hSw); go_simp; try with_reducible rfl)
    simp only [Act.put, List.setIfInBounds_toArray, List.set_cons_zero, List.set_cons_succ, List.getElem_toArray, List.getElem_cons_zero, List.getElem_cons_succ]
    refine wpAnyH_take (i := 14) (v := ?v14z35) rfl (by kernel_rfl) (by kernel_rfl) (by kernel_rfl) (fun _ _ _ h => h) (Or.inl ⟨by rfl, ?y14z35⟩) hd ?_
    case y14z35 => (intro w hSw; (try dsimp only at hSw); go_simp; try with_reducible rfl)
    simp only [Act.put, List.setIfInBounds_toArray, List.set_cons_zero, List.set_cons_succ, List.getElem_toArray, List.getElem_cons_zero, List.getElem_cons_succ]
    refine wpAnyH_done (by kernel_rfl) ?_ _
    refine NoPanic.normal ?_
    go_wp2_with fail
    go_ret
    exact ⟨by rw [HD.out]; rfl, up2 B2.out bd⟩
  have f0 : decide ((n2 : Int) > 0) = true := decide_eq_true (by omega)
  have f0' : decide (0 < n2) = true := decide_eq_true (by omega)
  have f1 : (0 : Int) < (n2 : Int) := by omega
  have f2 : 0 < n2 := by omega
  obtain ⟨ad, rfl, cl⟩ := hro.int 0 (by omega)
  rw [natsI_at, show ad.add 0 = ad by cases ad; simp [Addr.add]] at cl
  obtain ⟨x, hx⟩ : ∃ x, L.getD 0 0 = x := ⟨_, rfl⟩
  rw [hx] at cl
  have hxm : x ∈ cAt l v := (HR.out.mem x).1 (by rw [← hx]; exact getDn_mem (by omega))
  obtain ⟨wi, hwi⟩ : ∃ wi, withC l (vtx l (nxt x)) v = wi := ⟨_, rfl⟩
  have hfw := first_with hxm
  rw [hwi] at hfw
  have HW := Lib.hid (And.intro hx hfw)
  have KB := Lib.hid (fun W (b : Below w1.heap.size w1 W) => (show Calls Try.prog 31 #[.agg #[.int .i64 N, .slice A l.length c], .int .i64 (x : Int), .int .i64 1] W (IntTold W (vtx l (nxt x))) from by
    have := r11behind_any W N A l.length c l (HL.out.below b) (by omega) x (cAt_mem.1 hxm).1 1 (by omega)
    rwa [besC_one] at this))
  have KW := Lib.hid (fun W (b : Below w1.heap.size w1 W) => (show Calls Try.prog 30 #[.agg #[.int .i64 N, .slice A l.length c], .int .i64 (vtx l (nxt x)), .int .i64 v] W (IntTold W wi) from by
    have := r11with_any W N A l.length c l (HL.out.below b) (by omega) (vtx l (nxt x)) v
    rwa [hwi] at this))
  have HS := Lib.hid (fun W (b : Below w2.heap.size w2 W) => (show (W.cell? ⟨g, 0, none⟩ = some (.int .i64 N) ∧ W.cell? ⟨g, 1, none⟩ = some (.slice A l.length c)) ∧ W.cell? ad = some (.int .i64 (x : Int)) from
    ⟨⟨(x2.below b).c0, (x2.below b).c1⟩, (b.cell (World.block_lt_of_cell? _ _ cl)).trans cl⟩))
  have bd : Below w2.heap.size w2 w2.drew := Reading.below ⟨1, rfl⟩
  have hd := HS.out w2.drew bd
  have B12 := Lib.hid b2
  by_cases hneg : wi < 0
  · have dn : decide (wi ≥ 0) = false := by simpa using hneg
    have HD := Lib.hid (decide_eq_false (show ¬ InnerL l L from fun h => h.2 (by rw [HW.out.1]; exact HW.out.2.1 hneg)))
    clear b2 x2 ho hro h0 hx hxm hwi hfw hneg cl hn2
    go_wp2_with fail
    refine wp_region_noPanic ?_
    refine wp_region_held_drew (S := fun w' => (w'.cell? ⟨g, 0, none⟩ = some (.int .i64 N) ∧ w'.cell? ⟨g, 1, none⟩ = some (.slice A l.length c)) ∧ w'.cell? ad = some (.int .i64 (x : Int))) (by kernel_rfl) hd (fun _ => ?_)
    refine wpAnyH_take (i := 0) (v := ?v0z36) rfl (by kernel_rfl) (by kernel_rfl) (by kernel_rfl) (fun _ _ _ h => h) (Or.inl ⟨by rfl, ?y0z36⟩) hd ?_
    case y0z36 => (intro w hSw; (try dsimp only at hSw); go_simp; try with_reducible rfl)
    simp only [Act.put, List.setIfInBounds_toArray, List.set_cons_zero, List.set_cons_succ, List.getElem_toArray, List.getElem_cons_zero]
    refine wpAnyH_take (i := 1) (v := ?v1z37) rfl (by kernel_rfl) (by kernel_rfl) (by kernel_rfl) (fun _ _ _ h => h) (Or.inl ⟨by rfl, ?y1z37⟩) hd ?_
    case y1z37 => (intro w hSw; (try dsimp only at hSw); go_simp; try with_reducible rfl)
    simp only [Act.put, List.setIfInBounds_toArray, List.set_cons_zero, List.set_cons_succ, List.getElem_toArray, List.getElem_cons_zero, List.getElem_cons_succ]
    refine wpAnyH_take (i := 2) (v := ?v2z38) rfl (by kernel_rfl) (by kernel_rfl) (by kernel_rfl) (fun _ _ _ h => h) (Or.inl ⟨by rfl, ?y2z38⟩) hd ?_
    case y2z38 => (intro w hSw; (try dsimp only at hSw); go_simp; try with_reducible rfl)
    simp only [Act.put, List.setIfInBounds_toArray, List.set_cons_zero, List.set_cons_succ, List.getElem_toArray, List.getElem_cons_zero, List.getElem_cons_succ]
    refine wpAnyH_take (i := 3) (v := ?v3z39) rfl (by kernel_rfl) (by kernel_rfl) (by kernel_rfl) (fun _ _ _ h => h) (Or.inl ⟨by rfl, ?y3z39⟩) hd ?_
    case y3z39 => (intro w hSw; (try dsimp only at hSw); go_simp; try with_reducible rfl)
    simp only [Act.put, List.setIfInBounds_toArray, List.set_cons_zero, List.set_cons_succ, List.getElem_toArray, List.getElem_cons_zero, List.getElem_cons_succ]
    refine wpAnyH_take (i := 4) (v := ?v4z40) rfl (by kernel_rfl) (by kernel_rfl) (by kernel_rfl) (fun _ _ _ h => h) (Or.inl ⟨by kernel_rfl, ?y4z40⟩) hd ?_
    case y4z40 => (intro w hSw; (try dsimp only at hSw); go_simp; try with_reducible rfl)
    simp only [Act.put, List.setIfInBounds_toArray, List.set_cons_zero, List.set_cons_succ, List.getElem_toArray, List.getElem_cons_zero, List.getElem_cons_succ]
    refine wpAnyH_take (i := 5) (v := ?v5z41) rfl (by kernel_rfl) (by kernel_rfl) (by kernel_rfl) (fun _ _ _ h => h) (Or.inl ⟨by kernel_rfl, ?y5z41⟩) hd ?_
    case y5z41 => (intro w hSw; (try dsimp only at hSw); go_simp; try with_reducible rfl)
    simp only [Act.put, List.setIfInBounds_toArray, List.set_cons_zero, List.set_cons_succ, List.getElem_toArray, List.getElem_cons_zero, List.getElem_cons_succ]
    refine wpAnyH_take (i := 6) (v := ?v6z42) rfl (by kernel_rfl) (by kernel_rfl) (by kernel_rfl) (fun _ _ _ h => h) (Or.inl ⟨by kernel_rfl, ?y6z42⟩) hd ?_
    case y6z42 => (intro w hSw; (try dsimp only at hSw); go_simp; try with_reducible rfl)
    simp only [Act.put, List.setIfInBounds_toArray, List.set_cons_zero, List.set_cons_succ, List.getElem_toArray, List.getElem_cons_zero, List.getElem_cons_succ]
    refine wpAnyH_take (i := 7) (v := ?v7z43) rfl (by kernel_rfl) (by kernel_rfl) (by kernel_rfl) (fun _ _ _ h => h) (Or.inl ⟨by kernel_rfl, ?y7z43⟩) hd ?_
    case y7z43 => (intro w hSw; (try dsimp only at hSw); go_simp; try with_reducible rfl)
    simp only [Act.put, List.setIfInBounds_toArray, List.set_cons_zero, List.set_cons_succ, List.getElem_toArray, List.getElem_cons_zero, List.getElem_cons_succ]
    refine wpAnyH_take (i := 8) (v := ?v8z44) rfl (by kernel_rfl) (by kernel_rfl) (by kernel_rfl) (fun _ _ _ h => h) (Or.inl ⟨by kernel_rfl, ?y8z44⟩) hd ?_
    case y8z44 => (intro w hSw; (try dsimp only at hSw); go_simp; try with_reducible rfl)
    simp only [Act.put, List.setIfInBounds_toArray, List.set_cons_zero, List.set_cons_succ, List.getElem_toArray, List.getElem_cons_zero, List.getElem_cons_succ]
    refine wpAnyH_take (i := 10) (v := ?v10z45) rfl (by kernel_rfl) (by kernel_rfl) (by kernel_rfl) (fun _ _ _ h => h) (Or.inl ⟨by kernel_rfl, ?y10z45⟩) hd ?_
    case y10z45 => (intro w hSw; (try dsimp only at hSw); go_simp; try with_reducible rfl)
    simp only [Act.put, List.setIfInBounds_toArray, List.set_cons_zero, List.set_cons_succ, List.getElem_toArray, List.getElem_cons_zero, List.getElem_cons_succ]
    refine wpAnyH_ready (rs := [9]) (by kernel_rfl) (by simp) ?_
    refine AllReadyH.cons rfl (fun K hK => ?_) AllReadyH.nil
    rw [if_pos (by kernel_rfl)]
    go_wp2_with fail
    refine (KB.out _ (up2 B12.out bd)).mono ?_
    rintro e vv1 ⟨rfl, b9⟩
    have dd1 := up2 bd b9
    clear b9
    go_wp2_with fail
    refine hK.out _ _ (HS.out _ dd1) (fun _ => ?_)
    clear hK K
    try simp only [Act.put, List.setIfInBounds_toArray, List.set_cons_zero, List.set_cons_succ, List.getElem_toArray, List.getElem_cons_zero, List.getElem_cons_succ]
    refine wpAnyH_ready (rs := [11]) (by kernel_rfl) (by simp) ?_
    refine AllReadyH.cons rfl (fun K hK => ?_) AllReadyH.nil
    rw [if_pos (by kernel_rfl)]
    go_wp2_with fail
    refine (KW.out _ (up2 B12.out dd1)).mono ?_
    rintro e vv2 ⟨rfl, b9⟩
    have dd2 := up2 dd1 b9
    clear b9
    go_wp2_with fail
    refine hK.out _ _ (HS.out _ dd2) (fun _ => ?_)
    clear hK K
    try simp only [Act.put, List.setIfInBounds_toArray, List.set_cons_zero, List.set_cons_succ, List.getElem_toArray, List.getElem_cons_zero, List.getElem_cons_succ]
    refine wpAnyH_take (i := 12) (v := ?v12z46) rfl (by kernel_rfl) (by kernel_rfl) (by kernel_rfl) (fun _ _ _ h => h) (Or.inl ⟨by kernel_rfl, ?y12z46⟩) (HS.out _ dd2) ?_
    case y12z46 => (intro w hSw; (try dsimp only at hSw); go_simp; try with_reducible rfl)
    simp only [Act.put, List.setIfInBounds_toArray, List.set_cons_zero, List.set_cons_succ, List.getElem_toArray, List.getElem_cons_zero, List.getElem_cons_succ]
    refine wpAnyH_take (i := 13) (v := ?v13z47) rfl (by kernel_rfl) (by kernel_rfl) (by kernel_rfl) (fun _ _ _ h => h) (Or.inl ⟨by rfl, ?y13z47⟩) (HS.out _ dd2) ?_
    case y13z47 => (intro w hSw; (try dsimp only at hSw); go_simp; try with_reducible rfl)
    simp only [Act.put, List.setIfInBounds_toArray, List.set_cons_zero, List.set_cons_succ, List.getElem_toArray, List.getElem_cons_zero, List.getElem_cons_succ]
    refine wpAnyH_take (i := 14) (v := ?v14z48) rfl (by kernel_rfl) (by kernel_rfl) (by kernel_rfl) (fun _ _ _ h => h) (Or.inl ⟨by rfl, ?y14z48⟩) (HS.out _ dd2) ?_
    case y14z48 => (intro w hSw; (try dsimp only at hSw); go_simp; try with_reducible rfl)
    simp only [Act.put, List.setIfInBounds_toArray, List.set_cons_zero, List.set_cons_succ, List.getElem_toArray, List.getElem_cons_zero, List.getElem_cons_succ]
    refine wpAnyH_done (by kernel_rfl) ?_ _
    refine NoPanic.normal ?_
    go_wp2_with fail
    go_ret
    exact ⟨by rw [HD.out]; rfl, up2 B2.out dd2⟩
  · have dn : decide (wi ≥ 0) = true := by simpa using hneg
    have HD := Lib.hid (decide_eq_true (show InnerL l L from ⟨by have := HN2.out; omega, by rw [HW.out.1]; exact fun h => hneg (HW.out.2.2 h)⟩))
    clear b2 x2 ho hro h0 hx hxm hwi hfw hneg cl hn2
    go_wp2_with fail
    refine wp_region_noPanic ?_
    refine wp_region_held_drew (S := fun w' => (w'.cell? ⟨g, 0, none⟩ = some (.int .i64 N) ∧ w'.cell? ⟨g, 1, none⟩ = some (.slice A l.length c)) ∧ w'.cell? ad = some (.int .i64 (x : Int))) (by kernel_rfl) hd (fun _ => ?_)
    refine wpAnyH_take (i := 0) (v := ?v0z49) rfl (by kernel_rfl) (by kernel_rfl) (by kernel_rfl) (fun _ _ _ h => h) (Or.inl ⟨by rfl, ?y0z49⟩) hd ?_
    case y0z49 => (intro w hSw; (try dsimp only at hSw); go_simp; try with_reducible rfl)
    simp only [Act.put, List.setIfInBounds_toArray, List.set_cons_zero, List.set_cons_succ, List.getElem_toArray, List.getElem_cons_zero]
    refine wpAnyH_take (i := 1) (v := ?v1z50) rfl (by kernel_rfl) (by kernel_rfl) (by kernel_rfl) (fun _ _ _ h => h) (Or.inl ⟨by rfl, ?y1z50⟩) hd ?_
    case y1z50 => (intro w hSw; (try dsimp only at hSw); go_simp; try with_reducible rfl)
    simp only [Act.put, List.setIfInBounds_toArray, List.set_cons_zero, List.set_cons_succ, List.getElem_toArray, List.getElem_cons_zero, List.getElem_cons_succ]
    refine wpAnyH_take (i := 2) (v := ?v2z51) rfl (by kernel_rfl) (by kernel_rfl) (by kernel_rfl) (fun _ _ _ h => h) (Or.inl ⟨by rfl, ?y2z51⟩) hd ?_
    case y2z51 => (intro w hSw; (try dsimp only at hSw); go_simp; try with_reducible rfl)
    simp only [Act.put, List.setIfInBounds_toArray, List.set_cons_zero, List.set_cons_succ, List.getElem_toArray, List.getElem_cons_zero, List.getElem_cons_succ]
    refine wpAnyH_take (i := 3) (v := ?v3z52) rfl (by kernel_rfl) (by kernel_rfl) (by kernel_rfl) (fun _ _ _ h => h) (Or.inl ⟨by rfl, ?y3z52⟩) hd ?_
    case y3z52 => (intro w hSw; (try dsimp only at hSw); go_simp; try with_reducible rfl)
    simp only [Act.put, List.setIfInBounds_toArray, List.set_cons_zero, List.set_cons_succ, List.getElem_toArray, List.getElem_cons_zero, List.getElem_cons_succ]
    refine wpAnyH_take (i := 4) (v := ?v4z53) rfl (by kernel_rfl) (by kernel_rfl) (by kernel_rfl) (fun _ _ _ h => h) (Or.inl ⟨by kernel_rfl, ?y4z53⟩) hd ?_
    case y4z53 => (intro w hSw; (try dsimp only at hSw); go_simp; try with_reducible rfl)
    simp only [Act.put, List.setIfInBounds_toArray, List.set_cons_zero, List.set_cons_succ, List.getElem_toArray, List.getElem_cons_zero, List.getElem_cons_succ]
    refine wpAnyH_take (i := 5) (v := ?v5z54) rfl (by kernel_rfl) (by kernel_rfl) (by kernel_rfl) (fun _ _ _ h => h) (Or.inl ⟨by kernel_rfl, ?y5z54⟩) hd ?_
    case y5z54 => (intro w hSw; (try dsimp only at hSw); go_simp; try with_reducible rfl)
    simp only [Act.put, List.setIfInBounds_toArray, List.set_cons_zero, List.set_cons_succ, List.getElem_toArray, List.getElem_cons_zero, List.getElem_cons_succ]
    refine wpAnyH_take (i := 6) (v := ?v6z55) rfl (by kernel_rfl) (by kernel_rfl) (by kernel_rfl) (fun _ _ _ h => h) (Or.inl ⟨by kernel_rfl, ?y6z55⟩) hd ?_
    case y6z55 => (intro w hSw; (try dsimp only at hSw); go_simp; try with_reducible rfl)
    simp only [Act.put, List.setIfInBounds_toArray, List.set_cons_zero, List.set_cons_succ, List.getElem_toArray, List.getElem_cons_zero, List.getElem_cons_succ]
    refine wpAnyH_take (i := 7) (v := ?v7z56) rfl (by kernel_rfl) (by kernel_rfl) (by kernel_rfl) (fun _ _ _ h => h) (Or.inl ⟨by kernel_rfl, ?y7z56⟩) hd ?_
    case y7z56 => (intro w hSw; (try dsimp only at hSw); go_simp; try with_reducible rfl)
    simp only [Act.put, List.setIfInBounds_toArray, List.set_cons_zero, List.set_cons_succ, List.getElem_toArray, List.getElem_cons_zero, List.getElem_cons_succ]
    refine wpAnyH_take (i := 8) (v := ?v8z57) rfl (by kernel_rfl) (by kernel_rfl) (by kernel_rfl) (fun _ _ _ h => h) (Or.inl ⟨by kernel_rfl, ?y8z57⟩) hd ?_
    case y8z57 => (intro w hSw; (try dsimp only at hSw); go_simp; try with_reducible rfl)
    simp only [Act.put, List.setIfInBounds_toArray, List.set_cons_zero, List.set_cons_succ, List.getElem_toArray, List.getElem_cons_zero, List.getElem_cons_succ]
    refine wpAnyH_take (i := 10) (v := ?v10z58) rfl (by kernel_rfl) (by kernel_rfl) (by kernel_rfl) (fun _ _ _ h => h) (Or.inl ⟨by kernel_rfl, ?y10z58⟩) hd ?_
    case y10z58 => (intro w hSw; (try dsimp only at hSw); go_simp; try with_reducible rfl)
    simp only [Act.put, List.setIfInBounds_toArray, List.set_cons_zero, List.set_cons_succ, List.getElem_toArray, List.getElem_cons_zero, List.getElem_cons_succ]
    refine wpAnyH_ready (rs := [9]) (by kernel_rfl) (by simp) ?_
    refine AllReadyH.cons rfl (fun K hK => ?_) AllReadyH.nil
    rw [if_pos (by kernel_rfl)]
    go_wp2_with fail
    refine (KB.out _ (up2 B12.out bd)).mono ?_
    rintro e vv1 ⟨rfl, b9⟩
    have dd1 := up2 bd b9
    clear b9
    go_wp2_with fail
    refine hK.out _ _ (HS.out _ dd1) (fun _ => ?_)
    clear hK K
    try simp only [Act.put, List.setIfInBounds_toArray, List.set_cons_zero, List.set_cons_succ, List.getElem_toArray, List.getElem_cons_zero, List.getElem_cons_succ]
    refine wpAnyH_ready (rs := [11]) (by kernel_rfl) (by simp) ?_
    refine AllReadyH.cons rfl (fun K hK => ?_) AllReadyH.nil
    rw [if_pos (by kernel_rfl)]
    go_wp2_with fail
    refine (KW.out _ (up2 B12.out dd1)).mono ?_
    rintro e vv2 ⟨rfl, b9⟩
    have dd2 := up2 dd1 b9
    clear b9
    go_wp2_with fail
    refine hK.out _ _ (HS.out _ dd2) (fun _ => ?_)
    clear hK K
    try simp only [Act.put, List.setIfInBounds_toArray, List.set_cons_zero, List.set_cons_succ, List.getElem_toArray, List.getElem_cons_zero, List.getElem_cons_succ]
    refine wpAnyH_take (i := 12) (v := ?v12z59) rfl (by kernel_rfl) (by kernel_rfl) (by kernel_rfl) (fun _ _ _ h => h) (Or.inl ⟨by kernel_rfl, ?y12z59⟩) (HS.out _ dd2) ?_
    case y12z59 => (intro w hSw; (try dsimp only at hSw); go_simp; try with_reducible rfl)
    simp only [Act.put, List.setIfInBounds_toArray, List.set_cons_zero, List.set_cons_succ, List.getElem_toArray, List.getElem_cons_zero, List.getElem_cons_succ]
    refine wpAnyH_take (i := 13) (v := ?v13z60) rfl (by kernel_rfl) (by kernel_rfl) (by kernel_rfl) (fun _ _ _ h => h) (Or.inl ⟨by rfl, ?y13z60⟩) (HS.out _ dd2) ?_
    case y13z60 => (intro w hSw; (try dsimp only at hSw); go_simp; try with_reducible rfl)
    simp only [Act.put, List.setIfInBounds_toArray, List.set_cons_zero, List.set_cons_succ, List.getElem_toArray, List.getElem_cons_zero, List.getElem_cons_succ]
    refine wpAnyH_take (i := 14) (v := ?v14z61) rfl (by kernel_rfl) (by kernel_rfl) (by kernel_rfl) (fun _ _ _ h => h) (Or.inl ⟨by rfl, ?y14z61⟩) (HS.out _ dd2) ?_
    case y14z61 => (intro w hSw; (try dsimp only at hSw); go_simp; try with_reducible rfl)
    simp only [Act.put, List.setIfInBounds_toArray, List.set_cons_zero, List.set_cons_succ, List.getElem_toArray, List.getElem_cons_zero, List.getElem_cons_succ]
    refine wpAnyH_done (by kernel_rfl) ?_ _
    refine NoPanic.normal ?_
    go_wp2_with fail
    go_ret
    exact ⟨by rw [HD.out]; rfl, up2 B2.out dd2⟩
/-- The link being put together. -/
def LkR (w2 : World) (n2 : Nat) (l : List Tr) (L : List Nat) (o i : Value) (wr : World) : Prop := Below w2.heap.size w2 wr ∧ ∃ k : Nat, k ≤ n2 ∧ i = .int .i64 (k : Int) ∧ ∃ A c, o = .slice A k c ∧ wr.ownsRow w2.heap.size 3 1 (.slice A k c) k (ints ((L.take k).map fun c => vtx l (nxt c)))
set_option maxHeartbeats 8000000 in
set_option maxRecDepth 100000 in
theorem r11link_any (w : World) (N : Int) (A : Option Addr) (n c : Nat) (l : List Tr) (ht : T3 w A n l) (hsf : Surf N l) (v : Int) (L : List Nat) (hL : IsRing l v L) : Calls Try.prog 19 #[.agg #[.int .i64 N, .slice A n c], .int .i64 v] w (RowTold w (linkL l L)) := by
  obtain rfl := ht.1
  obtain ⟨w1, hw1⟩ : ∃ w1, w.alloc (.cells #[.int .i64 N, .slice A l.length c] 24) = w1 := ⟨_, rfl⟩
  obtain ⟨g, hg⟩ : ∃ g, w.heap.size = g := ⟨_, rfl⟩
  have b1 : Below w.heap.size w w1 := by rw [← hw1]; exact (Below.refl _ w).alloc (Nat.le_refl _) _
  have x1 : Bx w1 g N A l.length c := by rw [← hw1, ← hg]; exact Bx.made w N A l.length c
  have hn : l.length ≤ 8192 := hsf.t1
  have hLn : L.length ≤ 8192 := by rw [hL.len]; have := cAt_le hsf v; omega
  have e0 := x1.c0
  have e1 := x1.c1
  have HL := Lib.hid (ht.below b1)
  have HSF := Lib.hid hsf
  have B1 := Lib.hid (And.intro b1 x1)
  have KA := Lib.hid (r11around_ring w1 N A l.length c l (ht.below b1) hsf v L hL)
  have HR := Lib.hid hL
  clear b1 x1 ht hsf hL
  go_enter Try.func19, Try.ntmps19
  go_wp2_with fail
  refine KA.out.mono ?_
  rintro e w2 ⟨A2, n2, c2, rfl, ho, b2⟩
  obtain ⟨A2', c2', e2, _, hro⟩ := Reads.of_own ho
  injection e2 with e2a _ e2b
  subst e2a e2b
  have hn2 : L.length = n2 := by have := hro.len; rwa [natsI_len] at this
  have HN2 := Lib.hid hn2
  have hn2' : n2 ≤ 8192 := by omega
  have B2 := Lib.hid (And.intro b2 (And.intro (B1.out.2.below b2) hro))
  clear b2 ho hro e0 e1 hn2 hLn
  go_wp2_with fail
  clear hw1 hg
  go_loopw [6, 7] (LkR w2 n2 l L) (fun _ i _ => n2 - (intOf i).toNat)
  case atStart => exact ⟨Below.refl _ _, 0, Nat.zero_le _, rfl, none, 0, rfl, World.ownsRow_nil _ _ _ _⟩
  case round =>
    obtain ⟨hb, k, hk, rfl, Ao, co, rfl, ho⟩ := hrel
    have HB := Lib.hid (And.intro hb ho)
    have x3 := B2.out.2.1.below hb
    by_cases hlt : k < n2
    case pos =>
      have b1 : (k : Int) < (n2 : Int) := by omega
      have b2 : 0 ≤ (k : Int) := by omega
      obtain ⟨ad, rfl, cl⟩ := (B2.out.2.2.below hb).int k hlt
      rw [natsI_at] at cl
      obtain ⟨x, hx⟩ : ∃ x, L.getD k 0 = x := ⟨_, rfl⟩
      rw [hx] at cl
      have hxm : x ∈ cAt l v := (HR.out.mem x).1 (by rw [← hx]; exact getDn_mem (by rw [HN2.out]; exact hlt))
      obtain ⟨y, hy⟩ : ∃ y, vtx l (nxt x) = y := ⟨_, rfl⟩
      have HX := Lib.hid (show (L.take (k + 1)).map (fun c => vtx l (nxt c)) = (L.take k).map (fun c => vtx l (nxt c)) ++ [y] by rw [take_snocN (by rw [HN2.out]; exact hlt), hx, List.map_append, List.map_singleton, hy])
      have KB := Lib.hid (fun W (b : Below w2.heap.size w2 W) => (show Calls Try.prog 31 #[.agg #[.int .i64 N, .slice A l.length c], .int .i64 (x : Int), .int .i64 1] W (IntTold W y) from by
        have := r11behind_any W N A l.length c l (HL.out.below (up2 B2.out.1 b)) (by omega) x (cAt_mem.1 hxm).1 1 (by omega)
        rwa [besC_one, hy] at this))
      have cl2 : w2.cell? (ad.add k) = some (.int .i64 (x : Int)) := by
        obtain ⟨ad2, e, h⟩ := B2.out.2.2.int k hlt
        injection e with e
        subst e
        rw [natsI_at, hx] at h
        exact h
      have HS := Lib.hid (fun W (b : Below w2.heap.size w2 W) => (show (W.cell? ⟨g, 0, none⟩ = some (.int .i64 N) ∧ W.cell? ⟨g, 1, none⟩ = some (.slice A l.length c)) ∧ W.cell? (ad.add k) = some (.int .i64 (x : Int)) from
        ⟨⟨(B2.out.2.1.below b).c0, (B2.out.2.1.below b).c1⟩, (b.cell (World.block_lt_of_cell? _ _ cl2)).trans cl2⟩))
      have bw : Below wr.heap.size wr wr.drew := Reading.below ⟨1, rfl⟩
      have hd := HS.out wr.drew (up2 hb bw)
      clear hb ho x3 hx hxm hy cl cl2
      go_wp2_with fail
      refine wp_region_noPanic ?_
      refine wp_region_held_drew (S := fun w' => (w'.cell? ⟨g, 0, none⟩ = some (.int .i64 N) ∧ w'.cell? ⟨g, 1, none⟩ = some (.slice A l.length c)) ∧ w'.cell? (ad.add k) = some (.int .i64 (x : Int))) (by kernel_rfl) hd (fun _ => ?_)
      refine wpAnyH_take (i := 0) (v := ?v0z62) rfl (by kernel_rfl) (by kernel_rfl) (by kernel_rfl) (fun _ _ _ h => h) (Or.inl ⟨by rfl, ?y0z62⟩) hd ?_
      case y0z62 => (intro w hSw; (try dsimp only at hSw); go_simp; try with_reducible rfl)
      simp only [Act.put, List.setIfInBounds_toArray, List.set_cons_zero, List.set_cons_succ, List.getElem_toArray, List.getElem_cons_zero]
      refine wpAnyH_take (i := 1) (v := ?v1z63) rfl (by kernel_rfl) (by kernel_rfl) (by kernel_rfl) (fun _ _ _ h => h) (Or.inl ⟨by rfl, ?y1z63⟩) hd ?_
      case y1z63 => (intro w hSw; (try dsimp only at hSw); go_simp; try with_reducible rfl)
      simp only [Act.put, List.setIfInBounds_toArray, List.set_cons_zero, List.set_cons_succ, List.getElem_toArray, List.getElem_cons_zero, List.getElem_cons_succ]
      refine wpAnyH_take (i := 2) (v := ?v2z64) rfl (by kernel_rfl) (by kernel_rfl) (by kernel_rfl) (fun _ _ _ h => h) (Or.inl ⟨by rfl, ?y2z64⟩) hd ?_
      case y2z64 => (intro w hSw; (try dsimp only at hSw); go_simp; try with_reducible rfl)
      simp only [Act.put, List.setIfInBounds_toArray, List.set_cons_zero, List.set_cons_succ, List.getElem_toArray, List.getElem_cons_zero, List.getElem_cons_succ]
      refine wpAnyH_take (i := 3) (v := ?v3z65) rfl (by kernel_rfl) (by kernel_rfl) (by kernel_rfl) (fun _ _ _ h => h) (Or.inl ⟨by rfl, ?y3z65⟩) hd ?_
      case y3z65 => (intro w hSw; (try dsimp only at hSw); go_simp; try with_reducible rfl)
      simp only [Act.put, List.setIfInBounds_toArray, List.set_cons_zero, List.set_cons_succ, List.getElem_toArray, List.getElem_cons_zero, List.getElem_cons_succ]
      refine wpAnyH_take (i := 4) (v := ?v4z66) rfl (by kernel_rfl) (by kernel_rfl) (by kernel_rfl) (fun _ _ _ h => h) (Or.inl ⟨by rfl, ?y4z66⟩) hd ?_
      case y4z66 => (intro w hSw; (try dsimp only at hSw); go_simp; try with_reducible rfl)
      simp only [Act.put, List.setIfInBounds_toArray, List.set_cons_zero, List.set_cons_succ, List.getElem_toArray, List.getElem_cons_zero, List.getElem_cons_succ]
      refine wpAnyH_take (i := 5) (v := ?v5z67) rfl (by kernel_rfl) (by kernel_rfl) (by kernel_rfl) (fun _ _ _ h => h) (Or.inl ⟨by rfl, ?y5z67⟩) hd ?_
      case y5z67 => (intro w hSw; (try dsimp only at hSw); go_simp; try with_reducible rfl)
      simp only [Act.put, List.setIfInBounds_toArray, List.set_cons_zero, List.set_cons_succ, List.getElem_toArray, List.getElem_cons_zero, List.getElem_cons_succ]
      refine wpAnyH_ready (rs := [6]) (by kernel_rfl) (by simp) ?_
      refine AllReadyH.cons rfl (fun K hK => ?_) AllReadyH.nil
      rw [if_pos (by rfl)]
      go_wp2_with fail
      refine (KB.out _ (up2 HB.out.1 bw)).mono ?_
      rintro e vv1 ⟨rfl, b9⟩
      have dd1 : Below w2.heap.size w2 vv1 := up2 (up2 HB.out.1 bw) b9
      have own0 := ownK_up (ownK_up HB.out.2 bw) b9
      clear b9
      go_wp2_with fail
      refine hK.out _ _ (HS.out _ dd1) (fun _ => ?_)
      clear hK K
      try simp only [Act.put, List.setIfInBounds_toArray, List.set_cons_zero, List.set_cons_succ, List.getElem_toArray, List.getElem_cons_zero, List.getElem_cons_succ]
      refine wpAnyH_ready (rs := [7]) (by kernel_rfl) (by simp) ?_
      refine AllReadyH.cons rfl (fun K hK => ?_) AllReadyH.nil
      go_simp
      refine hK.out _ _ (HS.out _ (up1 dd1 _)) (fun _ => ?_)
      clear hK K
      try simp only [Act.put, List.setIfInBounds_toArray, List.set_cons_zero, List.set_cons_succ, List.getElem_toArray, List.getElem_cons_zero, List.getElem_cons_succ]
      obtain ⟨u1, hn⟩ : ∃ x, vv1.alloc (.cells #[.int .i64 y] 3) = x := ⟨_, rfl⟩
      obtain ⟨q, hg⟩ : ∃ x, vv1.heap.size = x := ⟨_, rfl⟩
      have qe : u1.heap[q]? = some (.cells #[.int .i64 y] 3 (0, 0)) := by rw [← hn, ← hg]; exact heap_alloc_new vv1 _
      have bn : Below vv1.heap.size vv1 u1 := by rw [← hn]; exact (Below.refl _ vv1).alloc (Nat.le_refl _) _
      have own1 := ownK_up (own0) bn
      have bw1 : Below w2.heap.size w2 u1 := up2 dd1 bn
      simp only [hn, hg]
      clear hn hg bn
      refine wpAnyH_ready (rs := [8]) (by kernel_rfl) (by simp) ?_
      refine AllReadyH.cons rfl (fun K hK => ?_) AllReadyH.nil
      refine step_snocI y own1 bw1.size (by omega) qe rfl (.tmp 17) (.tmp 24) rfl (by go_simp) (by go_simp) ?_
      intro A9 c9 w9 b9 own9
      have bw9 : Below w2.heap.size w2 w9 := bw1.trans b9
      refine hK.out _ _ (HS.out _ bw9) (fun _ => ?_)
      clear hK K
      try simp only [Act.put, List.setIfInBounds_toArray, List.set_cons_zero, List.set_cons_succ, List.getElem_toArray, List.getElem_cons_zero, List.getElem_cons_succ]
      clear b9 qe own1 bw1
      refine wpAnyH_take (i := 9) (v := ?v9z68) rfl (by kernel_rfl) (by kernel_rfl) (by kernel_rfl) (fun _ _ _ h => h) (Or.inl ⟨by rfl, ?y9z68⟩) (HS.out _ bw9) ?_
      case y9z68 => (intro w hSw; (try dsimp only at hSw); go_simp; try with_reducible rfl)
      simp only [Act.put, List.setIfInBounds_toArray, List.set_cons_zero, List.set_cons_succ, List.getElem_toArray, List.getElem_cons_zero, List.getElem_cons_succ]
      refine wpAnyH_done (by kernel_rfl) ?_ _
      refine NoPanic.normal ?_
      go_wp2_with fail
      refine ⟨⟨bw9, k + 1, hlt, by go_num, A9, c9, rfl, ?_⟩, by simp [intOf]; omega⟩
      rw [HX.out]
      exact own9
    case neg =>
    obtain rfl : k = n2 := by omega
    have b1 : ¬ (k : Int) < (k : Int) := by omega
    have e0 := x3.c0
    have e1 := x3.c1
    have OW := Lib.hid (show wr.ownsRow w2.heap.size 3 1 (.slice Ao k co) k (ints (L.map fun c => vtx l (nxt c))) from by have := ho; rwa [List.take_of_length_le (by rw [HN2.out]; exact Nat.le_refl _)] at this)
    have KI := Lib.hid (r11inner_any wr N A l.length c l (HL.out.below (up2 B2.out.1 hb)) HSF.out v L HR.out)
    obtain ⟨wq, hwq⟩ : ∃ wq, wr = wq := ⟨_, rfl⟩
    rw [hwq] at OW KI HB e0 e1 x3
    simp only [hwq]
    clear hb ho hwq
    by_cases h0 : k = 0
    · have f0 : decide ((k : Int) > 0) = false := decide_eq_false (by omega)
      have f0' : decide (0 < k) = false := decide_eq_false (by omega)
      have HD := Lib.hid (show linkL l L = L.map fun c => vtx l (nxt c) by unfold linkL; rw [if_neg fun h => by have := h.1; have := HN2.out; omega, List.append_nil])
      clear h0 x3
      go_wp2_with fail
      go_ret
      exact ⟨_, _, _, rfl, by rw [HD.out]; exact ownK_base OW.out (up2 B1.out.1 B2.out.1).size, up2 B1.out.1 (up2 B2.out.1 HB.out.1)⟩
    have f0 : decide ((k : Int) > 0) = true := decide_eq_true (by omega)
    have f0' : decide (0 < k) = true := decide_eq_true (by omega)
    have hl0 : 0 < L.length := by have := HN2.out; omega
    by_cases hi : InnerL l L
    · have HD := Lib.hid (show linkL l L = L.map fun c => vtx l (nxt c) by unfold linkL; rw [if_neg fun h => h.2 hi, List.append_nil])
      rw [decide_eq_true hi] at KI
      clear h0 hi x3 hl0
      go_wp2_with fail
      refine KI.out.mono ?_
      rintro e w4 ⟨rfl, b4⟩
      have O4 := Lib.hid (ownK_up OW.out b4)
      have B4 := Lib.hid (up2 HB.out.1 b4)
      clear b4
      go_wp2_with fail
      go_ret
      exact ⟨_, _, _, rfl, by rw [HD.out]; exact ownK_base O4.out (up2 B1.out.1 B2.out.1).size, up2 B1.out.1 (up2 B2.out.1 B4.out)⟩
    · rw [decide_eq_false hi] at KI
      obtain ⟨ad, rfl, cl⟩ := B2.out.2.2.int (k - 1) (by omega)
      rw [natsI_at] at cl
      obtain ⟨x, hx⟩ : ∃ x, L.getD (k - 1) 0 = x := ⟨_, rfl⟩
      rw [hx] at cl
      have hxm : x ∈ cAt l v := (HR.out.mem x).1 (by rw [← hx]; exact getDn_mem (by have := HN2.out; omega))
      obtain ⟨y, hy⟩ : ∃ y, vtx l (prv x) = y := ⟨_, rfl⟩
      have HD := Lib.hid (show linkL l L = (L.map fun c => vtx l (nxt c)) ++ [y] by unfold linkL; rw [if_pos ⟨hl0, hi⟩, HN2.out, hx, hy])
      have KB := Lib.hid (fun W (b : Below w2.heap.size w2 W) => (show Calls Try.prog 31 #[.agg #[.int .i64 N, .slice A l.length c], .int .i64 (x : Int), .int .i64 2] W (IntTold W y) from by
        have := r11behind_any W N A l.length c l (HL.out.below (up2 B2.out.1 b)) (by omega) x (cAt_mem.1 hxm).1 2 (by omega)
        rwa [besC_two, hy] at this))
      obtain ⟨j, hj⟩ : ∃ j, k - 1 = j := ⟨_, rfl⟩
      rw [hj] at cl
      have HS := Lib.hid (fun W (b : Below w2.heap.size w2 W) => (show (W.cell? ⟨g, 0, none⟩ = some (.int .i64 N) ∧ W.cell? ⟨g, 1, none⟩ = some (.slice A l.length c)) ∧ W.cell? (ad.add j) = some (.int .i64 (x : Int)) from
        ⟨⟨(B2.out.2.1.below b).c0, (B2.out.2.1.below b).c1⟩, (b.cell (World.block_lt_of_cell? _ _ cl)).trans cl⟩))
      have s1 : IntKind.i64.wrap ((k : Int) - 1) = (j : Int) := by rw [IntWalk.i64_in _ (by omega)]; omega
      have s2 : (j : Int) < (k : Int) := by omega
      have s3 : 0 ≤ (j : Int) := by omega
      clear h0 hi x3 hx hxm hy cl hl0 hj
      go_wp2_with fail
      refine KI.out.mono ?_
      rintro e w4 ⟨rfl, b4⟩
      have O4 := Lib.hid (ownK_up OW.out b4)
      have B4 := Lib.hid (up2 HB.out.1 b4)
      have bw : Below w4.heap.size w4 w4.drew := Reading.below ⟨1, rfl⟩
      have hd := HS.out w4.drew (up2 B4.out bw)
      clear b4
      go_wp2_with fail
      refine wp_region_noPanic ?_
      refine wp_region_held_drew (S := fun w' => (w'.cell? ⟨g, 0, none⟩ = some (.int .i64 N) ∧ w'.cell? ⟨g, 1, none⟩ = some (.slice A l.length c)) ∧ w'.cell? (ad.add j) = some (.int .i64 (x : Int))) (by kernel_rfl) hd (fun _ => ?_)
      refine wpAnyH_take (i := 0) (v := ?v0z69) rfl (by kernel_rfl) (by kernel_rfl) (by kernel_rfl) (fun _ _ _ h => h) (Or.inl ⟨by rfl, ?y0z69⟩) hd ?_
      case y0z69 => (intro w hSw; (try dsimp only at hSw); go_simp; try with_reducible rfl)
      simp only [Act.put, List.setIfInBounds_toArray, List.set_cons_zero, List.set_cons_succ, List.getElem_toArray, List.getElem_cons_zero]
      refine wpAnyH_take (i := 1) (v := ?v1z70) rfl (by kernel_rfl) (by kernel_rfl) (by kernel_rfl) (fun _ _ _ h => h) (Or.inl ⟨by rfl, ?y1z70⟩) hd ?_
      case y1z70 => (intro w hSw; (try dsimp only at hSw); go_simp; try with_reducible rfl)
      simp only [Act.put, List.setIfInBounds_toArray, List.set_cons_zero, List.set_cons_succ, List.getElem_toArray, List.getElem_cons_zero, List.getElem_cons_succ]
      refine wpAnyH_take (i := 2) (v := ?v2z71) rfl (by kernel_rfl) (by kernel_rfl) (by kernel_rfl) (fun _ _ _ h => h) (Or.inl ⟨by rfl, ?y2z71⟩) hd ?_
      case y2z71 => (intro w hSw; (try dsimp only at hSw); go_simp; try with_reducible rfl)
      simp only [Act.put, List.setIfInBounds_toArray, List.set_cons_zero, List.set_cons_succ, List.getElem_toArray, List.getElem_cons_zero, List.getElem_cons_succ]
      refine wpAnyH_take (i := 3) (v := ?v3z72) rfl (by kernel_rfl) (by kernel_rfl) (by kernel_rfl) (fun _ _ _ h => h) (Or.inl ⟨by rfl, ?y3z72⟩) hd ?_
      case y3z72 => (intro w hSw; (try dsimp only at hSw); go_simp; try with_reducible rfl)
      simp only [Act.put, List.setIfInBounds_toArray, List.set_cons_zero, List.set_cons_succ, List.getElem_toArray, List.getElem_cons_zero, List.getElem_cons_succ]
      refine wpAnyH_take (i := 4) (v := ?v4z73) rfl (by kernel_rfl) (by kernel_rfl) (by kernel_rfl) (fun _ _ _ h => h) (Or.inl ⟨by rfl, ?y4z73⟩) hd ?_
      case y4z73 => (intro w hSw; (try dsimp only at hSw); go_simp; try with_reducible rfl)
      simp only [Act.put, List.setIfInBounds_toArray, List.set_cons_zero, List.set_cons_succ, List.getElem_toArray, List.getElem_cons_zero, List.getElem_cons_succ]
      refine wpAnyH_take (i := 5) (v := ?v5z74) rfl (by kernel_rfl) (by kernel_rfl) (by kernel_rfl) (fun _ _ _ h => h) (Or.inl ⟨by rfl, ?y5z74⟩) hd ?_
      case y5z74 => (intro w hSw; (try dsimp only at hSw); go_simp; try with_reducible rfl)
      simp only [Act.put, List.setIfInBounds_toArray, List.set_cons_zero, List.set_cons_succ, List.getElem_toArray, List.getElem_cons_zero, List.getElem_cons_succ]
      refine wpAnyH_take (i := 6) (v := ?v6z75) rfl (by kernel_rfl) (by kernel_rfl) (by kernel_rfl) (fun _ _ _ h => h) (Or.inl ⟨by rfl, ?y6z75⟩) hd ?_
      case y6z75 => (intro w hSw; (try dsimp only at hSw); go_simp; try with_reducible rfl)
      simp only [Act.put, List.setIfInBounds_toArray, List.set_cons_zero, List.set_cons_succ, List.getElem_toArray, List.getElem_cons_zero, List.getElem_cons_succ]
      refine wpAnyH_take (i := 7) (v := ?v7z76) rfl (by kernel_rfl) (by kernel_rfl) (by kernel_rfl) (fun _ _ _ h => h) (Or.inl ⟨by rfl, ?y7z76⟩) hd ?_
      case y7z76 => (intro w hSw; (try dsimp only at hSw); go_simp; try with_reducible rfl)
      simp only [Act.put, List.setIfInBounds_toArray, List.set_cons_zero, List.set_cons_succ, List.getElem_toArray, List.getElem_cons_zero, List.getElem_cons_succ]
      refine wpAnyH_ready (rs := [8]) (by kernel_rfl) (by simp) ?_
      refine AllReadyH.cons rfl (fun K hK => ?_) AllReadyH.nil
      rw [if_pos (by rfl)]
      go_wp2_with fail
      refine (KB.out _ (up2 B4.out bw)).mono ?_
      rintro e vv1 ⟨rfl, b9⟩
      have dd1 : Below w2.heap.size w2 vv1 := up2 (up2 B4.out bw) b9
      have own0 := ownK_up (ownK_up O4.out bw) b9
      clear b9
      go_wp2_with fail
      refine hK.out _ _ (HS.out _ dd1) (fun _ => ?_)
      clear hK K
      try simp only [Act.put, List.setIfInBounds_toArray, List.set_cons_zero, List.set_cons_succ, List.getElem_toArray, List.getElem_cons_zero, List.getElem_cons_succ]
      refine wpAnyH_ready (rs := [9]) (by kernel_rfl) (by simp) ?_
      refine AllReadyH.cons rfl (fun K hK => ?_) AllReadyH.nil
      go_simp
      refine hK.out _ _ (HS.out _ (up1 dd1 _)) (fun _ => ?_)
      clear hK K
      try simp only [Act.put, List.setIfInBounds_toArray, List.set_cons_zero, List.set_cons_succ, List.getElem_toArray, List.getElem_cons_zero, List.getElem_cons_succ]
      obtain ⟨u1, hn⟩ : ∃ x, vv1.alloc (.cells #[.int .i64 y] 3) = x := ⟨_, rfl⟩
      obtain ⟨q, hg⟩ : ∃ x, vv1.heap.size = x := ⟨_, rfl⟩
      have qe : u1.heap[q]? = some (.cells #[.int .i64 y] 3 (0, 0)) := by rw [← hn, ← hg]; exact heap_alloc_new vv1 _
      have bn : Below vv1.heap.size vv1 u1 := by rw [← hn]; exact (Below.refl _ vv1).alloc (Nat.le_refl _) _
      have own1 := ownK_up (own0) bn
      have bw1 : Below w2.heap.size w2 u1 := up2 dd1 bn
      simp only [hn, hg]
      clear hn hg bn
      refine wpAnyH_ready (rs := [10]) (by kernel_rfl) (by simp) ?_
      refine AllReadyH.cons rfl (fun K hK => ?_) AllReadyH.nil
      refine step_snocI y own1 bw1.size (by omega) qe rfl (.tmp 35) (.tmp 44) rfl (by go_simp) (by go_simp) ?_
      intro A9 c9 w9 b9 own9
      have bw9 : Below w2.heap.size w2 w9 := bw1.trans b9
      refine hK.out _ _ (HS.out _ bw9) (fun _ => ?_)
      clear hK K
      try simp only [Act.put, List.setIfInBounds_toArray, List.set_cons_zero, List.set_cons_succ, List.getElem_toArray, List.getElem_cons_zero, List.getElem_cons_succ]
      clear b9 qe own1 bw1
      refine wpAnyH_take (i := 11) (v := ?v11z77) rfl (by kernel_rfl) (by kernel_rfl) (by kernel_rfl) (fun _ _ _ h => h) (Or.inl ⟨by rfl, ?y11z77⟩) (HS.out _ bw9) ?_
      case y11z77 => (intro w hSw; (try dsimp only at hSw); go_simp; try with_reducible rfl)
      simp only [Act.put, List.setIfInBounds_toArray, List.set_cons_zero, List.set_cons_succ, List.getElem_toArray, List.getElem_cons_zero, List.getElem_cons_succ]
      refine wpAnyH_done (by kernel_rfl) ?_ _
      refine NoPanic.normal ?_
      go_wp2_with fail
      go_ret
      exact ⟨_, _, _, rfl, by rw [HD.out]; exact ownK_base own9 (up2 B1.out.1 B2.out.1).size, up2 B1.out.1 (up2 B2.out.1 bw9)⟩
end Go.Proofs.Ytoianhaocjiffaa

/- Layer 11: what follows of links (P11.2), as plain numbers. -/
namespace Go.Proofs.Ytoianhaocjiffaa

/-- What the link of a vertex of a surface is. -/
structure Links (N : Int) (l : List Tr) (v : Int) (L : List Nat) : Prop where
  pos : 0 < L.length
  len : (linkL l L).length = L.length + if InnerL l L then 0 else 1
  nx : ∀ i, i < L.length → (linkL l L).getD i 0 = vtx l (nxt (L.getD i 0))
  pv : ∀ i, i < L.length → (linkL l L).getD ((i + 1) % (linkL l L).length) 0 = vtx l (prv (L.getD i 0))
  corner : ∀ i, i < L.length → L.getD i 0 < 3 * l.length ∧ vtx l (L.getD i 0) = v
  sub : ∀ x ∈ linkL l L, ∃ i, i < L.length ∧ (x = vtx l (nxt (L.getD i 0)) ∨ x = vtx l (prv (L.getD i 0)))
  nodup : (linkL l L).Nodup

theorem map_getDN {L : List Nat} (f : Nat → Int) {i : Nat} (h : i < L.length) : (L.map f).getD i 0 = f (L.getD i 0) := by
  rw [List.getD_eq_getElem?_getD, List.getD_eq_getElem?_getD, List.getElem?_map, List.getElem?_eq_getElem h]; rfl
theorem app_left {a b : List Int} {i : Nat} (h : i < a.length) : (a ++ b).getD i 0 = a.getD i 0 := by
  rw [List.getD_eq_getElem?_getD, List.getD_eq_getElem?_getD, List.getElem?_append_left h]
theorem nodup_mapN {L : List Nat} {f : Nat → Int} (hL : L.Nodup) (hf : ∀ a ∈ L, ∀ b ∈ L, f a = f b → a = b) : (L.map f).Nodup := by
  rw [List.nodup_iff_pairwise_ne] at *
  rw [List.pairwise_map]
  exact List.Pairwise.imp_of_mem (fun ha hb hne e => hne (hf _ ha _ hb e)) hL
theorem links_of {N : Int} {l : List Tr} (h : Surf N l) {v : Int} {L : List Nat} (hv : inN N v) (hR : IsRing l v L) : Links N l v L := by
  rcases hR with ⟨e, rfl⟩ | ⟨c0, _, hL⟩
  · exfalso
    obtain ⟨t, ht, hh⟩ := h.used v hv
    obtain ⟨j, hj, rfl⟩ := mem3_getD ht
    obtain ⟨c, hc, _⟩ := hasV_corner hj hh
    rw [e] at hc
    cases hc
  have hpos := hL.chain.ne
  have hcor : ∀ i, i < L.length → L.getD i 0 < 3 * l.length ∧ vtx l (L.getD i 0) = v := fun i hi => cAt_mem.1 (hL.chain.sub _ (getDn_mem hi))
  have hmem : ∀ c ∈ L, c < 3 * l.length ∧ vtx l c = v := fun c hc => cAt_mem.1 (hL.chain.sub _ hc)
  have hinj : ∀ a ∈ L, ∀ b ∈ L, vtx l (nxt a) = vtx l (nxt b) → a = b := fun a ha b hb e => by
    obtain ⟨a1, a2⟩ := hmem a ha
    obtain ⟨b1, b2⟩ := hmem b hb
    have : edgeC l (prv a) = edgeC l (prv b) := by rw [edge_prv, edge_prv, a2, b2, e]
    have := edgeC_inj h (prv_lt a1) (prv_lt b1) this
    rw [← nxt_prv a, this, nxt_prv]
  have hnd := nodup_mapN (f := fun c => vtx l (nxt c)) hL.chain.nd hinj
  have hstep : ∀ i, i + 1 < L.length → vtx l (nxt (L.getD (i + 1) 0)) = vtx l (prv (L.getD i 0)) := fun i hi => ((turn_iff h (hcor i (by omega)).1).1 (hL.chain.st i hi)).2.2
  by_cases hin : InnerL l L
  · have hlk : linkL l L = L.map fun c => vtx l (nxt c) := by unfold linkL; rw [if_neg fun g => g.2 hin, List.append_nil]
    have hlen : (linkL l L).length = L.length := by rw [hlk, List.length_map]
    have hnx : ∀ i, i < L.length → (linkL l L).getD i 0 = vtx l (nxt (L.getD i 0)) := fun i hi => by rw [hlk]; exact map_getDN (fun c => vtx l (nxt c)) hi
    refine ⟨hpos, by rw [hlen, if_pos hin]; rfl, hnx, fun i hi => ?_, hcor, fun x hx => ?_, by rw [hlk]; exact hnd⟩
    · rw [hlen]
      rcases Nat.lt_or_ge (i + 1) L.length with hlt | hge
      · rw [Nat.mod_eq_of_lt hlt, hnx _ hlt]; exact hstep i hlt
      · obtain rfl : i = L.length - 1 := by omega
        rw [show L.length - 1 + 1 = L.length by omega, Nat.mod_self, hnx 0 hpos, hL.chain.hd]
        have hb : oppC l (prv c0) ≠ -1 := by have := hin.2; rwa [hL.chain.hd] at this
        exact ((turn_iff h (hcor _ hi).1).1 (hL.inn hb)).2.2
    · rw [hlk] at hx
      obtain ⟨c, hc, rfl⟩ := List.mem_map.1 hx
      obtain ⟨i, hi, rfl⟩ := memn_getD hc
      exact ⟨i, hi, .inl rfl⟩
  · have hlk : linkL l L = (L.map fun c => vtx l (nxt c)) ++ [vtx l (prv (L.getD (L.length - 1) 0))] := by unfold linkL; rw [if_pos ⟨hpos, hin⟩]
    have hlen : (linkL l L).length = L.length + 1 := by rw [hlk, List.length_append, List.length_map]; rfl
    have hnx : ∀ i, i < L.length → (linkL l L).getD i 0 = vtx l (nxt (L.getD i 0)) := fun i hi => by rw [hlk, app_left (by rw [List.length_map]; exact hi)]; exact map_getDN (fun c => vtx l (nxt c)) hi
    have hb : oppC l (prv c0) = -1 := Classical.byContradiction fun hb => hin ⟨hpos, by rw [hL.chain.hd]; exact hb⟩
    refine ⟨hpos, by rw [hlen, if_neg hin], hnx, fun i hi => ?_, hcor, fun x hx => ?_, ?_⟩
    · rw [hlen, Nat.mod_eq_of_lt (by omega)]
      rcases Nat.lt_or_ge (i + 1) L.length with hlt | hge
      · rw [hnx _ hlt]; exact hstep i hlt
      · obtain rfl : i = L.length - 1 := by omega
        rw [hlk, List.getD_eq_getElem?_getD, List.getElem?_append_right (by rw [List.length_map]; omega), List.length_map, show L.length - 1 + 1 - L.length = 0 by omega]
        rfl
    · rw [hlk] at hx
      rcases List.mem_append.1 hx with hx | hx
      · obtain ⟨c, hc, rfl⟩ := List.mem_map.1 hx
        obtain ⟨i, hi, rfl⟩ := memn_getD hc
        exact ⟨i, hi, .inl rfl⟩
      · obtain rfl := List.mem_singleton.1 hx
        exact ⟨L.length - 1, by omega, .inr rfl⟩
    · rw [hlk, List.nodup_append]
      refine ⟨hnd, by simp, fun a ha b hb' e => ?_⟩
      obtain rfl := List.mem_singleton.1 hb'
      obtain ⟨c, hc, rfl⟩ := List.mem_map.1 ha
      have hlast := hcor (L.length - 1) (by omega)
      obtain ⟨h1, h2⟩ := hmem c hc
      have := (turn_iff h hlast.1).2 ⟨h1, h2.trans hlast.2.symm, e⟩
      rw [hL.out hb] at this
      cases this
theorem near_comm {l : List Tr} {a b : Int} : NearC l a b ↔ NearC l b a := ⟨fun h => h.symm, fun h => h.symm⟩
theorem near_of {N : Int} {l : List Tr} (h : Surf N l) {c : Nat} (hc : c < 3 * l.length) : NearC l (edgeC l c).1 (edgeC l c).2 := .inl (by
  show facing l (edgeC l c) ≠ -1
  rw [facing_edge h hc]; omega)
theorem Links.mem_nx {N : Int} {l : List Tr} {v : Int} {L : List Nat} (h : Links N l v L) {i : Nat} (hi : i < L.length) : vtx l (nxt (L.getD i 0)) ∈ linkL l L := by
  have hl : i < (linkL l L).length := by have := h.len; split at this <;> omega
  rw [← h.nx i hi, List.getD_eq_getElem?_getD, List.getElem?_eq_getElem hl]
  exact List.getElem_mem hl
theorem Links.mem_pv {N : Int} {l : List Tr} {v : Int} {L : List Nat} (h : Links N l v L) {i : Nat} (hi : i < L.length) : vtx l (prv (L.getD i 0)) ∈ linkL l L := by
  have hl : (i + 1) % (linkL l L).length < (linkL l L).length := Nat.mod_lt _ (by have := h.len; have := h.pos; omega)
  rw [← h.pv i hi, List.getD_eq_getElem?_getD, List.getElem?_eq_getElem hl]
  exact List.getElem_mem hl
/-- The link: those that have an edge with the vertex. -/
theorem Links.near {N : Int} {l : List Tr} (hs : Surf N l) {v : Int} {L : List Nat} (h : Links N l v L) (hm : ∀ x, x ∈ L ↔ x ∈ cAt l v) (x : Int) : x ∈ linkL l L ↔ NearC l v x := by
  constructor
  · intro hx
    obtain ⟨i, hi, e | e⟩ := h.sub x hx
    · have := near_of hs (prv_lt (h.corner i hi).1)
      rw [edge_prv, (h.corner i hi).2, ← e] at this
      exact this
    · have := near_of hs (nxt_lt (h.corner i hi).1)
      rw [edge_nxt, (h.corner i hi).2, ← e] at this
      exact near_comm.1 this
  · rintro (hx | hx)
    · rcases facing_cases l (v, x) with e | ⟨o, _, ho, heo⟩
      · exact absurd e hx
      · have e1 : vtx l (nxt o) = v := congrArg Prod.fst heo
        have e2 : vtx l (nxt (nxt o)) = x := by rw [← prv_eq]; exact congrArg Prod.snd heo
        obtain ⟨i, hi, he⟩ := memn_getD ((hm (nxt o)).2 (cAt_mem.2 ⟨nxt_lt ho, e1⟩))
        have := h.mem_nx hi
        rwa [he, e2] at this
    · rcases facing_cases l (x, v) with e | ⟨o, _, ho, heo⟩
      · exact absurd e hx
      · have e1 : vtx l (prv o) = v := congrArg Prod.snd heo
        have e2 : vtx l (prv (prv o)) = x := by rw [prv_eq (prv o), prv_eq o, nxt3]; exact congrArg Prod.fst heo
        obtain ⟨i, hi, he⟩ := memn_getD ((hm (prv o)).2 (cAt_mem.2 ⟨prv_lt ho, e1⟩))
        have := h.mem_pv hi
        rwa [he, e2] at this
theorem Links.inN {N : Int} {l : List Tr} (hs : Surf N l) {v : Int} {L : List Nat} (h : Links N l v L) {x : Int} (hx : x ∈ linkL l L) : inN N x := by
  have hc : ∀ c, c < 3 * l.length → Go.Proofs.Ytoianhaocjiffaa.inN N (vtx l c) := fun c hc => has_in hs.inb (getD3_mem (show c / 3 < l.length by omega)) (cor3_hasV _ _)
  obtain ⟨i, hi, e | e⟩ := h.sub x hx
  · rw [e]; exact hc _ (nxt_lt (h.corner i hi).1)
  · rw [e]; exact hc _ (prv_lt (h.corner i hi).1)
theorem nxt_ne_self (c : Nat) : nxt c ≠ c ∧ prv c ≠ c := by unfold nxt prv; constructor <;> split <;> omega
theorem Links.ne {N : Int} {l : List Tr} (hs : Surf N l) {v : Int} {L : List Nat} (h : Links N l v L) {x : Int} (hx : x ∈ linkL l L) : x ≠ v := by
  intro e
  subst e
  obtain ⟨i, hi, e | e⟩ := h.sub x hx
  · obtain ⟨h1, h2⟩ := h.corner i hi
    exact (nxt_ne_self _).1 (corner_one hs (nxt_lt h1) (nxt_div _) (e.symm.trans h2.symm))
  · obtain ⟨h1, h2⟩ := h.corner i hi
    exact (nxt_ne_self _).2 (corner_one hs (prv_lt h1) (prv_div _) (e.symm.trans h2.symm))
/-- One and the next one have an edge. -/
theorem Links.next {N : Int} {l : List Tr} (hs : Surf N l) {v : Int} {L : List Nat} (h : Links N l v L) {i : Nat} (hi : i < L.length) : NearC l ((linkL l L).getD i 0) ((linkL l L).getD ((i + 1) % (linkL l L).length) 0) := by
  rw [h.nx i hi, h.pv i hi]
  exact near_of hs (h.corner i hi).1
end Go.Proofs.Ytoianhaocjiffaa

/- Layer 11: the link on the mirrored surface, as plain numbers. -/
namespace Go.Proofs.Ytoianhaocjiffaa

theorem cAt_mir {l : List Tr} {v : Int} {c : Nat} (hc : c ∈ cAt l v) : mirC c ∈ cAt (l.map mirT) v := by
  obtain ⟨h1, h2⟩ := cAt_mem.1 hc
  exact cAt_mem.2 ⟨by rw [List.length_map]; exact mirC_lt h1, by rw [vtx_mirC h1]; exact h2⟩
theorem mirT_mirT (t : Tr) : mirT (mirT t) = t := by obtain ⟨a, b, c⟩ := t; rfl
theorem mir_mir (l : List Tr) : (l.map mirT).map mirT = l := by
  rw [List.map_map, show mirT ∘ mirT = id from funext mirT_mirT, List.map_id]
theorem cAt_mir' {l : List Tr} {v : Int} {c : Nat} (hc : c ∈ cAt (l.map mirT) v) : mirC c ∈ cAt l v := by
  have := cAt_mir hc
  rwa [mir_mir] at this
theorem len_mir {l : List Tr} {v : Int} {L L' : List Nat} (hR : IsRing l v L) (hR' : IsRing (l.map mirT) v L') : L'.length = L.length := by
  have key : ∀ (l : List Tr), (cAt l v).length ≤ (cAt (l.map mirT) v).length := fun l => by
    have hnd : ((cAt l v).map mirC).Nodup := by
      have h1 := cAt_nodup l v
      rw [List.nodup_iff_pairwise_ne] at *
      rw [List.pairwise_map]
      exact h1.imp fun hne e => hne (by have := congrArg mirC e; rwa [mirC_mirC, mirC_mirC] at this)
    have := nodup_subN hnd (b := cAt (l.map mirT) v) (fun e he => by
      obtain ⟨c, hc, rfl⟩ := List.mem_map.1 he
      exact cAt_mir hc)
    rwa [List.length_map] at this
  have h1 := key l
  have h2 := key (l.map mirT)
  rw [mir_mir] at h2
  rw [hR.len, hR'.len]
  omega
/-- An inner vertex: each corner comes behind one, and before one. -/
theorem inner_all {l : List Tr} {v : Int} {L : List Nat} (hR : IsRing l v L) (hpos : 0 < L.length) : (InnerL l L ↔ ∀ d ∈ L, oppC l (prv d) ≠ -1) ∧ (InnerL l L ↔ ∀ d ∈ L, oppC l (nxt d) ≠ -1) := by
  rcases hR with ⟨_, rfl⟩ | ⟨c0, hf, hL⟩
  · exact absurd hpos (Nat.lt_irrefl _)
  have hd := hL.chain.hd
  have h0 : c0 ∈ L := by rw [← hd]; exact getDn_mem hpos
  constructor
  · constructor
    · intro hi d hdm
      rcases hf.2 with h | ⟨h, _⟩
      · exact absurd h (by have := hi.2; rwa [hd] at this)
      · exact h d ((hL.all d).1 hdm)
    · intro h
      exact ⟨hpos, by rw [hd]; exact h c0 h0⟩
  · constructor
    · intro hi d hdm e
      obtain ⟨k, hk, rfl⟩ := memn_getD hdm
      have hT := turn_none.2 e
      rcases Nat.lt_or_ge (k + 1) L.length with hlt | hge
      · rw [hL.chain.st k hlt] at hT; cases hT
      · obtain rfl : k = L.length - 1 := by omega
        rw [hL.inn (by have := hi.2; rwa [hd] at this)] at hT; cases hT
    · intro h
      refine ⟨hpos, fun e => ?_⟩
      rw [hd] at e
      exact h _ (getDn_mem (show L.length - 1 < L.length by omega)) (turn_none.1 (hL.out e))
theorem inner_mir {N : Int} {l : List Tr} (h : Surf N l) {v : Int} {L L' : List Nat} (hR : IsRing l v L) (hR' : IsRing (l.map mirT) v L') (hpos : 0 < L.length) : InnerL (l.map mirT) L' ↔ InnerL l L := by
  have hpos' : 0 < L'.length := by rw [len_mir hR hR']; exact hpos
  rw [(inner_all hR' hpos').1, (inner_all hR hpos).2]
  have key : ∀ d, d < 3 * l.length → (oppC (l.map mirT) (prv (mirC d)) = -1 ↔ oppC l (nxt d) = -1) := fun d hd => by
    rw [prv_mirC]
    rcases opp_mir h (nxt_lt hd) with ⟨h1, h2⟩ | ⟨o, _, h1, h2⟩
    · rw [h1, h2]
    · rw [h1, h2]; exact ⟨fun e => by omega, fun e => by omega⟩
  constructor
  · intro H d hd e
    have hdc := (hR.mem d).1 hd
    exact H (mirC d) ((hR'.mem _).2 (cAt_mir hdc)) ((key d (cAt_mem.1 hdc).1).2 e)
  · intro H d hd e
    have hdc := cAt_mir' ((hR'.mem d).1 hd)
    have := (key (mirC d) (cAt_mem.1 hdc).1).1 (by rw [mirC_mirC]; exact e)
    exact H (mirC d) ((hR.mem _).2 hdc) this
theorem getI_inj {a : List Int} (h : a.Nodup) {i j : Nat} (hi : i < a.length) (hj : j < a.length) (e : a.getD i 0 = a.getD j 0) : i = j := by
  rw [List.getD_eq_getElem?_getD, List.getD_eq_getElem?_getD, List.getElem?_eq_getElem hi, List.getElem?_eq_getElem hj] at e
  have e : a[i] = a[j] := e
  rw [List.nodup_iff_pairwise_ne, List.pairwise_iff_getElem] at h
  rcases Nat.lt_trichotomy i j with g | g | g
  · exact absurd e (h i j hi hj g)
  · exact g
  · exact absurd e.symm (h j i hj hi g)
theorem memI_getD {a : List Int} {x : Int} (h : x ∈ a) : ∃ i, i < a.length ∧ a.getD i 0 = x := by
  obtain ⟨i, hi, rfl⟩ := List.mem_iff_getElem.1 h
  exact ⟨i, hi, by rw [List.getD_eq_getElem?_getD, List.getElem?_eq_getElem hi]; rfl⟩
/-- The link, backward. -/
theorem link_mir {N : Int} {l : List Tr} (h : Surf N l) {v : Int} (hv : inN N v) {L L' : List Nat} (hR : IsRing l v L) (hR' : IsRing (l.map mirT) v L') :
    (InnerL (l.map mirT) L' ↔ InnerL l L) ∧ (linkL (l.map mirT) L').length = (linkL l L).length ∧ 0 < (linkL l L).length ∧ (linkL (l.map mirT) L').Nodup ∧
    ∃ t, t < (linkL l L).length ∧ (0 < t → InnerL l L) ∧ ∀ i, i < (linkL l L).length → (linkL (l.map mirT) L').getD ((t + i) % (linkL l L).length) 0 = (linkL l L).getD ((linkL l L).length - 1 - i) 0 := by
  have ha := links_of h hv hR
  have hb := links_of (surf_mir h) hv hR'
  have hin := inner_mir h hR hR' ha.pos
  have hl := len_mir hR hR'
  obtain ⟨a, ea⟩ : ∃ a, linkL l L = a := ⟨_, rfl⟩
  obtain ⟨b, eb⟩ : ∃ b, linkL (l.map mirT) L' = b := ⟨_, rfl⟩
  obtain ⟨K, hK⟩ : ∃ K, a.length = K := ⟨_, rfl⟩
  have hbl : b.length = K := by
    rw [← eb, hb.len, ← hK, ← ea, ha.len, hl]
    by_cases g : InnerL l L
    · rw [if_pos g, if_pos (hin.2 g)]
    · rw [if_neg g, if_neg fun g' => g (hin.1 g')]
  have hal := ha.len
  rw [ea, hK] at hal
  have hand : a.Nodup := by rw [← ea]; exact ha.nodup
  have hbnd : b.Nodup := by rw [← eb]; exact hb.nodup
  have hpos := ha.pos
  -- one step
  have step : ∀ i, i < L'.length → ∃ j, j < L.length ∧ b.getD i 0 = a.getD ((j + 1) % K) 0 ∧ b.getD ((i + 1) % K) 0 = a.getD j 0 := fun i hi => by
    have hc := cAt_mir' ((hR'.mem _).1 (getDn_mem hi))
    obtain ⟨j, hj, e⟩ := memn_getD ((hR.mem _).2 hc)
    have hc3 := (hb.corner i hi).1
    rw [List.length_map] at hc3
    have hm3 := mirC_lt hc3
    refine ⟨j, hj, ?_, ?_⟩
    · have h1 := hb.nx i hi
      have h2 := ha.pv j hj
      rw [eb] at h1
      rw [ea, hK, e] at h2
      rw [h1, h2, ← vtx_mirC (prv_lt hm3), ← nxt_mirC, mirC_mirC]
    · have h1 := hb.pv i hi
      have h2 := ha.nx j hj
      rw [eb, hbl] at h1
      rw [ea, e] at h2
      rw [h1, h2, ← vtx_mirC (nxt_lt hm3), ← prv_mirC, mirC_mirC]
  -- where the last one stands
  have hmem : a.getD (K - 1) 0 ∈ b := by
    have hx : a.getD (K - 1) 0 ∈ linkL l L := by
      rw [ea, List.getD_eq_getElem?_getD, List.getElem?_eq_getElem (show K - 1 < a.length by omega)]
      exact List.getElem_mem _
    obtain ⟨i, hi, e⟩ := ha.sub _ hx
    have hc := ha.corner i hi
    have hc' := (hR'.mem (mirC (L.getD i 0))).2 (cAt_mir (cAt_mem.2 hc))
    obtain ⟨j, hj, ej⟩ := memn_getD hc'
    rcases e with e | e
    · have := hb.mem_pv hj
      rw [ej, prv_mirC, vtx_mirC (nxt_lt hc.1), ← e, eb] at this
      exact this
    · have := hb.mem_nx hj
      rw [ej, nxt_mirC, vtx_mirC (prv_lt hc.1), ← e, eb] at this
      exact this
  obtain ⟨t, ht, et⟩ := memI_getD hmem
  rw [hbl] at ht
  have ht0 : 0 < t → InnerL l L := fun h0 => Classical.byContradiction fun g => by
    rw [if_neg g] at hal
    obtain ⟨j, hj, _, h2⟩ := step (t - 1) (by omega)
    rw [show t - 1 + 1 = t by omega, Nat.mod_eq_of_lt ht, et] at h2
    have := getI_inj hand (show K - 1 < a.length by omega) (show j < a.length by omega) h2
    omega
  rw [ea, eb, hK]
  refine ⟨hin, hbl, by omega, hbnd, t, ht, ht0, fun i hi => ?_⟩
  induction i with
  | zero => rw [Nat.add_zero, Nat.mod_eq_of_lt ht, et]; rfl
  | succ i ih =>
    have ih := ih (by omega)
    have hpm : (t + i) % K < K := Nat.mod_lt _ (by omega)
    have hp : (t + i) % K < L'.length := by
      by_cases g : InnerL l L
      · rw [if_pos g] at hal; omega
      · have : t = 0 := by rcases Nat.eq_zero_or_pos t with h0 | h0; exact h0; exact absurd (ht0 h0) g
        rw [if_neg g] at hal
        subst this
        rw [Nat.mod_eq_of_lt (by omega)]
        omega
    obtain ⟨j, hj, h1, h2⟩ := step _ hp
    rw [ih] at h1
    have hjK : j < K := by rw [hal]; omega
    have e1 := getI_inj hand (show K - 1 - i < a.length by omega) (show (j + 1) % K < a.length by rw [hK]; exact Nat.mod_lt _ (by omega)) h1
    have e2 : j = K - 1 - (i + 1) := by
      rcases Nat.lt_or_ge (j + 1) K with h3 | h3
      · rw [Nat.mod_eq_of_lt h3] at e1; omega
      · rw [show j + 1 = K by omega, Nat.mod_self] at e1; omega
    rw [← e2, ← h2, Nat.mod_add_mod, Nat.add_assoc]
end Go.Proofs.Ytoianhaocjiffaa

/- Layer 11: the pairs that are near one another, in their order, and how many there are (RingEdges), as plain numbers. -/
namespace Go.Proofs.Ytoianhaocjiffaa

def nearB (l : List Tr) (a b : Nat) : Bool := decide (NearC l (a : Int) (b : Int))
/-- The pairs of a with greater numbers below j. -/
def rowE (l : List Tr) (a j : Nat) : List Ed := ((List.range j).filter fun b => decide (a < b) && nearB l a b).map fun (b : Nat) => ((a : Int), (b : Int))
/-- The pairs of the numbers below a. -/
def pairsE (l : List Tr) (n a : Nat) : List Ed := (List.range a).flatMap fun x => rowE l x n
theorem rowE_succ (l : List Tr) (a j : Nat) : rowE l a (j + 1) = rowE l a j ++ if a < j ∧ NearC l (a : Int) (j : Int) then [((a : Int), (j : Int))] else [] := by
  unfold rowE
  rw [List.range_succ, List.filter_append, List.map_append]
  congr 1
  by_cases h : a < j ∧ NearC l (a : Int) (j : Int)
  · rw [if_pos h, List.filter_cons_of_pos (by simp [nearB, h.1, h.2])]; rfl
  · rw [if_neg h, List.filter_cons_of_neg (by simpa [nearB] using h)]; rfl
theorem rowE_start (l : List Tr) (a : Nat) : rowE l a (a + 1) = [] := by
  unfold rowE
  rw [List.filter_eq_nil_iff.2, List.map_nil]
  intro b hb
  have := List.mem_range.1 hb
  simp only [Bool.and_eq_true, decide_eq_true_eq]
  omega
theorem pairsE_succ (l : List Tr) (n a : Nat) : pairsE l n (a + 1) = pairsE l n a ++ rowE l a n := by
  unfold pairsE
  rw [List.range_succ, List.flatMap_append]
  simp
theorem rowE_mem {l : List Tr} {a j : Nat} {e : Ed} : e ∈ rowE l a j ↔ ∃ b : Nat, a < b ∧ b < j ∧ NearC l (a : Int) (b : Int) ∧ e = ((a : Int), (b : Int)) := by
  unfold rowE
  rw [List.mem_map]
  constructor
  · rintro ⟨b, hb, rfl⟩
    obtain ⟨h1, h2⟩ := List.mem_filter.1 hb
    simp only [nearB, Bool.and_eq_true, decide_eq_true_eq] at h2
    exact ⟨b, h2.1, List.mem_range.1 h1, h2.2, rfl⟩
  · rintro ⟨b, h1, h2, h3, rfl⟩
    exact ⟨b, List.mem_filter.2 ⟨List.mem_range.2 h2, by simp [nearB, h1, h3]⟩, rfl⟩
theorem pairsE_mem {l : List Tr} {n a : Nat} {e : Ed} : e ∈ pairsE l n a ↔ ∃ x b : Nat, x < a ∧ x < b ∧ b < n ∧ NearC l (x : Int) (b : Int) ∧ e = ((x : Int), (b : Int)) := by
  unfold pairsE
  rw [List.mem_flatMap]
  constructor
  · rintro ⟨x, hx, he⟩
    obtain ⟨b, h⟩ := rowE_mem.1 he
    exact ⟨x, b, List.mem_range.1 hx, h⟩
  · rintro ⟨x, b, hx, h⟩
    exact ⟨x, List.mem_range.2 hx, rowE_mem.2 ⟨b, h⟩⟩
theorem rowE_asc (l : List Tr) (a : Nat) : ∀ j, (rowE l a j).Pairwise ltE
  | 0 => List.Pairwise.nil
  | j + 1 => by
    rw [rowE_succ, List.pairwise_append]
    refine ⟨rowE_asc l a j, by split <;> simp, fun e he f hf => ?_⟩
    obtain ⟨b, _, h2, _, rfl⟩ := rowE_mem.1 he
    split at hf
    · obtain rfl := List.mem_singleton.1 hf
      exact .inr ⟨rfl, by show (b : Int) < (j : Int); omega⟩
    · cases hf
theorem pairsE_asc (l : List Tr) (n : Nat) : ∀ a, (pairsE l n a).Pairwise ltE
  | 0 => List.Pairwise.nil
  | a + 1 => by
    rw [pairsE_succ, List.pairwise_append]
    refine ⟨pairsE_asc l n a, rowE_asc l a n, fun e he f hf => ?_⟩
    obtain ⟨x, b, h1, _, _, _, rfl⟩ := pairsE_mem.1 he
    obtain ⟨b', _, _, _, rfl⟩ := rowE_mem.1 hf
    exact .inl (by show (x : Int) < (a : Int); omega)
/-- What has been met so far is where the whole list begins. -/
theorem rowE_prefix (l : List Tr) (a : Nat) {j n : Nat} (h : j ≤ n) : rowE l a j <+: rowE l a n := by
  induction n with
  | zero => rw [show j = 0 by omega]; exact List.prefix_refl _
  | succ n ih =>
    rcases Nat.lt_or_ge j (n + 1) with g | g
    · rw [rowE_succ]; exact (ih (by omega)).trans (List.prefix_append _ _)
    · rw [show j = n + 1 by omega]; exact List.prefix_refl _
theorem pairsE_prefix (l : List Tr) (n : Nat) {a m : Nat} (h : a ≤ m) : pairsE l n a <+: pairsE l n m := by
  induction m with
  | zero => rw [show a = 0 by omega]; exact List.prefix_refl _
  | succ m ih =>
    rcases Nat.lt_or_ge a (m + 1) with g | g
    · rw [pairsE_succ]; exact (ih (by omega)).trans (List.prefix_append _ _)
    · rw [show a = m + 1 by omega]; exact List.prefix_refl _
theorem pairs_so_far (l : List Tr) {n a j : Nat} (ha : a < n) (hj : j ≤ n) : pairsE l n a ++ rowE l a j <+: pairsE l n n := by
  have h1 : pairsE l n a ++ rowE l a j <+: pairsE l n a ++ rowE l a n := (List.prefix_append_right_inj _).2 (rowE_prefix l a hj)
  rw [← pairsE_succ] at h1
  exact h1.trans (pairsE_prefix l n ha)
theorem prefix_next {xs es : List Ed} {e z : Ed} (h : xs ++ [e] <+: es) : xs.length < es.length ∧ es.getD xs.length z = e := by
  obtain ⟨ys, rfl⟩ := h
  refine ⟨by simp, ?_⟩
  rw [List.getD_eq_getElem?_getD, List.append_assoc, List.getElem?_append_right (Nat.le_refl _), Nat.sub_self]
  rfl
/-- The next pair stands where one looks for it. -/
theorem near_pair_at {l : List Tr} {n a j : Nat} (ha : a < n) (hj : j < n) (haj : a < j) (hn : NearC l (a : Int) (j : Int)) (z : Ed) :
    (pairsE l n a ++ rowE l a j).length < (pairsE l n n).length ∧ (pairsE l n n).getD (pairsE l n a ++ rowE l a j).length z = ((a : Int), (j : Int)) := by
  refine prefix_next ?_
  have := pairs_so_far l ha (show j + 1 ≤ n by omega)
  rwa [rowE_succ, if_pos ⟨haj, hn⟩, ← List.append_assoc] at this
/-- Sums, one way and the other. -/
theorem count_swap (p : Nat → Nat → Bool) (xs ys : List Nat) : (xs.map fun a => ys.countP (p a)).sum = (ys.map fun b => xs.countP fun a => p a b).sum := by
  induction xs with
  | nil =>
    induction ys with
    | nil => rfl
    | cons y ys ih => rw [List.map_cons, List.sum_cons, ← ih]; rfl
  | cons x xs ih =>
    rw [List.map_cons, List.sum_cons, ih]
    clear ih
    induction ys with
    | nil => rfl
    | cons y ys ih =>
      rw [List.map_cons, List.map_cons, List.sum_cons, List.sum_cons, List.countP_cons, List.countP_cons]
      omega
theorem countP_split {p q r : Nat → Bool} (h : ∀ x, (p x = true ↔ q x = true ∨ r x = true) ∧ ¬ (q x = true ∧ r x = true)) (xs : List Nat) : xs.countP p = xs.countP q + xs.countP r := by
  induction xs with
  | nil => rfl
  | cons x xs ih =>
    rw [List.countP_cons, List.countP_cons, List.countP_cons, ih]
    have hx := h x
    cases hp : p x <;> cases hq : q x <;> cases hr : r x <;> simp [hp, hq, hr] at hx ⊢ <;> omega
theorem near_irrefl {N : Int} {l : List Tr} (h : Surf N l) (a : Int) : ¬ NearC l a a := by
  have key : facing l (a, a) = -1 := by
    rcases facing_cases l (a, a) with e | ⟨o, _, ho, heo⟩
    · exact e
    · exfalso
      have h1 : vtx l (nxt o) = a := congrArg Prod.fst heo
      have h2 : vtx l (prv o) = a := congrArg Prod.snd heo
      have e := corner_one h (nxt_lt ho) (by rw [nxt_div, prv_div]) (h1.trans h2.symm)
      have : nxt o ≠ prv o := by unfold nxt prv; split <;> split <;> omega
      exact this e
  rintro (g | g) <;> exact g key
theorem map_sum_add (f g k : Nat → Nat) (xs : List Nat) (h : ∀ x ∈ xs, f x = g x + k x) : (xs.map f).sum = (xs.map g).sum + (xs.map k).sum := by
  induction xs with
  | nil => rfl
  | cons x xs ih =>
    rw [List.map_cons, List.map_cons, List.map_cons, List.sum_cons, List.sum_cons, List.sum_cons, ih fun y hy => h y (List.mem_cons_of_mem _ hy), h x (List.mem_cons_self ..)]
    omega
theorem pairsE_len (l : List Tr) (n : Nat) : ∀ a, (pairsE l n a).length = ((List.range a).map fun x => (List.range n).countP fun b => decide (x < b) && nearB l x b).sum
  | 0 => rfl
  | a + 1 => by
    rw [pairsE_succ, List.length_append, pairsE_len l n a, List.range_succ, List.map_append, List.sum_append, rowE, List.length_map, ← List.countP_eq_length_filter]
    simp
/-- All that is near, of all: twice the pairs. -/
theorem near_twice {N : Int} {l : List Tr} (h : Surf N l) (n : Nat) : ((List.range n).map fun a => (List.range n).countP fun b => nearB l a b).sum = 2 * (pairsE l n n).length := by
  rw [pairsE_len]
  have hs : ∀ a b : Nat, nearB l a b = nearB l b a := fun a b => decide_eq_decide.2 near_comm
  rw [map_sum_add _ (fun x => (List.range n).countP fun b => decide (x < b) && nearB l x b) (fun x => (List.range n).countP fun b => decide (b < x) && nearB l x b) _ fun x _ => countP_split (fun b => by
    rcases Nat.lt_trichotomy x b with g | g | g
    · simp [g, Nat.lt_asymm g]
    · subst g
      have : nearB l x x = false := decide_eq_false (near_irrefl h _)
      simp [this]
    · simp [g, Nat.lt_asymm g]) _]
  have := count_swap (fun x b => decide (b < x) && nearB l x b) (List.range n) (List.range n)
  rw [this]
  have e : (fun b => (List.range n).countP fun a => decide (b < a) && nearB l a b) = fun x => (List.range n).countP fun b => decide (x < b) && nearB l x b := by
    funext x
    congr 1
    funext b
    rw [hs b x]
  rw [e]
  omega
/-- A link has as many as are near. -/
theorem Links.count {n : Nat} {l : List Tr} (hs : Surf (n : Int) l) {a : Nat} {L : List Nat} (h : Links (n : Int) l (a : Int) L) (hm : ∀ x, x ∈ L ↔ x ∈ cAt l (a : Int)) : (linkL l L).length = (List.range n).countP fun b => nearB l a b := by
  obtain ⟨K, hK⟩ : ∃ K, (linkL l L).map Int.toNat = K := ⟨_, rfl⟩
  have hmem : ∀ b : Nat, b ∈ K ↔ b ∈ (List.range n).filter fun b => nearB l a b := fun b => by
    rw [← hK, List.mem_map, List.mem_filter, List.mem_range]
    constructor
    · rintro ⟨x, hx, rfl⟩
      have hi : 0 ≤ x ∧ x < (n : Int) := h.inN hs hx
      have hn := (h.near hs hm x).1 hx
      refine ⟨by omega, decide_eq_true ?_⟩
      rwa [Int.toNat_of_nonneg hi.1]
    · rintro ⟨_, h2⟩
      exact ⟨(b : Int), (h.near hs hm _).2 (of_decide_eq_true h2), rfl⟩
  have hKn : K.Nodup := by
    rw [← hK]
    have h1 := h.nodup
    rw [List.nodup_iff_pairwise_ne] at *
    rw [List.pairwise_map]
    refine List.Pairwise.imp_of_mem (fun {x y} hx hy hne e => hne ?_) h1
    have hx : 0 ≤ x ∧ x < (n : Int) := h.inN hs hx
    have hy : 0 ≤ y ∧ y < (n : Int) := h.inN hs hy
    omega
  have hFn : ((List.range n).filter fun b => nearB l a b).Nodup := by
    rw [List.nodup_iff_pairwise_ne]
    exact List.Pairwise.filter _ (List.pairwise_lt_range.imp fun h => by omega)
  have h1 := nodup_subN hKn fun e he => (hmem e).1 he
  have h2 := nodup_subN hFn fun e he => (hmem e).2 he
  have h3 : K.length = (linkL l L).length := by rw [← hK, List.length_map]
  rw [List.countP_eq_length_filter]
  omega
theorem sides_iff {t : Tr} {e : Ed} : e ∈ sides t ↔ ∃ a b, hasE t a b ∧ e = nrm a b := by
  obtain ⟨x, y, z⟩ := t
  simp only [sides, List.mem_cons, List.not_mem_nil, or_false, hasE]
  constructor
  · rintro (rfl | rfl | rfl)
    · exact ⟨x, y, by simp, rfl⟩
    · exact ⟨y, z, by simp, rfl⟩
    · exact ⟨z, x, by simp, rfl⟩
  · rintro ⟨a, b, h, rfl⟩
    rcases h with ⟨rfl, rfl⟩ | ⟨rfl, rfl⟩ | ⟨rfl, rfl⟩
    · exact .inl rfl
    · exact .inr (.inl rfl)
    · exact .inr (.inr rfl)
theorem nrm_lt {a b : Int} (h : a < b) : nrm a b = (a, b) ∧ nrm b a = (a, b) := by
  unfold nrm
  constructor <;> exact Prod.ext (by simp only []; omega) (by simp only []; omega)
theorem sides_near {n : Nat} {l : List Tr} (h : Surf (n : Int) l) {e : Ed} : e ∈ allSides l ↔ ∃ x b : Nat, x < n ∧ x < b ∧ b < n ∧ NearC l (x : Int) (b : Int) ∧ e = ((x : Int), (b : Int)) := by
  unfold allSides
  rw [List.mem_flatMap]
  constructor
  · rintro ⟨t, ht, he⟩
    obtain ⟨a, b, hE, rfl⟩ := sides_iff.1 he
    obtain ⟨j, hj, rfl⟩ := mem3_getD ht
    obtain ⟨c, hc, _, hcE⟩ := hasE_corner hj hE
    have hn := near_of h hc
    rw [hcE] at hn
    have ha : 0 ≤ a ∧ a < (n : Int) := by
      have := (has_in h.inb (getD3_mem (show nxt c / 3 < l.length by rw [nxt_div]; omega)) (cor3_hasV _ (nxt c % 3)) : inN (n : Int) (vtx l (nxt c)))
      rwa [show vtx l (nxt c) = a from congrArg Prod.fst hcE] at this
    have hb : 0 ≤ b ∧ b < (n : Int) := by
      have := (has_in h.inb (getD3_mem (show prv c / 3 < l.length by rw [prv_div]; omega)) (cor3_hasV _ (prv c % 3)) : inN (n : Int) (vtx l (prv c)))
      rwa [show vtx l (prv c) = b from congrArg Prod.snd hcE] at this
    have hne : a ≠ b := fun e => near_irrefl h a (by have := hn; rwa [← e] at this)
    obtain ⟨p, rfl⟩ : ∃ p : Nat, a = (p : Int) := ⟨a.toNat, by omega⟩
    obtain ⟨q, rfl⟩ : ∃ q : Nat, b = (q : Int) := ⟨b.toNat, by omega⟩
    rcases Nat.lt_trichotomy p q with g | g | g
    · exact ⟨p, q, by omega, g, by omega, hn, (nrm_lt (by omega)).1⟩
    · exact absurd (by rw [g]) hne
    · exact ⟨q, p, by omega, g, by omega, near_comm.1 hn, (nrm_lt (by omega)).2⟩
  · rintro ⟨x, b, hx, hxb, hb, hn, rfl⟩
    have hlt : (x : Int) < (b : Int) := by omega
    rcases hn with g | g
    · rcases facing_cases l ((x : Int), (b : Int)) with e | ⟨o, _, ho, heo⟩
      · exact absurd e g
      · have := edgeC_has l o
        rw [heo] at this
        exact ⟨_, getD3_mem (show o / 3 < l.length by omega), sides_iff.2 ⟨_, _, this, (nrm_lt hlt).1.symm⟩⟩
    · rcases facing_cases l ((b : Int), (x : Int)) with e | ⟨o, _, ho, heo⟩
      · exact absurd e g
      · have := edgeC_has l o
        rw [heo] at this
        exact ⟨_, getD3_mem (show o / 3 < l.length by omega), sides_iff.2 ⟨_, _, this, (nrm_lt hlt).2.symm⟩⟩
/-- The edges that layer 8 tells are just the near pairs. -/
theorem edges_pairs {n : Nat} {l : List Tr} (h : Surf (n : Int) l) {es : List Ed} (he : IsEdges l es) : es = pairsE l n n :=
  asc_unique he.1 (pairsE_asc l n n) fun e => by rw [he.2, pairsE_mem, sides_near h]
end Go.Proofs.Ytoianhaocjiffaa

/- Layer 11: how often each corner stands around a vertex (P11.2), as plain numbers. -/
namespace Go.Proofs.Ytoianhaocjiffaa

/-- One for each corner of a vertex below V, and for those on the list; else nought. -/
def onceL (l : List Tr) (V : Int) (S : List Nat) : List Int := (List.range (3 * l.length)).map fun c => if vtx l c < V ∨ c ∈ S then 1 else 0
theorem onceL_len (l : List Tr) (V : Int) (S : List Nat) : (onceL l V S).length = 3 * l.length := by simp [onceL]
theorem onceL_at (l : List Tr) (V : Int) (S : List Nat) {c : Nat} (hc : c < 3 * l.length) : (onceL l V S).getD c 0 = if vtx l c < V ∨ c ∈ S then 1 else 0 := by simp [onceL, hc]
theorem onceL_nil {N : Int} {l : List Tr} (h : Surf N l) : onceL l 0 [] = List.replicate (3 * l.length) 0 := by
  refine ext_getD (z := 0) (by rw [onceL_len, List.length_replicate]) fun c hc => ?_
  rw [onceL_len] at hc
  have hn := (has_in h.inb (getD3_mem (show c / 3 < l.length by omega)) (cor3_hasV _ (c % 3)) : inN N (vtx l c)).1
  rw [onceL_at l 0 [] hc, if_neg (by intro g; rcases g with g | g; exact absurd g (by omega); cases g), List.getD_eq_getElem?_getD, List.getElem?_replicate, if_pos hc]
  rfl
theorem onceL_set {l : List Tr} {V : Int} {S : List Nat} {c : Nat} (hc : c < 3 * l.length) : (onceL l V S).set c 1 = onceL l V (S ++ [c]) := by
  refine ext_getD (z := 0) (by rw [List.length_set, onceL_len, onceL_len]) fun d hd => ?_
  rw [List.length_set, onceL_len] at hd
  rw [set_getDI (by rw [onceL_len]; exact hc), onceL_at _ _ _ hd, onceL_at _ _ _ hd]
  by_cases e : d = c
  · subst e; rw [if_pos rfl, if_pos (.inr (by simp))]
  · rw [if_neg e]
    simp only [List.mem_append, List.mem_singleton, e, or_false]
theorem onceL_fresh {l : List Tr} {V : Int} {S : List Nat} {c : Nat} (hc : c < 3 * l.length) (hv : vtx l c = V) (hs : c ∉ S) : (onceL l V S).getD c 0 = 0 := by
  rw [onceL_at _ _ _ hc, if_neg (by intro g; rcases g with g | g; exact absurd g (by omega); exact hs g)]
theorem onceL_next {l : List Tr} {V : Int} {L : List Nat} (hL : ∀ c, c ∈ L ↔ c ∈ cAt l V) : onceL l V L = onceL l (V + 1) [] := by
  refine ext_getD (z := 0) (by rw [onceL_len, onceL_len]) fun c hc => ?_
  rw [onceL_len] at hc
  rw [onceL_at _ _ _ hc, onceL_at _ _ _ hc]
  have e : (vtx l c < V ∨ c ∈ L) ↔ (vtx l c < V + 1 ∨ c ∈ ([] : List Nat)) := by
    rw [hL, cAt_mem]
    constructor
    · rintro (g | g)
      · exact .inl (by omega)
      · exact .inl (by have := g.2; omega)
    · rintro (g | g)
      · rcases Int.lt_or_le (vtx l c) V with h | h
        · exact .inl h
        · exact .inr ⟨hc, by omega⟩
      · cases g
  simp only [e]
theorem onceL_all {N : Int} {l : List Tr} (h : Surf N l) {c : Nat} (hc : c < 3 * l.length) : (onceL l N []).getD c 0 = 1 := by
  have hn := (has_in h.inb (getD3_mem (show c / 3 < l.length by omega)) (cor3_hasV _ (c % 3)) : inN N (vtx l c)).2
  rw [onceL_at _ _ _ hc, if_pos (.inl hn)]
/-- How many corners the vertices below V have. -/
def cntV (l : List Tr) (V : Int) : Nat := (List.range (3 * l.length)).countP fun c => decide (vtx l c < V)
theorem countP_add (f : Nat → Int) (V : Int) (xs : List Nat) : xs.countP (fun c => decide (f c < V + 1)) = xs.countP (fun c => decide (f c < V)) + xs.countP (fun c => decide (f c = V)) := by
  induction xs with
  | nil => rfl
  | cons x xs ih =>
    rw [List.countP_cons, List.countP_cons, List.countP_cons, ih]
    by_cases h1 : f x < V
    · rw [if_pos (decide_eq_true (show f x < V + 1 by omega)), if_pos (decide_eq_true h1), if_neg (by rw [decide_eq_true_iff]; omega)]; omega
    · by_cases h2 : f x = V
      · rw [if_pos (decide_eq_true (show f x < V + 1 by omega)), if_neg (by rw [decide_eq_true_iff]; exact h1), if_pos (decide_eq_true h2)]; omega
      · rw [if_neg (by rw [decide_eq_true_iff]; omega), if_neg (by rw [decide_eq_true_iff]; exact h1), if_neg (by rw [decide_eq_true_iff]; exact h2)]; rfl
theorem cntV_next (l : List Tr) (V : Int) : cntV l (V + 1) = cntV l V + (cAt l V).length := by
  unfold cntV cAt
  rw [countP_add, ← List.countP_eq_length_filter]
theorem cntV_zero {N : Int} {l : List Tr} (h : Surf N l) : cntV l 0 = 0 := by
  unfold cntV
  rw [List.countP_eq_zero]
  intro c hc
  have hc := List.mem_range.1 hc
  have hn := (has_in h.inb (getD3_mem (show c / 3 < l.length by omega)) (cor3_hasV _ (c % 3)) : inN N (vtx l c)).1
  rw [decide_eq_true_iff]
  omega
theorem cntV_all {N : Int} {l : List Tr} (h : Surf N l) : cntV l N = 3 * l.length := by
  unfold cntV
  rw [List.countP_eq_length.2 fun c hc => ?_, List.length_range]
  have hc := List.mem_range.1 hc
  exact decide_eq_true (has_in h.inb (getD3_mem (show c / 3 < l.length by omega)) (cor3_hasV _ (c % 3)) : inN N (vtx l c)).2
theorem cntV_le (l : List Tr) (V : Int) : cntV l V ≤ 3 * l.length := by
  unfold cntV
  exact Nat.le_trans List.countP_le_length (by rw [List.length_range]; exact Nat.le_refl _)
end Go.Proofs.Ytoianhaocjiffaa
