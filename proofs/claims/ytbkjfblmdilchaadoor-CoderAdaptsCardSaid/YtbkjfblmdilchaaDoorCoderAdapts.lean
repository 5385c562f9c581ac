/- CoderAdapts: of any symbols (at most 200, of 8), by a table that each symbol bumps, what was encoded is decoded by a table of the decoder's own, and all is done then; where all symbols are one, there are two bytes at most. Its listed tables of the library are not read. No condition. -/
import Derived.Test.YtbkjfblmdilchaaDoorCSide
import Derived.Test.YtbkjfblmdilchaaDoorCArgs
import Derived.Test.YtbkjfblmdilchaaDoorCards
import Derived.Test.YtbkjfblmdilchaaDoorTie
import Derived.LaidMore
import Derived.Lay
import Derived.SevenTiedAt
import Derived.Stop.Joined
namespace Go.Proofs.YtbkjfblmdilchaaDoor.coderAdapts
open Go.ChangeShapes Go.WideShapes Go.ChangeAt Go.RowKit

def syms (l : List Nat) : List Nat := l.map (· % 8)
theorem length_syms (l : List Nat) : (syms l).length = l.length := by simp [syms]
theorem syms_lt (l : List Nat) : ∀ s ∈ syms l, s < c8.length := by
  intro s hs
  simp only [syms, List.mem_map] at hs
  obtain ⟨d, _, rfl⟩ := hs
  show d % 8 < 8
  omega
theorem syms_at (l : List Nat) (k : Nat) (hk : k < l.length) : (syms l)[k]'(by rw [length_syms]; exact hk) = l.getD k 0 % 8 := by
  simp [syms, List.getD_eq_getElem?_getD, List.getElem?_eq_getElem hk]
/-- The interval and the counts behind k symbols. -/
def xk (l : List Nat) (k : Nat) : Iv := runIv firstIv ((ads c8 (syms l)).take k)
def ck (l : List Nat) (k : Nat) : List Int := cnt c8 ((syms l).take k)
theorem xk_succ (l : List Nat) (k : Nat) (hk : k < l.length) : xk l (k + 1) = come (xk l k) (ck l k) (l.getD k 0 % 8) := by
  unfold xk ck
  rw [run_ads c8 (syms l) k (by rw [length_syms]; exact hk), syms_at l k hk]
theorem ck_succ (l : List Nat) (k : Nat) (hk : k < l.length) : ck l (k + 1) = bumped (ck l k) (l.getD k 0 % 8) := by
  unfold ck
  rw [cnt_succ c8 (syms l) k (by rw [length_syms]; exact hk), syms_at l k hk]
theorem ck_ok (l : List Nat) (k : Nat) : Ok (ck l k) := cnt_ok ok8 _ fun s hs => syms_lt l s (List.mem_of_mem_take hs)
theorem ck_len (l : List Nat) (k : Nat) : (ck l k).length = 8 := length_cnt _ _
theorem xk_good (l : List Nat) (k : Nat) : (xk l k).Good := good_run _ ((ads_right ok8 _ (syms_lt l)).take k) _ good_first
theorem xk_k (l : List Nat) (k : Nat) (hk : k ≤ 200) : (xk l k).k ≤ 600 := by
  have h1 := run_k ((ads c8 (syms l)).take k) firstIv
  have h2 := List.length_take_le k (ads c8 (syms l))
  have h3 : firstIv.k = 0 := rfl
  unfold xk
  omega

structure Ad1 (w : World) (l : List Nat) (g gt q ct gu qu cu k : Nat) (wr : World) : Prop where
  enc : ∃ v, EIs wr w.heap.size g v (xk l k)
  tab : TIs wr gt q ct (ck l k)
  tabu : TIs wr gu qu cu c8
  bel : Below w.heap.size w wr
def AdAt (w : World) (l : List Nat) (n g gt q ct gu qu cu : Nat) (sm i : Value) (wr : World) : Prop :=
  ∃ k : Nat, k ≤ n ∧ i = .int .i64 (k : Int) ∧ (∃ r : Bool, sm = .bool r ∧ (r = true → ∀ j, j < k → l.getD j 0 % 8 = l.getD 0 0 % 8)) ∧ Ad1 w l g gt q ct gu qu cu k wr
structure Ad2 (w : World) (l b : List Nat) (g gu qu cu : Nat) (pk : Value) (k : Nat) (wr : World) : Prop where
  dec : DIs wr w.heap.size g pk (xk l k) b
  tab : TIs wr gu qu cu (ck l k)
  bel : Below w.heap.size w wr
def DeAt (w : World) (l b : List Nat) (n g gu qu cu : Nat) (pk : Value) (i : Value) (wr : World) : Prop :=
  ∃ k : Nat, k ≤ n ∧ i = .int .i64 (k : Int) ∧ Ad2 w l b g gu qu cu pk k wr

set_option maxHeartbeats 6400000 in
set_option maxRecDepth 100000 in
theorem walk (A : Option Addr) (n c : Nat) (l : List Nat) (w : World) (_ : (A = none → c = 0) ∧ n ≤ c) (hd : Dig l) (h : Reads w A n (bts l)) :
    Calls Tryd.prog 8 #[.slice A n c] w fun e w' => e = .returned (.bool true) ∧ Below w.heap.size w w' := by
  by_cases hn : 200 < n
  · have t1 : (200 : Int) < n := by omega
    clear h
    go_enter Tryd.func8, Tryd.ntmps8
    go_wp2_with fail
    refine (awake_true w).mono ?_
    rintro e w1 ⟨rfl, b1⟩
    have B1 := Lib.hid b1
    clear b1
    go_wp2
    go_ret
    exact ⟨rfl, B1.out⟩
  have t1 : ¬ (200 : Int) < n := by omega
  have hn2 : n ≤ 200 := by omega
  have HR := Lib.hid (⟨h, h.lenB, hd⟩ : Reads w A n (bts l) ∧ l.length = n ∧ Dig l)
  clear h hn hd
  go_enter Tryd.func8, Tryd.ntmps8
  go_wp2_with fail
  refine (awake_true w).mono ?_
  rintro e w1 ⟨rfl, b1⟩
  have B1 := Lib.hid b1
  clear b1
  go_wp2_with fail
  have R8 := Lib.hid (show Reads (w1.alloc (.cells #[.int .i64 1, .int .i64 1, .int .i64 1, .int .i64 1, .int .i64 1, .int .i64 1, .int .i64 1, .int .i64 1] 3)) (some ⟨w1.heap.size, 0, none⟩) 8 (ints c8) from
    Reads.of_block (t := 3) (xs := [.int .i64 1, .int .i64 1, .int .i64 1, .int .i64 1, .int .i64 1, .int .i64 1, .int .i64 1, .int .i64 1]) (Array.getElem?_push_size : (w1.heap.push _)[w1.heap.size]? = some _))
  have B2 := Lib.hid (B1.out.trans ((alloc_below w1 (.cells #[.int .i64 1, .int .i64 1, .int .i64 1, .int .i64 1, .int .i64 1, .int .i64 1, .int .i64 1, .int .i64 1] 3)).mono B1.out.size))
  generalize w1.alloc (.cells #[.int .i64 1, .int .i64 1, .int .i64 1, .int .i64 1, .int .i64 1, .int .i64 1, .int .i64 1, .int .i64 1] 3) = w2 at *
  refine (made_ok w2 _ 8 8 c8 R8.out ok8).mono ?_
  rintro e w3 ⟨gt, q, ct, rfl, t3, b3, g3, q3⟩
  have T3 := Lib.hid (⟨t3, Nat.le_trans B2.out.size q3⟩ : TIs w3 gt q ct c8 ∧ w.heap.size ≤ q)
  have B3 := Lib.hid (B2.out.trans (b3.mono B2.out.size))
  have R3 := Lib.hid (R8.out.below b3)
  clear t3 b3 g3 q3
  go_wp2_with fail
  refine (made_ok w3 _ 8 8 c8 R3.out ok8).mono ?_
  rintro e w4 ⟨gu, qu, cu, rfl, t4, b4, g4, q4⟩
  have T4 := Lib.hid (⟨t4, Nat.le_trans B3.out.size q4, fun e => by have := T3.out.1.lt'; omega⟩ : TIs w4 gu qu cu c8 ∧ w.heap.size ≤ qu ∧ qu ≠ q)
  have T5 := Lib.hid (T3.out.1.below b4)
  have B4 := Lib.hid (B3.out.trans (b4.mono B3.out.size))
  clear t4 b4 g4 q4
  go_wp2_with fail
  refine (cnew_any w4 w.heap.size B4.out.size).mono ?_
  rintro e w5 ⟨g, v, rfl, e5, b5, _, _⟩
  have L0 := Lib.hid (show Ad1 w l g gt q ct gu qu cu 0 w5 from ⟨⟨v, e5⟩, T5.out.below b5, T4.out.1.below b5, B4.out.trans (b5.mono B4.out.size)⟩)
  clear e5 b5
  go_wp2_with fail
  go_loopw [7, 8] (AdAt w l n g gt q ct gu qu cu) (fun _ i _ => n - (intOf i).toNat)
  case atStart => exact ⟨0, Nat.zero_le _, rfl, ⟨true, rfl, fun _ j hj => by omega⟩, L0.out⟩
  case round =>
    obtain ⟨k, hk, rfl, ⟨r, rfl, hsm⟩, had⟩ := hrel
    by_cases hlt : k < n
    · have hkl : k < l.length := by rw [HR.out.2.1]; exact hlt
      obtain ⟨ad, rfl, d1⟩ := (HR.out.1.below had.bel).byte k hlt
      obtain ⟨ad', hae, d0⟩ := (HR.out.1.below had.bel).byte 0 (by omega)
      injection hae with hae
      subst hae
      have hadd : ad.add 0 = ad := add_none d0
      have d00 : wr.cell? ad = some (.int .u8 ((l.getD 0 0 : Nat) : Int)) := by rw [hadd] at d0; exact d0
      have bd := dig_at HR.out.2.2 k
      have bd0 := dig_at HR.out.2.2 0
      have xs := xk_succ l k hkl
      have cs := ck_succ l k hkl
      generalize hdk : l.getD k 0 = d at *
      generalize hd0 : l.getD 0 0 = z at *
      obtain ⟨v, he⟩ := had.enc
      have H := Lib.hid (⟨had, he, xs, cs, hsm, hdk, hd0⟩ : Ad1 w l g gt q ct gu qu cu k wr ∧ EIs wr w.heap.size g v (xk l k) ∧ xk l (k + 1) = come (xk l k) (ck l k) (d % 8) ∧ ck l (k + 1) = bumped (ck l k) (d % 8) ∧ (r = true → ∀ j, j < k → l.getD j 0 % 8 = z % 8) ∧ l.getD k 0 = d ∧ l.getD 0 0 = z)
      have t2 : (k : Int) < n := by omega
      have hdm : (d : Int) % 8 < 8 ∧ 0 ≤ (d : Int) % 8 := by omega
      clear xs cs hsm hdk hd0 he had d0 hadd
      have HBL := Lib.hid (show (ad.add k).block < w.heap.size from by
        obtain ⟨ad', hae, dd⟩ := HR.out.1.byte k hlt
        injection hae with hae
        subst hae
        exact World.block_lt_of_cell? w _ dd)
      cases r with
      | false =>
        go_wp2_with fail
        go_quiet (fail)
        have W0 := Lib.hid (show Reading wr (wr.drewN nq) from ⟨nq, rfl⟩)
        have e1 : (wr.drewN nq).cell? (ad.add k) = some (.int .u8 (d : Int)) := d1
        generalize wr.drewN nq = wq at *
        clear d1 d00
        have E0 := Lib.hid (H.out.2.1.read W0.out)
        have T0 := Lib.hid (H.out.1.tab.read W0.out)
        have U0 := Lib.hid (H.out.1.tabu.read W0.out)
        have BQ := Lib.hid (H.out.1.bel.trans W0.out.below)
        have KE := Lib.hid (encode_ok wq w.heap.size g v (xk l k) E0.out (xk_good l k) (by have := xk_k l k (by omega); omega) gt q ct (ck l k) T0.out (ck_ok l k) (d % 8) (by rw [ck_len]; omega))
        rw [show ((d % 8 : Nat) : Int) = (d : Int) % 8 by omega] at KE
        go_wp2_with fail
        refine KE.out.mono ?_
        rintro e w6 ⟨rfl, h6⟩
        have b6 := h6.below E0.out
        have e2 : w6.cell? (ad.add k) = some (.int .u8 (d : Int)) := (b6.cell HBL.out).trans e1
        obtain ⟨v6, en6, c6, m6⟩ := h6
        have T6 := Lib.hid (T0.out.enc E0.out c6)
        have U6 := Lib.hid (U0.out.enc E0.out c6)
        have E6 := Lib.hid en6
        have B6 := Lib.hid (BQ.out.trans b6)
        clear en6 c6 m6 b6 e1
        have KB := Lib.hid (bump_ok w6 gt q ct (ck l k) (d % 8) T6.out (ck_ok l k) (by rw [ck_len]; omega))
        rw [show ((d % 8 : Nat) : Int) = (d : Int) % 8 by omega] at KB
        go_wp2_with fail
        refine KB.out.mono ?_
        rintro e w7 ⟨rfl, t7, g7⟩
        have F7 := Lib.hid (show Ad1 w l g gt q ct gu qu cu (k + 1) w7 from ⟨⟨v6, by rw [H.out.2.2.1]; exact E6.out.bump T6.out g7⟩, by rw [H.out.2.2.2.1]; exact t7, U6.out.bumped2 T6.out T4.out.2.2 g7, B6.out.trans (turned_below g7 T3.out.2 B6.out.size)⟩)
        clear t7 g7 e2
        go_wp2_with fail
        refine ⟨⟨k + 1, by omega, by go_num, ⟨_, rfl, ?_⟩, F7.out⟩, by simp [intOf]; omega⟩
        exact fun e => (nomatch e)
      | true =>
        by_cases heq : (d : Int) % 8 = (z : Int) % 8
        · have t3 : ((d : Int) % 8 == (z : Int) % 8) = true := by simp [heq]
          have HEQ := Lib.hid heq
          clear heq
          go_wp2_with fail
          go_quiet (fail)
          have W0 := Lib.hid (show Reading wr (wr.drewN nq) from ⟨nq, rfl⟩)
          have e1 : (wr.drewN nq).cell? (ad.add k) = some (.int .u8 (d : Int)) := d1
          generalize wr.drewN nq = wq at *
          clear d1 d00
          have E0 := Lib.hid (H.out.2.1.read W0.out)
          have T0 := Lib.hid (H.out.1.tab.read W0.out)
          have U0 := Lib.hid (H.out.1.tabu.read W0.out)
          have BQ := Lib.hid (H.out.1.bel.trans W0.out.below)
          have KE := Lib.hid (encode_ok wq w.heap.size g v (xk l k) E0.out (xk_good l k) (by have := xk_k l k (by omega); omega) gt q ct (ck l k) T0.out (ck_ok l k) (d % 8) (by rw [ck_len]; omega))
          rw [show ((d % 8 : Nat) : Int) = (d : Int) % 8 by omega] at KE
          go_wp2_with fail
          refine KE.out.mono ?_
          rintro e w6 ⟨rfl, h6⟩
          have b6 := h6.below E0.out
          have e2 : w6.cell? (ad.add k) = some (.int .u8 (d : Int)) := (b6.cell HBL.out).trans e1
          obtain ⟨v6, en6, c6, m6⟩ := h6
          have T6 := Lib.hid (T0.out.enc E0.out c6)
          have U6 := Lib.hid (U0.out.enc E0.out c6)
          have E6 := Lib.hid en6
          have B6 := Lib.hid (BQ.out.trans b6)
          clear en6 c6 m6 b6 e1
          have KB := Lib.hid (bump_ok w6 gt q ct (ck l k) (d % 8) T6.out (ck_ok l k) (by rw [ck_len]; omega))
          rw [show ((d % 8 : Nat) : Int) = (d : Int) % 8 by omega] at KB
          go_wp2_with fail
          refine KB.out.mono ?_
          rintro e w7 ⟨rfl, t7, g7⟩
          have F7 := Lib.hid (show Ad1 w l g gt q ct gu qu cu (k + 1) w7 from ⟨⟨v6, by rw [H.out.2.2.1]; exact E6.out.bump T6.out g7⟩, by rw [H.out.2.2.2.1]; exact t7, U6.out.bumped2 T6.out T4.out.2.2 g7, B6.out.trans (turned_below g7 T3.out.2 B6.out.size)⟩)
          clear t7 g7 e2
          go_wp2_with fail
          refine ⟨⟨k + 1, by omega, by go_num, ⟨_, rfl, ?_⟩, F7.out⟩, by simp [intOf]; omega⟩
          intro _ j hj
          rw [H.out.2.2.2.2.2.2]
          rcases Nat.lt_or_ge j k with h1 | h1
          · exact H.out.2.2.2.2.1 (by trivial) j h1
          · obtain rfl : j = k := by omega
            rw [H.out.2.2.2.2.2.1]
            have := HEQ.out
            omega
        · have t3 : ((d : Int) % 8 == (z : Int) % 8) = false := by simp [heq]
          clear heq
          go_wp2_with fail
          go_quiet (fail)
          have W0 := Lib.hid (show Reading wr (wr.drewN nq) from ⟨nq, rfl⟩)
          have e1 : (wr.drewN nq).cell? (ad.add k) = some (.int .u8 (d : Int)) := d1
          generalize wr.drewN nq = wq at *
          clear d1 d00
          have E0 := Lib.hid (H.out.2.1.read W0.out)
          have T0 := Lib.hid (H.out.1.tab.read W0.out)
          have U0 := Lib.hid (H.out.1.tabu.read W0.out)
          have BQ := Lib.hid (H.out.1.bel.trans W0.out.below)
          have KE := Lib.hid (encode_ok wq w.heap.size g v (xk l k) E0.out (xk_good l k) (by have := xk_k l k (by omega); omega) gt q ct (ck l k) T0.out (ck_ok l k) (d % 8) (by rw [ck_len]; omega))
          rw [show ((d % 8 : Nat) : Int) = (d : Int) % 8 by omega] at KE
          go_wp2_with fail
          refine KE.out.mono ?_
          rintro e w6 ⟨rfl, h6⟩
          have b6 := h6.below E0.out
          have e2 : w6.cell? (ad.add k) = some (.int .u8 (d : Int)) := (b6.cell HBL.out).trans e1
          obtain ⟨v6, en6, c6, m6⟩ := h6
          have T6 := Lib.hid (T0.out.enc E0.out c6)
          have U6 := Lib.hid (U0.out.enc E0.out c6)
          have E6 := Lib.hid en6
          have B6 := Lib.hid (BQ.out.trans b6)
          clear en6 c6 m6 b6 e1
          have KB := Lib.hid (bump_ok w6 gt q ct (ck l k) (d % 8) T6.out (ck_ok l k) (by rw [ck_len]; omega))
          rw [show ((d % 8 : Nat) : Int) = (d : Int) % 8 by omega] at KB
          go_wp2_with fail
          refine KB.out.mono ?_
          rintro e w7 ⟨rfl, t7, g7⟩
          have F7 := Lib.hid (show Ad1 w l g gt q ct gu qu cu (k + 1) w7 from ⟨⟨v6, by rw [H.out.2.2.1]; exact E6.out.bump T6.out g7⟩, by rw [H.out.2.2.2.1]; exact t7, U6.out.bumped2 T6.out T4.out.2.2 g7, B6.out.trans (turned_below g7 T3.out.2 B6.out.size)⟩)
          clear t7 g7 e2
          go_wp2_with fail
          refine ⟨⟨k + 1, by omega, by go_num, ⟨_, rfl, ?_⟩, F7.out⟩, by simp [intOf]; omega⟩
          exact fun e => (nomatch e)
    · obtain rfl : k = n := by omega
      have t2 : ¬ (k : Int) < k := by omega
      obtain ⟨v, he⟩ := had.enc
      have H := Lib.hid (⟨had, he, hsm⟩ : Ad1 w l g gt q ct gu qu cu k wr ∧ EIs wr w.heap.size g v (xk l k) ∧ (r = true → ∀ j, j < k → l.getD j 0 % 8 = l.getD 0 0 % 8))
      have KF := Lib.hid (finish_any wr w.heap.size g v (xk l k) he (xk_good l k) (by have := xk_k l k (by omega); omega))
      clear had he hsm
      go_wp2_with fail
      refine KF.out.mono ?_
      rintro e w6 ⟨b, u, rfl, ic, ow, b6⟩
      have B6 := Lib.hid (H.out.1.bel.trans (b6.mono H.out.1.bel.size))
      have U6 := Lib.hid (H.out.1.tabu.below b6)
      obtain ⟨A6, c6, rfl, _, r6⟩ := Reads.of_own ow
      have IC := Lib.hid ic
      have R6 := Lib.hid r6
      have hbl := isCode_len (xk_good l k) ic
      have hxk := xk_k l k (by omega)
      have hb2 : b.length ≤ 1000 := by omega
      have hsame : r = true → b.length ≤ 2 := by
        intro hr
        have h1 := run_same (syms l) (l.getD 0 0 % 8) (by
          intro t ht
          obtain ⟨j, hj, rfl⟩ := List.mem_iff_getElem.1 ht
          rw [length_syms] at hj
          rw [syms_at l j hj]
          exact H.out.2.2 hr j (by have := HR.out.2.1; omega)) k (by rw [length_syms, HR.out.2.1]; exact Nat.le_refl _)
        have h2 : (adapt (l.getD 0 0 % 8) k).1 = xk l k := by rw [h1]; rfl
        exact adapt_two (l.getD 0 0 % 8) (by omega) k (by omega) (by rw [h2]; exact ic)
      have HSM := Lib.hid hsame
      clear ow ic r6 b6 hbl hxk hsame
      go_wp2_with fail
      refine (newDec_any w6 w.heap.size A6 b.length c6 b R6.out (by omega) (isCode_dig IC.out) B6.out.size).mono ?_
      rintro e w7 ⟨gd, pk, rfl, d7, b7, _, _⟩
      have L7 := Lib.hid (show Ad2 w l b gd gu qu cu pk 0 w7 from ⟨d7, U6.out.below b7, B6.out.trans (b7.mono B6.out.size)⟩)
      clear d7 b7
      go_wp2_with fail
      go_loopw [11] (DeAt w l b k gd gu qu cu pk) (fun i _ => k - (intOf i).toNat)
      case atStart => exact ⟨0, Nat.zero_le _, rfl, L7.out⟩
      case round =>
        obtain ⟨j, hj, rfl, had⟩ := hrel
        have hall : (syms l).length = k := by rw [length_syms]; exact HR.out.2.1
        have hx : xk l k = runIv firstIv (ads c8 (syms l)) := by unfold xk; rw [run_all c8 (syms l) k (by omega)]
        by_cases hlt : j < k
        · have hjl : j < l.length := by rw [HR.out.2.1]; exact hlt
          obtain ⟨ad, rfl, d1⟩ := HR.out.1.byte j hlt
          have bd := dig_at HR.out.2.2 j
          have xs := xk_succ l j hjl
          have cs := ck_succ l j hjl
          have hat := ads_at c8 (syms l) j (by omega)
          rw [syms_at l j hjl] at hat
          generalize hdk : l.getD j 0 = d at *
          have WAY := Lib.hid (show ∀ s, s < (ck l j).length → Inside (come (xk l j) (ck l j) s) b → s = d % 8 from fun s h1 h2 =>
            way_one (isCode_dig IC.out) (ads c8 (syms l)) (ads_right ok8 _ (syms_lt l)) (by rw [← hx]; exact isCode_inside (xk_good l k) IC.out) j _ hat s h1 h2)
          have HA := Lib.hid (⟨had, xs, cs, d1⟩ : Ad2 w l b gd gu qu cu pk j wr ∧ xk l (j + 1) = come (xk l j) (ck l j) (d % 8) ∧ ck l (j + 1) = bumped (ck l j) (d % 8) ∧ w.cell? (ad.add j) = some (.int .u8 (d : Int)))
          have KD := Lib.hid (decode_ok wr w.heap.size gd pk (xk l j) b had.dec (xk_good l j) (by have := xk_k l j (by omega); omega) gu qu cu (ck l j) had.tab (ck_ok l j))
          have t3 : (j : Int) < k := by omega
          clear had xs cs hat hdk d1 hall hx
          go_wp2_with fail
          refine KD.out.mono ?_
          rintro e w8 ⟨s, hs, rfl, d8, c8'⟩
          obtain rfl := WAY.out s hs d8.inside
          have T8 := Lib.hid (HA.out.1.tab.dec HA.out.1.dec c8')
          have b8 := c8'.below (B := w.heap.size) HA.out.1.bel.size (fun p hp => by rw [hp]; exact HA.out.1.dec.low)
          have B8 := Lib.hid (HA.out.1.bel.trans b8)
          have e8 : w8.cell? (ad.add j) = some (.int .u8 (d : Int)) := ((HA.out.1.bel.trans b8).cell (World.block_lt_of_cell? w _ HA.out.2.2.2)).trans HA.out.2.2.2
          have D8 := Lib.hid d8
          have KB := Lib.hid (bump_ok w8 gu qu cu (ck l j) (d % 8) T8.out (ck_ok l j) hs)
          rw [show ((d % 8 : Nat) : Int) = (d : Int) % 8 by omega] at KB ⊢
          have t4 : ((d : Int) % 8 != (d : Int) % 8) = false := by simp
          have hdm : (d : Int) % 8 < 8 ∧ 0 ≤ (d : Int) % 8 := by omega
          clear hs d8 c8' b8
          go_wp2_with fail
          refine KB.out.mono ?_
          rintro e w9 ⟨rfl, t9, g9⟩
          have F9 := Lib.hid (show Ad2 w l b gd gu qu cu pk (j + 1) w9 from ⟨by rw [HA.out.2.1]; exact D8.out.bump T8.out g9, by rw [HA.out.2.2.1]; exact t9, B8.out.trans (turned_below g9 T4.out.2.1 B8.out.size)⟩)
          clear t9 g9
          go_wp2_with fail
          exact ⟨⟨j + 1, by omega, by go_num, F9.out⟩, by simp [intOf]; omega⟩
        · obtain rfl : j = k := by omega
          have t3 : ¬ (j : Int) < j := by omega
          have hdone := (done_iff (xk_good l j) (isCode_dig IC.out) had.dec.inside).2 IC.out
          have KD := Lib.hid (done_any wr w.heap.size gd pk (xk l j) b had.dec (xk_good l j) (by have := xk_k l j (by omega); omega) (by omega))
          rw [hdone] at KD
          have HB := Lib.hid had.bel
          clear had hdone hall hx
          cases r with
          | false =>
            go_wp2_with fail
            refine KD.out.mono ?_
            rintro e w8 ⟨rfl, b8⟩
            have B8 := Lib.hid (HB.out.trans b8.below)
            clear b8
            go_wp2
            go_ret
            exact ⟨rfl, B8.out⟩
          | true =>
            have hl2 : (b.length : Int) ≤ 2 := by have := HSM.out rfl; omega
            generalize b.length = nb at *
            go_wp2_with fail
            refine KD.out.mono ?_
            rintro e w8 ⟨rfl, b8⟩
            have B8 := Lib.hid (HB.out.trans b8.below)
            clear b8
            go_wp2
            go_ret
            exact ⟨rfl, B8.out⟩

set_option maxRecDepth 100000 in
theorem lifted (os : Os) (started : os.Started) (H : Type) (enc : TypeId × Value → H) :
    ReturnsInHanded {} Tryd.checked os 8 .any (fun w args => (Rows.coderAdaptsSpec.pre enc Tryd.prog Tryd.f8 Rows.coderAdaptsRow.domain false w args ∧ laidMetH Tryd.prog Rows.coderAdaptsRow.laid w) ∧ sizedMet enc Tryd.prog Tryd.f8 (OpenSpec.ofChange Rows.coderAdaptsSpec) false w args)
      (Rows.coderAdaptsSpec.post enc Tryd.prog Tryd.f8 false true false false) := by
  refine returnsInHanded_of_change_and (C := Tryd.checked) (X := fun w _ => laidMetH Tryd.prog Rows.coderAdaptsRow.laid w) (fun _ _ _ hh h => h.of_heap hh) own_knob started (by kernel_rfl) Tryd.func8
    (ChangeSpec.witness_shaped (enc := enc) (C := Tryd.checked) (os := os) (X := fun w _ => laidMetH Tryd.prog Rows.coderAdaptsRow.laid w) false (World.laidAll Tryd.prog os Rows.coderAdaptsRow.laid) #[.slice none 0 0] 8 (World.laidAll_os _ _ _)
      (World.shaped_of_ZipB (by kernel_rfl) (by kernel_rfl)) (by kernel_rfl) (by kernel_rfl) (by kernel_rfl)
      (by rw [MakeChecks.laidMetH_plain _ _ _ (by kernel_rfl)]; exact laidMet_laidAll _ (by kernel_rfl) (by kernel_rfl))) ?_
  intro W base args ds gs before hval0 hW hc _ _ _
  have hval : ∀ (j : Nat) t v, Tryd.f8.params[j]? = some t → args[j]? = some v → Value.okWide Tryd.prog W .any base t v := hval0
  have hW' := hW
  obtain ⟨p, q, hA0, hV, rfl, _, _⟩ := hW
  have hA : DataW.TrodAll enc Tryd.prog W 0 (fun _ => true) true Tryd.f8.params.toList args.toList ds p := hA0
  rw [Tryd.params8] at hA hval
  obtain ⟨v0, vs0, d0, ds0, p0, q0, hargs, rfl, rfl, h0, r0⟩ := trodAll_cons hA
  obtain ⟨rfl, rfl, rfl⟩ := trodAll_nil r0
  obtain rfl : args = #[v0] := by cases args; simp_all
  obtain ⟨rfl, rfl⟩ := trodVars_none hV
  have lt0 : ∀ x ∈ p0, x.block < W.heap.size := by obtain ⟨m, hm⟩ := h0; exact DataW.trod_lt m _ _ _ hm
  obtain ⟨a0, len0, cap0, rfl⟩ := okWide_slice Tryd.underlying39 (hval 0 39 v0 rfl rfl)
  obtain ⟨hc0, xs0, hx0, hr0⟩ := arg_bytes4 h0
  clear hA0 hval0
  refine (walk a0 len0 cap0 xs0 W hc0 hx0 hr0).mono fun e W' ⟨he, bel⟩ => ?_
  subst he
  exact ⟨_, rfl, _, _, _, [], _, [], hW', trodAll_mk1 (shut_bool Tryd.underlying4 _), (trodAll_cons_mk (Below.trod laid_out (by kernel_rfl) (of_decide_eq_true (by kernel_rfl)) h0 bel lt0) trodAll_mk0), rfl, bel.frame _, fun h => by cases h⟩

theorem over : Rows.CoderAdaptsSaid :=
  OpenClaim.holds_of_wide 8 Tryd.f8 rfl rfl rfl rfl rfl rfl rfl ⟨rfl, rfl, rfl, rfl, rfl⟩ rfl rfl rfl rfl rfl (by kernel_rfl) Tryd.func8 (by kernel_rfl)
    (of_decide_eq_true (by kernel_rfl)) (by unfold Func.isWrapper; first | (rw [if_pos (by decide +kernel)]; kernel_rfl) | (rw [if_neg (by decide +kernel)]; exact ⟨rfl, rfl⟩))
    (fun os started H enc _ => lifted os started H enc)

theorem plain (f : FuncId) (fn : Func) (hf : Tryd.pinned.checked.prog.funcNamed "gypsum/gypsumlaw04.CoderAdapts" = some f) (hfn : Tryd.pinned.checked.prog.funcs[f]? = some fn) :
    false = Tryd.pinned.checked.prog.looks [] ∧ ∀ (j : Nat) t, fn.params[j]? = some t → Tryd.pinned.checked.prog.wantsStandIn t = false := by
  obtain rfl : f = 8 := Option.some.inj ((show Tryd.prog.funcNamed "gypsum/gypsumlaw04.CoderAdapts" = some 8 by kernel_rfl).symm.trans hf) |>.symm
  obtain rfl : fn = Tryd.f8 := (Option.some.inj (Tryd.func8.symm.trans hfn)).symm
  refine ⟨by kernel_rfl, fun j t ht => ?_⟩
  rw [Tryd.params8] at ht
  have hm : t ∈ [39] := by simpa using Array.mem_of_getElem? ht
  have hall : ([39].all fun u => !Tryd.prog.wantsStandIn u) = true := by kernel_rfl
  exact (show Tryd.prog.wantsStandIn t = false by simpa using List.all_eq_true.1 hall t hm)

theorem proved : Rows.CoderAdaptsCardSaid :=
  Claim7.holds_tied_plain_at .later [] _ _ _ _ over (fun _ h => by cases h) (by kernel_rfl) (fun _ h => by cases h) coderAdapts_row_tie rfl ⟨rfl, rfl⟩ (by kernel_rfl) rfl plain (by kernel_rfl)
end Go.Proofs.YtbkjfblmdilchaaDoor.coderAdapts
