/- The document's Open (layer 7). -/
import Derived.Test.YtngambkbpdjddaaBoxRefQ
namespace Go.Proofs.Ytngambkbpdjddaa
open Go.RowKit

theorem RList.below {w w' : World} {P : Nat → PartV} {j : Nat} {xs : List Value} (h : RList w P j xs) (b : Below w.heap.size w w') : RList w' P j xs :=
  ⟨h.1, fun i hi => by
    obtain ⟨A, c, k0, k1, k2, k3, k4⟩ := h.2 i hi
    exact ⟨A, c, k0, k1, k2, k3, k4.below b⟩⟩
theorem own_base4 {w : World} {B B' n : Nat} {t : TypeId} {v : Value} {xs : List Value} (h : w.ownsRow B t 4 v n xs) (hB : B' ≤ B) : w.ownsRow B' t 4 v n xs := by
  refine ⟨h.1, ?_⟩
  rcases h.2 with h1 | ⟨p, cap, cur, h1, hp, h3⟩
  · exact .inl h1
  · exact .inr ⟨p, cap, cur, h1, Nat.le_trans hB hp, h3⟩
def ROpenTold (w : World) (l : List Nat) (e : Ending) (w' : World) : Prop :=
  (∃ k P v xs, Opens l k P ∧ e = .returned (.tuple #[v, .int .i64 0]) ∧ w'.ownsRow w.heap.size 72 4 v k xs ∧ RList w' P k xs ∧ Below w.heap.size w w')
  ∨ (NoHead l ∧ e = .returned (.tuple #[.slice none 0 0, .int .i64 3]) ∧ Below w.heap.size w w')
/-- What a fixed part tells of a header at either end. -/
theorem fix_yes {u : List Nat} (hd : Dig u) (hl : u.length = 10) (h : seg u 0 4 = magic ∧ Guarded u) : u = fixedPart (val (seg u 4 2)) ∧ val (seg u 4 2) < 65536 := fixed_of hd hl (by have := h.1; simpa [seg] using this) h.2
theorem fix_no {u : List Nat} (h : ¬ (seg u 0 4 = magic ∧ Guarded u)) (k : Nat) : u ≠ fixedPart k := fun e => h (by rw [e]; exact ⟨fixed_head k, fixed_guarded k⟩)
def FirstCut (w : World) (l : List Nat) (k : Nat) (cnd : Value) (wx : World) : Prop := ∃ b : Bool, cnd = .bool b ∧ (b = true → First l k) ∧ (b = false → ∀ k', ¬ First l k') ∧ Below w.heap.size w wx
def LensAt (w : World) (k : Nat) (t : List Nat) (s i : Value) (wr : World) : Prop :=
  w = wr ∧ ∃ j : Nat, j ≤ k ∧ i = .int .i64 (j : Int) ∧ s = .int .i64 ((toffs t j : Nat) : Int)

set_option maxHeartbeats 12800000 in
set_option maxRecDepth 100000 in
theorem r7open_any (w : World) (A : Option Addr) (n c : Nat) (l : List Nat) (h : Reads w A n (bts l)) (hd : Dig l) (hc : n ≤ c) (hn : n ≤ 1000000) :
    Calls Try.prog 17 #[.slice A n c] w (ROpenTold w l) := by
  have hl := h.lenB
  have HL := Lib.hid hl
  have HD := Lib.hid hd
  have HR := Lib.hid h
  have t1 : ¬ (4194304 : Int) < n := by omega
  by_cases h10 : n < 10
  · have t2 : ¬ (10 : Int) ≤ n := by omega
    clear h hd hl
    go_enter Try.func17, Try.ntmps17
    go_wp2
    go_ret2
    exact .inr ⟨⟨fun k hk => by have := hk.1; rw [HL.out] at this; omega, fun k hk => by have := hk.1; rw [HL.out] at this; omega⟩, rfl, Below.refl _ _⟩
  have t2 : (10 : Int) ≤ n := by omega
  have hs1 := fun W => run_head A n c 10 10 rfl (by omega) W
  have hs2 := fun W => run_tail A n c (n - 10) 10 ((n : Int) - 10) (by omega) (by omega) W
  have K1 := Lib.hid (r7fix_any w A c (seg l 0 10) (h.head 10 (by omega)) (dig_seg hd _ _) (by omega))
  have K2 := Lib.hid (fun w' (b : Below w.heap.size w w') => r7fix_any w' (cutA A c (n - 10)) (c - (n - 10)) (seg l (n - 10) 10) ((h.cut hc (n - 10) 10 (by omega)).below b) (dig_seg hd _ _) (by omega))
  have KR := Lib.hid (fun w' (b : Below w.heap.size w w') p z (hz : 4 ≤ z) (hp : p + z ≤ n) => r7right_any w' (cutA A c p) z (c - p) (seg l p z) ((h.cut hc p z hp).below b) (dig_seg hd _ _) hz (by omega) (by omega))
  have KP := Lib.hid (fun w' (b : Below w.heap.size w w') p k F (hp : p + (9 * k + 4) ≤ n) (hk : k < 65536) hF hF2 => r7parts_any w' A n c l (cutA A c p) (9 * k + 4) (c - p) k (seg l p (9 * k + 4)) F (h.below b) hd hc hn ((h.cut hc p (9 * k + 4) hp).below b) (dig_seg hd _ _) (by omega) rfl hk hF hF2)
  generalize hA10 : cutA A c (n - 10) = A10 at K2 hs2
  generalize hc10 : c - (n - 10) = c10 at K2 hs2
  clear h hd hl hA10 hc10
  go_enter Try.func17, Try.ntmps17
  go_wp2_with fail
  refine K1.out.mono ?_
  have hl := HL.out
  rintro e w1 (⟨hy, rfl, b1⟩ | ⟨hno, rfl, b1⟩)
  · obtain ⟨hfx, hk6⟩ := fix_yes (dig_seg HD.out 0 10) (length_seg _ _ _ (by omega)) hy
    have HFX := Lib.hid hfx
    have ONE := Lib.hid (fun k' (h : First l k') => show k' = val (seg (seg l 0 10) 4 2) from fixed_inj h.2.1 hk6 (by rw [← h.2.2.1]; exact hfx))
    generalize val (seg (seg l 0 10) 4 2) = k at *
    have B1 := Lib.hid b1
    clear hy hfx b1 hl
    go_upto_region 5 with fail
    go_cut [34] (FirstCut w l k)
    case first =>
      have hl := HL.out
      by_cases h14 : 14 + 9 * k ≤ n
      · have g1 : (14 : Int) + 9 * (k : Int) ≤ n := by omega
        have g1' : decide ((14 : Int) + 9 * (k : Int) ≤ n) = true := by simp; omega
        have g0 : decide ((0 : Int) ≤ (k : Int)) = true := by simp
        have hs3 := fun W => run_cut A n c 10 (9 * k + 4) 10 (14 + 9 * (k : Int)) rfl (by omega) (by omega) W
        have KK := Lib.hid (KR.out w1 B1.out 10 (9 * k + 4) (by omega) (by omega))
        generalize cutA A c 10 = At at *
        generalize c - 10 = ct at *
        obtain ⟨N, hN⟩ : ∃ N, 9 * k + 4 = N := ⟨_, rfl⟩
        rw [hN] at KK hs3
        have HN := Lib.hid hN
        clear hN hl
        go_wp2_with fail
        refine KK.out.mono ?_
        rintro e w2 ⟨r, hr, rfl, b2⟩
        have B2 := up2 B1.out b2
        have HRR := Lib.hid hr
        clear hr b2
        go_wp2_with fail
        go_meet
        refine ⟨r, rfl, fun e => ?_, fun e k' hk' => ?_, B2⟩
        · refine ⟨by rw [HL.out]; exact h14, hk6, HFX.out, ?_⟩
          rw [Nat.add_comm 4, HN.out]
          exact HRR.out.1 e
        · have e1 := ONE.out k' hk'
          subst e1
          have hg := hk'.2.2.2
          rw [Nat.add_comm 4, HN.out] at hg
          have := HRR.out.2 hg
          rw [e] at this
          cases this
      · have g1 : ¬ (14 : Int) + 9 * (k : Int) ≤ n := by omega
        have g1' : decide ((14 : Int) + 9 * (k : Int) ≤ n) = false := by simp; omega
        clear hl
        go_wp2_with fail
        go_meet
        refine ⟨false, rfl, fun e => (nomatch e), fun _ k' hk' => h14 ?_, B1.out⟩
        have e1 := ONE.out k' hk'
        subst e1
        have := hk'.1
        rwa [HL.out] at this
    case rest =>
      obtain ⟨bb, rfl, hyes, hno, bx⟩ := hcut
      cases bb with
      | true =>
        have hf := hyes rfl
        have h14 := hf.1
        rw [HL.out] at h14
        have HF := Lib.hid hf
        have hs3 := fun W => run_cut A n c 10 (9 * k + 4) 10 (14 + 9 * (k : Int)) rfl (by omega) (by omega) W
        have KK := Lib.hid (KP.out wc bx 10 k (18 + 9 * (k : Int)) (by omega) hk6 (by omega) (by omega))
        have BX := Lib.hid bx
        generalize cutA A c 10 = At at *
        generalize c - 10 = ct at *
        obtain ⟨N, hN⟩ : ∃ N, 9 * k + 4 = N := ⟨_, rfl⟩
        rw [hN] at hs3
        have HN := Lib.hid hN
        have KK2 : Hid (Calls Try.prog 35 #[.slice A n c, .slice At N ct, .int .i64 (18 + 9 * (k : Int))] wc (RPartsTold wc k (partV l (seg l 10 (9 * k + 4)) (18 + 9 * (k : Int))))) := by rw [← hN]; exact KK
        clear hyes hno bx hf hN KK h14
        go_wp2_with fail
        refine KK2.out.mono ?_
        rintro e w5 ⟨v5, xs5, rfl, o5, r5, b5⟩
        obtain ⟨A5, c5, rfl⟩ := own_form4 o5
        have Z := Lib.hid (And.intro (own_base4 o5 BX.out.size) (And.intro (r5.below b5) (up2 BX.out b5)))
        clear o5 r5 b5
        go_wp2
        go_ret2
        exact .inl ⟨k, _, _, xs5, .inl ⟨HF.out, rfl⟩, rfl, Z.out.1, Z.out.2.1, Z.out.2.2⟩
      | false =>
        have NF := Lib.hid (hno rfl)
        have BB := Lib.hid bx
        obtain ⟨wb, hwb⟩ : ∃ wb, wb = wc := ⟨_, rfl⟩
        rw [← hwb] at BB ⊢
        clear hyes hno bx hwb
        have K2' := Lib.hid (K2.out wb BB.out)
        go_wp2_with fail
        refine K2'.out.mono ?_
        rintro e w3 (⟨hy, rfl, b3⟩ | ⟨hno, rfl, b3⟩)
        · obtain ⟨hfx, hk6⟩ := fix_yes (dig_seg HD.out (n - 10) 10) (length_seg _ _ _ (by have := HL.out; omega)) hy
          have HFX := Lib.hid hfx
          have ONE := Lib.hid (fun k' (h : Second l k') => show k' = val (seg (seg l (n - 10) 10) 4 2) from fixed_inj h.2.1 hk6 (by have e := h.2.2.1; rw [HL.out] at e; rw [← e]; exact hfx))
          generalize val (seg (seg l (n - 10) 10) 4 2) = kk at *
          have B3 := Lib.hid (up2 BB.out b3)
          clear hy hfx b3
          by_cases h14 : 14 + 9 * kk ≤ n
          · have g1 : (14 : Int) + 9 * (kk : Int) ≤ n := by omega
            have g1' : decide ((14 : Int) + 9 * (kk : Int) ≤ n) = true := by simp; omega
            have hs3 := fun W => run_cut A n c (n - 14 - 9 * kk) (9 * kk + 4) ((n : Int) - 14 - 9 * (kk : Int)) ((n : Int) - 10) (by omega) (by omega) (by omega) W
            have KK := Lib.hid (KR.out w3 B3.out (n - 14 - 9 * kk) (9 * kk + 4) (by omega) (by omega))
            have rtt := (HR.out.cut hc (n - 14 - 9 * kk) (9 * kk + 4) (by omega)).below B3.out
            have KP' := Lib.hid (fun W (b : Below w.heap.size w W) F hF hF2 => KP.out W b (n - 14 - 9 * kk) kk F (by omega) hk6 hF hF2)
            have hct : 9 * kk + 4 ≤ c - (n - 14 - 9 * kk) := by omega
            have dtt := dig_seg HD.out (n - 14 - 9 * kk) (9 * kk + 4)
            have SEC := Lib.hid (fun (hg : Guarded (seg l (n - 14 - 9 * kk) (9 * kk + 4))) => show Second l kk from ⟨by rw [HL.out]; exact h14, hk6, by rw [HL.out]; exact HFX.out, by rw [HL.out, Nat.add_comm 4]; exact hg⟩)
            have NSE := Lib.hid (fun (hg : ¬ Guarded (seg l (n - 14 - 9 * kk) (9 * kk + 4))) k' (hk' : Second l k') => by
              have e1 := ONE.out k' hk'
              subst e1
              have e2 := hk'.2.2.2
              rw [HL.out, Nat.add_comm 4] at e2
              exact hg e2)
            have OPN := Lib.hid (fun (hg : Guarded (seg l (n - 14 - 9 * kk) (9 * kk + 4))) => show Opens l kk (partV l (seg l (n - 14 - 9 * kk) (9 * kk + 4)) ((n : Int) - 18 - 9 * (kk : Int) - toffs (seg l (n - 14 - 9 * kk) (9 * kk + 4)) kk)) from .inr ⟨NF.out, SEC.out hg, by rw [HL.out]⟩)
            generalize seg l (n - 14 - 9 * kk) (9 * kk + 4) = tt at *
            generalize cutA A c (n - 14 - 9 * kk) = At at *
            generalize c - (n - 14 - 9 * kk) = ct at *
            obtain ⟨N, hN⟩ : ∃ N, 9 * kk + 4 = N := ⟨_, rfl⟩
            rw [hN] at KK hs3 rtt hct KP'
            have HN := Lib.hid hN
            have RTT := Lib.hid (And.intro rtt dtt)
            clear hN rtt dtt
            go_wp2_with fail
            refine KK.out.mono ?_
            rintro e w4 ⟨r, hr, rfl, b4⟩
            have B4 := Lib.hid (up2 B3.out b4)
            have R4 := Lib.hid (RTT.out.1.below b4)
            cases r with
            | false =>
              have NS := Lib.hid (NSE.out (fun hg => by have := hr.2 hg; cases this))
              clear hr b4
              go_wp2
              go_ret2
              exact .inr ⟨⟨NF.out, fun k' hk' => NS.out k' hk'⟩, rfl, B4.out⟩
            | true =>
              have OP := Lib.hid (OPN.out (hr.1 rfl))
              clear hr b4
              go_wp2_with fail
              go_loopw [6, 7] (LensAt w4 kk tt) (fun _ i _ => kk - (intOf i).toNat)
              case atStart => exact ⟨rfl, 0, Nat.zero_le _, rfl, rfl⟩
              case round =>
                obtain ⟨rfl, j, hj, rfl, rfl⟩ := hrel
                by_cases hlt : j < kk
                · have hNN := HN.out
                  have hs4 := fun W => run_cut At N ct (9 * j + 1) 4 (9 * (j : Int) + 1) (9 * (j : Int) + 5) (by omega) (by omega) (by omega) W
                  have KG := Lib.hid (r7get_any w4 (cutA At ct (9 * j + 1)) 4 (ct - (9 * j + 1)) (seg tt (9 * j + 1) 4) (R4.out.cut hct (9 * j + 1) 4 (by omega)) (dig_seg RTT.out.2 _ _) (by omega))
                  generalize cutA At ct (9 * j + 1) = Aj at *
                  generalize ct - (9 * j + 1) = cj at *
                  have hto := toffs_le RTT.out.2 j
                  have hvl := val_seg_lt RTT.out.2 (9 * j + 1)
                  have hs : toffs tt (j + 1) = toffs tt j + val (seg tt (9 * j + 1) 4) := rfl
                  generalize val (seg tt (9 * j + 1) 4) = x1 at *
                  generalize toffs tt j = a at *
                  have HS := Lib.hid hs
                  have b1 : (j : Int) < kk := by omega
                  have w1' : IntKind.i64.wrap (x1 : Int) = (x1 : Int) := IntWalk.i64_in _ (by omega)
                  clear hs hNN
                  go_wp2_with fail
                  refine KG.out.mono ?_
                  rintro e w5 ⟨rfl, rfl⟩
                  go_wp2_with fail
                  exact ⟨⟨rfl, j + 1, by omega, by go_num, by rw [HS.out]; go_num⟩, by simp [intOf]; omega⟩
                · obtain rfl : j = kk := by omega
                  have b1 : ¬ (j : Int) < j := by omega
                  have hto := toffs_le RTT.out.2 j
                  have KF := Lib.hid (KP'.out w4 B4.out ((n : Int) - 18 - 9 * (j : Int) - toffs tt j) (by omega) (by omega))
                  generalize toffs tt j = a at *
                  go_wp2_with fail
                  refine KF.out.mono ?_
                  rintro e w6 ⟨v6, xs6, rfl, o6, r6, b6⟩
                  obtain ⟨A6, c6, rfl⟩ := own_form4 o6
                  have Z := Lib.hid (And.intro (own_base4 o6 B4.out.size) (And.intro (r6.below b6) (up2 B4.out b6)))
                  clear o6 r6 b6
                  go_wp2
                  go_ret2
                  exact .inl ⟨j, _, _, xs6, OP.out, rfl, Z.out.1, Z.out.2.1, Z.out.2.2⟩
          · have g1 : ¬ (14 : Int) + 9 * (kk : Int) ≤ n := by omega
            have g1' : decide ((14 : Int) + 9 * (kk : Int) ≤ n) = false := by simp; omega
            have NS := Lib.hid (fun k' (hk' : Second l k') => h14 (by have e1 := ONE.out k' hk'; subst e1; have := hk'.1; rwa [HL.out] at this))
            go_wp2
            go_ret2
            exact .inr ⟨⟨NF.out, NS.out⟩, rfl, B3.out⟩
        · have NS := Lib.hid (fun k' (hk' : Second l k') => fix_no hno k' (by have e := hk'.2.2.1; rwa [HL.out] at e))
          have B3 := Lib.hid (up2 BB.out b3)
          clear hno b3
          go_wp2
          go_ret2
          exact .inr ⟨⟨NF.out, NS.out⟩, rfl, B3.out⟩
  · have NF := Lib.hid (fun k' (hk' : First l k') => fix_no hno k' hk'.2.2.1)
    have BB := Lib.hid b1
    have g0 : ¬ (0 : Int) ≤ -1 := by omega
    obtain ⟨wb, hwb⟩ : ∃ wb, wb = w1 := ⟨_, rfl⟩
    rw [← hwb] at BB ⊢
    clear hno b1 hwb
    have K2' := Lib.hid (K2.out wb BB.out)
    go_wp2_with fail
    refine K2'.out.mono ?_
    rintro e w3 (⟨hy, rfl, b3⟩ | ⟨hno, rfl, b3⟩)
    · obtain ⟨hfx, hk6⟩ := fix_yes (dig_seg HD.out (n - 10) 10) (length_seg _ _ _ (by have := HL.out; omega)) hy
      have HFX := Lib.hid hfx
      have ONE := Lib.hid (fun k' (h : Second l k') => show k' = val (seg (seg l (n - 10) 10) 4 2) from fixed_inj h.2.1 hk6 (by have e := h.2.2.1; rw [HL.out] at e; rw [← e]; exact hfx))
      generalize val (seg (seg l (n - 10) 10) 4 2) = kk at *
      have B3 := Lib.hid (up2 BB.out b3)
      clear hy hfx b3
      by_cases h14 : 14 + 9 * kk ≤ n
      · have g1 : (14 : Int) + 9 * (kk : Int) ≤ n := by omega
        have g1' : decide ((14 : Int) + 9 * (kk : Int) ≤ n) = true := by simp; omega
        have hs3 := fun W => run_cut A n c (n - 14 - 9 * kk) (9 * kk + 4) ((n : Int) - 14 - 9 * (kk : Int)) ((n : Int) - 10) (by omega) (by omega) (by omega) W
        have KK := Lib.hid (KR.out w3 B3.out (n - 14 - 9 * kk) (9 * kk + 4) (by omega) (by omega))
        have rtt := (HR.out.cut hc (n - 14 - 9 * kk) (9 * kk + 4) (by omega)).below B3.out
        have KP' := Lib.hid (fun W (b : Below w.heap.size w W) F hF hF2 => KP.out W b (n - 14 - 9 * kk) kk F (by omega) hk6 hF hF2)
        have hct : 9 * kk + 4 ≤ c - (n - 14 - 9 * kk) := by omega
        have dtt := dig_seg HD.out (n - 14 - 9 * kk) (9 * kk + 4)
        have SEC := Lib.hid (fun (hg : Guarded (seg l (n - 14 - 9 * kk) (9 * kk + 4))) => show Second l kk from ⟨by rw [HL.out]; exact h14, hk6, by rw [HL.out]; exact HFX.out, by rw [HL.out, Nat.add_comm 4]; exact hg⟩)
        have NSE := Lib.hid (fun (hg : ¬ Guarded (seg l (n - 14 - 9 * kk) (9 * kk + 4))) k' (hk' : Second l k') => by
          have e1 := ONE.out k' hk'
          subst e1
          have e2 := hk'.2.2.2
          rw [HL.out, Nat.add_comm 4] at e2
          exact hg e2)
        have OPN := Lib.hid (fun (hg : Guarded (seg l (n - 14 - 9 * kk) (9 * kk + 4))) => show Opens l kk (partV l (seg l (n - 14 - 9 * kk) (9 * kk + 4)) ((n : Int) - 18 - 9 * (kk : Int) - toffs (seg l (n - 14 - 9 * kk) (9 * kk + 4)) kk)) from .inr ⟨NF.out, SEC.out hg, by rw [HL.out]⟩)
        generalize seg l (n - 14 - 9 * kk) (9 * kk + 4) = tt at *
        generalize cutA A c (n - 14 - 9 * kk) = At at *
        generalize c - (n - 14 - 9 * kk) = ct at *
        obtain ⟨N, hN⟩ : ∃ N, 9 * kk + 4 = N := ⟨_, rfl⟩
        rw [hN] at KK hs3 rtt hct KP'
        have HN := Lib.hid hN
        have RTT := Lib.hid (And.intro rtt dtt)
        clear hN rtt dtt
        go_wp2_with fail
        refine KK.out.mono ?_
        rintro e w4 ⟨r, hr, rfl, b4⟩
        have B4 := Lib.hid (up2 B3.out b4)
        have R4 := Lib.hid (RTT.out.1.below b4)
        cases r with
        | false =>
          have NS := Lib.hid (NSE.out (fun hg => by have := hr.2 hg; cases this))
          clear hr b4
          go_wp2
          go_ret2
          exact .inr ⟨⟨NF.out, fun k' hk' => NS.out k' hk'⟩, rfl, B4.out⟩
        | true =>
          have OP := Lib.hid (OPN.out (hr.1 rfl))
          clear hr b4
          go_wp2_with fail
          go_loopw [6, 7] (LensAt w4 kk tt) (fun _ i _ => kk - (intOf i).toNat)
          case atStart => exact ⟨rfl, 0, Nat.zero_le _, rfl, rfl⟩
          case round =>
            obtain ⟨rfl, j, hj, rfl, rfl⟩ := hrel
            by_cases hlt : j < kk
            · have hNN := HN.out
              have hs4 := fun W => run_cut At N ct (9 * j + 1) 4 (9 * (j : Int) + 1) (9 * (j : Int) + 5) (by omega) (by omega) (by omega) W
              have KG := Lib.hid (r7get_any w4 (cutA At ct (9 * j + 1)) 4 (ct - (9 * j + 1)) (seg tt (9 * j + 1) 4) (R4.out.cut hct (9 * j + 1) 4 (by omega)) (dig_seg RTT.out.2 _ _) (by omega))
              generalize cutA At ct (9 * j + 1) = Aj at *
              generalize ct - (9 * j + 1) = cj at *
              have hto := toffs_le RTT.out.2 j
              have hvl := val_seg_lt RTT.out.2 (9 * j + 1)
              have hs : toffs tt (j + 1) = toffs tt j + val (seg tt (9 * j + 1) 4) := rfl
              generalize val (seg tt (9 * j + 1) 4) = x1 at *
              generalize toffs tt j = a at *
              have HS := Lib.hid hs
              have b1 : (j : Int) < kk := by omega
              have w1' : IntKind.i64.wrap (x1 : Int) = (x1 : Int) := IntWalk.i64_in _ (by omega)
              clear hs hNN
              go_wp2_with fail
              refine KG.out.mono ?_
              rintro e w5 ⟨rfl, rfl⟩
              go_wp2_with fail
              exact ⟨⟨rfl, j + 1, by omega, by go_num, by rw [HS.out]; go_num⟩, by simp [intOf]; omega⟩
            · obtain rfl : j = kk := by omega
              have b1 : ¬ (j : Int) < j := by omega
              have hto := toffs_le RTT.out.2 j
              have KF := Lib.hid (KP'.out w4 B4.out ((n : Int) - 18 - 9 * (j : Int) - toffs tt j) (by omega) (by omega))
              generalize toffs tt j = a at *
              go_wp2_with fail
              refine KF.out.mono ?_
              rintro e w6 ⟨v6, xs6, rfl, o6, r6, b6⟩
              obtain ⟨A6, c6, rfl⟩ := own_form4 o6
              have Z := Lib.hid (And.intro (own_base4 o6 B4.out.size) (And.intro (r6.below b6) (up2 B4.out b6)))
              clear o6 r6 b6
              go_wp2
              go_ret2
              exact .inl ⟨j, _, _, xs6, OP.out, rfl, Z.out.1, Z.out.2.1, Z.out.2.2⟩
      · have g1 : ¬ (14 : Int) + 9 * (kk : Int) ≤ n := by omega
        have g1' : decide ((14 : Int) + 9 * (kk : Int) ≤ n) = false := by simp; omega
        have NS := Lib.hid (fun k' (hk' : Second l k') => h14 (by have e1 := ONE.out k' hk'; subst e1; have := hk'.1; rwa [HL.out] at this))
        go_wp2
        go_ret2
        exact .inr ⟨⟨NF.out, NS.out⟩, rfl, B3.out⟩
    · have NS := Lib.hid (fun k' (hk' : Second l k') => fix_no hno k' (by have e := hk'.2.2.1; rwa [HL.out] at e))
      have B3 := Lib.hid (up2 BB.out b3)
      clear hno b3
      go_wp2
      go_ret2
      exact .inr ⟨⟨NF.out, NS.out⟩, rfl, B3.out⟩
end Go.Proofs.Ytngambkbpdjddaa
