/- The document's parts (layer 7). -/
import Derived.Test.YtngambkbpdjddaaBoxRefO
namespace Go.Proofs.Ytngambkbpdjddaa
open Go.RowKit

theorem Try.infoRPart : (Try.prog.info? 72).map (fun i => (i.zero, i.size, i.bytes)) = some (some (.agg #[.int .u8 0, .slice none 0 0, .int .i64 0, .bool false]), 4, 48) := by kernel_rfl
/-- Parts as the document has them, as cells; their data lie in memory that w has. -/
def RList (w : World) (P : Nat → PartV) (j : Nat) (xs : List Value) : Prop :=
  xs.length = j * 4 ∧ ∀ i, i < j → ∃ A c, xs[i * 4]? = some (.int .u8 (((P i).kind : Nat) : Int)) ∧ xs[i * 4 + 1]? = some (.slice A (P i).data.length c) ∧ xs[i * 4 + 2]? = some (.int .i64 (P i).at') ∧ xs[i * 4 + 3]? = some (.bool (P i).whole) ∧ Reads w A (P i).data.length (bts (P i).data)
theorem RList.snoc {w : World} {P : Nat → PartV} {j : Nat} {xs : List Value} (h : RList w P j xs) {A : Option Addr} {n c : Nat} {u0 u2 u3 : Value} (e0 : u0 = .int .u8 (((P j).kind : Nat) : Int)) (hn : n = (P j).data.length) (e2 : u2 = .int .i64 (P j).at') (e3 : u3 = .bool (P j).whole) (hr : Reads w A n (bts (P j).data)) :
    RList w P (j + 1) (xs ++ [u0, .slice A n c, u2, u3]) := by
  subst hn e0 e2 e3
  refine ⟨by rw [List.length_append, h.1]; show j * 4 + 4 = _; omega, fun i hi => ?_⟩
  rcases Nat.lt_or_ge i j with h1 | h1
  · obtain ⟨A', c', k0, k1, k2, k3, k4⟩ := h.2 i h1
    have hl := h.1
    exact ⟨A', c', by rw [List.getElem?_append_left (by omega)]; exact k0, by rw [List.getElem?_append_left (by omega)]; exact k1, by rw [List.getElem?_append_left (by omega)]; exact k2, by rw [List.getElem?_append_left (by omega)]; exact k3, k4⟩
  · obtain rfl : i = j := by omega
    have hl := h.1
    exact ⟨A, c, by rw [List.getElem?_append_right (by omega), show i * 4 - xs.length = 0 by omega]; rfl, by rw [List.getElem?_append_right (by omega), show i * 4 + 1 - xs.length = 1 by omega]; rfl, by rw [List.getElem?_append_right (by omega), show i * 4 + 2 - xs.length = 2 by omega]; rfl, by rw [List.getElem?_append_right (by omega), show i * 4 + 3 - xs.length = 3 by omega]; rfl, hr⟩
theorem low_num {s4 : List Nat} (hd : Dig s4) (hl : s4.length = 4) (d : List Nat) : s4 = low4 (crcSum d) ↔ crcSum d = leNum s4 := by
  constructor
  · intro e
    rw [e]
    exact (leNum_four _ (crcSum_lt _)).symm
  · intro e
    refine leNum_inj hd (dig_low4 _) (by rw [hl, length_low4]) ?_
    rw [← e]
    exact (leNum_four _ (crcSum_lt _)).symm
def RPAt (w : World) (k : Nat) (P : Nat → PartV) (F : Int) (t : List Nat) (v i f : Value) (wr : World) : Prop :=
  ∃ (j : Nat) (xs : List Value), j ≤ k ∧ i = .int .i64 (j : Int) ∧ f = .int .i64 (F + toffs t j) ∧ wr.ownsRow w.heap.size 72 4 v j xs ∧ RList w P j xs ∧ Below w.heap.size w wr
def RPartsTold (w : World) (k : Nat) (P : Nat → PartV) (e : Ending) (w' : World) : Prop :=
  ∃ v xs, e = .returned v ∧ w'.ownsRow w.heap.size 72 4 v k xs ∧ RList w P k xs ∧ Below w.heap.size w w'
theorem own_up4 {W W' : World} {B n : Nat} {t : TypeId} {v : Value} {xs : List Value} (h : W.ownsRow B t 4 v n xs) (b : Below W.heap.size W W') : W'.ownsRow B t 4 v n xs := by
  refine ⟨h.1, ?_⟩
  rcases h.2 with h1 | ⟨p, cap, cur, h1, hp, hh, h3⟩
  · exact .inl h1
  · exact .inr ⟨p, cap, cur, h1, hp, (b.block p (heap_lt hh)).trans hh, h3⟩
theorem own_form4 {W : World} {B n : Nat} {t : TypeId} {v : Value} {xs : List Value} (h : W.ownsRow B t 4 v n xs) : ∃ A c, v = .slice A n c := by
  rcases h.2 with ⟨h1, h2⟩ | ⟨p, cap, cur, h1, _⟩
  · exact ⟨none, 0, by rw [h1, h2]⟩
  · exact ⟨_, _, h1⟩

theorem own_lt4 {W : World} {B n : Nat} {t : TypeId} {v : Value} {xs : List Value} (h : W.ownsRow B t 4 v n xs) (q : Nat) (hq : v.ownBlock = some q) : B ≤ q := by
  rcases h.2 with ⟨h1, _⟩ | ⟨p, cap, cur, h1, hp, _⟩
  · subst h1; cases hq
  · subst h1
    injection hq with hq
    subst hq
    exact hp
theorem cells_of {W : World} {ad : Addr} {m : Nat} {xs : List Value} (h : Reads W (some ad) m xs) : ∀ j u, xs[j]? = some u → W.cell? (ad.add j) = some u := by
  intro j u hj
  obtain ⟨ad', he, hc⟩ := h.2 (by have := (List.getElem?_eq_some_iff.1 hj).1; have := h.1; omega)
  injection he with he
  subst he
  exact hc j u hj
theorem ones4 (a b c d : Value) (ha : a.oneCell' = true) (hb : b.oneCell' = true) (hc : c.oneCell' = true) (hd : d.oneCell' = true) : ∀ u ∈ [a, b, c, d], u.oneCell' = true := by
  intro u hu
  simp at hu
  rcases hu with rfl | rfl | rfl | rfl <;> assumption

set_option maxHeartbeats 12800000 in
set_option maxRecDepth 100000 in
theorem r7parts_any (w : World) (A : Option Addr) (n c : Nat) (l : List Nat) (At : Option Addr) (N ct k : Nat) (t : List Nat) (F : Int) (h : Reads w A n (bts l)) (hd : Dig l) (hc : n ≤ c) (hn : n ≤ 1000000) (ht : Reads w At N (bts t)) (hdt : Dig t) (hct : N ≤ ct) (hN : N = 9 * k + 4) (hk : k < 65536) (hF : -400000000000000000 ≤ F) (hF2 : F ≤ 400000000000000000) :
    Calls Try.prog 35 #[.slice A n c, .slice At N ct, .int .i64 F] w (RPartsTold w k (partV l t F)) := by
  obtain ⟨i0, hi, hz0, hz1, hz2⟩ := info_parts Try.infoRPart
  have HI := Lib.hid (And.intro hi (And.intro hz0 (And.intro hz1 hz2)))
  have HR := Lib.hid (And.intro h hd)
  have HT := Lib.hid (And.intro ht hdt)
  have hln := h.lenB
  have hlt' := ht.lenB
  obtain ⟨P, hP⟩ : ∃ P, partV l t F = P := ⟨_, rfl⟩
  have HP := Lib.hid (fun i => show P i = partV l t F i by rw [hP])
  rw [hP]
  have HN := Lib.hid (And.intro hN (And.intro hln hlt'))
  have hN2 : N ≤ 600000 := by omega
  clear h hd ht hdt hP hN hi hz0 hz1 hz2 hln hlt'
  go_enter Try.func35, Try.ntmps35
  go_wp2_with fail
  go_loopw [7, 8, 2] (RPAt w k P F t) (fun _ i _ _ => k - (intOf i).toNat)
  case atStart => exact ⟨0, [], Nat.zero_le _, rfl, by show _ = Value.int .i64 (F + 0); rw [Int.add_zero], ⟨rfl, .inl ⟨rfl, rfl⟩⟩, ⟨rfl, fun i hi => absurd hi (by omega)⟩, Below.refl _ _⟩
  case round =>
    obtain ⟨j, xs, hj, rfl, rfl, ho, hl, hb⟩ := hrel
    obtain ⟨Av, cv, rfl⟩ := own_form4 ho
    by_cases hlt : j < k
    · have hNN := HN.out.1
      have hln := HN.out.2.1
      have hlt9 := HN.out.2.2
      have rrow := (HT.out.1.cut hct (9 * j) 9 (by omega)).below hb
      have drow := dig_seg HT.out.2 (9 * j) 9
      have hs1 := fun W => run_cut At N ct (9 * j) 9 (9 * (j : Int)) (9 * (j : Int) + 9) (by omega) (by omega) (by omega) W
      have hcr : 9 ≤ ct - 9 * j := by omega
      generalize cutA At ct (9 * j) = Ar at *
      generalize ct - 9 * j = cr at *
      have hs2 := fun W => run_cut Ar 9 cr 1 4 1 5 rfl rfl (by omega) W
      have hs3 := fun W => run_tail Ar 9 cr 5 4 5 rfl rfl W
      have e1 : seg (seg t (9 * j) 9) 1 4 = seg t (9 * j + 1) 4 := seg_sub _ _ _ _ _ (by omega)
      have e5 : seg (seg t (9 * j) 9) 5 4 = seg t (9 * j + 5) 4 := seg_sub _ _ _ _ _ (by omega)
      have e0 : (seg t (9 * j) 9).getD 0 0 = t.getD (9 * j) 0 := by rw [seg, getD_take, if_pos (by omega), getD_drop, Nat.add_zero]
      have rg := rrow.cut hcr 1 4 (by omega)
      have rs := rrow.cut hcr 5 4 (by omega)
      rw [e1] at rg
      rw [e5] at rs
      have KG := Lib.hid (r7get_any wr (cutA Ar cr 1) 4 (cr - 1) _ rg (dig_seg HT.out.2 _ _) (by omega))
      have RS := Lib.hid rs
      have hcr5 : 4 ≤ cr - 5 := by omega
      generalize cutA Ar cr 1 = A1 at *
      generalize cr - 1 = c1 at *
      generalize cutA Ar cr 5 = A5 at *
      generalize cr - 5 = c5 at *
      obtain ⟨rb, roff, rfl, rcell⟩ := rrow.cellB (by omega)
      have kc := rcell 0 (by omega)
      rw [Nat.add_zero, e0] at kc
      have hto := toffs_le HT.out.2 j
      have hvl := val_seg_lt HT.out.2 (9 * j + 1)
      have hs : toffs t (j + 1) = toffs t j + val (seg t (9 * j + 1) 4) := rfl
      have hpj := HP.out j
      unfold partV at hpj
      have hl4 : (seg t (9 * j + 5) 4).length = 4 := length_seg _ _ _ (by omega)
      have LN := Lib.hid (fun d => low_num (dig_seg HT.out.2 (9 * j + 5) 4) hl4 d)
      have DS := Lib.hid (dig_seg HT.out.2 (9 * j + 5) 4)
      generalize t.getD (9 * j) 0 = x0 at *
      generalize val (seg t (9 * j + 1) 4) = x1 at *
      generalize seg t (9 * j + 5) 4 = s4 at *
      generalize toffs t j = a at *
      obtain ⟨F', hF'⟩ : ∃ F' : Int, F + (a : Int) = F' := ⟨_, rfl⟩
      rw [hF'] at hpj ⊢
      obtain ⟨V0, hV0⟩ : ∃ V : Int, V = x0 := ⟨_, rfl⟩
      obtain ⟨V1, hV1⟩ : ∃ V : Int, V = x1 := ⟨_, rfl⟩
      rw [← hV0] at kc
      rw [← hV1] at KG
      have bF : -500000000000000000 ≤ F' ∧ F' ≤ 900000000000000000 := by omega
      have bV : 0 ≤ V1 ∧ V1 < 4294967296 := by omega
      have t1 : 9 * (j : Int) + 4 < (N : Int) := by omega
      have w1 : IntKind.i64.wrap V1 = V1 := IntWalk.i64_in _ (by omega)
      have hblk := World.block_lt_of_cell? _ _ kc
      have HO := Lib.hid (And.intro ho (And.intro hl hb))
      have HS := Lib.hid (And.intro hs (And.intro hF' (And.intro hV0 (And.intro hV1 hpj))))
      have hj2 : j < 65536 := by omega
      have HV1 := Lib.hid hV1
      clear hV1 ho hl hb hs hF' hV0 hpj rrow drow rg rs e1 e5 e0 rcell hl4 hNN hto
      go_wp2_with fail
      refine KG.out.mono ?_
      rintro e w2 ⟨rfl, rfl⟩
      have t2 : (0 : Int) < 9 := by omega
      go_wp2_with fail
      have X1 : (wr.alloc (.cells #[.int .u8 V0, .slice none 0 0, .int .i64 F', .bool false] 72)).heap[wr.heap.size]? = some (.cells #[.int .u8 V0, .slice none 0 0, .int .i64 F', .bool false] 72 (0, 0)) := heap_alloc_last wr _
      have b1' := mk_below wr (.cells #[.int .u8 V0, .slice none 0 0, .int .i64 F', .bool false] 72)
      have hpb9 : wr.heap.size < (wr.alloc (.cells #[.int .u8 V0, .slice none 0 0, .int .i64 F', .bool false] 72)).heap.size := heap_lt X1
      generalize wr.alloc (.cells #[.int .u8 V0, .slice none 0 0, .int .i64 F', .bool false] 72) = wp at *
      obtain ⟨pb, hpb⟩ : ∃ pb, wr.heap.size = pb := ⟨_, rfl⟩
      rw [hpb] at X1 hpb9 ⊢
      have HPB := Lib.hid hpb
      clear hpb kc
      have hpj := HS.out.2.2.2.2
      have hln := HN.out.2.1
      by_cases h0 : F' < 0
      · have PJ := Lib.hid (show P j = ⟨x0, [], F', false⟩ by
          have hw : ¬ Whole l F' x1 (leNum s4) := fun k => by have := k.1; omega
          rw [hpj, if_neg hw, decide_eq_false hw])
        have g1 : decide ((0 : Int) ≤ F') = false := by simp; omega
        have g1' : ¬ (0 : Int) ≤ F' := by omega
        clear hpj hln
        go_quiet (fail)
        have hblk9 : (wp.drewN nq).heap[pb]? = some (.cells #[.int .u8 V0, .slice none 0 0, .int .i64 F', .bool false] 72 (0, 0)) := X1
        have bwq : Below wr.heap.size wr (wp.drewN nq) := b1'.trans (Reading.below ⟨nq, rfl⟩)
        generalize wp.drewN nq = wq at *
        have y0 : wq.cell? ⟨pb, 0, none⟩ = some (.int .u8 V0) := by rw [cell_in hblk9]; rfl
        have y1 : wq.cell? ⟨pb, 1, none⟩ = some (.slice none 0 0) := by rw [cell_in hblk9]; rfl
        have y2 : wq.cell? ⟨pb, 2, none⟩ = some (.int .i64 F') := by rw [cell_in hblk9]; rfl
        have y3 : wq.cell? ⟨pb, 3, none⟩ = some (.bool false) := by rw [cell_in hblk9]; rfl
        have O9 := Lib.hid (own_up4 (own_up4 HO.out.1 bwq) (mk_below wq (.cells #[.int .u8 V0, .slice none 0 0, .int .i64 F', .bool false] 72)))
        have B9 := Lib.hid (up1 (up2 HO.out.2.2 bwq) (.cells #[.int .u8 V0, .slice none 0 0, .int .i64 F', .bool false] 72))
        have R9 := Lib.hid (Reads.of_block (xs := [.int .u8 V0, .slice none 0 0, .int .i64 F', .bool false]) (heap_alloc_new wq (.cells #[.int .u8 V0, .slice none 0 0, .int .i64 F', .bool false] 72)))
        have RL9 := Lib.hid (HO.out.2.1.snoc (A := none) (n := 0) (c := 0) (u0 := .int .u8 V0) (u2 := .int .i64 F') (u3 := .bool false) (by rw [PJ.out, HS.out.2.2.1]) (by rw [PJ.out]; rfl) (by rw [PJ.out]) (by rw [PJ.out]) (by rw [PJ.out]; exact ⟨rfl, fun h => absurd h (by omega)⟩))
        clear hblk9 bwq
        go_wp2_with (at_builtin; refine wpList_append_lies _ rfl (.tmp 72) (.tmp 74) 35 rfl w.heap.size 72 i0 (.agg #[.int .u8 0, .slice none 0 0, .int .i64 0, .bool false]) 4 48 Try.underlying35 HI.out.1 HI.out.2.1 HI.out.2.2.1 HI.out.2.2.2 rfl (by decide) (.slice Av j cv) j xs rfl O9.out ⟨wq.heap.size, 0, none⟩ 1 1 [.int .u8 V0, .slice none 0 0, .int .i64 F', .bool false] rfl rfl (cells_of R9.out) (ones4 _ _ _ _ rfl rfl rfl rfl) (by decide) ?b1p ?b2p ?b3p (wq.heap.size + 1) (by simp) ?_)
        case b1p => unfold maxLen; omega
        case b2p => omega
        case b3p => first | exact B9.out.size | (have hb9 := B9.out.size; simp at hb9; exact hb9)
        intro g9 cap9 w9 own9 gr9 hg9 hgl9
        have Z := Lib.hid (And.intro own9 (own_grown_below B9.out gr9 B9.out.size (fun q hq => own_lt4 O9.out q hq)))
        clear own9 gr9 hg9 hgl9
        go_wp2_with fail
        refine ⟨⟨j + 1, _, by omega, by go_num, ?_, Z.out.1, RL9.out, Z.out.2⟩, by simp [intOf]; omega⟩
        rw [HS.out.1, ← HS.out.2.1, HS.out.2.2.2.1]
        congr 1
        omega
      by_cases h1 : V1 ≤ (n : Int) - F'
      · obtain ⟨pp, hpp⟩ : ∃ pp : Nat, F' = pp := ⟨F'.toNat, by omega⟩
        have hv1 := HV1.out
        have hcut := HR.out.1.cut hc pp x1 (by omega)
        have hs4 := fun W => run_cut A n c pp x1 F' (F' + V1) hpp (by omega) (by omega) W
        have bw : Below w.heap.size w wp := up2 HO.out.2.2 b1'
        have KS := Lib.hid (r7sum_any wp.drew (cutA A c pp) x1 (c - pp) (seg l pp x1) ((hcut.below bw).drew) (dig_seg HR.out.2 _ _) (by omega))
        have KI := Lib.hid (r7is_any wp.drew A5 4 c5 s4 (crcSum (seg l pp x1)) ((RS.out.below b1').drew) DS.out (by have := crcSum_lt (seg l pp x1); omega))
        have WI := Lib.hid (show decide (s4 = low4 (crcSum (seg l pp x1))) = true ↔ Whole l F' x1 (leNum s4) by
          rw [decide_eq_true_iff, LN.out]
          constructor
          · intro e
            exact ⟨by omega, by omega, by rw [show F'.toNat = pp by omega]; exact e⟩
          · intro k
            have := k.2.2
            rwa [show F'.toNat = pp by omega] at this)
        have HPP := Lib.hid (And.intro hcut (show F'.toNat = pp by omega))
        generalize decide (s4 = low4 (crcSum (seg l pp x1))) = r at *
        generalize crcSum (seg l pp x1) = sc at *
        generalize cutA A c pp = Ac at *
        generalize c - pp = cc at *
        have g1 : decide ((0 : Int) ≤ F') = true := by simp; omega
        have g1' : (0 : Int) ≤ F' := by omega
        have g2 : decide (V1 ≤ (n : Int) - F') = true := by simp; omega
        have g3 : decide (F' ≤ (n : Int)) = true := by simp; omega
        have g3' : F' ≤ (n : Int) := by omega
        have u1 : IntKind.i64.wrap ((n : Int) - F') = (n : Int) - F' := IntWalk.i64_in _ (by omega)
        have u2 : IntKind.i64.wrap (F' + V1) = F' + V1 := IntWalk.i64_in _ (by omega)
        have hpj' := Lib.hid hpj
        clear hpj hln hpp hcut hv1 bw
        go_region_held3 (fun _ => True) (trivial) (first
          | (go_at_call 52; refine KS.out.mono ?_; rintro e w5 ⟨rfl, rfl⟩)
          | (go_at_call 51; refine KI.out.mono ?_; rintro e wi ⟨rfl, b5⟩)
          | fail)
        have bwi : Below wr.heap.size wr wi := b1'.trans ((Reading.below (B := wr.heap.size) (w' := wp.drew) ⟨1, rfl⟩).trans (b5.mono b1'.size))
        have hblki : wi.heap[pb]? = some (.cells #[.int .u8 V0, .slice none 0 0, .int .i64 F', .bool false] 72 (0, 0)) := (b5.block pb hpb9).trans X1
        cases r with
        | false =>
          have PJ := Lib.hid (show P j = ⟨x0, [], F', false⟩ by
            have hw : ¬ Whole l F' x1 (leNum s4) := fun k => by have := WI.out.2 k; cases this
            rw [hpj'.out, if_neg hw, decide_eq_false hw])
          obtain ⟨wq, hwq⟩ : ∃ wq, wq = wi := ⟨_, rfl⟩
          rw [← hwq] at bwi hblki ⊢
          have bwq := bwi
          have hblk9 := hblki
          clear hwq b5 bwi hblki
          have y0 : wq.cell? ⟨pb, 0, none⟩ = some (.int .u8 V0) := by rw [cell_in hblk9]; rfl
          have y1 : wq.cell? ⟨pb, 1, none⟩ = some (.slice none 0 0) := by rw [cell_in hblk9]; rfl
          have y2 : wq.cell? ⟨pb, 2, none⟩ = some (.int .i64 F') := by rw [cell_in hblk9]; rfl
          have y3 : wq.cell? ⟨pb, 3, none⟩ = some (.bool false) := by rw [cell_in hblk9]; rfl
          have O9 := Lib.hid (own_up4 (own_up4 HO.out.1 bwq) (mk_below wq (.cells #[.int .u8 V0, .slice none 0 0, .int .i64 F', .bool false] 72)))
          have B9 := Lib.hid (up1 (up2 HO.out.2.2 bwq) (.cells #[.int .u8 V0, .slice none 0 0, .int .i64 F', .bool false] 72))
          have R9 := Lib.hid (Reads.of_block (xs := [.int .u8 V0, .slice none 0 0, .int .i64 F', .bool false]) (heap_alloc_new wq (.cells #[.int .u8 V0, .slice none 0 0, .int .i64 F', .bool false] 72)))
          have RL9 := Lib.hid (HO.out.2.1.snoc (A := none) (n := 0) (c := 0) (u0 := .int .u8 V0) (u2 := .int .i64 F') (u3 := .bool false) (by rw [PJ.out, HS.out.2.2.1]) (by rw [PJ.out]; rfl) (by rw [PJ.out]) (by rw [PJ.out]) (by rw [PJ.out]; exact ⟨rfl, fun h => absurd h (by omega)⟩))
          clear hblk9 bwq
          go_wp2_with (at_builtin; refine wpList_append_lies _ rfl (.tmp 72) (.tmp 74) 35 rfl w.heap.size 72 i0 (.agg #[.int .u8 0, .slice none 0 0, .int .i64 0, .bool false]) 4 48 Try.underlying35 HI.out.1 HI.out.2.1 HI.out.2.2.1 HI.out.2.2.2 rfl (by decide) (.slice Av j cv) j xs rfl O9.out ⟨wq.heap.size, 0, none⟩ 1 1 [.int .u8 V0, .slice none 0 0, .int .i64 F', .bool false] rfl rfl (cells_of R9.out) (ones4 _ _ _ _ rfl rfl rfl rfl) (by decide) ?b1r ?b2r ?b3r (wq.heap.size + 1) (by simp) ?_)
          case b1r => unfold maxLen; omega
          case b2r => omega
          case b3r => first | exact B9.out.size | (have hb9 := B9.out.size; simp at hb9; exact hb9)
          intro g9 cap9 w9 own9 gr9 hg9 hgl9
          have Z := Lib.hid (And.intro own9 (own_grown_below B9.out gr9 B9.out.size (fun q hq => own_lt4 O9.out q hq)))
          clear own9 gr9 hg9 hgl9
          go_wp2_with fail
          refine ⟨⟨j + 1, _, by omega, by go_num, ?_, Z.out.1, RL9.out, Z.out.2⟩, by simp [intOf]; omega⟩
          rw [HS.out.1, ← HS.out.2.1, HS.out.2.2.2.1]
          congr 1
          omega
        | true =>
          have hw := WI.out.1 rfl
          have PJ := Lib.hid (show P j = ⟨x0, seg l pp x1, F', true⟩ ∧ (seg l pp x1).length = x1 ∧ Reads w Ac x1 (bts (seg l pp x1)) by
            refine ⟨?_, HPP.out.1.lenB, HPP.out.1⟩
            rw [hpj'.out, if_pos hw, decide_eq_true hw, HPP.out.2])
          have z3 : wi.cell? ⟨pb, 3, none⟩ = some (.bool false) := by rw [cell_in hblki]; rfl
          have z1 : (wi.setCell ⟨pb, 3, none⟩ (.bool true)).cell? ⟨pb, 1, none⟩ = some (.slice none 0 0) := by rw [cell_in (heap_set hblki 3 (.bool true))]; rfl
          have f3 := frozen_in hblki 3
          have f1 := frozen_in (heap_set hblki 3 (.bool true)) 1
          have hblk8 := heap_set (heap_set hblki 3 (.bool true)) 1 (.slice Ac x1 cc)
          have bw8 := (bwi.setCell (p := ⟨pb, 3, none⟩) (by show wr.heap.size ≤ pb; rw [← HPB.out]; exact Nat.le_refl _) (.bool true)).setCell (p := ⟨pb, 1, none⟩) (by show wr.heap.size ≤ pb; rw [← HPB.out]; exact Nat.le_refl _) (.slice Ac x1 cc)
          clear b5 bwi hblki hw
          go_upto_region 11 with fail
          have hblk9 : ((wi.setCell ⟨pb, 3, none⟩ (.bool true)).setCell ⟨pb, 1, none⟩ (.slice Ac x1 cc)).heap[pb]? = some (.cells #[.int .u8 V0, .slice Ac x1 cc, .int .i64 F', .bool true] 72 (0, 0)) := hblk8
          have bwq := bw8
          generalize (wi.setCell ⟨pb, 3, none⟩ (.bool true)).setCell ⟨pb, 1, none⟩ (.slice Ac x1 cc) = wq at *
          clear hblk8 bw8 z3 z1 f3 f1
          have y0 : wq.cell? ⟨pb, 0, none⟩ = some (.int .u8 V0) := by rw [cell_in hblk9]; rfl
          have y1 : wq.cell? ⟨pb, 1, none⟩ = some (.slice Ac x1 cc) := by rw [cell_in hblk9]; rfl
          have y2 : wq.cell? ⟨pb, 2, none⟩ = some (.int .i64 F') := by rw [cell_in hblk9]; rfl
          have y3 : wq.cell? ⟨pb, 3, none⟩ = some (.bool true) := by rw [cell_in hblk9]; rfl
          have O9 := Lib.hid (own_up4 (own_up4 HO.out.1 bwq) (mk_below wq (.cells #[.int .u8 V0, .slice Ac x1 cc, .int .i64 F', .bool true] 72)))
          have B9 := Lib.hid (up1 (up2 HO.out.2.2 bwq) (.cells #[.int .u8 V0, .slice Ac x1 cc, .int .i64 F', .bool true] 72))
          have R9 := Lib.hid (Reads.of_block (xs := [.int .u8 V0, .slice Ac x1 cc, .int .i64 F', .bool true]) (heap_alloc_new wq (.cells #[.int .u8 V0, .slice Ac x1 cc, .int .i64 F', .bool true] 72)))
          have RL9 := Lib.hid (HO.out.2.1.snoc (A := Ac) (n := x1) (c := cc) (u0 := .int .u8 V0) (u2 := .int .i64 F') (u3 := .bool true) (by rw [PJ.out.1, HS.out.2.2.1]) (by rw [PJ.out.1]; exact PJ.out.2.1.symm) (by rw [PJ.out.1]) (by rw [PJ.out.1]) (by rw [PJ.out.1]; exact PJ.out.2.2))
          clear hblk9 bwq
          go_wp2_with (at_builtin; refine wpList_append_lies _ rfl (.tmp 72) (.tmp 74) 35 rfl w.heap.size 72 i0 (.agg #[.int .u8 0, .slice none 0 0, .int .i64 0, .bool false]) 4 48 Try.underlying35 HI.out.1 HI.out.2.1 HI.out.2.2.1 HI.out.2.2.2 rfl (by decide) (.slice Av j cv) j xs rfl O9.out ⟨wq.heap.size, 0, none⟩ 1 1 [.int .u8 V0, .slice Ac x1 cc, .int .i64 F', .bool true] rfl rfl (cells_of R9.out) (ones4 _ _ _ _ rfl rfl rfl rfl) (by decide) ?b1s ?b2s ?b3s (wq.heap.size + 1) (by simp) ?_)
          case b1s => unfold maxLen; omega
          case b2s => omega
          case b3s => first | exact B9.out.size | (have hb9 := B9.out.size; simp at hb9; exact hb9)
          intro g9 cap9 w9 own9 gr9 hg9 hgl9
          have Z := Lib.hid (And.intro own9 (own_grown_below B9.out gr9 B9.out.size (fun q hq => own_lt4 O9.out q hq)))
          clear own9 gr9 hg9 hgl9
          go_wp2_with fail
          refine ⟨⟨j + 1, _, by omega, by go_num, ?_, Z.out.1, RL9.out, Z.out.2⟩, by simp [intOf]; omega⟩
          rw [HS.out.1, ← HS.out.2.1, HS.out.2.2.2.1]
          congr 1
          omega
      · have PJ := Lib.hid (show P j = ⟨x0, [], F', false⟩ by
          have hw : ¬ Whole l F' x1 (leNum s4) := fun k => by have := k.2.1; have := HV1.out; omega
          rw [hpj, if_neg hw, decide_eq_false hw])
        have g1 : decide ((0 : Int) ≤ F') = true := by simp; omega
        have g1' : (0 : Int) ≤ F' := by omega
        have g2 : decide (V1 ≤ (n : Int) - F') = false := by simp; omega
        have g2' : ¬ V1 ≤ (n : Int) - F' := h1
        have g2'' : (n : Int) - F' < V1 := by omega
        have u1 : IntKind.i64.wrap ((n : Int) - F') = (n : Int) - F' := IntWalk.i64_in _ (by omega)
        clear hpj hln
        go_quiet (fail)
        have hblk9 : (wp.drewN nq).heap[pb]? = some (.cells #[.int .u8 V0, .slice none 0 0, .int .i64 F', .bool false] 72 (0, 0)) := X1
        have bwq : Below wr.heap.size wr (wp.drewN nq) := b1'.trans (Reading.below ⟨nq, rfl⟩)
        generalize wp.drewN nq = wq at *
        have y0 : wq.cell? ⟨pb, 0, none⟩ = some (.int .u8 V0) := by rw [cell_in hblk9]; rfl
        have y1 : wq.cell? ⟨pb, 1, none⟩ = some (.slice none 0 0) := by rw [cell_in hblk9]; rfl
        have y2 : wq.cell? ⟨pb, 2, none⟩ = some (.int .i64 F') := by rw [cell_in hblk9]; rfl
        have y3 : wq.cell? ⟨pb, 3, none⟩ = some (.bool false) := by rw [cell_in hblk9]; rfl
        have O9 := Lib.hid (own_up4 (own_up4 HO.out.1 bwq) (mk_below wq (.cells #[.int .u8 V0, .slice none 0 0, .int .i64 F', .bool false] 72)))
        have B9 := Lib.hid (up1 (up2 HO.out.2.2 bwq) (.cells #[.int .u8 V0, .slice none 0 0, .int .i64 F', .bool false] 72))
        have R9 := Lib.hid (Reads.of_block (xs := [.int .u8 V0, .slice none 0 0, .int .i64 F', .bool false]) (heap_alloc_new wq (.cells #[.int .u8 V0, .slice none 0 0, .int .i64 F', .bool false] 72)))
        have RL9 := Lib.hid (HO.out.2.1.snoc (A := none) (n := 0) (c := 0) (u0 := .int .u8 V0) (u2 := .int .i64 F') (u3 := .bool false) (by rw [PJ.out, HS.out.2.2.1]) (by rw [PJ.out]; rfl) (by rw [PJ.out]) (by rw [PJ.out]) (by rw [PJ.out]; exact ⟨rfl, fun h => absurd h (by omega)⟩))
        clear hblk9 bwq
        go_wp2_with (at_builtin; refine wpList_append_lies _ rfl (.tmp 72) (.tmp 74) 35 rfl w.heap.size 72 i0 (.agg #[.int .u8 0, .slice none 0 0, .int .i64 0, .bool false]) 4 48 Try.underlying35 HI.out.1 HI.out.2.1 HI.out.2.2.1 HI.out.2.2.2 rfl (by decide) (.slice Av j cv) j xs rfl O9.out ⟨wq.heap.size, 0, none⟩ 1 1 [.int .u8 V0, .slice none 0 0, .int .i64 F', .bool false] rfl rfl (cells_of R9.out) (ones4 _ _ _ _ rfl rfl rfl rfl) (by decide) ?b1q ?b2q ?b3q (wq.heap.size + 1) (by simp) ?_)
        case b1q => unfold maxLen; omega
        case b2q => omega
        case b3q => first | exact B9.out.size | (have hb9 := B9.out.size; simp at hb9; exact hb9)
        intro g9 cap9 w9 own9 gr9 hg9 hgl9
        have Z := Lib.hid (And.intro own9 (own_grown_below B9.out gr9 B9.out.size (fun q hq => own_lt4 O9.out q hq)))
        clear own9 gr9 hg9 hgl9
        go_wp2_with fail
        refine ⟨⟨j + 1, _, by omega, by go_num, ?_, Z.out.1, RL9.out, Z.out.2⟩, by simp [intOf]; omega⟩
        rw [HS.out.1, ← HS.out.2.1, HS.out.2.2.2.1]
        congr 1
        omega
    · obtain rfl : j = k := by omega
      have hNN := HN.out.1
      have t1 : ¬ 9 * (j : Int) + 4 < (N : Int) := by omega
      have HO := Lib.hid (And.intro ho (And.intro hl hb))
      generalize F + (toffs t j : Int) = f at *
      clear ho hl hb hNN
      go_wp2
      go_ret
      exact ⟨_, xs, rfl, HO.out.1, HO.out.2.1, HO.out.2.2⟩
end Go.Proofs.Ytngambkbpdjddaa
