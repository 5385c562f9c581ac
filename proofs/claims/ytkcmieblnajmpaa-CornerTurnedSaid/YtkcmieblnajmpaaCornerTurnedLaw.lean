/- CornerTurned: with triangles in another order, each turned so that another corner comes first, the corners across are those that they were. No condition. -/
import Derived.Test.YtkcmieblnajmpaaGN
import Derived.Test.YtkcmieblnajmpaaGM
import Derived.Test.YtkcmieblnajmpaaGP
import Derived.Test.YtkcmieblnajmpaaGS
namespace Go.Proofs.Ytkcmieblnajmpaa.cornerTurned
open Go.RowKit Go.ChangeShapes Go.WideShapes Go.ChangeAt

/-- The triangles of some corners. -/
def divs (fs : List Int) : List Int := fs.map fun c => ((c.toNat / 3 : Nat) : Int)
theorem divs_snoc (fs : List Int) (x : Int) : divs (fs ++ [x]) = divs fs ++ [((x.toNat / 3 : Nat) : Int)] := by simp [divs]
def TuSeen (w3 : World) (q n : Nat) (fs : List Int) (i : Value) (wr : World) : Prop := Below w3.heap.size w3 wr ∧ ∃ k : Nat, k ≤ n ∧ i = .int .i64 (k : Int) ∧ allIn (3 * (n : Int)) (fs.take k) ∧ (divs (fs.take k)).Nodup ∧ RowB wr q (marks n (divs (fs.take k)))
/-- The corners that come first, one of each triangle. -/
theorem firsts_of {l : List Tr} {fs : List Int} (hl : fs.length = l.length) (ha : allIn (3 * (l.length : Int)) fs) (hd : (divs fs).Nodup) : Firsts l (fs.map Int.toNat) := by
  refine ⟨by rw [List.length_map, hl], fun c hc => ?_, ?_⟩
  · obtain ⟨x, hx, rfl⟩ := List.mem_map.1 hc
    obtain ⟨h1, h2⟩ := ha x hx
    omega
  · have e : divs fs = ((fs.map Int.toNat).map (· / 3)).map fun (n : Nat) => (n : Int) := by
      unfold divs
      rw [List.map_map, List.map_map]
      rfl
    rw [e] at hd
    rw [List.nodup_iff_pairwise_ne] at *
    rw [List.pairwise_map] at hd
    exact hd.imp fun h e => h (by rw [e])
theorem pick_same (l : List Tr) (fs : List Int) : fs.map (pickT l) = (fs.map Int.toNat).map (pickN l) := by rw [List.map_map]; rfl
def TuTo (w9 : World) (qt n : Nat) (cs : List Nat) (i : Value) (wr : World) : Prop := Below w9.heap.size w9 wr ∧ ∃ k : Nat, k ≤ n ∧ i = .int .i64 (k : Int) ∧ ∃ xs : List Int, xs.length = 3 * n ∧ (∀ c : Nat, c < 3 * n → whereC cs c < k → xs.getD c 0 = ((sC cs c : Nat) : Int)) ∧ RowI wr qt xs
def TuRnd (w9 : World) (m : Nat) (i : Value) (wr : World) : Prop := ∃ k : Nat, k ≤ m ∧ i = .int .i64 (k : Int) ∧ Below w9.heap.size w9 wr
/-- The three corners of one more triangle. -/
theorem three_set {l : List Tr} {cs : List Nat} (hf : Firsts l cs) {xs : List Int} (hx : xs.length = 3 * l.length) {k : Nat} (hk : k < l.length) (hv : ∀ c : Nat, c < 3 * l.length → whereC cs c < k → xs.getD c 0 = ((sC cs c : Nat) : Int)) :
    ∀ c : Nat, c < 3 * l.length → whereC cs c < k + 1 → (((xs.set (cs.getD k 0) (3 * (k : Int))).set (nxt (cs.getD k 0)) (3 * (k : Int) + 1)).set (prv (cs.getD k 0)) (3 * (k : Int) + 2)).getD c 0 = ((sC cs c : Nat) : Int) := by
  intro c hc hw
  have hkc : k < cs.length := by rw [hf.len]; exact hk
  obtain ⟨s0, s1, s2⟩ := sC_vals hf hkc
  have hlt : cs.getD k 0 < 3 * l.length := hf.lt _ (by rw [List.getD_eq_getElem?_getD, List.getElem?_eq_getElem hkc]; exact List.getElem_mem hkc)
  obtain ⟨n1, n2, n3⟩ := nxt_ne (cs.getD k 0)
  have w0 := whereC_at hf hkc (c := cs.getD k 0) rfl
  have w1 := whereC_at hf hkc (c := nxt (cs.getD k 0)) (nxt_div _)
  have w2 := whereC_at hf hkc (c := prv (cs.getD k 0)) (prv_div _)
  obtain ⟨hi, hdd⟩ := whereC_spec hf hc
  rw [set_getDI (by rw [List.length_set, List.length_set, hx]; exact prv_lt hlt), set_getDI (by rw [List.length_set, hx]; exact nxt_lt hlt), set_getDI (by rw [hx]; exact hlt)]
  by_cases hwk : whereC cs c = k
  · rw [hwk] at hdd
    rcases three_corners hdd with e | e | e
    · rw [e, if_neg (Ne.symm n2), if_neg (Ne.symm n1), if_pos rfl, s0]; omega
    · rw [e, if_neg (Ne.symm n3), if_pos rfl, s1]; omega
    · rw [e, if_pos rfl, s2]; omega
  · have e2 : c ≠ prv (cs.getD k 0) := fun e => hwk (by rw [e]; exact w2)
    have e1 : c ≠ nxt (cs.getD k 0) := fun e => hwk (by rw [e]; exact w1)
    have e0 : c ≠ cs.getD k 0 := fun e => hwk (by rw [e]; exact w0)
    rw [if_neg e2, if_neg e1, if_neg e0]
    exact hv c hc (by omega)
set_option maxHeartbeats 16000000 in
set_option maxRecDepth 100000 in
theorem walk (N : Int) (A : Option Addr) (n c : Nat) (l : List Tr) (B : Option Addr) (mf df : Nat) (fs : List Int) (w : World) (_ : -9223372036854775808 ≤ N) (_ : N ≤ 9223372036854775807) (h : T3 w A n l)
    (_ : (B = none → df = 0) ∧ mf ≤ df) (_ : ∀ x ∈ fs, -9223372036854775808 ≤ x ∧ x ≤ 9223372036854775807) (ht : Reads w B mf (ints fs)) :
    Calls Try.prog 8 #[.agg #[.int .i64 N, .slice A n c], .slice B mf df] w (BoolTold10 w true) := by
  have HT := Lib.hid ht
  clear ht
  obtain rfl := h.1
  have HL := Lib.hid h
  have KA := Lib.hid awake10_true
  obtain ⟨w1, hw1⟩ : ∃ w1, w.alloc (.cells #[.int .i64 N, .slice A l.length c] 24) = w1 := ⟨_, rfl⟩
  obtain ⟨g0, hg0⟩ : ∃ g0, w.heap.size = g0 := ⟨_, rfl⟩
  have b1 : Below w.heap.size w w1 := by rw [← hw1]; exact (Below.refl _ w).alloc (Nat.le_refl _) _
  have x1 : Bx w1 g0 N A l.length c := by rw [← hw1, ← hg0]; exact Bx.made w N A l.length c
  have B1 := Lib.hid (And.intro b1 x1)
  clear b1 x1 h
  go_enter Try.func8, Try.ntmps8
  go_wp2_with fail
  refine (KA.out _).mono ?_
  rintro e w2 ⟨rfl, b2⟩
  have x2 := B1.out.2.below b2
  have e0 := x2.c0
  have e1 := x2.c1
  have B2 := Lib.hid (And.intro (up2 B1.out.1 b2) x2)
  have KL := Lib.hid (laid_any w2 N A l.length c l (HL.out.below B2.out.1))
  clear b2 x2
  go_wp2_with fail
  refine KL.out.mono ?_
  rintro e w3 ⟨b3, ⟨_, rfl⟩ | ⟨hgr, g, rfl, tab⟩⟩
  · have B3 := Lib.hid (up2 B2.out.1 b3)
    clear b3
    go_wp2_with fail
    go_ret
    exact ⟨rfl, B3.out⟩
  have x3 := B2.out.2.below b3
  have e0 := x3.c0
  have e1 := x3.c1
  have B3 := Lib.hid (And.intro (up2 B2.out.1 b3) x3)
  have TAB := Lib.hid tab
  have SF := Lib.hid tab.surf
  have hn40 : l.length ≤ 40 := Nat.le_of_not_lt fun h => hgr (.inl (by omega))
  have hN60 : N ≤ 60 := Int.not_lt.1 fun h => hgr (.inr (.inl h))
  clear b3 x3 tab hgr
  by_cases h40 : (40 : Int) < mf
  · have d40 : decide ((mf : Int) > 40) = true := by simpa using h40
    clear h40
    go_wp2_with fail
    go_ret
    exact ⟨rfl, B3.out.1⟩
  have d40 : decide ((mf : Int) > 40) = false := by simpa using h40
  clear h40
  by_cases hmf : mf = l.length
  case neg =>
    have d41 : ((mf : Int) != (l.length : Int)) = true := by simp; omega
    clear hmf
    go_wp2_with fail
    go_ret
    exact ⟨rfl, B3.out.1⟩
  subst hmf
  have hmb := fun W => makeB l.length (by omega) W
  obtain ⟨n, hn⟩ : ∃ n, l.length = n := ⟨_, rfl⟩
  have HN := Lib.hid hn
  obtain ⟨q, hq⟩ : ∃ q, w3.heap.size = q := ⟨_, rfl⟩
  obtain ⟨w4, hw4⟩ : ∃ w4, w3.alloc (zerB l.length) = w4 := ⟨_, rfl⟩
  have b4 : Below w3.heap.size w3 w4 := by rw [← hw4]; exact (Below.refl _ w3).alloc (Nat.le_refl _) _
  have r4 : RowB w4 q (marks l.length []) := by rw [← hw4, ← hq]; exact RowB.made w3 l.length
  have HQ := Lib.hid hq
  have S4 := Lib.hid (show TuSeen w3 q l.length fs (.int .i64 ((0 : Nat) : Int)) w4 from ⟨b4, 0, Nat.zero_le _, rfl, by rw [List.take_zero]; unfold allIn; simp, by simp [divs], r4⟩)
  have e3 : IntKind.i64.wrap (3 * (l.length : Int)) = 3 * (l.length : Int) := IntWalk.i64_in _ (by omega)
  clear b4 r4 hn
  go_wp2_with fail
  clear hw4 hq hmb e0 e1 e3
  go_loopw [44] (TuSeen w3 q l.length fs) (fun i _ => l.length - (intOf i).toNat)
  case atStart => exact S4.out
  case round =>
    obtain ⟨hb, k, hk, rfl, ha, hnd, hrow⟩ := hrel
    have HR := Lib.hid (And.intro hb (And.intro ha (And.intro hnd hrow)))
    clear hb ha hnd hrow
    by_cases hlt : k < l.length
    case pos =>
      have b1 : (k : Int) < l.length := by omega
      obtain ⟨ad, rfl, cf⟩ := (HT.out.below (up2 B3.out.1 HR.out.1)).int k hlt
      have E := take_succ_getD fs k (by rw [HT.out.len]; exact hlt)
      obtain ⟨x, hx⟩ : ∃ x, fs.getD k 0 = x := ⟨_, rfl⟩
      rw [hx] at cf E
      have HE := Lib.hid E
      have x5 := B3.out.2.below HR.out.1
      have e0 := x5.c0
      have e1 := x5.c1
      have e3 : IntKind.i64.wrap (3 * (l.length : Int)) = 3 * (l.length : Int) := IntWalk.i64_in _ (by omega)
      clear hx E x5
      by_cases g1 : x < 0
      · have d1 : decide (x < 0) = true := by simpa using g1
        clear g1
        go_wp2_with fail
        go_ret
        exact ⟨rfl, up2 B3.out.1 HR.out.1⟩
      have d1 : decide (x < 0) = false := by simpa using g1
      by_cases g2 : x < 3 * (l.length : Int)
      case neg =>
        have d2 : decide (x ≥ 3 * (l.length : Int)) = true := by simpa using g2
        clear g1 g2
        go_wp2_with fail
        go_ret
        exact ⟨rfl, up2 B3.out.1 HR.out.1⟩
      have d2 : decide (x ≥ 3 * (l.length : Int)) = false := by simpa using g2
      obtain ⟨xn, hxn⟩ : ∃ xn : Nat, x = (xn : Int) := ⟨x.toNat, by omega⟩
      subst hxn
      obtain ⟨t, htt⟩ : ∃ t : Nat, xn / 3 = t := ⟨_, rfl⟩
      have htl : t < l.length := by omega
      have td : Int.tdiv (xn : Int) 3 = (t : Int) := by rw [Int.tdiv_eq_ediv_of_nonneg (by omega)]; omega
      have tw : IntKind.i64.wrap (t : Int) = (t : Int) := IntWalk.i64_in _ (by omega)
      have t1 : (t : Int) < (l.length : Int) := by omega
      have t2 : 0 ≤ (t : Int) := by omega
      have r0 := HR.out.2.2.2.cell t (by rw [marks_len]; exact htl)
      rw [marks_at _ _ t htl] at r0
      have z0 := HR.out.2.2.2.frozen t
      have HG := Lib.hid (And.intro (show inN (3 * (l.length : Int)) (xn : Int) from ⟨by omega, g2⟩) htt)
      clear g1 g2 htt htl
      by_cases hm : (t : Int) ∈ divs (fs.take k)
      · have e9 : (divs (fs.take k)).contains (t : Int) = true := by simpa using hm
        rw [e9] at r0
        clear hm e9
        go_wp2_with fail
        go_ret
        exact ⟨rfl, up2 B3.out.1 HR.out.1⟩
      · have e9 : (divs (fs.take k)).contains (t : Int) = false := by simpa using hm
        rw [e9] at r0
        have HMm := Lib.hid hm
        have F3 := HR.out.2.2.2.set t true
        rw [marks_set] at F3
        have HF := Lib.hid F3
        clear hm e9 F3
        go_wp2_with fail
        have ed : divs (fs.take (k + 1)) = divs (fs.take k) ++ [(t : Int)] := by rw [HE.out, divs_snoc, Int.toNat_natCast, HG.out.2]
        refine ⟨⟨HR.out.1.setCell (p := ⟨q, t, none⟩) (by rw [HQ.out]; exact Nat.le_refl _) _, k + 1, by omega, by go_num, ?_, ?_, ?_⟩, by simp [intOf]; omega⟩
        · rw [HE.out]
          intro y hy
          rcases List.mem_append.1 hy with h | h
          · exact HR.out.2.1 y h
          · rw [List.mem_singleton.1 h]; exact HG.out.1
        · rw [ed]; exact nodup_snoc HR.out.2.2.1 HMm.out
        · rw [ed]; exact HF.out
    case neg =>
    obtain rfl : k = l.length := by omega
    have b1 : ¬ ((l.length : Nat) : Int) < (l.length : Int) := by omega
    have hfl : fs.length = l.length := HT.out.len
    have hall : allIn (3 * (l.length : Int)) fs := by have := HR.out.2.1; rwa [List.take_of_length_le (by omega)] at this
    have hdiv : (divs fs).Nodup := by have := HR.out.2.2.1; rwa [List.take_of_length_le (by omega)] at this
    have FI := Lib.hid (firsts_of hfl hall hdiv)
    obtain ⟨cs, hcs⟩ : ∃ cs, fs.map Int.toNat = cs := ⟨_, rfl⟩
    have HCS := Lib.hid hcs
    rw [hcs] at FI
    have PS := Lib.hid (pick_same l fs)
    rw [hcs] at PS
    have HA := Lib.hid hall
    have hat : ∀ j, j < l.length → fs.getD j 0 = ((cs.getD j 0 : Nat) : Int) := fun j hj => by
      rw [← hcs, List.getD_eq_getElem?_getD, List.getD_eq_getElem?_getD, List.getElem?_map, List.getElem?_eq_getElem (show j < fs.length by omega)]
      have := (hall (fs[j]'(by omega)) (List.getElem_mem _)).1
      simp only [Option.map_some, Option.getD_some]
      omega
    have HAT := Lib.hid hat
    have B5 := Lib.hid HR.out.1
    have x5 := B3.out.2.below B5.out
    have e0 := x5.c0
    have e1 := x5.c1
    have T5 := Lib.hid (TAB.out.below B5.out)
    obtain ⟨p, hp⟩ := isPin_exists (cs.map (pickN l))
    have SM := Lib.hid (surf_pick SF.out FI.out)
    have HWS := Lib.hid ((surf_iff hp).2 SM.out)
    have HP := Lib.hid hp
    have KR := Lib.hid (spick_ok wr N A B l.length c l.length df l fs (HL.out.below (up2 B3.out.1 B5.out)) (HT.out.below (up2 B3.out.1 B5.out)) (by omega) (by omega) (surf_fit SF.out) hall)
    rw [PS.out] at KR
    have X5 := Lib.hid x5
    clear hfl hall hdiv hcs hat hp x5
    go_wp2_with fail
    refine KR.out.mono ?_
    rintro e w6 ⟨_, rfl, A', c', rfl, own6, b6⟩
    have hrl : (cs.map (pickN l)).length = l.length := by rw [List.length_map, FI.out.len]
    have HRL := Lib.hid hrl
    rw [hrl] at own6 ⊢
    obtain ⟨w7, hw7⟩ : ∃ w7, w6.alloc (.cells #[.int .i64 N, .slice A' l.length c'] 24) = w7 := ⟨_, rfl⟩
    obtain ⟨g7, hg7⟩ : ∃ g7, w6.heap.size = g7 := ⟨_, rfl⟩
    have b7 : Below w6.heap.size w6 w7 := by rw [← hw7]; exact (Below.refl _ w6).alloc (Nat.le_refl _) _
    have x7 : Bx w7 g7 N A' l.length c' := by rw [← hw7, ← hg7]; exact Bx.made w6 N A' l.length c'
    have y0 := x7.c0
    have y1 := x7.c1
    have own7 := ownK_up own6 b7
    have B7 := Lib.hid (up2 b6 b7)
    have KN := Lib.hid (knew_any w7 N A' l.length c' (cs.map (pickN l)) p (T3.of_own own7) HP.out (by omega))
    clear own6 own7 b6 b7 x7 hrl e0 e1
    go_wp2_with fail
    refine KN.out.mono ?_
    rintro e w8 ⟨b8, ⟨hws, _⟩ | ⟨_, u, rfl, tab⟩⟩
    · exact absurd HWS.out hws
    have n0 : ((0 : Int) != 0) = false := rfl
    obtain ⟨w9, hw9⟩ : ∃ w9, w8.alloc (.cells #[.int .i64 0, .int .i64 0, .int .i64 0] 29) = w9 := ⟨_, rfl⟩
    have b9 : Below w8.heap.size w8 w9 := by rw [← hw9]; exact (Below.refl _ w8).alloc (Nat.le_refl _) _
    have U9 := Lib.hid (tab.below b9)
    have B9 := Lib.hid (up2 B7.out (up2 b8 b9))
    have T9 := Lib.hid (T5.out.below B9.out)
    have x9 := X5.out.below B9.out
    have HW9 := Lib.hid hw9
    have e0 : (w8.alloc (.cells #[.int .i64 0, .int .i64 0, .int .i64 0] 29)).cell? ⟨g0, 0, none⟩ = some (.int .i64 N) := by rw [hw9]; exact x9.c0
    have e1 : (w8.alloc (.cells #[.int .i64 0, .int .i64 0, .int .i64 0] 29)).cell? ⟨g0, 1, none⟩ = some (.slice A l.length c) := by rw [hw9]; exact x9.c1
    obtain ⟨m, hm⟩ : ∃ m, 3 * l.length = m := ⟨_, rfl⟩
    have e3 : IntKind.i64.wrap (3 * (l.length : Int)) = (m : Int) := by rw [IntWalk.i64_in _ (by omega)]; omega
    have HM := Lib.hid hm
    have hm120 : m ≤ 120 := by omega
    have hmi := fun W => makeI9 m (by omega) W
    obtain ⟨qt, hqt⟩ : ∃ qt, w9.heap.size = qt := ⟨_, rfl⟩
    have hs1 : (w8.alloc (.cells #[.int .i64 0, .int .i64 0, .int .i64 0] 29)).heap.size = qt := by rw [hw9]; exact hqt
    have hs2 : w8.heap.size + 1 = qt := by rw [← hs1, World.size_alloc]
    obtain ⟨w10, hw10⟩ : ∃ w10, w9.alloc (.cells (ints (List.replicate m 0)).toArray 3) = w10 := ⟨_, rfl⟩
    have b10 : Below w9.heap.size w9 w10 := by rw [← hw10]; exact (Below.refl _ w9).alloc (Nat.le_refl _) _
    have r10 : RowI w10 qt (List.replicate m 0) := by rw [← hw10, ← hqt]; exact heap_alloc_new w9 _
    have HQT := Lib.hid hqt
    have HW10 := Lib.hid hw10
    have S10 := Lib.hid (show TuTo w9 qt l.length cs (.int .i64 ((0 : Nat) : Int)) w10 from ⟨b10, 0, Nat.zero_le _, rfl, _, by rw [List.length_replicate, HM.out], fun _ _ h => absurd h (by omega), r10⟩)
    clear hm b8 b9 tab hw9 y0 y1 x9 b10 r10 hqt hw10
    simp only [wv]
    go_wp2_with fail
    simp only [HW9.out, HW10.out]
    clear hs1 hs2 hmi e3 e0 e1
    go_loopw [94] (TuTo w9 qt l.length cs) (fun i _ => l.length - (intOf i).toNat)
    case atStart => exact S10.out
    case round =>
      obtain ⟨hb, k, hk, rfl, xs, hx, hv, hrow⟩ := hrel
      have HR := Lib.hid (And.intro hb (And.intro hx (And.intro hv hrow)))
      clear hb hx hv hrow
      by_cases hlt : k < l.length
      case pos =>
        have b1 : (k : Int) < l.length := by omega
        have BW := Lib.hid (up2 B3.out.1 (up2 B5.out (up2 B9.out HR.out.1)))
        obtain ⟨ad, rfl, cf⟩ := (HT.out.below BW.out).int k hlt
        rw [HAT.out k hlt] at cf
        obtain ⟨x, hxk⟩ : ∃ x, cs.getD k 0 = x := ⟨_, rfl⟩
        have HXK := Lib.hid hxk
        rw [hxk] at cf
        have hxl : x < 3 * l.length := by rw [← hxk]; exact FI.out.lt _ (by rw [List.getD_eq_getElem?_getD, List.getElem?_eq_getElem (show k < cs.length by rw [FI.out.len]; exact hlt)]; exact List.getElem_mem _)
        have hc : IsC l.length (x : Int) := ⟨by omega, by omega⟩
        have KX := Lib.hid (show Calls Try.prog 22 #[.pointer (some ⟨g, 0, none⟩), .int .i64 (x : Int)] wr (IntSame wr (nxt x : Int)) from by
          have := (T9.out.below HR.out.1).next x
          rwa [show nxtI l.length x = (nxt x : Int) by unfold nxtI; rw [if_pos hc, Int.toNat_natCast]] at this)
        have KP := Lib.hid (show Calls Try.prog 23 #[.pointer (some ⟨g, 0, none⟩), .int .i64 (x : Int)] wr (IntSame wr (prv x : Int)) from by
          have := (T9.out.below HR.out.1).prev x
          rwa [show prvI l.length x = (prv x : Int) by unfold prvI; rw [if_pos hc, Int.toNat_natCast]] at this)
        have hnl := nxt_lt hxl
        have hpl := prv_lt hxl
        obtain ⟨nx, hnx⟩ : ∃ nx, nxt x = nx := ⟨_, rfl⟩
        obtain ⟨px, hpx⟩ : ∃ px, prv x = px := ⟨_, rfl⟩
        rw [hnx] at KX hnl
        rw [hpx] at KP hpl
        have HNP := Lib.hid (And.intro hnx hpx)
        have i0 : (x : Int) < (m : Int) := by have := HM.out; omega
        have i1 : (nx : Int) < (m : Int) := by have := HM.out; omega
        have i2 : (px : Int) < (m : Int) := by have := HM.out; omega
        have j0 : 0 ≤ (x : Int) := by omega
        have j1 : 0 ≤ (nx : Int) := by omega
        have j2 : 0 ≤ (px : Int) := by omega
        have u0 : IntKind.i64.wrap (3 * (k : Int)) = 3 * (k : Int) := IntWalk.i64_in _ (by omega)
        have u1 : IntKind.i64.wrap (3 * (k : Int) + 1) = 3 * (k : Int) + 1 := IntWalk.i64_in _ (by omega)
        have u2 : IntKind.i64.wrap (3 * (k : Int) + 2) = 3 * (k : Int) + 2 := IntWalk.i64_in _ (by omega)
        have y0 := HR.out.2.2.2.cell x (by rw [HR.out.2.1]; exact hxl)
        have v0 := HR.out.2.2.2.frozen x
        have s1 := HR.out.2.2.2.set x (3 * (k : Int))
        obtain ⟨W1, hW1⟩ : ∃ W1, wr.setCell ⟨qt, x, none⟩ (.int .i64 (3 * (k : Int))) = W1 := ⟨_, rfl⟩
        rw [hW1] at s1
        have y1 := s1.cell nx (by rw [List.length_set, HR.out.2.1]; exact hnl)
        have v1 := s1.frozen nx
        have s2 := s1.set nx (3 * (k : Int) + 1)
        obtain ⟨W2, hW2⟩ : ∃ W2, W1.setCell ⟨qt, nx, none⟩ (.int .i64 (3 * (k : Int) + 1)) = W2 := ⟨_, rfl⟩
        rw [hW2] at s2
        have y2 := s2.cell px (by rw [List.length_set, List.length_set, HR.out.2.1]; exact hpl)
        have v2 := s2.frozen px
        have s3 := s2.set px (3 * (k : Int) + 2)
        obtain ⟨W3, hW3⟩ : ∃ W3, W2.setCell ⟨qt, px, none⟩ (.int .i64 (3 * (k : Int) + 2)) = W3 := ⟨_, rfl⟩
        rw [hW3] at s3
        have hqw : w9.heap.size ≤ qt := by rw [HQT.out]; exact Nat.le_refl _
        have bW : Below w9.heap.size w9 W3 := by
          rw [← hW3, ← hW2, ← hW1]
          exact ((HR.out.1.setCell (p := ⟨qt, x, none⟩) hqw _).setCell (p := ⟨qt, nx, none⟩) hqw _).setCell (p := ⟨qt, px, none⟩) hqw _
        have HF := Lib.hid (And.intro bW s3)
        clear s1 s2 s3 bW hqw hxk hxl hc hnl hpl hnx hpx
        go_wp2_with fail
        refine KX.out.mono ?_
        rintro e w8' ⟨rfl, rfl⟩
        go_wp2_with fail
        refine KP.out.mono ?_
        rintro e w8' ⟨rfl, rfl⟩
        go_wp2_with fail
        refine ⟨⟨HF.out.1, k + 1, by omega, by go_num, _, ?_, ?_, HF.out.2⟩, by simp [intOf]; omega⟩
        · rw [List.length_set, List.length_set, List.length_set]; exact HR.out.2.1
        · have := three_set FI.out HR.out.2.1 hlt HR.out.2.2.1
          rwa [HXK.out, HNP.out.1, HNP.out.2] at this
      case neg =>
      obtain rfl : k = l.length := by omega
      have b1 : ¬ ((l.length : Nat) : Int) < (l.length : Int) := by omega
      have hvv : ∀ c : Nat, c < 3 * l.length → xs.getD c 0 = ((sC cs c : Nat) : Int) := fun c hc => HR.out.2.2.1 c hc (by have := (whereC_spec FI.out hc).1; rw [FI.out.len] at this; exact this)
      have HVV := Lib.hid hvv
      have BW := Lib.hid (up2 B3.out.1 (up2 B5.out (up2 B9.out HR.out.1)))
      obtain ⟨wq, hwq⟩ : ∃ wq, wr = wq := ⟨_, rfl⟩
      rw [hwq] at HR BW
      simp only [hwq]
      clear hvv hwq
      have TQ := Lib.hid (T9.out.below HR.out.1)
      have UQ := Lib.hid (U9.out.below HR.out.1)
      go_wp2_with fail
      go_loopw [123] (TuRnd wq m) (fun i _ => m - (intOf i).toNat)
      case atStart => exact ⟨0, Nat.zero_le _, rfl, Below.refl _ _⟩
      case round =>
        obtain ⟨k, hk, rfl, hb⟩ := hrel
        have HB := Lib.hid hb
        clear hb
        by_cases hlt : k < m
        case neg =>
          obtain rfl : k = m := by omega
          have b2 : ¬ (k : Int) < k := by omega
          go_wp2
          go_ret
          exact ⟨rfl, up2 BW.out HB.out⟩
        have b2 : (k : Int) < m := by omega
        have b3 : 0 ≤ (k : Int) := by omega
        have hkl : k < 3 * l.length := by rw [HM.out]; exact hlt
        have hc : IsC l.length (k : Int) := ⟨by omega, by omega⟩
        obtain ⟨hs1, hs2, _⟩ := sC_vtx FI.out hkl
        obtain ⟨sk, hsk⟩ : ∃ sk, sC cs k = sk := ⟨_, rfl⟩
        have hop := opp_pick SF.out FI.out hkl
        rw [hsk] at hs1 hs2 hop
        have hcu : IsC (cs.map (pickN l)).length (sk : Int) := by rw [List.length_map]; exact ⟨by omega, by omega⟩
        obtain ⟨vk, hvk⟩ : ∃ vk, vtx l k = vk := ⟨_, rfl⟩
        rw [hvk] at hs2
        obtain ⟨ov, hov⟩ : ∃ ov, oppC l k = ov := ⟨_, rfl⟩
        obtain ⟨xv, hxv⟩ : ∃ xv, oppC (cs.map (pickN l)) sk = xv := ⟨_, rfl⟩
        rw [hov, hxv] at hop
        have KO1 := Lib.hid (fun W (b : Below wq.heap.size wq W) => (show Calls Try.prog 24 #[.pointer (some ⟨g, 0, none⟩), .int .i64 (k : Int)] W (IntSame W ov) from by
          have := (TQ.out.below b).opp k
          rwa [show oppI l l.length k = ov by unfold oppI; rw [if_pos hc, Int.toNat_natCast, hov]] at this))
        have KO2 := Lib.hid (fun W (b : Below wq.heap.size wq W) => (show Calls Try.prog 24 #[.pointer (some ⟨u, 0, none⟩), .int .i64 (sk : Int)] W (IntSame W xv) from by
          have := (UQ.out.below b).opp sk
          rwa [show oppI (cs.map (pickN l)) (cs.map (pickN l)).length sk = xv by unfold oppI; rw [if_pos hcu, Int.toNat_natCast, hxv]] at this))
        have KV1 := Lib.hid (fun W (b : Below wq.heap.size wq W) => (show Calls Try.prog 21 #[.pointer (some ⟨u, 0, none⟩), .int .i64 (sk : Int)] W (IntSame W vk) from by
          have := (UQ.out.below b).vertex sk
          rwa [show vtxI (cs.map (pickN l)) (cs.map (pickN l)).length sk = vk by unfold vtxI; rw [if_pos hcu, Int.toNat_natCast, hs2]] at this))
        have KV2 := Lib.hid (fun W (b : Below wq.heap.size wq W) => (show Calls Try.prog 21 #[.pointer (some ⟨g, 0, none⟩), .int .i64 (k : Int)] W (IntSame W vk) from by
          have := (TQ.out.below b).vertex k
          rwa [show vtxI l l.length k = vk by unfold vtxI; rw [if_pos hc, Int.toNat_natCast, hvk]] at this))
        have HS := Lib.hid (fun W (b : Below wq.heap.size wq W) (j : Nat) (hj : j < 3 * l.length) => (show W.cell? ⟨qt, j, none⟩ = some (.int .i64 ((sC cs j : Nat) : Int)) from by
          have := (HR.out.2.2.2.below b).cell j (by rw [HR.out.2.1]; exact hj)
          rwa [HVV.out j hj] at this))
        have bd : Below wq.heap.size wq wr.drew := up2 HB.out (Reading.below ⟨1, rfl⟩)
        have hd := HS.out _ bd k hkl
        rw [hsk] at hd
        have HOP := Lib.hid hop
        clear hs1 hs2 hop hcu hvk hov hxv hc hsk hkl
        go_wp2_with fail
        refine wp_region_noPanic ?_
        refine wp_region_held_drew (S := fun w' => w'.cell? ⟨qt, k, none⟩ = some (.int .i64 (sk : Int))) (by kernel_rfl) hd (fun _ => ?_)
        refine wpAnyH_take (i := 0) (v := ?v0z1) rfl (by kernel_rfl) (by kernel_rfl) (by kernel_rfl) (fun _ _ _ h => h) (Or.inl ⟨by rfl, ?y0z1⟩) hd ?_
        case y0z1 => (intro w hSw; (try dsimp only at hSw); go_simp; try with_reducible rfl)
        simp only [Act.put, List.setIfInBounds_toArray, List.set_cons_zero, List.set_cons_succ, List.getElem_toArray, List.getElem_cons_zero]
        refine wpAnyH_take (i := 1) (v := ?v1z2) rfl (by kernel_rfl) (by kernel_rfl) (by kernel_rfl) (fun _ _ _ h => h) (Or.inl ⟨by rfl, ?y1z2⟩) hd ?_
        case y1z2 => (intro w hSw; (try dsimp only at hSw); go_simp; try with_reducible rfl)
        simp only [Act.put, List.setIfInBounds_toArray, List.set_cons_zero, List.set_cons_succ, List.getElem_toArray, List.getElem_cons_zero, List.getElem_cons_succ]
        refine wpAnyH_take (i := 3) (v := ?v3z3) rfl (by kernel_rfl) (by kernel_rfl) (by kernel_rfl) (fun _ _ _ h => h) (Or.inl ⟨by rfl, ?y3z3⟩) hd ?_
        case y3z3 => (intro w hSw; (try dsimp only at hSw); go_simp; try with_reducible rfl)
        simp only [Act.put, List.setIfInBounds_toArray, List.set_cons_zero, List.set_cons_succ, List.getElem_toArray, List.getElem_cons_zero, List.getElem_cons_succ]
        refine wpAnyH_take (i := 4) (v := ?v4z4) rfl (by kernel_rfl) (by kernel_rfl) (by kernel_rfl) (fun _ _ _ h => h) (Or.inl ⟨by rfl, ?y4z4⟩) hd ?_
        case y4z4 => (intro w hSw; (try dsimp only at hSw); go_simp; try with_reducible rfl)
        simp only [Act.put, List.setIfInBounds_toArray, List.set_cons_zero, List.set_cons_succ, List.getElem_toArray, List.getElem_cons_zero, List.getElem_cons_succ]
        refine wpAnyH_take (i := 5) (v := ?v5z5) rfl (by kernel_rfl) (by kernel_rfl) (by kernel_rfl) (fun _ _ _ h => h) (Or.inl ⟨by rfl, ?y5z5⟩) hd ?_
        case y5z5 => (intro w hSw; (try dsimp only at hSw); go_simp; try with_reducible rfl)
        simp only [Act.put, List.setIfInBounds_toArray, List.set_cons_zero, List.set_cons_succ, List.getElem_toArray, List.getElem_cons_zero, List.getElem_cons_succ]
        refine wpAnyH_take (i := 6) (v := ?v6z6) rfl (by kernel_rfl) (by kernel_rfl) (by kernel_rfl) (fun _ _ _ h => h) (Or.inl ⟨by rfl, ?y6z6⟩) hd ?_
        case y6z6 => (intro w hSw; (try dsimp only at hSw); go_simp; try with_reducible rfl)
        simp only [Act.put, List.setIfInBounds_toArray, List.set_cons_zero, List.set_cons_succ, List.getElem_toArray, List.getElem_cons_zero, List.getElem_cons_succ]
        refine wpAnyH_take (i := 7) (v := ?v7z7) rfl (by kernel_rfl) (by kernel_rfl) (by kernel_rfl) (fun _ _ _ h => h) (Or.inl ⟨by rfl, ?y7z7⟩) hd ?_
        case y7z7 => (intro w hSw; (try dsimp only at hSw); go_simp; try with_reducible rfl)
        simp only [Act.put, List.setIfInBounds_toArray, List.set_cons_zero, List.set_cons_succ, List.getElem_toArray, List.getElem_cons_zero, List.getElem_cons_succ]
        refine wpAnyH_ready (rs := [2]) (by kernel_rfl) (by simp) ?_
        refine AllReadyH.cons rfl (fun K hK => ?_) AllReadyH.nil
        rw [if_pos (by rfl)]
        go_wp2_with fail
        refine (KO1.out _ bd).mono ?_
        rintro e v9 ⟨rfl, rfl⟩
        go_wp2_with fail
        refine hK.out _ _ (hd) (fun _ => ?_)
        clear hK K
        try simp only [Act.put, List.setIfInBounds_toArray, List.set_cons_zero, List.set_cons_succ, List.getElem_toArray, List.getElem_cons_zero, List.getElem_cons_succ]
        refine wpAnyH_ready (rs := [8]) (by kernel_rfl) (by simp) ?_
        refine AllReadyH.cons rfl (fun K hK => ?_) AllReadyH.nil
        rw [if_pos (by rfl)]
        go_wp2_with fail
        refine (KO2.out _ bd).mono ?_
        rintro e v9 ⟨rfl, rfl⟩
        go_wp2_with fail
        refine hK.out _ _ (hd) (fun _ => ?_)
        clear hK K
        try simp only [Act.put, List.setIfInBounds_toArray, List.set_cons_zero, List.set_cons_succ, List.getElem_toArray, List.getElem_cons_zero, List.getElem_cons_succ]
        refine wpAnyH_take (i := 9) (v := ?v9z8) rfl (by kernel_rfl) (by kernel_rfl) (by kernel_rfl) (fun _ _ _ h => h) (Or.inl ⟨by rfl, ?y9z8⟩) (hd) ?_
        case y9z8 => (intro w hSw; (try dsimp only at hSw); go_simp; try with_reducible rfl)
        simp only [Act.put, List.setIfInBounds_toArray, List.set_cons_zero, List.set_cons_succ, List.getElem_toArray, List.getElem_cons_zero, List.getElem_cons_succ]
        refine wpAnyH_take (i := 10) (v := ?v10z9) rfl (by kernel_rfl) (by kernel_rfl) (by kernel_rfl) (fun _ _ _ h => h) (Or.inl ⟨by rfl, ?y10z9⟩) (hd) ?_
        case y10z9 => (intro w hSw; (try dsimp only at hSw); go_simp; try with_reducible rfl)
        simp only [Act.put, List.setIfInBounds_toArray, List.set_cons_zero, List.set_cons_succ, List.getElem_toArray, List.getElem_cons_zero, List.getElem_cons_succ]
        refine wpAnyH_done (by kernel_rfl) ?_ _
        refine NoPanic.normal ?_
        go_wp2_with fail
        refine (KV1.out _ bd).mono ?_
        rintro e w8' ⟨rfl, rfl⟩
        go_wp2_with fail
        refine (KV2.out _ bd).mono ?_
        rintro e w8' ⟨rfl, rfl⟩
        rcases HOP.out with ⟨h1, h2⟩ | ⟨o, ho, h1, h2⟩
        · subst h1 h2
          have g1 : decide ((-1 : Int) < 0) = true := rfl
          have g2 : decide ((-1 : Int) ≥ 0) = false := rfl
          go_wp2_with fail
          exact ⟨⟨k + 1, by omega, by go_num, bd⟩, by simp [intOf]; omega⟩
        · subst h1 h2
          have hd2 := HS.out _ bd o ho
          obtain ⟨so, hso⟩ : ∃ so, sC cs o = so := ⟨_, rfl⟩
          rw [hso] at hd2
          simp only [hso]
          have g1 : decide ((o : Int) < 0) = false := by simp
          have g2 : decide ((o : Int) ≥ 0) = true := by simp
          have g3 : (o : Int) < (m : Int) := by have := HM.out; omega
          have g4 : 0 ≤ (o : Int) := by omega
          clear hso ho
          go_wp2_with fail
          exact ⟨⟨k + 1, by omega, by go_num, bd⟩, by simp [intOf]; omega⟩
set_option maxRecDepth 100000 in
theorem lifted (os : Os) (started : os.Started) (H : Type) (enc : TypeId × Value → H) :
    ReturnsInHanded {} Try.checked os 8 .any (Rows.cornerTurnedSpec.pre6 enc Try.prog Try.f8 Rows.cornerTurnedRow.domain false) (Rows.cornerTurnedSpec.post enc Try.prog Try.f8 false true false false) := by
  refine returnsInHanded_of_change (C := Try.checked) own_knob started (by kernel_rfl) Try.func8
    (ChangeSpec.witness6 (enc := enc) (C := Try.checked) false ⟨#[], #[.agg #[.int .i64 0, .slice none 0 0], .slice none 0 0], []⟩ 8 (by kernel_rfl) (by kernel_rfl) (by kernel_rfl) (by kernel_rfl)) ?_
  intro W base args ds gs before hval0 hW hcnd _
  have hval : ∀ (j : Nat) t v, Try.f8.params[j]? = some t → args[j]? = some v → Value.okWide Try.prog W .any base t v := hval0
  have hW' := hW
  obtain ⟨p, q, hA0, hV, rfl, hfz, hnd⟩ := hW
  have hA : DataW.TrodAll enc Try.prog W 0 (fun _ => true) true Try.f8.params.toList args.toList ds p := hA0
  rw [Try.params8] at hA hval
  obtain ⟨v0, vs0, d0, ds0, p0, q0, hargs, rfl, rfl, h0, r0⟩ := trodAll_cons hA
  obtain ⟨v1, vs1, d1, ds1, p1, q1, rfl, rfl, rfl, h1, r1⟩ := trodAll_cons r0
  obtain ⟨rfl, rfl, rfl⟩ := trodAll_nil r1
  obtain rfl : args = #[v0, v1] := by cases args; simp_all
  obtain ⟨rfl, rfl⟩ := trodVars_none hV
  have lt0 : ∀ x ∈ p0, x.block < W.heap.size := by obtain ⟨m, hm⟩ := h0; exact DataW.trod_lt m _ _ _ hm
  obtain ⟨N0, a0, len0, cap0, xs0, rfl, hN0, hr0⟩ := arg_soup (hval 0 24 v0 rfl rfl) h0
  obtain ⟨a1, len1, cap1, rfl⟩ := okWide_slice Try.underlying48 (hval 1 48 v1 rfl rfl)
  have lt1 : ∀ x ∈ p1, x.block < W.heap.size := by obtain ⟨m, hm⟩ := h1; exact DataW.trod_lt m _ _ _ hm
  obtain ⟨hc1, xs1, hx1, hr1⟩ := arg_ints h1
  clear hA0 hval0
  refine (walk N0 a0 len0 cap0 xs0 a1 len1 cap1 xs1 W hN0.1 hN0.2 hr0 hc1 hx1 hr1).mono fun e W' ⟨he, bel⟩ => ?_
  subst he
  exact ⟨_, rfl, _, _, _, [], _, [], hW', trodAll_mk1 (shut_bool Try.underlying4 _), (trodAll_cons_mk (Below.trod laid_out (by kernel_rfl) (of_decide_eq_true (by kernel_rfl)) h0 bel lt0) (trodAll_cons_mk (Below.trod laid_out (by kernel_rfl) (of_decide_eq_true (by kernel_rfl)) h1 bel lt1) trodAll_mk0)), rfl, bel.frame _, fun h => by cases h⟩

theorem over : Rows.cornerTurnedRow.holds Try.pinned (OpenSpec.ofChange Rows.cornerTurnedSpec) :=
  OpenClaim.holds_of_wide 8 Try.f8 rfl rfl rfl rfl rfl rfl rfl ⟨rfl, rfl, rfl, rfl, rfl⟩ rfl rfl rfl rfl rfl (by kernel_rfl) Try.func8 (by kernel_rfl)
    (of_decide_eq_true (by kernel_rfl)) (by unfold Func.isWrapper; first | (rw [if_pos (by decide +kernel)]; kernel_rfl) | (rw [if_neg (by decide +kernel)]; exact ⟨rfl, rfl⟩))
    (fun os started H enc _ => lifted os started H enc)

theorem proved : Rows.CornerTurnedSaid := over
end Go.Proofs.Ytkcmieblnajmpaa.cornerTurned
