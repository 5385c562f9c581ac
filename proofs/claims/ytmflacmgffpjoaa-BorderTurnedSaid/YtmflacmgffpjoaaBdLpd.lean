/- Layer 12: the developers' Loops: of any table, and of none. -/
import Derived.Test.YtmflacmgffpjoaaBdMk
import Derived.Test.YtmflacmgffpjoaaBdLpP
import Derived.Test.YtmflacmgffpjoaaBdWlk
import Derived.WalkSpells
namespace Go.Proofs.Ytmflacmgffpjoaa
open Go.RowKit Go.Shelf

attribute [local go_sem] Oper.semAt_some

/-- What lies between two rounds of the outer loop: B: behind the map and its box. -/
def LpS (B bm bv : Nat) (w2 : World) (N : Int) (l : List Tr) (k : Nat) (o : Value) (ds : List Deferred) (W : World) : Prop :=
  ∃ LL, IsLoopsK N l k LL ∧ RowsOwn W B o (LL.map natsI) ∧ MapB W bm (natsI LL.flatten) ∧ Boxed W bv 69 (.map (some bm)) ∧ KeepX (fun b => b = bm) B w2 W ∧ MarksD B W ds
set_option maxHeartbeats 4000000 in
set_option maxRecDepth 100000 in
theorem bdloops_of (w : World) (p : Option Addr) (l : List Tr) (N : Int) (h : RT w p l) (hv : ∀ W, Below w.heap.size w W → Calls Try.prog 44 #[.pointer p] W (IntSame W N)) (hN : l = [] ∧ N = 0 ∨ Surf N l) (LL : List (List Nat)) (hL : IsLoops N l LL) :
    Calls Try.prog 19 #[.pointer p] w (RowsTold w (LL.map natsI)) := by
  refine (callsIn_wide (n := 7)).1 ?_
  obtain ⟨w1, hw1⟩ : ∃ w1, w.alloc (.map #[] 0) = w1 := ⟨_, rfl⟩
  obtain ⟨bm, hbm⟩ : ∃ bm, w.heap.size = bm := ⟨_, rfl⟩
  obtain ⟨w2, hw2⟩ : ∃ w2, w1.alloc (.cells #[.map (some bm)] 69) = w2 := ⟨_, rfl⟩
  obtain ⟨bv, hbv⟩ : ∃ bv, w1.heap.size = bv := ⟨_, rfl⟩
  have b1 : Below w.heap.size w w1 := by rw [← hw1]; exact (Below.refl _ w).alloc (Nat.le_refl _) _
  have b2 : Below w1.heap.size w1 w2 := by rw [← hw2]; exact (Below.refl _ w1).alloc (Nat.le_refl _) _
  have m1 : MapB w1 bm [] := by rw [← hw1, ← hbm]; exact MapB.made w
  have o2 : Boxed w2 bv 69 (.map (some bm)) := by rw [← hw2, ← hbv]; exact Boxed.new w1 _ _
  have m2 : MapB w2 bm [] := m1.kept (b2.block bm m1.lt)
  have KV := Lib.hid (hv w2 (up2 b1 b2))
  have HB := Lib.hid (And.intro (up2 b1 b2) (And.intro o2 (And.intro m2 (show w.heap.size ≤ bm ∧ bm < bv ∧ bv < w2.heap.size from ⟨by omega, by rw [← hbv]; exact m1.lt, o2.lt⟩))))
  have HH := Lib.hid h
  have HN := Lib.hid hN
  have HL := Lib.hid hL
  have hmm := @run_makeMap Try.prog
  clear b1 b2 m1 o2 m2 hv h hN hL
  refine callsIn_of_wp_marks Try.func19 rfl trivial ?_ rfl
  simp only [Try.ntmps19, List.size_toArray, List.length_cons, List.length_nil, Nat.reduceAdd, Nat.reduceSub, Array.replicate_succ, Array.replicate_zero, List.push_toArray, List.append_toArray, List.nil_append, List.cons_append]
  gi_wp2_with (refine ⟨trivial, ?_⟩; gi_at_call 44; refine (callsIn_wide.2 KV.out).mono ?_; rintro e w3 ⟨rfl, rfl⟩)
  refine wpIn_loop_ghost_k (fun gk a W => ∃ (ds : List Deferred) (u3 u5 u6 u7 u11 u12 u13 u14 u15 u16 u17 u18 u19 u20 u21 u22 u23 u24 u25 u26 u27 u28 u29 u30 u31 u32 u33 : Value), (∃ k : Nat, k ≤ N.toNat ∧ gk = N.toNat - k ∧ u11 = .int .i64 (k : Int) ∧ LpS w3.heap.size bm bv w3 N l k u3 ds W) ∧ a = { tmps := #[.pointer p, undef, .slice none 0 0, u3, .pointer (some ⟨bv, 0, none⟩), u5, u6, u7, .map (some bm), .pointer p, .int .i64 N, u11, u12, u13, u14, u15, u16, u17, u18, u19, u20, u21, u22, u23, u24, u25, u26, u27, u28, u29, u30, u31, u32, u33, undef], defers := ds }) N.toNat ?st ?rd
  case st =>
    (repeat apply Exists.intro)
    refine ⟨?_, rfl⟩
    exact ⟨0, Nat.zero_le _, by omega, rfl, [], IsLoopsK.nil N l, RowsOwn.nil _ _, HB.out.2.2.1, HB.out.2.1, KeepX.refl _ _ _, trivial⟩
  case rd =>
    intro gk a wr hinv
    obtain ⟨ds, u3, u5, u6, u7, u11, u12, u13, u14, u15, u16, u17, u18, u19, u20, u21, u22, u23, u24, u25, u26, u27, u28, u29, u30, u31, u32, u33, ⟨k, hk, rfl, rfl, KK, hKK, hrow, hmap, hbox, hkx, hmk⟩, rfl⟩ := hinv
    intro _ _ _ _
    have hN0 : 0 ≤ N := by
      rcases HN.out with ⟨_, e⟩ | hs
      · omega
      · exact hs.n0
    by_cases hlt : k < N.toNat
    case neg =>
      obtain rfl : k = N.toNat := by omega
      have b1 : decide (((N.toNat : Nat) : Int) < N) = false := decide_eq_false (by omega)
      obtain rfl : KK = LL := IsLoopsK.one hKK HL.out
      obtain ⟨Ao, co, rfl⟩ := hrow.form
      rw [List.length_map] at hrow
      have HR := Lib.hid (And.intro hrow (And.intro hkx hmk))
      clear hrow hmap hbox hkx hmk hKK hlt
      gi_wp2
      refine leaves_marks (B := w3.heap.size) (I := fun W => RowsOwn W w3.heap.size (.slice Ao KK.length co) (KK.map natsI) ∧ KeepX (fun b => b = bm) w3.heap.size w3 W) (fun W D hB hD hI => ⟨hI.1.putObj _ hD rfl, hI.2.trans (keepX_b (w := w3) (Nat.le_refl _) W D _ _ hB hD rfl rfl)⟩) (fun W hI => ?_) ds wr HR.out.2.2 ⟨HR.out.1, HR.out.2.1⟩
      refine ⟨_, results_tmp rfl _ _ _, Ao, KK.length, co, rfl, ?_, ?_⟩
      · have := (show RowsOwn W w.heap.size (.slice Ao (KK.map natsI).length co) (KK.map natsI) by rw [List.length_map]; exact hI.1.base HB.out.1.size).reads
        rwa [List.length_map] at this
      exact HB.out.1.trans (hI.2.below (n := w.heap.size) HB.out.1.size HB.out.1.size (fun b hb => by subst hb; exact HB.out.2.2.2.1))
    have hs : Surf N l := by
      rcases HN.out with ⟨_, e⟩ | hs
      · omega
      · exact hs
    have b1 : decide ((k : Int) < N) = true := decide_eq_true (by omega)
    have hfl := hKK.flat_len hs hk
    have hN1 := hs.n1
    have hlook := hmap.look (k : Int) (by refine WalkArith.wf_i64 ?_; omega)
    have hmem : decide ((k : Int) ∈ natsI KK.flatten) = decide (k ∈ KK.flatten) := decide_eq_decide.2 (by
      unfold natsI
      rw [List.mem_map]
      exact ⟨fun ⟨a, ha, e⟩ => by rw [show k = a by omega]; exact ha, fun hk => ⟨k, hk, rfl⟩⟩)
    rw [hmem] at hlook
    have cbv := hbox.cell
    by_cases hvis : k ∈ KK.flatten
    · rw [decide_eq_true hvis] at hlook
      have HREL := Lib.hid (show LpS w3.heap.size bm bv w3 N l (k + 1) u3 ds wr from ⟨KK, hKK.skip (hKK.seen hs hvis), hrow, hmap, hbox, hkx, hmk⟩)
      clear hrow hmap hbox hkx hmk hKK hmem hs hvis hfl
      gi_wp2
      gi_roundg (N.toNat - (k + 1))
      case measure => omega
      case rel => exact ⟨k + 1, by omega, rfl, by go_num, HREL.out⟩
    rw [decide_eq_false hvis] at hlook
    obtain ⟨w4, hw4⟩ : ∃ w4, wr.alloc (.cells #[.slice none 0 0] 40) = w4 := ⟨_, rfl⟩
    obtain ⟨bo, hbo⟩ : ∃ bo, wr.heap.size = bo := ⟨_, rfl⟩
    have b4 : Below wr.heap.size wr w4 := by rw [← hw4]; exact (Below.refl _ wr).alloc (Nat.le_refl _) _
    have o4 : Boxed w4 bo 40 (.slice none 0 0) := by rw [← hw4, ← hbo]; exact Boxed.new wr _ _
    have hbw : Below w.heap.size w wr := HB.out.1.trans (hkx.below (n := w.heap.size) HB.out.1.size HB.out.1.size (fun b hb => by subst hb; exact HB.out.2.2.2.1))
    obtain ⟨xs, hxs⟩ := walk_exists hs (k : Int)
    have hxw : xs.map wI = xs ∧ xs.length ≤ 4096 := by
      rcases hxs with ⟨_, rfl⟩ | ⟨_, L, hLp, rfl⟩
      · exact ⟨rfl, by simp⟩
      · have := loop_le hs hLp
        exact ⟨wI_nats this.2, by rw [natsI_len]; exact this.1⟩
    have hen : ∀ x ∈ xs, (fun x : Int => Value.int .i64 (wI x)) x = .int .i64 x := fun x hx => by
      obtain ⟨i, hi, rfl⟩ := List.mem_iff_getElem.1 hx
      have := congrArg (fun a => a[i]?) hxw.1
      rw [List.getElem?_map, List.getElem?_eq_getElem hi] at this
      show Value.int .i64 (wI xs[i]) = _
      rw [Option.some.inj this]
    have K := Lib.hid (bdwalk_of (fun x => .int .i64 (wI x)) w p l HH.out N (.inr hs) (k : Int) xs hxs hen w4 (up2 hbw b4))
    have hmap4 : MapB w4 bm (natsI KK.flatten) := hmap.kept (b4.block bm hmap.lt)
    have hbox4 : Boxed w4 bv 69 (.map (some bm)) := (b4.block bv hbox.lt).trans hbox
    have H4 := Lib.hid (And.intro b4 (And.intro o4 (And.intro hmap4 hbox4)))
    have HX := Lib.hid (And.intro hxs hxw)
    have HR := Lib.hid (And.intro hrow (And.intro hkx (And.intro hmk (And.intro hKK (And.intro hs hvis)))))
    have HBW := Lib.hid hbw
    clear b4 o4 hmap4 hbox4 hxs hxw hen hrow hmap hbox hkx hmk hKK hs hvis hbw hmem
    gi_wp2_with (refine ⟨trivial, ?_⟩; gi_at_call 24; refine (callsIn_wide.2 K.out).mono ?_; rintro e w5 ⟨lb, rfl, b5, hseq⟩)
    have o5 : Boxed w5 bo 40 (.slice none 0 0) := (b5.block bo H4.out.2.1.lt).trans H4.out.2.1
    have m5 : MapB w5 bm (natsI KK.flatten) := H4.out.2.2.1.kept (b5.block bm H4.out.2.2.1.lt)
    have v5 : Boxed w5 bv 69 (.map (some bm)) := (b5.block bv H4.out.2.2.2.lt).trans H4.out.2.2.2
    have hsz : w3.heap.size ≤ wr.heap.size := HR.out.2.1.size
    have hsz4 : wr.heap.size < w5.heap.size := by have := o5.lt; omega
    have hbm : w.heap.size ≤ bm ∧ bm < w3.heap.size ∧ bv < w3.heap.size ∧ bm ≠ bv := by have := HB.out.2.2.2; omega
    have hwb : w.heap.size ≤ wr.heap.size := HBW.out.size
    have B5 := Lib.hid b5
    clear b5 hlook cbv hmm
    refine wpIn_rangeFunc_ownG (F := Fence.wide) (n := 7) rfl (by decide) (gf := 45) (lb := lb) rfl trivial (enters_of Try.func45 (by kernel_rfl) rfl)
      (hseq (fun b => b = bm ∨ b = bo) w5.heap.size 6 (fun b hb => by have := H4.out.2.1.lt; rcases hb with rfl | rfl <;> omega) (Nat.le_refl _) (by decide)) (fun h k => h.trans k) (keepX_b (Nat.le_refl _)) (Below.refl _ _) (fun _ => rfl)
      (fun pre W => (∃ vo, Boxed W bo 40 vo ∧ W.ownsRow w5.heap.size 3 1 vo (pre.map wI).length (ints (pre.map wI)) ∧ (pre = [] → vo = .slice none 0 0)) ∧ Boxed W bv 69 (.map (some bm)) ∧ MapB W bm (natsI KK.flatten ++ pre.map wI) ∧ KeepX (fun b => b = bm ∨ b = bo) w5.heap.size w5 W ∧ KeepsFrom w3.heap.size w5 W)
      (fun _ _ _ => False)
      (OwnFrom.and (Own.from (holdsRow_own w5.heap.size bo 40 3 1 (fun pre : List Int => (pre.map wI).length) (fun pre => ints (pre.map wI)) (fun pre vo => pre = [] → vo = .slice none 0 0)) _) (OwnFrom.and (Own.from (boxed_own bv 69 (fun _ => .map (some bm))) _) (OwnFrom.and (mapB_own (fun pre => natsI KK.flatten ++ pre.map wI) (by omega)) (OwnFrom.and (ownFrom_keepX (Nat.le_refl _)) (ownFrom_keepsFrom (Nat.le_refl _))))))
      (fun _ _ _ _ _ hs _ _ => hs)
      ⟨⟨_, o5, World.ownsRow_nil _ _ _ _, fun _ => rfl⟩, v5, by simpa using m5, KeepX.refl _ _ _, KeepsFrom.refl _ _⟩
      (fun x => { tmps := #[.pointer p, undef, .slice none 0 0, u3, .pointer (some ⟨bv, 0, none⟩), .int .i64 (k : Int), .pointer (some ⟨bo, 0, none⟩), .int .i64 (wI x), .map (some bm), .pointer p, .int .i64 N, .int .i64 (k : Int), .bool true, .int .i64 (k : Int), .map (some bm), .int .i64 (k : Int), .bool false, .pointer p, .int .i64 (k : Int), .func (.func 45) #[] lb, .int .i64 (wI x), u21, u22, u23, u24, u25, u26, u27, u28, u29, u30, u31, u32, u33, undef], defers := [] }) ?assign ?body ?done ?stop
    case assign =>
      intro l0 x W K hK
      gi_wp2
      exact hK
    case body =>
      rintro l0 pre x W ⟨⟨vo, hv, hrow9, _⟩, hbx, hmp, hkx9, hkf⟩ hNl
      obtain ⟨y, hy⟩ : ∃ y, wI x = y := ⟨_, rfl⟩
      have hpre : (pre ++ [x]).map wI = pre.map wI ++ [y] := by rw [List.map_append, ← hy]; rfl
      have hyw : (Lit.int .i64 y).wf = true := by rw [← hy]; exact wI_wf x
      have hyl : (pre.map wI).length ≤ 4096 := by have := HX.out.2.2; rw [List.length_map]; omega
      obtain ⟨ys, hys⟩ : ∃ ys, pre.map wI = ys := ⟨_, rfl⟩
      rw [hys] at hrow9 hmp hpre hyl
      have HPRE := Lib.hid hpre
      rw [hy]
      obtain ⟨W5, hput, hmp5, hg5⟩ := hmp.put y hyw (by unfold maxLen; rw [List.length_append, natsI_len]; omega)
      have hv5 : Boxed W5 bo 40 vo := hv.kept hg5 (fun e => by injection e with e; exact hmp.not_box hv e)
      have hbx5 : Boxed W5 bv 69 (.map (some bm)) := hbx.kept hg5 (fun e => by injection e with e; exact hmp.not_box hbx e)
      have hrow5 := hrow9.kept hg5 (.inr (hmp.not_row hrow9).symm)
      have hsW : w5.heap.size ≤ W.heap.size := hkx9.size
      have hsW5 : w5.heap.size ≤ W5.heap.size := Nat.le_trans hsW hg5.size
      have kf5 : KeepsFrom w3.heap.size W W5 := KeepsFrom.of_grownBy hg5 (fun j e => by cases e; omega)
      have kx5 : KeepX (fun b => b = bm ∨ b = bo) w5.heap.size W W5 := keepX_grown (.inl rfl) hg5
      have cbv := hbx.cell
      have cbo := hv5.cell
      obtain ⟨Av, cv, rfl⟩ := ownK_form hrow5
      obtain ⟨n, hn⟩ : ∃ n, ys.length = n := ⟨_, rfl⟩
      rw [hn] at hv5 hrow5 hyl cbo
      have HW := Lib.hid (And.intro hv5 (And.intro hbx5 (And.intro hrow5 (And.intro hmp5 (And.intro kf5 (And.intro kx5 (And.intro hkx9 (And.intro hkf hn))))))))
      clear hv hrow9 hbx hmp hkx9 hkf hg5 hv5 hbx5 hmp5 kf5 kx5 hy hpre hyw hys hn hNl hrow5 hseq
      gi_wp2_with (gi_at_builtin; refine wplIn_snocI y HW.out.2.2.1 hsW5 (by omega) rfl (.tmp 23) (.tmp 25) rfl (by go_simp) rfl ?_)
      intro g9 c9 w9 gr9 own9
      have q9 : Boxed w9 bo 40 (.slice Av n cv) := (HW.out.1.alloc _).kept gr9 (HW.out.1.not_row (by decide) HW.out.2.2.1)
      have c9o := q9.cell
      have c9f := q9.frozen
      have CO := Lib.hid (collected (X := fun b => b = bm ∨ b = bo) (t := 40) (.inr rfl) (by decide) HW.out.1 HW.out.2.2.1 own9 gr9)
      clear q9 own9 gr9
      gi_wp2
      have k1 : KeepX (fun b => b = bm ∨ b = bo) w5.heap.size W _ := HW.out.2.2.2.2.2.1.trans CO.out.2.1
      have k2 : KeepsFrom w3.heap.size W _ := HW.out.2.2.2.2.1.trans (CO.out.1.from _)
      refine ⟨KeepsFrom.mono k2 (by omega), k1, ⟨⟨_, CO.out.2.2.1, ?_, fun e => absurd e (by simp)⟩, ?_, ?_, HW.out.2.2.2.2.2.2.1.trans k1, HW.out.2.2.2.2.2.2.2.1.trans k2⟩⟩
      · rw [HPRE.out, List.length_append, HW.out.2.2.2.2.2.2.2.2]; exact CO.out.2.2.2
      · exact (CO.out.2.1.far bv (by omega) HW.out.2.1.lt (by rintro (e | e) <;> omega)).trans HW.out.2.1
      · rw [HPRE.out, ← List.append_assoc]; exact HW.out.2.2.2.1.others CO.out.1
    case done =>
      rintro D zs W6 hD rfl ⟨⟨vo, hv, hrow6, hnil⟩, hbx, hmp, hkx6, hkf⟩ hKD
      have kw : KeepX (fun b => b = bm ∨ b = bo) w5.heap.size wr W6 := (KeepX.of_below H4.out.1).trans ((KeepX.of_below B5.out).trans hkx6)
      have hrows6 : RowsOwn W6 w3.heap.size u3 (KK.map natsI) := HR.out.1.far fun g o hg ho => (kw.far g (by have := (Array.getElem?_eq_some_iff.1 hg).1; omega) (Array.getElem?_eq_some_iff.1 hg).1 (by
        rintro (e | e)
        · subst e
          have hm := HR.out.2.1
          have h4 := H4.out.2.2.1
          rw [← H4.out.1.block g (Array.getElem?_eq_some_iff.1 hg).1] at hg
          rw [h4.no_cells hg] at ho; cases ho
        · have := (Array.getElem?_eq_some_iff.1 hg).1; omega)).trans hg
      have kf6 : KeepsFrom w3.heap.size wr W6 := (keepsFrom_below H4.out.1).trans ((keepsFrom_below B5.out).trans hkf)
      have hmk6 := HR.out.2.2.1.push kf6 (by omega) (by omega) hKD
      have hkx' : KeepX (fun b => b = bm) w3.heap.size w3 W6 := HR.out.2.1.trans ⟨kw.os, kw.tape, kw.output, kw.size, fun b hb hlt hx => kw.far b (by omega) hlt (by rintro (e | e); exact hx e; omega)⟩
      rw [HX.out.2.1] at hrow6 hmp
      have HD := Lib.hid (And.intro hrows6 (And.intro hmk6 (And.intro hkx' (And.intro hbx hmp))))
      have cbo := hv.cell
      have hs6 : w3.heap.size ≤ W6.heap.size := hkx'.size
      clear kw hrows6 kf6 hmk6 hkx' hbx hmp hkx6 hkf hKD hseq
      rcases HX.out.1 with ⟨hneg, rfl⟩ | ⟨_, L, hLp, rfl⟩
      · obtain rfl := hnil rfl
        have HREL := Lib.hid (show LpS w3.heap.size bm bv w3 N l (k + 1) u3 ({ target := .collected D, args := #[] } :: ds) W6 from ⟨KK, HR.out.2.2.2.1.skip (not_least HR.out.2.2.2.2.1 hneg), HD.out.1, by have := HD.out.2.2.2.2; rwa [List.append_nil] at this, HD.out.2.2.2.1, HD.out.2.2.1, HD.out.2.1⟩)
        have ne0 : (binOp .neq 40 (.slice none 0 0) (.slice none 0 0)).run Try.prog W6 = .ok (.bool false) W6 := run_neq_slice_nil_any W6 40 3 none 0 0 0 0 Try.underlying40
        clear hneg hv hrow6 hnil
        gi_wp2
        gi_roundg (N.toNat - (k + 1))
        case measure => omega
        case rel => exact ⟨k + 1, by omega, rfl, by go_num, HREL.out⟩
      · rw [Int.toNat_natCast] at hLp
        have hne := hLp.chain.ne
        have HADD := Lib.hid (HR.out.2.2.2.1.add hLp (HR.out.2.2.2.1.fresh HR.out.2.2.2.2.1 HR.out.2.2.2.2.2 hLp))
        obtain ⟨g6, c6, rfl, _, _⟩ := hrow6.form (by rw [natsI_len]; exact hne)
        have hrx := ownK_base hrow6 (show w3.heap.size ≤ w5.heap.size by omega)
        have hkl := loopsK_le HR.out.2.2.2.1
        have hrl : (KK.map natsI).length ≤ 1000000 := by rw [List.length_map]; omega
        rw [natsI_len] at cbo hrx
        have HRX := Lib.hid (show W6.ownsRow w3.heap.size 3 1 (.slice (some ⟨g6, 0, none⟩) L.length c6) (natsI L).length (ints (natsI L)) by rw [natsI_len]; exact hrx)
        have ne0 : (binOp .neq 40 (.slice (some ⟨g6, 0, none⟩) L.length c6) (.slice none 0 0)).run Try.prog W6 = .ok (.bool true) W6 := run_neq_slice_nil_any W6 40 3 (some ⟨g6, 0, none⟩) L.length c6 0 0 Try.underlying40
        clear hv hrow6 hnil hLp hrx
        gi_wp2_with (gi_at_builtin; refine wplIn_snocR HD.out.1 HRX.out hs6 hrl rfl (.tmp 29) (.tmp 31) rfl (by go_simp) rfl ?_)
        intro v9 w9 gr9 own9
        have hk9 := rows_keeps HD.out.1 gr9
        have HREL := Lib.hid (show LpS w3.heap.size bm bv w3 N l (k + 1) v9 ({ target := .collected D, args := #[] } :: ds) w9 from ⟨KK ++ [L], HADD.out, by rw [List.map_append]; exact own9, by
          rw [List.flatten_append, show [L].flatten = L by simp]
          have := HD.out.2.2.2.2.others hk9.1
          unfold natsI at this ⊢
          rwa [List.map_append], ((hk9.2 (fun b => b = bm)).far bv (by omega) HD.out.2.2.2.1.lt (by omega)).trans HD.out.2.2.2.1, HD.out.2.2.1.trans (hk9.2 _), HD.out.2.1.kept (hk9.1.from _)⟩)
        clear gr9 own9 hk9
        gi_wp2
        gi_roundg (N.toNat - (k + 1))
        case measure => omega
        case rel => exact ⟨k + 1, by omega, rfl, by go_num, HREL.out⟩
    case stop =>
      rintro D c pre W _ _ h _
      exact h.elim
end Go.Proofs.Ytmflacmgffpjoaa
