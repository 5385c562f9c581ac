/- CertifyTrue: a witness is true just if it is told. No condition. -/
import Derived.Test.YtelbmjbjpgcdaaaCrAwk
import Derived.Test.YtelbmjbjpgcdaaaArgSoup
import Derived.Deep.RegionHeld3
import Derived.Deep.Strs
namespace Go.Proofs.Ytelbmjbjpgcdaaa.certifyTrue
open Go.RowKit Go.ChangeShapes Go.WideShapes Go.ChangeAt

theorem arg_wit {H : Type} {enc : TypeId × Value → H} {W : World} {v : Value} {d : DataW H} {p : List MemPlace} {base : Nat} (hv : Value.okWide Try.prog W .any base 35 v)
    (h : DataW.Trod enc Try.prog W 0 (fun _ => true) true 35 v d p) : ∃ y : Wt, v = wv y := by
  obtain ⟨cs, rfl, hsz⟩ := okWide_struct Try.underlying35 hv
  obtain ⟨fuel, hf⟩ := h
  obtain ⟨x0, x1, x2, m, _, hl, h0, h1, h2⟩ := Deep.trod_struct3 Try.underlying35 hf
  have hc3 : Try.prog.cellsOf 35 = 3 := by kernel_rfl
  have hc0 : Try.prog.cellsOf 3 = 1 := by kernel_rfl
  rw [hc3] at hsz
  obtain ⟨cs⟩ := cs
  match cs, hsz with
  | [u0, u1, u2], _ =>
    have h0' : DataW.trod enc Try.prog W 0 (fun _ => true) true m 3 [u0] = some x0 := by
      have h := h0
      simp only [Value.cells, hc0] at h
      exact h
    have h1' : DataW.trod enc Try.prog W 0 (fun _ => true) true m 3 [u1] = some x1 := by
      have h := h1
      simp only [Value.cells, hc0] at h
      exact h
    have h2' : DataW.trod enc Try.prog W 0 (fun _ => true) true m 3 [u2] = some x2 := by
      have h := h2
      simp only [Value.cells, hc0] at h
      exact h
    obtain ⟨z0, e0, _, _⟩ := DataW.trod_int Try.underlying3 h0'
    obtain ⟨z1, e1, _, _⟩ := DataW.trod_int Try.underlying3 h1'
    obtain ⟨z2, e2, _, _⟩ := DataW.trod_int Try.underlying3 h2'
    simp at e0 e1 e2
    subst e0 e1 e2
    exact ⟨(z0, z1, z2), rfl⟩
theorem t3_of_wit {w : World} {B n c : Nat} {A : Option Addr} {l : List Wt} (h : w.ownsRow B 37 3 (.slice A n c) n (ints (flat3 l))) : T3 w A n l := by
  have hl : l.length = n := by have := h.1; rw [length_ints, length_flat3] at this; omega
  refine ⟨hl, fun hn => ?_⟩
  rcases h.2 with ⟨h1, h2⟩ | ⟨q, cap, cur, h1, hq, hh, hc, hm, hs, ht⟩
  · omega
  · injection h1 with h1 _ h3
    subst h1 h3
    refine ⟨q, 0, rfl, fun i hi => ?_⟩
    obtain ⟨a0, a1, a2⟩ := flat3_at l i (by omega)
    have hc := fun j (hj : j < n * 3) => h.cellAt j hj
    rw [hc _ (by omega), hc _ (by omega), hc _ (by omega)]
    simp only [ints_at, Nat.zero_add, Nat.mul_comm i 3, a0, a1, a2, Option.map_some, and_self]
theorem t3_first {w : World} {A : Option Addr} {n : Nat} {x : Wt} {r : List Wt} (h : T3 w A n (x :: r)) : ∃ b off, A = some ⟨b, off, none⟩ ∧ w.cell? ⟨b, off, none⟩ = some (.int .i64 x.1) ∧ w.cell? ⟨b, off + 1, none⟩ = some (.int .i64 x.2.1) ∧ w.cell? ⟨b, off + 2, none⟩ = some (.int .i64 x.2.2) := by
  obtain ⟨b, off, e, hc⟩ := h.2 (by rw [← h.1]; exact Nat.succ_pos _)
  obtain ⟨c0, c1, c2⟩ := hc 0 (by rw [← h.1]; exact Nat.succ_pos _)
  exact ⟨b, off, e, c0, c1, c2⟩

theorem take_mem {ws : List Wt} (y : Wt) {k : Nat} (hk : k < ws.length) : decide (y ∈ ws.take (k + 1)) = (decide (y ∈ ws.take k) || decide (y = ws.getD k z3)) := by
  have e : ws.getD k z3 = ws[k] := by simp [List.getD_eq_getElem?_getD, hk]
  rw [List.take_succ_eq_append_getElem hk, e, Bool.eq_iff_iff, Bool.or_eq_true, decide_eq_true_iff, decide_eq_true_iff, decide_eq_true_iff, List.mem_append, List.mem_singleton]
def Tu (w0 : World) (ws : List Wt) (y : Wt) (told i : Value) (wr : World) : Prop := ∃ k : Nat, k ≤ ws.length ∧ i = .int .i64 (k : Int) ∧ told = .bool (decide (y ∈ ws.take k)) ∧ Below w0.heap.size w0 wr
def Tv (w0 : World) (L : Nat) (i : Value) (wr : World) : Prop := ∃ k : Nat, k ≤ L ∧ i = .int .i64 (k : Int) ∧ Below w0.heap.size w0 wr
set_option maxHeartbeats 16000000 in
set_option maxRecDepth 100000 in
theorem walk (N : Int) (A : Option Addr) (n c : Nat) (l : List Tr) (y : Wt) (w : World) (_ : -9223372036854775808 ≤ N) (_ : N ≤ 9223372036854775807) (h : T3 w A n l) :
    Calls Try.prog 4 #[.agg #[.int .i64 N, .slice A n c], wv y] w (BoolTold9 w true) := by
  obtain ⟨p, hp⟩ := isPin_exists l
  have HL := Lib.hid h
  have HP := Lib.hid hp
  have KA := Lib.hid awake9_true
  have KG := Lib.hid (fun W => great9_any W N A n c)
  obtain ⟨y0, y1, y2⟩ := y
  obtain ⟨wa, hwa⟩ : ∃ wa, w.alloc (.cells #[.int .i64 N, .slice A n c] 24) = wa := ⟨_, rfl⟩
  obtain ⟨wb, hwb⟩ : ∃ wb, wa.alloc (.cells #[.int .i64 y0, .int .i64 y1, .int .i64 y2] 35) = wb := ⟨_, rfl⟩
  obtain ⟨g, hg⟩ : ∃ g, w.heap.size = g := ⟨_, rfl⟩
  obtain ⟨gw, hgw⟩ : ∃ gw, wa.heap.size = gw := ⟨_, rfl⟩
  have ba : Below w.heap.size w wa := by rw [← hwa]; exact (Below.refl _ w).alloc (Nat.le_refl _) _
  have bb : Below wa.heap.size wa wb := by rw [← hwb]; exact (Below.refl _ wa).alloc (Nat.le_refl _) _
  have X0 := Lib.hid (show Bx wb g N A n c from Bx.below (by rw [← hwa, ← hg]; exact Bx.made w N A n c) bb)
  have Y0 := Lib.hid (show wb.heap[gw]? = some (.cells #[.int .i64 y0, .int .i64 y1, .int .i64 y2] 35 (0, 0)) by rw [← hwb, ← hgw]; exact heap_alloc_new wa _)
  have B0 := Lib.hid (up2 ba bb)
  simp only [wv]
  clear h hp ba bb
  go_enter Try.func4, Try.ntmps4
  go_wp2_with fail
  clear hwa hwb
  refine (KA.out _).mono ?_
  rintro e w1 ⟨rfl, b1⟩
  have B1 := Lib.hid (up2 B0.out b1)
  have X1 := Lib.hid (X0.out.below b1)
  have Y1 := Lib.hid ((b1.block gw (heap_lt Y0.out)).trans Y0.out)
  clear b1
  have e0 := X1.out.c0
  have e1 := X1.out.c1
  go_wp2_with fail
  refine (KG.out _).mono ?_
  rintro e w2 ⟨rfl, b2⟩
  have B2 := Lib.hid (up2 B1.out b2)
  have X2 := Lib.hid (X1.out.below b2)
  have Y2 := Lib.hid ((b2.block gw (heap_lt Y1.out)).trans Y1.out)
  clear b2 e0 e1
  by_cases h40 : (40 : Int) < n ∨ 40 < N
  · simp only [decide_eq_true h40]
    clear h40
    go_wp2_with fail
    refine (KA.out _).mono ?_
    rintro e w3 ⟨rfl, b3⟩
    have B3 := Lib.hid (up2 B2.out b3)
    clear b3
    go_wp2_with fail
    go_ret
    exact ⟨rfl, B3.out⟩
  simp only [decide_eq_false h40]
  have hn : n ≤ 40 := by omega
  clear h40
  have e0 := X2.out.c0
  have e1 := X2.out.c1
  have L2 := Lib.hid (HL.out.below B2.out)
  have KR := Lib.hid (r9all_any w2 N A n c l p HP.out L2.out (by omega))
  have KT := Lib.hid (fun W (b : Below w2.heap.size w2 W) z => ctrue_any W N A n c l p z (L2.out.below b) HP.out (by omega))
  have KC := Lib.hid (fun W (b : Below w2.heap.size w2 W) => ccheck_any W N A n c l p (L2.out.below b) HP.out (by omega))
  have KL := Lib.hid (fun W (b : Below w2.heap.size w2 W) => call_any W N A n c l p (L2.out.below b) HP.out (by omega))
  have hkd := wits_kind p N l
  have hwl := wits_len p N l
  obtain ⟨ws, hws⟩ : ∃ ws, wits p N l = ws := ⟨_, rfl⟩
  rw [hws] at KR KT KC KL hkd hwl
  have HK := Lib.hid hkd
  clear hws hkd
  go_wp2_with fail
  refine KR.out.mono ?_
  rintro e w3 ⟨A3, c3, rfl, o3, b3⟩
  have T3' := Lib.hid (t3_of_wit o3)
  have B3 := Lib.hid b3
  clear o3 b3 e0 e1
  have Y3 := Lib.hid ((B3.out.block gw (heap_lt Y2.out)).trans Y2.out)
  go_wp2_with fail
  go_loopw [5, 20] (Tu w3 ws (y0, y1, y2)) (fun _ i _ => ws.length - (intOf i).toNat)
  case atStart => exact ⟨0, Nat.zero_le _, rfl, by simp, Below.refl _ _⟩
  case round =>
    obtain ⟨k, hk, rfl, rfl, hb⟩ := hrel
    have HB := Lib.hid hb
    clear hb
    by_cases hlt : k < ws.length
    · have b1 : (k : Int) < ws.length := by omega
      have tk := take_mem (y0, y1, y2) hlt
      obtain ⟨d, hd⟩ : ∃ d, decide ((y0, y1, y2) ∈ ws.take k) = d := ⟨_, rfl⟩
      rw [hd] at tk ⊢
      clear hd
      obtain ⟨b', off, rfl, hat⟩ := (T3'.out.below HB.out).2 (by omega)
      obtain ⟨c0, c1, c2⟩ := hat k hlt
      clear hat
      obtain ⟨x, hx⟩ : ∃ x, ws.getD k z3 = x := ⟨_, rfl⟩
      rw [hx] at c0 c1 c2 tk
      obtain ⟨x0, x1, x2⟩ := x
      have TK := Lib.hid tk
      clear tk hx
      obtain ⟨w4, hw4⟩ : ∃ w4, wr.alloc (.cells #[.int .i64 x0, .int .i64 x1, .int .i64 x2] 37) = w4 := ⟨_, rfl⟩
      have b4 : Below wr.heap.size wr w4 := by rw [← hw4]; exact (Below.refl _ wr).alloc (Nat.le_refl _) _
      obtain ⟨q, hq⟩ : ∃ q, wr.heap.size = q := ⟨_, rfl⟩
      have q0 : w4.heap[q]? = some (.cells #[.int .i64 x0, .int .i64 x1, .int .i64 x2] 37 (0, 0)) := by rw [← hw4, ← hq]; exact heap_alloc_new wr _
      have q1 := cell_in q0 0
      have q2 := cell_in q0 1
      have q3 := cell_in q0 2
      have HB4 := Lib.hid (up2 HB.out b4)
      have y4 := (HB4.out.block gw (heap_lt Y3.out)).trans Y3.out
      have r1 := cell_in y4 0
      have r2 := cell_in y4 1
      have r3 := cell_in y4 2
      simp only [List.getElem?_toArray, List.getElem?_cons_zero, List.getElem?_cons_succ] at q1 q2 q3 r1 r2 r3
      have gd := fun W op u v xs ys => run_eqGuard_agg (P := Try.prog) W op 35 u v xs ys Try.eqGuardType35
      have ql := eqlW
      clear b4 q0 y4
      cases d
      · by_cases hxy : (y0, y1, y2) = (x0, x1, x2)
        · have HT := Lib.hid (show decide ((y0, y1, y2) ∈ ws.take (k + 1)) = true by rw [TK.out, decide_eq_true hxy]; rfl)
          obtain ⟨rfl, rfl, rfl⟩ : y0 = x0 ∧ y1 = x1 ∧ y2 = x2 := by simpa using hxy
          go_wp2_with fail
          exact ⟨⟨k + 1, by omega, by go_num, (by simp [HT.out]), HB4.out⟩, by simp [intOf]; omega⟩
        · have HT := Lib.hid (show decide ((y0, y1, y2) ∈ ws.take (k + 1)) = false by rw [TK.out, decide_eq_false hxy]; rfl)
          have ne := eq3_no (x := (y0, y1, y2)) (y := (x0, x1, x2)) hxy
          simp only at ne
          have NE := Lib.hid ne
          clear ne hxy
          go_wp2_with fail
          exact ⟨⟨k + 1, by omega, by go_num, by rw [HT.out]; simp [NE.out], HB4.out⟩, by simp [intOf]; omega⟩
      · have HT := Lib.hid (show decide ((y0, y1, y2) ∈ ws.take (k + 1)) = true by rw [TK.out]; rfl)
        go_wp2_with fail
        exact ⟨⟨k + 1, by omega, by go_num, by rw [HT.out], HB4.out⟩, by simp [intOf]; omega⟩
    · obtain rfl : k = ws.length := by omega
      have b1 : ¬ (ws.length : Int) < ws.length := by omega
      rw [List.take_length]
      obtain ⟨d, hd⟩ : ∃ d, decide ((y0, y1, y2) ∈ ws) = d := ⟨_, rfl⟩
      rw [hd]
      have BB := Lib.hid (up2 B3.out HB.out)
      have y4 := (HB.out.block gw (heap_lt Y3.out)).trans Y3.out
      have r1 := cell_in y4 0
      have r2 := cell_in y4 1
      have r3 := cell_in y4 2
      simp only [List.getElem?_toArray, List.getElem?_cons_zero, List.getElem?_cons_succ] at r1 r2 r3
      have e0 := (X2.out.below BB.out).c0
      have e1 := (X2.out.below BB.out).c1
      have kt := KT.out wr BB.out (y0, y1, y2)
      rw [hd] at kt
      simp only [wv] at kt
      have KT1 := Lib.hid kt
      have hdd : (d == d) = true := by cases d <;> rfl
      clear kt y4 hd
      go_wp2_with fail
      refine KT1.out.mono ?_
      rintro e w5 ⟨rfl, b5⟩
      have B5 := Lib.hid (up2 BB.out b5)
      have e0 := (X2.out.below B5.out).c0
      have e1 := (X2.out.below B5.out).c1
      clear b5
      go_wp2_with fail
      refine (KL.out _ B5.out).mono ?_
      rintro e w6 ⟨q, rfl, t6, b6, _⟩
      have T6 := Lib.hid t6
      have B6 := Lib.hid (up2 B5.out b6)
      clear t6 b6 e0 e1 r1 r2 r3
      go_wp2_with fail
      go_loopw [39] (Tv w6 ws.length) (fun i _ => ws.length - (intOf i).toNat)
      case atStart => exact ⟨0, Nat.zero_le _, rfl, Below.refl _ _⟩
      case round =>
        obtain ⟨k, hk, rfl, hb⟩ := hrel
        have HB := Lib.hid hb
        clear hb
        by_cases hlt : k < ws.length
        · have b1 : (k : Int) < ws.length := by omega
          obtain ⟨b', off, e', hat⟩ := (T6.out.below HB.out).2 (by omega)
          injection e' with e'
          injection e' with e1' e2'
          subst e1' e2'
          obtain ⟨c0, c1, c2⟩ := hat k hlt
          simp only [Nat.zero_add] at c0 c1 c2
          clear hat
          obtain ⟨x, hx⟩ : ∃ x, ws.getD k z3 = x := ⟨_, rfl⟩
          rw [hx] at c0 c1 c2
          have hmem : x ∈ ws := by rw [← hx]; exact getD3_mem hlt
          obtain ⟨kd, _, hkd⟩ := HK.out
          have hxk := hkd x hmem
          have hhk : (ws.headD (0, 0, 0)).1 = x.1 := by
            rw [hxk]
            refine hkd _ ?_
            cases ws with
            | nil => cases hmem
            | cons a r => exact List.mem_cons_self
          obtain ⟨x0, x1, x2⟩ := x
          obtain ⟨w7, hw7⟩ : ∃ w7, wr.alloc (.cells #[.int .i64 x0, .int .i64 x1, .int .i64 x2] 35) = w7 := ⟨_, rfl⟩
          have b7 : Below wr.heap.size wr w7 := by rw [← hw7]; exact (Below.refl _ wr).alloc (Nat.le_refl _) _
          obtain ⟨qx, hqx⟩ : ∃ qx, wr.heap.size = qx := ⟨_, rfl⟩
          have q0 : w7.heap[qx]? = some (.cells #[.int .i64 x0, .int .i64 x1, .int .i64 x2] 35 (0, 0)) := by rw [← hw7, ← hqx]; exact heap_alloc_new wr _
          have B7 := Lib.hid (up2 HB.out b7)
          have kt := fun W (b : Below w7.heap.size w7 W) => KT.out W (up2 (up2 B6.out B7.out) b) (x0, x1, x2)
          rw [decide_eq_true hmem] at kt
          simp only [wv] at kt
          have KT2 := Lib.hid kt
          have KC2 := Lib.hid (fun W (b : Below w7.heap.size w7 W) => KC.out W (up2 (up2 B6.out B7.out) b))
          have HH := Lib.hid (fun W (b : Below w7.heap.size w7 W) => (show W.cell? ⟨g, 0, none⟩ = some (.int .i64 N) ∧ W.cell? ⟨g, 1, none⟩ = some (.slice A n c) ∧ W.cell? ⟨qx, 0, none⟩ = some (.int .i64 x0) ∧ W.cell? ⟨qx, 1, none⟩ = some (.int .i64 x1) ∧ W.cell? ⟨qx, 2, none⟩ = some (.int .i64 x2) from by
            have q0' := (b.block qx (heap_lt q0)).trans q0
            have z0 := (X2.out.below (up2 (up2 B6.out B7.out) b)).c0
            have z1 := (X2.out.below (up2 (up2 B6.out B7.out) b)).c1
            exact ⟨z0, z1, cell_in q0' 0, cell_in q0' 1, cell_in q0' 2⟩))
          have hd := HH.out w7.drew (Reading.below ⟨1, rfl⟩)
          have bd : Below w7.heap.size w7 w7.drew := Reading.below ⟨1, rfl⟩
          have HX := Lib.hid (show (ws.headD (0, 0, 0)).1 = x0 from hhk)
          clear b7 kt hx hmem hxk hhk hkd q0
          have hfd := field9
          go_wp2_with fail
          go_region_held3 (fun w' => w'.cell? ⟨g, 0, none⟩ = some (.int .i64 N) ∧ w'.cell? ⟨g, 1, none⟩ = some (.slice A n c) ∧ w'.cell? ⟨qx, 0, none⟩ = some (.int .i64 x0) ∧ w'.cell? ⟨qx, 1, none⟩ = some (.int .i64 x1) ∧ w'.cell? ⟨qx, 2, none⟩ = some (.int .i64 x2))
            (first | exact hd | exact HH.out _ (by assumption) | fail)
            (first
              | (go_at_call 20; (with_reducible refine (KT2.out _ (by assumption)).mono ?_); rintro e w8 ⟨rfl, b8⟩; have d8 := up2 bd b8; clear b8)
              | (go_at_call 18; (with_reducible refine (KC2.out _ (by assumption)).mono ?_); rintro e w9 ⟨rfl, b9⟩; have d9 := up2 d8 b9; simp only [wv]; rw [HX.out]; clear b9)
              | fail)
          all_goals
            have C := Lib.hid (up2 B7.out d9)
            go_wp2_with fail
            exact ⟨⟨k + 1, by omega, by go_num, C.out⟩, by simp [intOf]; omega⟩
        · obtain rfl : k = ws.length := by omega
          have b1 : ¬ (ws.length : Int) < ws.length := by omega
          go_wp2
          go_ret
          exact ⟨rfl, up2 B2.out (up2 B6.out HB.out)⟩
set_option maxRecDepth 100000 in
theorem lifted (os : Os) (started : os.Started) (H : Type) (enc : TypeId × Value → H) :
    ReturnsInHanded {} Try.checked os 4 .any (Rows.certifyTrueSpec.pre6 enc Try.prog Try.f4 Rows.certifyTrueRow.domain false) (Rows.certifyTrueSpec.post enc Try.prog Try.f4 false true false false) := by
  refine returnsInHanded_of_change (C := Try.checked) own_knob started (by kernel_rfl) Try.func4
    (ChangeSpec.witness6 (enc := enc) (C := Try.checked) false ⟨#[], #[.agg #[.int .i64 0, .slice none 0 0], .agg #[.int .i64 0, .int .i64 0, .int .i64 0]], []⟩ 8 (by kernel_rfl) (by kernel_rfl) (by kernel_rfl) (by kernel_rfl)) ?_
  intro W base args ds gs before hval0 hW hcnd _
  have hval : ∀ (j : Nat) t v, Try.f4.params[j]? = some t → args[j]? = some v → Value.okWide Try.prog W .any base t v := hval0
  have hW' := hW
  obtain ⟨p, q, hA0, hV, rfl, hfz, hnd⟩ := hW
  have hA : DataW.TrodAll enc Try.prog W 0 (fun _ => true) true Try.f4.params.toList args.toList ds p := hA0
  rw [Try.params4] at hA hval
  obtain ⟨v0, vs0, d0, ds0, p0, q0, hargs, rfl, rfl, h0, r0⟩ := trodAll_cons hA
  obtain ⟨v1, vs1, d1, ds1, p1, q1, rfl, rfl, rfl, h1, r1⟩ := trodAll_cons r0
  obtain ⟨rfl, rfl, rfl⟩ := trodAll_nil r1
  obtain rfl : args = #[v0, v1] := by cases args; simp_all
  obtain ⟨rfl, rfl⟩ := trodVars_none hV
  have lt0 : ∀ x ∈ p0, x.block < W.heap.size := by obtain ⟨m, hm⟩ := h0; exact DataW.trod_lt m _ _ _ hm
  obtain ⟨N0, a0, len0, cap0, xs0, rfl, hN0, hr0⟩ := arg_soup (hval 0 24 v0 rfl rfl) h0
  have lt1 : ∀ x ∈ p1, x.block < W.heap.size := by obtain ⟨m, hm⟩ := h1; exact DataW.trod_lt m _ _ _ hm
  obtain ⟨y1, rfl⟩ := arg_wit (hval 1 35 v1 rfl rfl) h1
  clear hA0 hval0
  refine (walk N0 a0 len0 cap0 xs0 y1 W hN0.1 hN0.2 hr0).mono fun e W' ⟨he, bel⟩ => ?_
  subst he
  exact ⟨_, rfl, _, _, _, [], _, [], hW', trodAll_mk1 (shut_bool Try.underlying4 _), (trodAll_cons_mk (Below.trod laid_out (by kernel_rfl) (of_decide_eq_true (by kernel_rfl)) h0 bel lt0) (trodAll_cons_mk (Below.trod laid_out (by kernel_rfl) (of_decide_eq_true (by kernel_rfl)) h1 bel lt1) trodAll_mk0)), rfl, bel.frame _, fun h => by cases h⟩

theorem over : Rows.certifyTrueRow.holds Try.pinned (OpenSpec.ofChange Rows.certifyTrueSpec) :=
  OpenClaim.holds_of_wide 4 Try.f4 rfl rfl rfl rfl rfl rfl rfl ⟨rfl, rfl, rfl, rfl, rfl⟩ rfl rfl rfl rfl rfl (by kernel_rfl) Try.func4 (by kernel_rfl)
    (of_decide_eq_true (by kernel_rfl)) (by unfold Func.isWrapper; first | (rw [if_pos (by decide +kernel)]; kernel_rfl) | (rw [if_neg (by decide +kernel)]; exact ⟨rfl, rfl⟩))
    (fun os started H enc _ => lifted os started H enc)

theorem proved : Rows.CertifyTrueSaid := over
end Go.Proofs.Ytelbmjbjpgcdaaa.certifyTrue
