/- BoxRight: of few chunks (12 of up to 100 bytes each), packed: no byte of them may be another one, and nothing may stand behind them (up to 20 bytes), and it is a container still. No condition. -/
import Derived.Test.YtngambkbpdjddaaBoxLaw
namespace Go.Proofs.Ytngambkbpdjddaa.boxRight
open Go.ChangeShapes Go.WideShapes Go.ChangeAt Go.RowKit

theorem box_set {cs : List (Nat × List Nat)} (hd : DigC cs) (hn : (boxB cs).length ≤ 2000) (k d : Nat) (hk : k < (boxB cs).length) (h : d < 256) : IsBox ((boxB cs).set k d) ↔ d = (boxB cs).getD k 0 := by
  have dl := dig_box hd
  have sz : ∀ {ds : List (Nat × List Nat)}, (boxB ds).length ≤ 2000 → ds.length < 65536 ∧ ∀ x ∈ ds, x.2.length < 4294967296 := fun {ds} h => by
    have h1 := length_box ds
    refine ⟨by omega, fun x hx => ?_⟩
    obtain ⟨i, hi, rfl⟩ := getD_of_mem hx
    have := box_room ds i hi
    omega
  constructor
  · rintro ⟨ds, e, dd⟩
    have hl : (boxB cs).length = (boxB ds).length := by rw [← e, List.length_set]
    have s1 := sz hn
    have s2 := sz (ds := ds) (by omega)
    have hN := near_set dl k d hk h
    rw [e] at hN
    have key := box_near hd dd s1.1 s2.1 s1.2 s2.2 hl hN
    rw [← key] at e
    have := congrArg (fun l => l.getD k 0) e
    simpa [List.getD_eq_getElem?_getD, hk] using this
  · intro e
    rw [e]
    refine ⟨cs, ?_, hd⟩
    refine List.ext_getElem (by simp) fun i h1 h2 => ?_
    rw [List.getElem_set]
    by_cases e' : k = i
    · subst e'
      rw [if_pos rfl, List.getD_eq_getElem?_getD, List.getElem?_eq_getElem hk]
      rfl
    · rw [if_neg e']
theorem box_more {cs : List (Nat × List Nat)} (hd : DigC cs) (m : List Nat) (hn : (boxB cs).length + m.length ≤ 2000) : IsBox (boxB cs ++ m) ↔ m.length = 0 := by
  constructor
  · rintro ⟨ds, e, dd⟩
    have sz : ∀ {ds : List (Nat × List Nat)}, (boxB ds).length ≤ 2000 → ds.length < 65536 ∧ ∀ x ∈ ds, x.2.length < 4294967296 := fun {ds} h => by
      have h1 := length_box ds
      refine ⟨by omega, fun x hx => ?_⟩
      obtain ⟨i, hi, rfl⟩ := getD_of_mem hx
      have := box_room ds i hi
      omega
    have hlen := congrArg List.length e
    rw [List.length_append] at hlen
    have s1 := sz (ds := cs) (by omega)
    have s2 := sz (ds := ds) (by omega)
    have k1 := box_inj s1.1 s2.1 s1.2 s2.2 m [] (by rw [List.append_nil]; exact e)
    have k2 := offs_congr (fun i hi => (k1.2 i hi).2) cs.length (Nat.le_refl _)
    have l1 := second_at cs
    have l2 := second_at ds
    rw [← k1.1] at l2
    omega
  · intro e
    rw [List.eq_nil_of_length_eq_zero e, List.append_nil]
    exact ⟨cs, rfl, hd⟩

set_option maxHeartbeats 6400000 in
set_option maxRecDepth 100000 in
theorem walk (A : Option Addr) (n c : Nat) (cs : List (Nat × List Nat)) (a y : Int) (A' : Option Addr) (n' c' : Nat) (more : List Nat) (w : World) (hd : DigC cs) (h : Chunks0 w A n cs) (ha0 : 0 ≤ a) (ha1 : a ≤ 65535) (hy0 : 0 ≤ y) (hy1 : y ≤ 255) (hA' : (A' = none → c' = 0) ∧ n' ≤ c') (hdm : Dig more) (hrm : Reads w A' n' (bts more)) :
    Calls Try.prog 9 #[.slice A n c, .int .u16 a, .int .u8 y, .slice A' n' c'] w fun e w' => e = .returned (.bool true) ∧ Below w.heap.size w w' := by
  obtain ⟨i0, hi, hz0, hz1, hz2⟩ := info_parts Try.infoU8
  have HI := Lib.hid hi
  have HZ := Lib.hid (And.intro hz0 (And.intro hz1 hz2))
  have H := Lib.hid (And.intro hd h)
  have HM := Lib.hid (And.intro hdm (And.intro hrm hA'.1))
  clear hd h hdm hrm hA' hi hz0 hz1 hz2
  go_enter Try.func9, Try.ntmps9
  go_wp2_with fail
  refine (awake7_true w).mono ?_
  rintro e w1 ⟨rfl, b1⟩
  have B1 := Lib.hid b1
  have KG := Lib.hid (great7_any w1 A n c cs (H.out.2.below b1))
  clear b1
  go_wp2_with fail
  refine KG.out.mono ?_
  rintro e w2 ⟨r, hr, rfl, rfl⟩
  rcases hr with rfl | ⟨rfl, hs⟩
  · go_wp2
    go_ret
    exact ⟨rfl, B1.out⟩
  by_cases h20 : 20 < n'
  · have t1 : (20 : Int) < n' := by omega
    clear hs
    go_wp2
    go_ret
    exact ⟨rfl, B1.out⟩
  have t1 : ¬ (20 : Int) < n' := by omega
  have S1 := Lib.hid (⟨(H.out.2.below B1.out).small hs, H.out.1, hs⟩ : Small7 w1 A n cs)
  have K1 := Lib.hid (S1.out.pack c)
  clear hs
  go_wp2_with fail
  refine K1.out.mono ?_
  rintro e w2 ⟨v2, rfl, o2, b2⟩
  have hsz := S1.out.size
  have hN36 : 36 ≤ (boxB cs).length := by omega
  have hN : (boxB cs).length ≤ 1452 := hsz.2.2
  obtain ⟨q2, c2, rest2, rfl, hb2, hc2, _, _, hq2⟩ := own_block o2 (by omega)
  obtain ⟨k, hk⟩ : ∃ k, a.toNat % (boxB cs).length = k := ⟨_, rfl⟩
  have hkN : k < (boxB cs).length := by rw [← hk]; exact Nat.mod_lt _ (by omega)
  obtain ⟨yn, hyn⟩ : ∃ yn : Nat, (yn : Int) = y := ⟨y.toNat, by omega⟩
  have IS := Lib.hid (box_set S1.out.dig (by omega) k yn hkN (by omega))
  have IM := Lib.hid (box_more S1.out.dig more (by have := HM.out.2.1.lenB; omega))
  have DB := Lib.hid (dig_box S1.out.dig)
  have hbk := hb2.cell k hkN
  have hml := HM.out.2.1.lenB
  rw [hml] at IM
  generalize hbx : boxB cs = bx at *
  obtain ⟨x, hx⟩ : ∃ x, bx.getD k 0 = x := ⟨_, rfl⟩
  rw [hx] at IS hbk
  obtain ⟨N, hNN⟩ : ∃ N, bx.length = N := ⟨_, rfl⟩
  have HNN := Lib.hid hNN
  rw [hNN] at hN36 hN hkN hk hc2 ⊢
  have hm : a.tmod (N : Int) = (k : Int) := by
    rw [Int.tmod_eq_emod_of_nonneg ha0, ← hk, Int.natCast_emod, show ((a.toNat : Nat) : Int) = a by omega]
  have hz : ¬ ((N : Int) = 0) := by omega
  have hzb : ((N : Int) == 0) = false := by simp; omega
  have B2 := up2 B1.out b2
  have R2 := hb2.reads hNN
  have HB2 := Lib.hid (And.intro hb2 (And.intro B2 (And.intro R2 hq2)))
  have E3 := Lib.hid (World.ownsRow_made (base := w2.heap.size) (e := 5) (size := 1) w2 #[] 0 (Nat.le_refl _) (by unfold maxLen; omega) rfl)
  have B3 := Lib.hid (mk_below w2 (.cells #[] 5))
  have R3 := Lib.hid (R2.below (mk_below w2 (.cells #[] 5)))
  have HBK := Lib.hid (And.intro hbk hyn)
  have hw0 : IntKind.i64.wrap a = a := IntWalk.i64_in _ (by omega)
  clear o2 b2 hb2 hsz hq2 hk hNN hbx hx R2 B2 hbk hyn hml
  go_wp2_with (at_builtin; refine wpList_append_reads rfl (.tmp 40) (.tmp 41) 25 rfl w2.heap.size 5 i0 (.int .u8 0) 1 Try.underlying25 HI.out HZ.out rfl (.slice (some ⟨w2.heap.size, 0, none⟩) 0 0) 0 [] rfl E3.out (some ⟨q2, 0, none⟩) N c2 (bts bx) rfl R3.out (fun e => (nomatch e)) (bts_one _) ?b1 ?b2 ?b3 ?_)
  case b1 => unfold maxLen; omega
  case b2 => omega
  case b3 => exact B3.out.size
  intro v3 w3 hown0 hgr
  have hown : w3.ownsRow w2.heap.size 5 1 v3 N (bts bx) := by simpa using hown0
  have b3 := own_grown_below B3.out hgr B3.out.size (fun k hk => by simp [Value.ownBlock] at hk; omega)
  obtain ⟨q3, c3, rest3, rfl, hb3, hc3, _, _, hq3⟩ := own_block hown (by omega)
  have hkl : k < bx.length := by rw [HNN.out]; exact hkN
  have c1 := hb3.cell k hkl
  have f1 := frozen_in hb3 k
  have lt2 := heap_lt HB2.out.1
  have hqq : q2 ≠ q3 := by omega
  have Q4 := Lib.hid (show BRow (w3.setCell ⟨q3, k, none⟩ (.int .u8 y)) q3 (bx.set k yn) rest3 by rw [← HBK.out.2]; exact hb3.set k yn hkl)
  have B4 := Lib.hid ((up2 HB2.out.2.1 b3).setCell (p := ⟨q3, k, none⟩) (by have := HB2.out.2.1.size; show w.heap.size ≤ q3; omega) (.int .u8 y))
  have Q24 := Lib.hid (show BRow (w3.setCell ⟨q3, k, none⟩ (.int .u8 y)) q2 bx rest2 from heap_far ((b3.block q2 lt2).trans HB2.out.1) hqq _)
  have u1 : (k : Int) < N := by omega
  generalize bx.getD k 0 = x0 at c1
  clear hown0 hgr hown b3 hb3 hq3 lt2 hkl
  go_wp2_with fail
  generalize w3.setCell ⟨q3, k, none⟩ (.int .u8 y) = w4 at *
  clear c1 f1
  have hkl : k < bx.length := by rw [HNN.out]; exact hkN
  have cx := Q24.out.cell k hkl
  rw [show bx.getD k 0 = x by
    have h1 := HB2.out.1.cell k hkl
    rw [HBK.out.1] at h1
    injection h1 with h1
    injection h1 with _ h1
    omega] at cx
  have d0 : w4.drew.cell? ⟨q2, k, none⟩ = some (.int .u8 (x : Int)) := cx
  have hlt2 : q2 < w4.drew.heap.size := heap_lt Q24.out
  have K5 := Lib.hid (bright_any w4.drew (some ⟨q3, 0, none⟩) N c3 (bx.set k yn) ((Q4.out.reads (by rw [List.length_set]; exact HNN.out)).drew) (dig_set _ _ _ DB.out (by have := HBK.out.2; omega)) hc3 (by omega))
  have c4d := upd B4.out
  have R2d := Lib.hid (Q24.out.reads HNN.out).drew
  have e1 : ∀ r : Bool, (r = true ↔ IsBox (bx.set k yn)) → (r == (y == (x : Int))) = true := fun r hr => by
    have hh := IS.out
    have hyy := HBK.out.2
    by_cases e : yn = x
    · have h1 : r = true := hr.2 (hh.2 e)
      have h2 : (y == (x : Int)) = true := by rw [← hyy, e]; simp
      rw [h1, h2]; rfl
    · have h1 : r = false := by cases r with | false => rfl | true => exact absurd (hh.1 (hr.1 rfl)) e
      have h2 : (y == (x : Int)) = false := by rw [beq_eq_false_iff_ne]; omega
      rw [h1, h2]; rfl
  have e2 : ∀ r : Bool, (r = true ↔ IsBox (bx ++ more)) → (r == ((n' : Int) == 0)) = true := fun r hr => by
    have hh := IM.out
    by_cases e : n' = 0
    · have h1 : r = true := hr.2 (hh.2 e)
      rw [h1, e]; rfl
    · have h1 : r = false := by cases r with | false => rfl | true => exact absurd (hh.1 (hr.1 rfl)) e
      have h2 : ((n' : Int) == 0) = false := by rw [beq_eq_false_iff_ne]; omega
      rw [h1, h2]; rfl
  have HE1 := Lib.hid e1
  have HE2 := Lib.hid e2
  have HR := Lib.hid (fun W (b : Below w.heap.size w W) => HM.out.2.1.below b)
  have KR := Lib.hid (fun W A c (h : Reads W A (N + n') (bts (bx ++ more))) (hc : N + n' ≤ c) => bright_any W A (N + n') c (bx ++ more) h (dig_append DB.out HM.out.1) hc (by omega))
  have t2 : (n' : Int) ≤ 20 := by omega
  clear e1 e2 cx hm hz hw0 IS IM
  go_wp2_with fail
  go_region_held3 (fun w' => w'.cell? ⟨q2, k, none⟩ = some (.int .u8 (x : Int)))
    (first | exact d0 | exact d5 | exact ((mk_below w5 _).cell (World.block_lt_of_cell? _ _ d5)).trans d5 | exact d6 | exact d7 | exact d8 | fail)
    (first
      | (go_at_call 15; (with_reducible refine K5.out.mono ?_); rintro e w5 ⟨r, hr, rfl, b5⟩; have g1 := HE1.out r hr; have d5 := (b5.cell (p := ⟨q2, k, none⟩) hlt2).trans d0; have B5 := up2 c4d b5; have R25 := R2d.out.below b5; clear hr b5)
      | (refine step_append_want (by rfl) (.tmp 57) (.tmp 58) 25 (by rfl) w5.heap.size 5 i0 (.int .u8 0) 1 Try.underlying25 HI.out HZ.out (by rfl) (.slice (some ⟨w5.heap.size, 0, none⟩) 0 0) 0 [] (by go_simp) (empty_bytes w5) (some ⟨q2, 0, none⟩) N c2 (bts bx) (by go_simp) (R25.below (mk_below w5 _)) (fun e => (nomatch e)) (bts_one _) (by unfold maxLen; omega) (by omega) (mk_below w5 _).size ?_; intro v6 w6 own6 gr6; have C6 := own_grown_below (mk_below w5 (.cells #[] 5)) gr6 (mk_below w5 _).size (fun k hk => by simp [Value.ownBlock] at hk; omega); have o6 : w6.ownsRow w5.heap.size 5 1 v6 N (bts bx) := (by simpa using own6); have d6 := (C6.cell (p := ⟨q2, k, none⟩) (World.block_lt_of_cell? _ _ d5)).trans d5; obtain ⟨A6, c6, rfl, _, _⟩ := Reads.of_own o6; clear own6 gr6)
      | (refine step_append_want (by rfl) (.tmp 59) (.tmp 60) 25 (by rfl) w5.heap.size 5 i0 (.int .u8 0) 1 Try.underlying25 HI.out HZ.out (by rfl) (.slice A6 N c6) N (bts bx) (by go_simp) o6 A' n' c' (bts more) (by go_simp) (HR.out _ (up2 B5 C6)) HM.out.2.2 (bts_one _) (by unfold maxLen; omega) (by omega) C6.size ?_; intro v7 w7 own7 gr7; have C7 := own_grown_below C6 gr7 C6.size (fun q hq => (own_lt o6 q hq).1); have d7 := (C7.cell (p := ⟨q2, k, none⟩) (World.block_lt_of_cell? _ _ d5)).trans d5; have o7 : w7.ownsRow w5.heap.size 5 1 v7 (N + n') (bts (bx ++ more)) := (by rw [bts_append]; exact own7); obtain ⟨A7, c7, rfl, _, r7⟩ := Reads.of_own o7; have hc7 := own_cap o7; have B7 := up2 B5 C7; clear own7 gr7)
      | (go_at_call 15; (with_reducible refine (KR.out _ _ _ r7 hc7).mono ?_); rintro e w8 ⟨r', hr', rfl, b8⟩; have g2 := HE2.out r' hr'; have B8 := up2 B7 b8; have d8 := (b8.cell (p := ⟨q2, k, none⟩) (World.block_lt_of_cell? _ _ d7)).trans d7; clear hr' b8)
      | fail)
  have Z := Lib.hid B8
  go_wp2
  go_ret
  exact ⟨rfl, Z.out⟩

set_option maxRecDepth 100000 in
theorem lifted (os : Os) (started : os.Started) (H : Type) (enc : TypeId × Value → H) :
    ReturnsInHanded {} Try.checked os 9 .any (Rows.boxRightSpec.pre6 enc Try.prog Try.f9 Rows.boxRightRow.domain false) (Rows.boxRightSpec.post enc Try.prog Try.f9 false true false false) := by
  refine returnsInHanded_of_change (C := Try.checked) own_knob started (by kernel_rfl) Try.func9
    (ChangeSpec.witness6 (enc := enc) (C := Try.checked) false ⟨#[], #[.slice none 0 0, .int .u16 0, .int .u8 0, .slice none 0 0], []⟩ 8 (by kernel_rfl) (by kernel_rfl) (by kernel_rfl) (by kernel_rfl)) ?_
  intro W base args ds gs before hval0 hW hcnd _
  have hval : ∀ (j : Nat) t v, Try.f9.params[j]? = some t → args[j]? = some v → Value.okWide Try.prog W .any base t v := hval0
  have hW' := hW
  obtain ⟨p, q, hA0, hV, rfl, hfz, hnd⟩ := hW
  have hA : DataW.TrodAll enc Try.prog W 0 (fun _ => true) true Try.f9.params.toList args.toList ds p := hA0
  rw [Try.params9] at hA hval
  obtain ⟨v0, vs0, d0, ds0, p0, q0, hargs, rfl, rfl, h0, r0⟩ := trodAll_cons hA
  obtain ⟨v1, vs1, d1, ds1, p1, q1, rfl, rfl, rfl, h1, r1⟩ := trodAll_cons r0
  obtain ⟨v2, vs2, d2, ds2, p2, q2, rfl, rfl, rfl, h2, r2⟩ := trodAll_cons r1
  obtain ⟨v3, vs3, d3, ds3, p3, q3, rfl, rfl, rfl, h3, r3⟩ := trodAll_cons r2
  obtain ⟨rfl, rfl, rfl⟩ := trodAll_nil r3
  obtain rfl : args = #[v0, v1, v2, v3] := by cases args; simp_all
  obtain ⟨rfl, rfl⟩ := trodVars_none hV
  obtain ⟨a0, len0, cap0, rfl⟩ := okWide_slice Try.underlying22 (hval 0 22 v0 rfl rfl)
  have lt0 : ∀ x ∈ p0, x.block < W.heap.size := by obtain ⟨m, hm⟩ := h0; exact DataW.trod_lt m _ _ _ hm
  obtain ⟨xs0, hx0, hr0⟩ := arg_chunks h0
  obtain ⟨a1, rfl, rfl, rfl, w1⟩ := open_int Try.underlying47 (hval 1 47 v1 rfl rfl) h1
  have bd1 := bounds_u16 w1
  obtain ⟨a2, rfl, rfl, rfl, w2⟩ := open_int Try.underlying5 (hval 2 5 v2 rfl rfl) h2
  have bd2 := bounds_u8 w2
  obtain ⟨a3, len3, cap3, rfl⟩ := okWide_slice Try.underlying25 (hval 3 25 v3 rfl rfl)
  have lt3 : ∀ x ∈ p3, x.block < W.heap.size := by obtain ⟨m, hm⟩ := h3; exact DataW.trod_lt m _ _ _ hm
  obtain ⟨hc3, xs3, hx3, hr3⟩ := arg_bytes4 h3
  clear hA0 hval0
  refine (walk a0 len0 cap0 xs0 a1 a2 a3 len3 cap3 xs3 W hx0 hr0 (by omega) (by omega) (by omega) (by omega) hc3 hx3 hr3).mono fun e W' ⟨he, bel⟩ => ?_
  subst he
  exact ⟨_, rfl, _, _, _, [], _, [], hW', trodAll_mk1 (shut_bool Try.underlying4 _), (trodAll_cons_mk (Below.trod laid_out (by kernel_rfl) (of_decide_eq_true (by kernel_rfl)) h0 bel lt0) (trodAll_cons_mk (shut_int Try.underlying47 w1) (trodAll_cons_mk (shut_int Try.underlying5 w2) (trodAll_cons_mk (Below.trod laid_out (by kernel_rfl) (of_decide_eq_true (by kernel_rfl)) h3 bel lt3) trodAll_mk0)))), rfl, bel.frame _, fun h => by cases h⟩

theorem over : Rows.boxRightRow.holds Try.pinned (OpenSpec.ofChange Rows.boxRightSpec) :=
  OpenClaim.holds_of_wide 9 Try.f9 rfl rfl rfl rfl rfl rfl rfl ⟨rfl, rfl, rfl, rfl, rfl⟩ rfl rfl rfl rfl rfl (by kernel_rfl) Try.func9 (by kernel_rfl)
    (of_decide_eq_true (by kernel_rfl)) (by unfold Func.isWrapper; first | (rw [if_pos (by decide +kernel)]; kernel_rfl) | (rw [if_neg (by decide +kernel)]; exact ⟨rfl, rfl⟩))
    (fun os started H enc _ => lifted os started H enc)

theorem proved : Rows.BoxRightSaid := over
end Go.Proofs.Ytngambkbpdjddaa.boxRight
