/- SoupBack: renamed there and back a soup is as it was; mirrored twice, too; turned three times by its corners; what fits, fits in all of these, and has as many edges. No condition. -/
import Derived.Test.YtfdoemebongdbaaSouLaw
import Derived.Test.YtfdoemebongdbaaSouBackP
namespace Go.Proofs.Ytfdoemebongdbaa.soupBack
open Go.RowKit Go.ChangeShapes Go.WideShapes Go.ChangeAt

/-- The soup that is turned, in its own box. -/
def KAt (w : World) (g xb : Nat) (N : Int) (A : Option Addr) (n c : Nat) (l : List Tr) (i : Value) (wr : World) : Prop := ∃ k Ax cx, k ≤ 3 ∧ i = .int .i64 ((k : Nat) : Int) ∧ Below w.heap.size w wr ∧ Bx wr g N A n c ∧ Bx wr xb N Ax n cx ∧ T3 wr Ax n (rotK k l)
def CAt (w3 : World) (n : Nat) (v i : Value) (wr : World) : Prop := ∃ t, t ≤ n ∧ i = .int .i64 ((t : Nat) : Int) ∧ Below w3.heap.size w3 wr ∧ wr.ownsRow w3.heap.size 3 1 v t (ints (cor1 t))
def VAt (w5 : World) (q M : Nat) (to : List Int) (i : Value) (wr : World) : Prop := ∃ v, v ≤ M ∧ i = .int .i64 ((v : Nat) : Int) ∧ Below w5.heap.size w5 wr ∧ RowI wr q (toL M to v)

set_option maxHeartbeats 16000000 in
set_option maxRecDepth 100000 in
theorem walk (N : Int) (A : Option Addr) (n c : Nat) (l : List Tr) (B : Option Addr) (m d : Nat) (to : List Int) (w : World) (_ : -9223372036854775808 ≤ N) (_ : N ≤ 9223372036854775807) (h : T3 w A n l)
    (_ : (B = none → d = 0) ∧ m ≤ d) (_ : ∀ x ∈ to, -9223372036854775808 ≤ x ∧ x ≤ 9223372036854775807) (ht : Reads w B m (ints to)) :
    Calls Try.prog 8 #[.agg #[.int .i64 N, .slice A n c], .slice B m d] w (Yes8 w) := by
  have HL := Lib.hid h
  have HT := Lib.hid ht
  have KA := Lib.hid awake8_true
  have KG := Lib.hid (fun W => great8_any W N A n c)
  have B0 := Lib.hid ((Below.refl _ w).alloc (Nat.le_refl _) (.cells #[.int .i64 N, .slice A n c] 24))
  have X0 := Lib.hid (Bx.made w N A n c)
  clear h ht
  go_enter Try.func8, Try.ntmps8
  go_wp2_with fail
  refine (KA.out _).mono ?_
  rintro e w1 ⟨rfl, b1⟩
  have B1 := Lib.hid (up2 B0.out b1)
  have X1 := Lib.hid (X0.out.below b1)
  clear b1
  obtain ⟨g, hg⟩ : ∃ g, w.heap.size = g := ⟨_, rfl⟩
  have HG := Lib.hid hg
  simp only [hg]
  rw [hg] at X1
  clear hg
  have e0 := X1.out.c0
  have e1 := X1.out.c1
  go_wp2_with fail
  refine (KG.out _).mono ?_
  rintro e w2 ⟨rfl, b2⟩
  have B2 := Lib.hid (up2 B1.out b2)
  have X2 := Lib.hid (X1.out.below b2)
  clear b2 e0 e1
  have e0 := X2.out.c0
  have e1 := X2.out.c1
  by_cases h40 : (40 : Int) < n
  · simp only [decide_eq_true h40]
    clear h40
    go_wp2_with fail
    go_ret
    exact ⟨rfl, B2.out⟩
  simp only [decide_eq_false h40]
  by_cases N40 : 40 < N
  · go_wp2_with fail
    go_ret
    exact ⟨rfl, B2.out⟩
  have hn : n ≤ 40 := by omega
  have KF := Lib.hid (sfits_any w2 N A n c l (HL.out.below B2.out) (by omega))
  go_wp2_with fail
  refine KF.out.mono ?_
  rintro e w3 ⟨rfl, b3⟩
  have B3 := Lib.hid (up2 B2.out b3)
  have X3 := Lib.hid (X2.out.below b3)
  clear b3 e0 e1
  by_cases hf : Fit N l
  case neg =>
    simp only [decide_eq_false hf]
    go_wp2_with fail
    go_ret
    exact ⟨rfl, B3.out⟩
  simp only [decide_eq_true hf]
  have HF := Lib.hid hf
  have hN0 := hf.1
  clear hf
  have e0 := X3.out.c0
  have e1 := X3.out.c1
  have KM := Lib.hid (smirror_any w3 N A n c l (HL.out.below B3.out) (by omega))
  go_wp2_with fail
  refine KM.out.mono ?_
  rintro e w4 ⟨v4, rfl, A4, c4, rfl, o4, b4⟩
  obtain ⟨L, hL⟩ : ∃ L, l.map mirT = L := ⟨_, rfl⟩
  rw [hL] at o4
  simp only [hL]
  have hLn : L.length = n := by rw [← hL, List.length_map, HL.out.1]
  have HLL := Lib.hid hL
  rw [hLn] at o4
  simp only [hLn]
  have bx := (Below.refl _ w4).alloc (Nat.le_refl _) (.cells #[.int .i64 N, .slice A4 n c4] 24)
  have B5 := Lib.hid (up2 (up2 B3.out b4) bx)
  have X5 := Lib.hid ((X3.out.below b4).below bx)
  have M5 := Lib.hid (Bx.made w4 N A4 n c4)
  have T5 := Lib.hid ((T3.of_own o4).below bx)
  clear b4 bx e0 e1 o4 hL hLn
  go_wp2_with fail
  obtain ⟨mb, hmb⟩ : ∃ mb, w4.heap.size = mb := ⟨_, rfl⟩
  obtain ⟨w5, hw5⟩ : ∃ w5, w4.alloc (.cells #[.int .i64 N, .slice A4 n c4] 24) = w5 := ⟨_, rfl⟩
  rw [hw5] at B5 X5 M5 T5
  rw [hmb] at M5
  simp only [hw5, hmb]
  clear hw5 hmb
  have hd := boxes_held M5.out X5.out w5.drew (Reading.below ⟨1, rfl⟩)
  have HH := Lib.hid (boxes_held M5.out X5.out)
  have bd : Below w5.heap.size w5 w5.drew := Reading.below ⟨1, rfl⟩
  have fitL : Fit N L := by rw [← HLL.out]; exact fit_map ok_mir HF.out
  have K1 := Lib.hid (fun W (b : Below w5.heap.size w5 W) => (show Calls Try.prog 13 #[.agg #[.int .i64 N, .slice A4 n c4]] W fun e w' => e = .returned (.bool true) ∧ Below W.heap.size W w' by
    have := sfits_any W N A4 n c4 L (T5.out.below b) (by omega)
    unfold FitTold at this
    rwa [decide_eq_true fitL] at this))
  have K2 := Lib.hid (fun W (b : Below w5.heap.size w5 W) => smirror_any W N A4 n c4 L (T5.out.below b) (by omega))
  have mm : L.map mirT = l := by rw [← HLL.out]; exact mir_mir l
  rw [mm] at K2
  have hll : l.length = n := HL.out.1
  have K4 := Lib.hid (fun W (b : Below w5.heap.size w5 W) => sedges_any W N A4 n c4 L (T5.out.below b) (by omega) fitL)
  have K5 := Lib.hid (fun W (b : Below w5.heap.size w5 W) => sedges_any W N A n c l (HL.out.below (up2 B5.out b)) (by omega) HF.out)
  have sd : ∀ e, e ∈ allSides L ↔ e ∈ allSides l := fun e => by rw [← HLL.out]; exact sides_iff sides_mir l e
  have HSD := Lib.hid sd
  clear fitL mm sd
  go_region_held3 (fun w' => w'.cell? ⟨mb, 0, none⟩ = some (.int .i64 N) ∧ w'.cell? ⟨mb, 1, none⟩ = some (.slice A4 n c4) ∧ w'.cell? ⟨g, 0, none⟩ = some (.int .i64 N) ∧ w'.cell? ⟨g, 1, none⟩ = some (.slice A n c))
    (first | exact hd | exact HH.out _ (by assumption) | fail)
    (first
      | (go_at_call 13; (with_reducible refine (K1.out _ (by assumption)).mono ?_); rintro e w6 ⟨rfl, b6⟩; have d6 := up2 bd b6; clear b6)
      | (go_at_call 17; (with_reducible refine (K2.out _ (by assumption)).mono ?_); rintro e w7 ⟨v7, rfl, A7, c7, rfl, o7, b7⟩; rw [hll] at o7; have d7 := up2 d6 b7; have KS := Lib.hid (ssame_any w7 N N A7 A n c7 n c l l (T3.of_own o7) (HL.out.below (up2 B5.out d7)) (by omega)); clear b7 o7)
      | (go_at_call 15; (with_reducible refine KS.out.mono ?_); rintro e w8 ⟨rfl, b8⟩; have d8 := up2 d7 b8; clear b8)
      | (go_at_call 30; (with_reducible refine (K4.out _ (by assumption)).mono ?_); rintro e w9 ⟨es, A9, c9, rfl, i9, o9, b9, l9⟩; have d9 := up2 d8 b9; have t9 := E2.of_own o9; clear b9 o9)
      | (go_at_call 30; (with_reducible refine (K5.out _ (by assumption)).mono ?_); rintro e w10 ⟨fs, A10, c10, rfl, i10, o10, b10, l10⟩; have d10 := up2 d9 b10; have ee := i9.one i10 HSD.out; subst ee; have KL := Lib.hid (ralike_any w10 A9 A10 es.length c9 es.length c10 es es (t9.below b10) (E2.of_own o10) (by omega)); clear b10 o10 t9 i9 i10)
      | (go_at_call 29; (with_reducible refine KL.out.mono ?_); rintro e w11 ⟨rfl, b11⟩; have d11 := d10.trans (b11.below (B := w5.heap.size)); clear b11)
      | fail)
  all_goals
    have D11 := Lib.hid d11
    have B11 := Lib.hid (up2 B5.out d11)
    have X11 := Lib.hid (X5.out.below d11)
    clear d6 d7 d8 d9 d10 d11 hd bd
    have e0 := X11.out.c0
    have e1 := X11.out.c1
    have S0 : KAt w g w11.heap.size N A n c l (.int .i64 0) (w11.alloc (.cells #[.int .i64 N, .slice A n c] 24)) := by
      have bb := (Below.refl _ w11).alloc (Nat.le_refl _) (.cells #[.int .i64 N, .slice A n c] 24)
      exact ⟨0, A, c, by omega, rfl, up2 B11.out bb, X11.out.below bb, Bx.made w11 N A n c, HL.out.below (up2 B11.out bb)⟩
    have SS := Lib.hid S0
    clear S0
    go_wp2_with fail
    obtain ⟨xb, hxb⟩ : ∃ xb, w11.heap.size = xb := ⟨_, rfl⟩
    obtain ⟨w12, hw12⟩ : ∃ w12, w11.alloc (.cells #[.int .i64 N, .slice A n c] 24) = w12 := ⟨_, rfl⟩
    have hgx : g < xb := by have := heap_lt X11.out; omega
    have hwx : w.heap.size ≤ xb := by have := B11.out.size; omega
    rw [hw12, hxb] at SS
    simp only [hw12, hxb]
    clear hw12 hxb e0 e1
    go_loopw [7] (KAt w g xb N A n c l) (fun i _ => 3 - (intOf i).toNat)
    case atStart => exact SS.out
    case round =>
      obtain ⟨k, Ax, cx, hk, rfl, hb, hbx, hbxx, htx⟩ := hrel
      have HR := Lib.hid (And.intro hb (And.intro hbx (And.intro hbxx htx)))
      have e1 := hbx.c1
      clear hb hbx hbxx htx
      by_cases hk3 : k < 3
      · have bk : (k : Int) < 3 := by omega
        go_wp2_with fail
        go_loopw [8, 9] (CAt wr n) (fun _ i _ => n - (intOf i).toNat)
        case atStart => exact ⟨0, Nat.zero_le _, rfl, Below.refl _ _, World.ownsRow_nil _ _ _ _⟩
        case round =>
          obtain ⟨t, ht, rfl, hb3, ho⟩ := hrel
          have H3 := Lib.hid (And.intro hb3 ho)
          obtain ⟨Av, cv, rfl⟩ := ownK_form ho
          have e1 := (HR.out.2.1.below hb3).c1
          clear hb3 ho
          by_cases hlt : t < n
          · have bt : (t : Int) < n := by omega
            have wt : IntKind.i64.wrap (3 * (t : Int)) = 3 * (t : Int) := IntWalk.i64_in _ (by omega)
            have wt1 : IntKind.i64.wrap (3 * (t : Int) + 1) = 3 * (t : Int) + 1 := IntWalk.i64_in _ (by omega)
            obtain ⟨i0, hi, hz0, hz1, hz2⟩ := info_parts Try.infoInt
            have HI := Lib.hid hi
            have HZ := Lib.hid (And.intro hz0 (And.intro hz1 hz2))
            have O9 := Lib.hid (ownK_up H3.out.2 ((Below.refl _ wr).alloc (Nat.le_refl _) (.cells #[.int .i64 (3 * (t : Int) + 1)] 3)))
            have B9 := Lib.hid (up1 H3.out.1 (.cells #[.int .i64 (3 * (t : Int) + 1)] 3))
            have R9 := Lib.hid (Reads.of_block (xs := ints [3 * (t : Int) + 1]) (heap_alloc_new wr (.cells #[.int .i64 (3 * (t : Int) + 1)] 3)))
            clear hi hz0 hz1 hz2
            go_wp2_with (at_builtin; refine wpList_append_reads rfl (.tmp 64) (.tmp 68) 29 rfl _ 3 i0 (.int .i64 0) 8 Try.underlying29 HI.out HZ.out rfl (.slice Av t cv) t (ints (cor1 t)) rfl O9.out (some ⟨wr.heap.size, 0, none⟩) 1 1 (ints [3 * (t : Int) + 1]) rfl R9.out (fun e => (nomatch e)) (ints_one _) ?b1 ?b2 ?b3 ?_)
            case b1 => unfold maxLen; omega
            case b2 => omega
            case b3 => exact B9.out.size
            intro v' w9 own9 gr9
            have Z := Lib.hid (And.intro own9 (own_grown_below B9.out gr9 B9.out.size (fun q hq => ownK_lt O9.out q hq)))
            clear own9 gr9
            go_wp2_with fail
            refine ⟨⟨t + 1, by omega, by go_num, Z.out.2, ?_⟩, by simp [intOf]; omega⟩
            rw [cor1_succ, ints_append]
            exact Z.out.1
          · obtain rfl : t = n := by omega
            have bt : ¬ (t : Int) < t := by omega
            have xe := HR.out.2.2.1.below H3.out.1
            have x0 := xe.c0
            have x1 := xe.c1
            have C3 := Lib.hid (up2 HR.out.1 H3.out.1)
            obtain ⟨Av', cv', hv', _, hrd⟩ := Reads.of_own H3.out.2
            injection hv' with hA' _ hc'
            subst hA' hc'
            have KP := spick_ok wr N Ax Av t cx t cv (rotK k l) (cor1 t) (HR.out.2.2.2.below H3.out.1) hrd (by omega) (by omega) (rotK_fit HF.out k) (cor1_in t)
            rw [pick_cor1 (rotK k l) t (by rw [rotK_len]; exact hll)] at KP
            have KPP := Lib.hid KP
            have XE := Lib.hid xe
            clear xe KP hrd
            go_wp2_with fail
            refine KPP.out.mono ?_
            rintro e w20 ⟨v20, rfl, A20, c20, rfl, o20, b20⟩
            have hl20 : ((rotK k l).map rot1).length = t := by rw [List.length_map, rotK_len]; exact hll
            rw [hl20] at o20
            simp only [hl20]
            have bx := (Below.refl _ w20).alloc (Nat.le_refl _) (.cells #[.int .i64 N, .slice A20 t c20] 24)
            have B21 := Lib.hid (up2 (up2 C3.out b20) bx)
            have X21 := Lib.hid (((HR.out.2.1.below H3.out.1).below b20).below bx)
            have XX21 := Lib.hid ((XE.out.below b20).below bx)
            have Y21 := Lib.hid (Bx.made w20 N A20 t c20)
            have T21 := Lib.hid ((T3.of_own o20).below bx)
            have hyb : xb < w20.heap.size := heap_lt (XE.out.below b20)
            have HA20 := Lib.hid (show ∀ bk off, A20 = some ⟨bk, off, none⟩ → bk ≠ xb from fun bk off e => by have := own_blk o20 bk off e; have := heap_lt XE.out; omega)
            clear b20 bx o20 hl20 x0 x1
            go_wp2_with fail
            obtain ⟨yb, hyb'⟩ : ∃ yb, w20.heap.size = yb := ⟨_, rfl⟩
            obtain ⟨w21, hw21⟩ : ∃ w21, w20.alloc (.cells #[.int .i64 N, .slice A20 t c20] 24) = w21 := ⟨_, rfl⟩
            rw [hw21] at B21 X21 XX21 Y21 T21
            rw [hyb'] at Y21 hyb
            simp only [hw21, hyb']
            clear hw21 hyb'
            obtain ⟨Lk, hLk⟩ : ∃ Lk, (rotK k l).map rot1 = Lk := ⟨_, rfl⟩
            have fitK : Fit N Lk := by rw [← hLk]; exact rotK_fit HF.out (k + 1)
            have sdK : ∀ e, e ∈ allSides Lk ↔ e ∈ allSides l := fun e => by rw [← hLk]; exact rotK_sides l e (k + 1)
            have hLkn : Lk.length = t := by rw [← hLk, List.length_map, rotK_len]; exact hll
            rw [hLk] at T21
            have HLk := Lib.hid (show rotK (k + 1) l = Lk from hLk)
            have hd := boxes_held Y21.out X21.out w21.drew (Reading.below ⟨1, rfl⟩)
            have HH := Lib.hid (boxes_held Y21.out X21.out)
            have bd : Below w21.heap.size w21 w21.drew := Reading.below ⟨1, rfl⟩
            have J1 := Lib.hid (fun W (b : Below w21.heap.size w21 W) => (show Calls Try.prog 13 #[.agg #[.int .i64 N, .slice A20 t c20]] W fun e w' => e = .returned (.bool true) ∧ Below W.heap.size W w' by
              have := sfits_any W N A20 t c20 Lk (T21.out.below b) (by omega)
              unfold FitTold at this
              rwa [decide_eq_true fitK] at this))
            have J4 := Lib.hid (fun W (b : Below w21.heap.size w21 W) => sedges_any W N A20 t c20 Lk (T21.out.below b) (by omega) fitK)
            have J5 := Lib.hid (fun W (b : Below w21.heap.size w21 W) => sedges_any W N A t c l (HL.out.below (up2 B21.out b)) (by omega) HF.out)
            have HSK := Lib.hid sdK
            have HLn := Lib.hid hLkn
            clear fitK sdK hLk hLkn
            go_region_held3 (fun w' => w'.cell? ⟨yb, 0, none⟩ = some (.int .i64 N) ∧ w'.cell? ⟨yb, 1, none⟩ = some (.slice A20 t c20) ∧ w'.cell? ⟨g, 0, none⟩ = some (.int .i64 N) ∧ w'.cell? ⟨g, 1, none⟩ = some (.slice A t c))
              (first | exact hd | exact HH.out _ (by assumption) | fail)
              (first
                | (go_at_call 13; (with_reducible refine (J1.out _ (by assumption)).mono ?_); rintro e w26 ⟨rfl, b26⟩; have d26 := up2 bd b26; clear b26)
                | (go_at_call 30; (with_reducible refine (J4.out _ (by assumption)).mono ?_); rintro e w29 ⟨es, A29, c29, rfl, i29, o29, b29, l29⟩; have d29 := up2 d26 b29; have t29 := E2.of_own o29; clear b29 o29)
                | (go_at_call 30; (with_reducible refine (J5.out _ (by assumption)).mono ?_); rintro e w30 ⟨fs, A30, c30, rfl, i30, o30, b30, l30⟩; have d30 := up2 d29 b30; have ee := i29.one i30 HSK.out; subst ee; have KL := Lib.hid (ralike_any w30 A29 A30 es.length c29 es.length c30 es es (t29.below b30) (E2.of_own o30) (by rw [HLn.out] at l29; omega)); clear b30 o30 t29 i29 i30)
                | (go_at_call 29; (with_reducible refine KL.out.mono ?_); rintro e w31 ⟨rfl, b31⟩; have d31 := d30.trans (b31.below (B := w21.heap.size)); clear b31)
                | fail)
            all_goals
              have D31 := Lib.hid d31
              clear d26 d29 d30 d31 hd bd
              have y0 := (Y21.out.below D31.out).c0
              have y1 := (Y21.out.below D31.out).c1
              have z0 := (XX21.out.below D31.out).c0
              have z1 := (XX21.out.below D31.out).c1
              have f0 := frozen_in (XX21.out.below D31.out) 0
              have f1 := frozen_in (XX21.out.below D31.out) 1
              go_wp2_with fail
              refine ⟨⟨k + 1, A20, c20, by omega, by go_num, ?_, ?_, ?_, ?_⟩, by simp [intOf]; omega⟩
              · exact below_set2 (up2 B21.out D31.out) hwx _ _
              · exact heap_far (heap_far (X21.out.below D31.out) (by simp; omega) _) (by simp; omega) _
              · exact set2 (XX21.out.below D31.out)
              · rw [HLk.out]
                exact t3_far (T21.out.below D31.out) HA20.out
      · obtain rfl : k = 3 := by omega
        have x0 := HR.out.2.2.1.c0
        have x1 := HR.out.2.2.1.c1
        have e0 := HR.out.2.1.c0
        have T3x := HR.out.2.2.2
        rw [rotK_three] at T3x
        have KS := Lib.hid (ssame_any wr N N Ax A n cx n c l l T3x (HL.out.below HR.out.1) (by omega))
        clear T3x
        go_wp2_with fail
        refine KS.out.mono ?_
        rintro e w40 ⟨rfl, b40⟩
        have B40 := Lib.hid (up2 HR.out.1 b40)
        have X40 := Lib.hid (HR.out.2.1.below b40)
        clear b40 x0 x1 e0 e1
        have e0 := X40.out.c0
        have e1 := X40.out.c1
        by_cases hmm : m ≤ 1000000
        case neg =>
          have KR := Lib.hid (sreytfdoemebongdbaalen w40 N A B n c m d l (HL.out.below B40.out) (by omega) HF.out (by omega))
          clear hmm
          go_wp2_with fail
          refine KR.out.mono ?_
          rintro e w41 ⟨rfl, b41⟩
          have B41 := Lib.hid (up2 (up2 B40.out b41) ((Below.refl _ w41).alloc (Nat.le_refl _) (.cells #[.int .i64 0, .slice none 0 0] 24)))
          clear b41
          go_wp2_with fail
          go_ret
          exact ⟨rfl, B41.out⟩
        by_cases hp : IsPerm N to
        case neg =>
          have KR := Lib.hid (sreytfdoemebongdbaaform w40 N A B n c m d l to (HL.out.below B40.out) (HT.out.below B40.out) (by omega) hmm HF.out hp)
          clear hp
          go_wp2_with fail
          refine KR.out.mono ?_
          rintro e w41 ⟨rfl, b41⟩
          have B41 := Lib.hid (up2 (up2 B40.out b41) ((Below.refl _ w41).alloc (Nat.le_refl _) (.cells #[.int .i64 0, .slice none 0 0] 24)))
          clear b41
          go_wp2_with fail
          go_ret
          exact ⟨rfl, B41.out⟩
        obtain ⟨M, rfl⟩ : ∃ M : Nat, N = (M : Int) := ⟨N.toNat, by omega⟩
        have HMM := Lib.hid (show m = M by have := hp.1; rw [HT.out.len] at this; omega)
        have KR := Lib.hid (sreytfdoemebongdbaaok w40 (M : Int) A B n c m d l to (HL.out.below B40.out) (HT.out.below B40.out) (by omega) hmm HF.out hp)
        have HP := Lib.hid hp
        have hmkI := fun W => makeI M (by omega) W
        clear hp
        go_wp2_with fail
        refine KR.out.mono ?_
        rintro e w41 ⟨v41, rfl, A41, c41, rfl, o41, b41⟩
        obtain ⟨R, hR⟩ : ∃ R, l.map (renT to) = R := ⟨_, rfl⟩
        have hRn : R.length = n := by rw [← hR, List.length_map]; exact hll
        rw [hR, hRn] at o41
        simp only [hR, hRn]
        have HRR := Lib.hid hR
        have bx := (Below.refl _ w41).alloc (Nat.le_refl _) (.cells #[.int .i64 (M : Int), .slice A41 n c41] 24)
        have B42 := Lib.hid (up2 (up2 B40.out b41) bx)
        have X42 := Lib.hid ((X40.out.below b41).below bx)
        have Y42 := Lib.hid (Bx.made w41 (M : Int) A41 n c41)
        have T42 := Lib.hid ((T3.of_own o41).below bx)
        clear b41 bx o41 hR hRn e0 e1
        have e0 := X42.out.c0
        go_wp2_with fail
        obtain ⟨yb, hyb⟩ : ∃ yb, w41.heap.size = yb := ⟨_, rfl⟩
        obtain ⟨w42, hw42⟩ : ∃ w42, w41.alloc (.cells #[.int .i64 (M : Int), .slice A41 n c41] 24) = w42 := ⟨_, rfl⟩
        have hsz : w42.heap.size = yb + 1 := by rw [← hw42, World.size_alloc, hyb]
        rw [hw42] at B42 X42 Y42 T42
        rw [hyb] at Y42
        simp only [hw42, hyb]
        have Z0 := Lib.hid (RowI.made w42 M)
        have D0 := Lib.hid ((Below.refl _ w42).alloc (Nat.le_refl _) (zerI M))
        obtain ⟨qb, hqb⟩ : ∃ qb, yb + 1 = qb := ⟨_, rfl⟩
        obtain ⟨w43, hw43⟩ : ∃ w43, w42.alloc (zerI M) = w43 := ⟨_, rfl⟩
        rw [hqb] at hsz
        have HQB := Lib.hid hsz
        rw [hw43] at Z0 D0
        rw [hsz] at Z0
        simp only [hw43, hqb]
        clear hw42 hyb hw43 hqb hsz e0
        go_loopw [15] (VAt w42 qb M to) (fun i _ => M - (intOf i).toNat)
        case atStart => exact ⟨0, Nat.zero_le _, rfl, D0.out, by rw [toL_zero]; exact Z0.out⟩
        case round =>
          obtain ⟨v, hv, rfl, hb5, hrow⟩ := hrel
          have H5 := Lib.hid (And.intro hb5 hrow)
          have e0 := (X42.out.below hb5).c0
          clear hb5 hrow
          by_cases hlt : v < M
          · have bv : (v : Int) < M := by omega
            have hvm : v < m := by rw [HMM.out]; exact hlt
            have hvl : v < to.length := by rw [HT.out.len]; exact hvm
            obtain ⟨ad, rfl, c0⟩ := (HT.out.below (up2 B42.out H5.out.1)).int v hvm
            have hin := HP.out.2.1 _ (getDi_mem hvl)
            obtain ⟨x, hx⟩ : ∃ x : Nat, to.getD v 0 = (x : Int) := ⟨(to.getD v 0).toNat, by have := hin.1; omega⟩
            have E := Lib.hid (toL_set M to v x HP.out.2.2 hvl hx)
            rw [hx] at c0 hin
            have bvm : (v : Int) < m := by omega
            have b2 : (x : Int) < M := hin.2
            have r0 := H5.out.2.cell x (by rw [toL_len]; omega)
            have f0 := H5.out.2.frozen x
            have F := Lib.hid (H5.out.2.set x (v : Int))
            clear hin hx hvl
            go_wp2_with fail
            exact ⟨⟨v + 1, by omega, by go_num, H5.out.1.setCell (p := ⟨qb, x, none⟩) (by rw [HQB.out]; exact Nat.le_refl _) _, by rw [← E.out]; exact F.out⟩, by simp [intOf]; omega⟩
          · obtain rfl : v = M := by omega
            have bv : ¬ (v : Int) < v := by omega
            have y0 := (Y42.out.below H5.out.1).c0
            have y1 := (Y42.out.below H5.out.1).c1
            have fitR : Fit (v : Int) R := by rw [← HRR.out]; exact fit_map (ok_ren HP.out) HF.out
            have KQ := sreytfdoemebongdbaaok wr (v : Int) A41 (some ⟨qb, 0, none⟩) n c41 v v R (toL v to v) (T42.out.below H5.out.1) (H5.out.2.reads (toL_len _ _ _)) (by omega) (by omega) fitR (back_perm HP.out)
            have hback : R.map (renT (toL v to v)) = l := by rw [← HRR.out]; exact ren_back HP.out HF.out
            rw [hback] at KQ
            have KQQ := Lib.hid KQ
            have HFR := Lib.hid fitR
            have B43 := Lib.hid (up2 B42.out H5.out.1)
            clear KQ hback fitR
            go_wp2_with fail
            refine KQQ.out.mono ?_
            rintro e w50 ⟨v50, rfl, A50, c50, rfl, o50, b50⟩
            rw [hll] at o50
            simp only [hll]
            have bx := (Below.refl _ w50).alloc (Nat.le_refl _) (.cells #[.int .i64 (v : Int), .slice A50 n c50] 24)
            have B51 := Lib.hid (up2 (up2 B43.out b50) bx)
            have X51 := Lib.hid (((X42.out.below H5.out.1).below b50).below bx)
            have Y51 := Lib.hid (((Y42.out.below H5.out.1).below b50).below bx)
            have Z51 := Lib.hid (Bx.made w50 (v : Int) A50 n c50)
            have TZ := Lib.hid ((T3.of_own o50).below bx)
            have TY := Lib.hid (((T42.out.below H5.out.1).below b50).below bx)
            clear b50 bx o50 y0 y1 e0
            go_wp2_with fail
            obtain ⟨zb, hzb⟩ : ∃ zb, w50.heap.size = zb := ⟨_, rfl⟩
            obtain ⟨w51, hw51⟩ : ∃ w51, w50.alloc (.cells #[.int .i64 (v : Int), .slice A50 n c50] 24) = w51 := ⟨_, rfl⟩
            rw [hw51] at B51 X51 Y51 Z51 TZ TY
            rw [hzb] at Z51
            simp only [hw51, hzb]
            clear hw51 hzb
            have HH := Lib.hid (fun W (b : Below w51.heap.size w51 W) => And.intro (box_held Z51.out W b) (And.intro (box_held X51.out W b) (box_held Y51.out W b)))
            have bd : Below w51.heap.size w51 w51.drew := Reading.below ⟨1, rfl⟩
            have hd := HH.out w51.drew bd
            have J1 := Lib.hid (fun W (b : Below w51.heap.size w51 W) => (show Calls Try.prog 15 #[.agg #[.int .i64 (v : Int), .slice A50 n c50], .agg #[.int .i64 (v : Int), .slice A n c]] W fun e w' => e = .returned (.bool true) ∧ Below W.heap.size W w' by
              have := ssame_any W (v : Int) (v : Int) A50 A n c50 n c l l (TZ.out.below b) (HL.out.below (up2 B51.out b)) (by omega)
              unfold SameTold at this
              rwa [decide_eq_true (⟨rfl, rfl⟩ : (v : Int) = v ∧ l = l)] at this))
            have J2 := Lib.hid (fun W (b : Below w51.heap.size w51 W) => sedges_any W (v : Int) A41 n c41 R (TY.out.below b) (by omega) HFR.out)
            have J3 := Lib.hid (fun W (b : Below w51.heap.size w51 W) => sedges_any W (v : Int) A n c l (HL.out.below (up2 B51.out b)) (by omega) HF.out)
            rw [← HRR.out] at J2
            go_region_held3 (fun w' => (w'.cell? ⟨zb, 0, none⟩ = some (.int .i64 (v : Int)) ∧ w'.cell? ⟨zb, 1, none⟩ = some (.slice A50 n c50)) ∧ (w'.cell? ⟨g, 0, none⟩ = some (.int .i64 (v : Int)) ∧ w'.cell? ⟨g, 1, none⟩ = some (.slice A n c)) ∧ (w'.cell? ⟨yb, 0, none⟩ = some (.int .i64 (v : Int)) ∧ w'.cell? ⟨yb, 1, none⟩ = some (.slice A41 n c41)))
              (first | exact hd | exact HH.out _ (by assumption) | fail)
              (first
                | (go_at_call 15; (with_reducible refine (J1.out _ (by assumption)).mono ?_); rintro e w56 ⟨rfl, b56⟩; have d56 := up2 bd b56; clear b56)
                | (go_at_call 30; (with_reducible refine (J2.out _ (by assumption)).mono ?_); rintro e w59 ⟨es, A59, c59, rfl, i59, o59, b59, l59⟩; have d59 := up2 d56 b59; clear b59 o59 l59)
                | (go_at_call 30; (with_reducible refine (J3.out _ (by assumption)).mono ?_); rintro e w60 ⟨fs, A60, c60, rfl, i60, o60, b60, l60⟩; have d60 := up2 d59 b60; have le := ren_edges_len HP.out HF.out i60 i59; have f9 : ((es.length : Int) == (fs.length : Int)) = true := (by rw [le]; simp); clear b60 o60 l60 i59 i60)
                | fail)
            all_goals
              have C := Lib.hid (up2 B51.out d60)
              go_wp2_with fail
              go_ret
              exact ⟨rfl, C.out⟩

set_option maxRecDepth 100000 in
theorem lifted (os : Os) (started : os.Started) (H : Type) (enc : TypeId × Value → H) :
    ReturnsInHanded {} Try.checked os 8 .any (Rows.soupBackSpec.pre6 enc Try.prog Try.f8 Rows.soupBackRow.domain false) (Rows.soupBackSpec.post enc Try.prog Try.f8 false true false false) := by
  refine returnsInHanded_of_change (C := Try.checked) own_knob started (by kernel_rfl) Try.func8
    (ChangeSpec.witness6 (enc := enc) (C := Try.checked) false ⟨#[], #[.agg #[.int .i64 0, .slice none 0 0], .slice none 0 0], []⟩ 8 (by kernel_rfl) (by kernel_rfl) (by kernel_rfl) (by kernel_rfl)) ?_
  intro W base args ds gs before hval0 hW hcnd _
  have hval : ∀ (j : Nat) t v, Try.f8.params[j]? = some t → args[j]? = some v → Value.okWide Try.prog W .any base t v := hval0
  have hW' := hW
  obtain ⟨p, q, hA0, hV, rfl, hfz, hnd⟩ := hW
  have hA : DataW.TrodAll enc Try.prog W 0 (fun _ => true) true Try.f8.params.toList args.toList ds p := hA0
  rw [Try.params8] at hA hval
  obtain ⟨v0, vs0, d0, ds0, p0, q0, hargs, rfl, rfl, h0, r0⟩ := trodAll_cons hA
  obtain ⟨v1, vs1, d1, ds1, p1, q1, rfl, rfl, rfl, h1, r1⟩ := trodAll_cons r0
  obtain ⟨rfl, rfl, rfl⟩ := trodAll_nil r1
  obtain rfl : args = #[v0, v1] := by cases args; simp_all
  obtain ⟨rfl, rfl⟩ := trodVars_none hV
  have lt0 : ∀ x ∈ p0, x.block < W.heap.size := by obtain ⟨m, hm⟩ := h0; exact DataW.trod_lt m _ _ _ hm
  obtain ⟨N0, a0, len0, cap0, xs0, rfl, hN0, hr0⟩ := arg_soup (hval 0 24 v0 rfl rfl) h0
  obtain ⟨a1, len1, cap1, rfl⟩ := okWide_slice Try.underlying29 (hval 1 29 v1 rfl rfl)
  have lt1 : ∀ x ∈ p1, x.block < W.heap.size := by obtain ⟨m, hm⟩ := h1; exact DataW.trod_lt m _ _ _ hm
  obtain ⟨hc1, xs1, hx1, hr1⟩ := arg_ints h1
  clear hA0 hval0
  refine (walk N0 a0 len0 cap0 xs0 a1 len1 cap1 xs1 W hN0.1 hN0.2 hr0 hc1 hx1 hr1).mono fun e W' ⟨he, bel⟩ => ?_
  subst he
  exact ⟨_, rfl, _, _, _, [], _, [], hW', trodAll_mk1 (shut_bool Try.underlying4 _), (trodAll_cons_mk (Below.trod laid_out (by kernel_rfl) (of_decide_eq_true (by kernel_rfl)) h0 bel lt0) (trodAll_cons_mk (Below.trod laid_out (by kernel_rfl) (of_decide_eq_true (by kernel_rfl)) h1 bel lt1) trodAll_mk0)), rfl, bel.frame _, fun h => by cases h⟩

theorem over : Rows.soupBackRow.holds Try.pinned (OpenSpec.ofChange Rows.soupBackSpec) :=
  OpenClaim.holds_of_wide 8 Try.f8 rfl rfl rfl rfl rfl rfl rfl ⟨rfl, rfl, rfl, rfl, rfl⟩ rfl rfl rfl rfl rfl (by kernel_rfl) Try.func8 (by kernel_rfl)
    (of_decide_eq_true (by kernel_rfl)) (by unfold Func.isWrapper; first | (rw [if_pos (by decide +kernel)]; kernel_rfl) | (rw [if_neg (by decide +kernel)]; exact ⟨rfl, rfl⟩))
    (fun os started H enc _ => lifted os started H enc)

theorem proved : Rows.SoupBackSaid := over
end Go.Proofs.Ytfdoemebongdbaa.soupBack
