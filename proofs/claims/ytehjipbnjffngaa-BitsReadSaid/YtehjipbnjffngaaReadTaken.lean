/- BitsRead's walk where the bytes are taken. -/
import Derived.Test.YtehjipbnjffngaaReadWalk
namespace Go.Proofs.Ytehjipbnjffngaa.bitsRead
open Go.RowKit

theorem slice_mid (A : Option Addr) (N c m k z : Nat) (hA : A = none ∨ ∃ q, A = some ⟨q, 0, none⟩) (hk : k + z ≤ m) (hm : m ≤ N) (hN : N ≤ c) :
    ∃ A', (∀ W : World, (Instr.slice 27 (.slice A m c) (some (.int .i64 (k : Int))) (some (.int .i64 ((k : Int) + (z : Int)))) none).run Try.prog W = .ok (.slice A' z (c - k)) W) ∧
      ∀ (W : World) (B : Nat) (L : List Bool), L.length = N → W.ownsRow B 3 1 (.slice A N c) N (i64s L) → Reads W A' z (i64s ((L.drop k).take z)) := by
  refine ⟨if c = k then A else A.map (·.add (k * 1)), fun W => ?_, fun W B L hL ho => ⟨by rw [length_i64s]; simp; omega, fun hz => ?_⟩⟩
  · rw [run_slice_lh (P := Try.prog) W 27 A m c (by kernel_rfl) .i64 .i64 k ((k : Int) + z) (by omega) (by omega) (by omega)]
    have : (sizeOf (Try.prog.elem 27)).run Try.prog W = .ok 1 W := by kernel_rfl
    rw [this]
    simp only [Result.andThen, sliced]
    rw [show ((k : Int) + (z : Int)).toNat - (k : Int).toNat = z by omega, Int.toNat_natCast]
  · rw [if_neg (by omega)]
    obtain ⟨q, cap, hq, _⟩ := ho.form (by omega)
    injection hq with e1 e2 e3
    subst e1
    refine ⟨_, rfl, fun j u hj => ?_⟩
    have hjz : j < z := by
      have := (List.getElem?_eq_some_iff.1 hj).1
      rw [length_i64s] at this
      simp at this; omega
    have ea : ((⟨q, 0, none⟩ : Addr).add (k * 1)).add j = ⟨q, k + j, none⟩ := by
      have e0 : ∀ (b o i : Nat), (⟨b, o, none⟩ : Addr).add i = ⟨b, o + i, none⟩ := fun b o i => by unfold Addr.add; split <;> simp_all
      rw [e0, e0]; simp
    rw [ea, ho.cellAt (k + j) (by omega), ← hj]
    simp [i64s, hjz]

structure Main (w : World) (r p : Nat) (xs : List Nat) (m k : Nat) (A : Option Addr) (c : Nat) (wr : World) : Prop where
  rd : RIs wr r p (unpack xs m) k
  row : wr.ownsRow w.heap.size 3 1 (.slice A (allBits xs).length c) (allBits xs).length (i64s (allBits xs))
  bel : Below w.heap.size w wr
  br : w.heap.size ≤ r
theorem Main.same {w wr wx : World} {r p : Nat} {xs : List Nat} {m k : Nat} {A : Option Addr} {c : Nat} (h : Main w r p xs m k A c wr) (hs : Same wr wr wx) : Main w r p xs m k A c wx := ⟨h.rd.same hs, own_congr hs.heap h.row, h.bel.trans hs.below, h.br⟩
theorem Main.read {w wr wx : World} {r p : Nat} {xs : List Nat} {m k j : Nat} {A : Option Addr} {c : Nat} (h : Main w r p xs m k A c wr) (hr : RIs wx r p (unpack xs m) j) (hg : wr.grownBy wx (some r)) : Main w r p xs m j A c wx := by
  refine ⟨hr, ⟨h.row.1, ?_⟩, h.bel.trans (grown_below hg h.bel.size h.br), h.br⟩
  rcases h.row.2 with h2 | ⟨q, cap, cur, e, hq, hh, rest⟩
  · exact .inl h2
  · refine .inr ⟨q, cap, cur, e, hq, (hg.block q (heap_lt hh) (fun e' => ?_)).trans hh, rest⟩
    have e2 : q = r := by injection e'
    subst e2
    have := h.rd.blk
    rw [hh] at this
    injection this with this
    injection this with _ ht
    exact absurd ht (by decide)
/-- A store into a row of bytes of the call's own, other than the reader's, leaves all this as it was. -/
theorem Main.set {w wr : World} {r p : Nat} {xs : List Nat} {m k : Nat} {A : Option Addr} {c q j : Nat} {cur : Array Value} {u : Value} (h : Main w r p xs m k A c wr) (hq : wr.heap[q]? = some (.cells cur 5 (0, 0))) (hB : w.heap.size ≤ q) (h1 : q ≠ r) (h2 : q ≠ p) :
    Main w r p xs m k A c (wr.setCell ⟨q, j, none⟩ u) := by
  refine ⟨⟨heap_far h.rd.blk (p := ⟨q, j, none⟩) (fun e => h1 e.symm) u, heap_far h.rd.row (p := ⟨q, j, none⟩) (fun e => h2 e.symm) u, h.rd.le, h.rd.size⟩, ownsRow_far h.row (p := ⟨q, j, none⟩) (fun e => ?_) u, h.bel.setCell hB u, h.br⟩
  rcases h.row.2 with ⟨e1, _⟩ | ⟨q', cap, cur', e1, _, hh, _⟩
  · rw [e1] at e; simp [Value.ownBlock] at e
  · rw [e1] at e
    have e2 : q' = q := by simpa [Value.ownBlock] using e
    subst e2
    rw [hq] at hh
    injection hh with hh
    injection hh with _ ht
    exact absurd ht (by decide)

theorem at_k (w : World) (r p : Nat) (xs : List Nat) (m k : Nat) (z : Int) (hz : (k : Int) = z) (h : RIs w r p (unpack xs m) k) : Calls Try.prog 23 #[.pointer (some ⟨r, 0, none⟩)] w fun e w' => e = .returned (.int .i64 z) ∧ w = w' := by
  rw [← hz]; exact at_any w r p (unpack xs m) k h
theorem left_k (w : World) (r p : Nat) (xs : List Nat) (m k : Nat) (z : Int) (hz : (k : Int) = z) (h : RIs w r p (unpack xs m) k) : Calls Try.prog 24 #[.pointer (some ⟨r, 0, none⟩)] w fun e w' => e = .returned (.int .i64 ((m : Int) - z)) ∧ Same w w w' := by
  have := left_any w r p (unpack xs m) k h
  rw [length_unpack] at this
  rw [← hz]; exact this

def ZeroAt2 (w : World) (r p : Nat) (xs : List Nat) (m : Nat) (A : Option Addr) (c n : Nat) (own : Value) (i : Value) (wr : World) : Prop :=
  ∃ k ys, k ≤ n ∧ i = .int .i64 (k : Nat) ∧ wr.ownsRow w.heap.size 5 1 own n ys ∧ Main w r p xs m 0 A c wr
def ReadAt (w : World) (r p : Nat) (xs : List Nat) (m : Nat) (A : Option Addr) (c n : Nat) (at_ i : Value) (wr : World) : Prop :=
  ∃ j k : Nat, j ≤ n ∧ i = .int .i64 j ∧ at_ = .int .i64 k ∧ Main w r p xs m k A c wr

set_option maxHeartbeats 6400000 in
set_option maxRecDepth 100000 in
theorem taken (w : World) (A : Option Addr) (n c m : Nat) (C : Option Addr) (k d : Nat) (xs : List Nat) (ws : List Int) (hn : n ≤ 120) (hk : k ≤ 60) (h : Reads w A n (u8s xs)) (hA : A = none → c = 0) (hx : ∀ x ∈ xs, x < 256)
    (hw : Reads w C k (i64w ws)) (hl : n = (m + 7) / 8) (hf : m % 8 = 0 ∨ xs.getD (m / 8) 0 * 2 ^ (m % 8) % 256 = 0) :
    Calls Try.prog 4 #[.slice A n c, .int .i64 m, .slice C k d] w fun e w' => e = .returned (.bool true) ∧ Below w.heap.size w w' := by
  have hxl : xs.length = n := by have := h.1; rwa [length_u8s] at this
  have hpk := pack_unpack xs m hx (by omega) hf
  have hul := length_unpack xs m
  obtain ⟨i0, hi, hz0, hz1, hz2⟩ := info_parts Try.info5
  have HI := Lib.hid hi
  have HZ := Lib.hid (And.intro hz0 (And.intro hz1 hz2))
  have HR := Lib.hid h
  have HN := Lib.hid hA
  have HW := Lib.hid hw
  have HNR := Lib.hid (show ∀ W Ao co, Reads W Ao n (u8s xs) → Calls Try.prog 19 #[.slice Ao n co, .int .i64 (m : Int)] W (Made W (unpack xs m)) from fun W Ao co hr => by
    have := nr_ok W Ao co (unpack xs m) (by omega)
    rw [hpk, hxl, hul] at this
    exact this hr)
  have HOP := Lib.hid (show ∀ W, Reads W A n (u8s xs) → Calls Try.prog 20 #[.slice A n c, .int .i64 (m : Int)] W (Opened2 W xs m) from fun W hr =>
    open_ok W A n c m xs hn hx hr (by omega) (by omega) (fun i h1 h2 => tail_noughts xs m (by omega) hf i h1 (by omega)))
  have HU := Lib.hid hul
  have HAL := Lib.hid (show (allBits xs).length = 8 * n ∧ (allBits xs).take m = unpack xs m from ⟨by rw [length_allBits, hxl], take_allBits xs m (by omega)⟩)
  have b : ¬ (120 : Int) < n := by omega
  have b2 : ¬ (60 : Int) < k := by omega
  have hm9 : m ≤ 960 := by omega
  have hmn : m ≤ 8 * n := by omega
  clear hi hz0 hz1 hz2 h hA hw hx hpk hul hxl hf hl
  go_enter Try.func4, Try.ntmps4
  go_wp2_with fail
  refine (awake_true w).mono ?_
  rintro e w1 ⟨rfl, b1⟩
  have B1 := Lib.hid b1
  clear b1
  have N1 := Lib.hid (World.ownsRow_lit (base := w.heap.size) (e := 5) (size := 1) w1 #[] 0 B1.out.size (by unfold maxLen; omega) rfl)
  have R1 := Lib.hid ((HR.out.below B1.out).below ((Below.refl w1.heap.size w1).alloc (Nat.le_refl _) (.cells #[] 5)))
  go_wp2_with (at_builtin; refine wpList_append_reads rfl (.tmp 30) (.tmp 31) 24 rfl w.heap.size 5 i0 (.int .u8 0) 1 Try.underlying24 HI.out HZ.out rfl (.slice (some ⟨w1.heap.size, 0, none⟩) 0 0) 0 [] rfl N1.out A n c (u8s xs) rfl R1.out HN.out (u8s_one xs) ?b1 ?b2 ?b3 ?_)
  case b1 => unfold maxLen; omega
  case b2 => omega
  case b3 => have := B1.out.size; simp; omega
  intro own w2 hown hgr
  have hown' : w2.ownsRow w.heap.size 5 1 own n (u8s xs) := by simpa using hown
  have B2 := Lib.hid ((B1.out.alloc B1.out.size (.cells #[] 5)).grown hgr (by have := B1.out.size; simp; omega) (fun j e => (N1.out.lt j e).1))
  obtain ⟨Ao, co, rfl, hro⟩ := reads_own hown'
  have O2 := Lib.hid hown'
  have RO := Lib.hid hro
  clear hown hown' hgr hro
  go_wp2_with fail
  refine (HNR.out w2 Ao co RO.out).mono ?_
  rintro e w3 ⟨r, p, rfl, hrd, b3, hr, hp⟩
  have B3 := Lib.hid (B2.out.trans (b3.mono B2.out.size))
  have O3 := Lib.hid (show w3.ownsRow w.heap.size 5 1 (.slice Ao n co) n (u8s xs) from ⟨O2.out.1, by
    rcases O2.out.2 with h2 | ⟨q, cap, cur, e, hq, hh, rest⟩
    · exact .inl h2
    · exact .inr ⟨q, cap, cur, e, hq, (b3.block q (heap_lt hh)).trans hh, rest⟩⟩)
  have FAR := Lib.hid (show ∀ q, Ao = some ⟨q, 0, none⟩ → q ≠ r ∧ q ≠ p from fun q e => by
    have := (O2.out.lt q (by rw [e]; rfl)).2
    omega)
  have RD3 := Lib.hid hrd
  have hbr : w.heap.size ≤ r := Nat.le_trans B2.out.size hr
  clear b3 hr hp hrd
  go_wp2_with fail
  refine (HOP.out w3 (HR.out.below B3.out)).mono ?_
  rintro e w4 ⟨A3, c3, rfl, hrow, b4⟩
  have M4 := Lib.hid (show Main w r p xs m 0 A3 c3 w4 from ⟨RD3.out.below b4, ⟨hrow.1, by
    rcases hrow.2 with h2 | ⟨q, cap, cur, e, hq, rest⟩
    · exact .inl h2
    · exact .inr ⟨q, cap, cur, e, Nat.le_trans B3.out.size hq, rest⟩⟩, B3.out.trans (b4.mono B3.out.size), hbr⟩)
  have O4 := Lib.hid (show w4.ownsRow w.heap.size 5 1 (.slice Ao n co) n (u8s xs) from ⟨O3.out.1, by
    rcases O3.out.2 with h2 | ⟨q, cap, cur, e, hq, hh, rest⟩
    · exact .inl h2
    · exact .inr ⟨q, cap, cur, e, hq, (b4.block q (heap_lt hh)).trans hh, rest⟩⟩)
  have FORM := Lib.hid (show (A3 = none ∨ ∃ q, A3 = some ⟨q, 0, none⟩) ∧ (allBits xs).length ≤ c3 by
    rcases hrow.2 with ⟨e1, e2⟩ | ⟨q, cap, cur, e1, _, _, e2, _⟩
    · injection e1 with e3 e4 e5; exact ⟨.inl e3, by omega⟩
    · injection e1 with e3 e4 e5; exact ⟨.inr ⟨q, e3⟩, by omega⟩)
  clear b4 hrow
  go_wp2_with fail
  go_loopw [57] (ZeroAt2 w r p xs m A3 c3 n (.slice Ao n co)) (fun i _ => n - (intOf i).toNat)
  case atStart => exact ⟨0, _, Nat.zero_le _, rfl, O4.out, M4.out⟩
  case round =>
    obtain ⟨j, ys, hj, rfl, ho, hmn4⟩ := hrel
    by_cases hlt : j < n
    · obtain ⟨q, cap, hq, _⟩ := ho.form (by omega)
      obtain ⟨rfl, rfl⟩ : Ao = some ⟨q, 0, none⟩ ∧ co = cap := by injection hq with e1 e2 e3; exact ⟨e1, e3⟩
      have hyl : j < ys.length := by have := ho.1; omega
      have hcell := ho.cellAt j (by omega)
      rw [List.getElem?_eq_getElem hyl] at hcell
      have hfz := ho.frozenAt j
      have P1 := Lib.hid (ho.stored j (.int .u8 0)).1
      have hblk : ∃ cur, wr.heap[q]? = some (.cells cur 5 (0, 0)) := by
        rcases ho.2 with ⟨e1, _⟩ | ⟨q', cap', cur, e1, _, hh, _⟩
        · simp at e1
        · injection e1 with e3 e4 e5
          injection e3 with e3
          injection e3 with e3
          subst e3
          exact ⟨cur, hh⟩
      obtain ⟨cur, hcur⟩ := hblk
      have P2 := Lib.hid (hmn4.set (j := j) (u := .int .u8 0) hcur (ho.lt q rfl).1 (FAR.out q rfl).1 (FAR.out q rfl).2)
      generalize ys[j] = y at *
      have t0 : (j : Int) < n := by omega
      clear ho hmn4 hq hcur
      go_wp2_with fail
      exact ⟨⟨j + 1, _, by omega, by go_num, P1.out, P2.out⟩, by simp [intOf]; omega⟩
    · have t0 : ¬ (j : Int) < n := by omega
      have MM := Lib.hid hmn4
      clear ho hmn4
      go_wp2_with fail
      go_loopw [13, 14] (ReadAt w r p xs m A3 c3 k) (fun _ i _ => k - (intOf i).toNat)
      case atStart => exact ⟨0, 0, Nat.zero_le _, rfl, rfl, MM.out⟩
      case round =>
        obtain ⟨j2, at0, hj2, rfl, rfl, hmr⟩ := hrel
        have MR := Lib.hid hmr
        have hat : at0 ≤ m := by have := hmr.rd.le; rwa [HU.out] at this
        clear hmr
        by_cases hlt2 : j2 < k
        · have t9 : (j2 : Int) < k := by omega
          obtain ⟨aw, rfl, hcw⟩ := HW.out.2 (by omega)
          have hwl : j2 < ws.length := by
            have := HW.out.1
            simp [i64w] at this; omega
          have c0 := hcw j2 (.int .i64 ws[j2]) (by simp [i64w, List.getElem?_eq_getElem hwl])
          have d0 := (MR.out.bel.cell (World.block_lt_of_cell? w _ c0)).trans c0
          have CW := Lib.hid c0
          generalize ws[j2] = z at *
          clear c0 hcw
          by_cases z0 : z < 0
          · go_wp2_with fail
            refine (get_width wr r z (.inl z0)).mono ?_
            rintro e w5 ⟨rfl, rfl⟩
            have u1 : (((at0 : Int) : Int) != ((at0 : Int) : Int)) = false := by simp
            have u2 : (((m : Int) - (at0 : Int)) != ((m : Int) - (at0 : Int))) = false := by simp
            go_wp2_with fail
            refine (at_k wr r p xs m at0 ((at0 : Int)) (by omega) MR.out.rd).mono ?_
            rintro e w6 ⟨rfl, rfl⟩
            go_wp2_with fail
            refine (left_k wr r p xs m at0 ((at0 : Int)) (by omega) MR.out.rd).mono ?_
            rintro e w7 ⟨rfl, h7⟩
            have M7 := Lib.hid (MR.out.same h7)
            clear h7
            go_wp2_with fail
            exact ⟨⟨j2 + 1, at0, by omega, by go_num, by first | rfl | go_num, M7.out⟩, by simp [intOf]; omega⟩
          · by_cases z1 : 64 < z
            · go_wp2_with fail
              refine (get_width wr r z (.inr z1)).mono ?_
              rintro e w5 ⟨rfl, rfl⟩
              have u1 : (((at0 : Int) : Int) != ((at0 : Int) : Int)) = false := by simp
              have u2 : (((m : Int) - (at0 : Int)) != ((m : Int) - (at0 : Int))) = false := by simp
              go_wp2_with fail
              refine (at_k wr r p xs m at0 ((at0 : Int)) (by omega) MR.out.rd).mono ?_
              rintro e w6 ⟨rfl, rfl⟩
              go_wp2_with fail
              refine (left_k wr r p xs m at0 ((at0 : Int)) (by omega) MR.out.rd).mono ?_
              rintro e w7 ⟨rfl, h7⟩
              have M7 := Lib.hid (MR.out.same h7)
              clear h7
              go_wp2_with fail
              exact ⟨⟨j2 + 1, at0, by omega, by go_num, by first | rfl | go_num, M7.out⟩, by simp [intOf]; omega⟩
            · obtain ⟨y, rfl⟩ : ∃ y : Nat, z = (y : Int) := ⟨z.toNat, by omega⟩
              by_cases z2 : m - at0 < y
              · go_wp2_with fail
                refine (get_end wr r p (unpack xs m) at0 y MR.out.rd (by omega) (by rw [HU.out]; exact z2)).mono ?_
                rintro e w5 ⟨rfl, h5⟩
                have M5 := Lib.hid (MR.out.same h5)
                have d5 := (same_cell h5 _).trans d0
                have z3 : (m : Int) - at0 < y := by omega
                clear h5 d0
                have u1 : (((at0 : Int) : Int) != ((at0 : Int) : Int)) = false := by simp
                have u2 : (((m : Int) - (at0 : Int)) != ((m : Int) - (at0 : Int))) = false := by simp
                go_wp2_with fail
                refine (at_k w5 r p xs m at0 ((at0 : Int)) (by omega) M5.out.rd).mono ?_
                rintro e w6 ⟨rfl, rfl⟩
                go_wp2_with fail
                refine (left_k w5 r p xs m at0 ((at0 : Int)) (by omega) M5.out.rd).mono ?_
                rintro e w7 ⟨rfl, h7⟩
                have M7 := Lib.hid (M5.out.same h7)
                clear h7
                go_wp2_with fail
                exact ⟨⟨j2 + 1, at0, by omega, by go_num, by first | rfl | go_num, M7.out⟩, by simp [intOf]; omega⟩
              · obtain ⟨A4, hsl, hrd4⟩ := slice_mid A3 (allBits xs).length c3 m at0 y FORM.out.1 (by omega) (by rw [HAL.out.1]; exact hmn) FORM.out.2
                have RD4 := Lib.hid hrd4
                have HSL := Lib.hid hsl
                have z3 : ¬ (m : Int) - at0 < y := by omega
                clear hrd4 hsl
                go_wp2_with fail
                refine (get_ok wr r p (unpack xs m) at0 y MR.out.rd (by omega) (by rw [HU.out]; omega)).mono ?_
                rintro e w5 ⟨rfl, h5, g5⟩
                have M5 := Lib.hid (MR.out.read h5 g5)
                have d5 := (M5.out.bel.cell (World.block_lt_of_cell? w _ CW.out)).trans CW.out
                have HNum := Lib.hid (show Calls Try.prog 22 #[.slice A4 y (c3 - at0)] w5 fun e w' => e = .returned (.int .u64 (num (((unpack xs m).drop at0).take y) : Nat)) ∧ w5 = w' by
                  have h1 := RD4.out w5 _ (allBits xs) rfl M5.out.row
                  have h2 : ((allBits xs).drop at0).take y = ((unpack xs m).drop at0).take y := by
                    rw [← HAL.out.2, List.drop_take, List.take_take, Nat.min_eq_left (by omega)]
                  rw [h2] at h1
                  exact refNumber_any w5 A4 y (c3 - at0) _ (by omega) h1)
                have hsl := HSL.out
                generalize num (((unpack xs m).drop at0).take y) = v at *
                have u0 : ((v : Int) != (v : Int)) = false := by simp
                clear h5 g5 d0
                go_wp2_with fail
                refine HNum.out.mono ?_
                rintro e w6 ⟨rfl, rfl⟩
                clear hsl
                have u1 : (((at0 : Int) + (y : Int) : Int) != ((at0 : Int) + (y : Int) : Int)) = false := by simp
                have u2 : (((m : Int) - (at0 : Int) + (y : Int)) != ((m : Int) - (at0 : Int) + (y : Int))) = false := by simp
                go_wp2_with fail
                refine (at_k w5 r p xs m (at0 + y) ((at0 : Int) + (y : Int)) (by omega) M5.out.rd).mono ?_
                rintro e w6 ⟨rfl, rfl⟩
                go_wp2_with fail
                refine (left_k w5 r p xs m (at0 + y) ((at0 : Int) + (y : Int)) (by omega) M5.out.rd).mono ?_
                rintro e w7 ⟨rfl, h7⟩
                have M7 := Lib.hid (M5.out.same h7)
                clear h7
                go_wp2_with fail
                exact ⟨⟨j2 + 1, (at0 + y), by omega, by go_num, by first | rfl | go_num, M7.out⟩, by simp [intOf]; omega⟩
        · have t9 : ¬ (j2 : Int) < k := by omega
          go_wp2_with fail
          go_ret
          exact ⟨rfl, MR.out.bel⟩
end Go.Proofs.Ytehjipbnjffngaa.bitsRead
