/- Items, as the statements of layer 1 take them: a value and a width each; Fits, fits and put over them. -/
import Derived.Test.YtehjipbnjffngaaTell
import Derived.StillTailTactics
namespace Go.Proofs.Ytehjipbnjffngaa
open Go.RowKit

/-- A slice of items that reads as l (nil let in). -/
def Items (w : World) (A : Option Addr) (n : Nat) (l : List (Nat × Int)) : Prop :=
  l.length = n ∧ (0 < n → ∃ b off, A = some ⟨b, off, none⟩ ∧ ∀ i x, l[i]? = some x →
    w.cell? ⟨b, off + i * 2, none⟩ = some (.int .u64 (x.1 : Int)) ∧ w.cell? ⟨b, off + i * 2 + 1, none⟩ = some (.int .i64 x.2) ∧ x.1 < 18446744073709551616)
theorem Items.below {w w' : World} {A : Option Addr} {n : Nat} {l : List (Nat × Int)} (h : Items w A n l) (hb : Below w.heap.size w w') : Items w' A n l :=
  ⟨h.1, fun hn => by
    obtain ⟨b, off, hA, hc⟩ := h.2 hn
    refine ⟨b, off, hA, fun i x hx => ?_⟩
    obtain ⟨c0, c1, hv⟩ := hc i x hx
    exact ⟨(hb.cell (World.block_lt_of_cell? w _ c0)).trans c0, (hb.cell (World.block_lt_of_cell? w _ c1)).trans c1, hv⟩⟩

/-- May an item be written? -/
def okItem (x : Nat × Int) : Bool := decide (0 ≤ x.2) && (decide (x.2 ≤ 64) && decide (x.1 < 2 ^ x.2.toNat))

theorem halve (v k : Nat) (hv : v < 18446744073709551616) : Value.int IntKind.u64 (IntKind.u64.wrap (((v : Int) / 2 ^ k).tdiv 2)) = .int .u64 (v / 2 ^ (k + 1) : Nat) := by
  have h1 : v / 2 ^ (k + 1) = v / 2 ^ k / 2 := by rw [Nat.pow_succ, Nat.div_div_eq_div_mul]
  have h2 : v / 2 ^ k ≤ v := Nat.div_le_self _ _
  rw [div_cast, h1]
  generalize v / 2 ^ k = q at *
  rw [show (2 : Int) = ((2 : Nat) : Int) from rfl, ← Int.ofNat_tdiv]
  generalize hr : q / 2 = r
  have : r ≤ q := by omega
  congr 1
  simp [IntKind.wrap, IntKind.bits, IntKind.signed]
  omega
theorem div_zero (v k : Nat) : ((v : Int) / 2 ^ k == 0) = decide (v < 2 ^ k) := by
  rw [div_cast, Bool.eq_iff_iff, beq_iff_eq, decide_eq_true_iff]
  constructor
  · intro h
    have h' : v / 2 ^ k = 0 := by omega
    rcases Nat.div_eq_zero_iff.1 h' with h | h
    · exact absurd h (Nat.ne_of_gt (Nat.two_pow_pos k))
    · exact h
  · intro h; rw [Nat.div_eq_of_lt h]; rfl

theorem refFits_any (v n : Nat) (w : World) (hn : n ≤ 64) (hv : v < 18446744073709551616) :
    Calls Try.prog 12 #[.int .u64 v, .int .i64 n] w fun e w' => e = .returned (.bool (decide (v < 2 ^ n))) ∧ w' = w := by
  go_enter Try.func12, Try.ntmps12
  go_wp2
  go_loop [0, 5] (fun x i => ∃ k : Nat, k ≤ n ∧ i = .int .i64 k ∧ x = .int .u64 (v / 2 ^ k : Nat)) (fun _ i => n - (intOf i).toNat)
  case atStart => exact ⟨0, Nat.zero_le _, rfl, by simp⟩
  case round =>
    obtain ⟨k, hk, rfl, rfl⟩ := hrel
    by_cases hlt : k < n
    · go_wp2
      refine ⟨⟨k + 1, by omega, by go_num, ?_⟩, by simp [intOf]; omega⟩
      rw [halve v k hv]
    · go_wp2
      go_ret
      have hkn : k = n := by omega
      subst hkn
      exact ⟨congrArg (fun b => Ending.returned (.bool b)) (div_zero v k), rfl⟩

theorem all_false {l : List (Nat × Int)} {k : Nat} {x : Nat × Int} (hx : l[k]? = some x) (h : okItem x = false) : l.all okItem = false := by
  rw [List.all_eq_false]
  exact ⟨x, List.mem_of_getElem? hx, by rw [h]; simp⟩

def FitsAt (w : World) (l : List (Nat × Int)) (n : Nat) (i : Value) (wr : World) : Prop := ∃ k : Nat, k ≤ n ∧ i = .int .i64 k ∧ (∀ j x, j < k → l[j]? = some x → okItem x = true) ∧ Same w w wr

set_option maxHeartbeats 1600000 in
theorem fits_some (w : World) (b off n c : Nat) (l : List (Nat × Int)) (hn : n ≤ 9223372036854775807) (h : Items w (some ⟨b, off, none⟩) n l) :
    Calls Try.prog 25 #[.slice (some ⟨b, off, none⟩) n c] w fun e w' => e = .returned (.bool (l.all okItem && decide (n ≤ 60))) ∧ Same w w w' := by
  have HI := Lib.hid h
  clear h
  go_enter Try.func25, Try.ntmps25
  go_wp2
  go_loopw [3] (FitsAt w l n) (fun i _ => n - (intOf i).toNat)
  case atStart => exact ⟨0, Nat.zero_le _, rfl, fun j x hj => absurd hj (by omega), rfl, rfl, rfl, rfl⟩
  case round =>
    obtain ⟨k, hk, rfl, hok, hs⟩ := hrel
    have HK := Lib.hid hok
    have HS := Lib.hid hs
    clear hok hs
    by_cases hlt : k < n
    · have hkl : k < l.length := by rw [HI.out.1]; exact hlt
      obtain ⟨b', off', hA, hc⟩ := HI.out.2 (by omega)
      obtain ⟨rfl, rfl⟩ : b = b' ∧ off = off' := by
        injection hA with hA; injection hA with h1 h2; exact ⟨h1, h2⟩
      obtain ⟨c0, c1, hv⟩ := hc k l[k] (List.getElem?_eq_getElem hkl)
      have HX := Lib.hid (List.getElem?_eq_getElem hkl)
      generalize l[k] = x at *
      obtain ⟨v, m⟩ := x
      have d0 := (same_cell HS.out _).trans c0
      have d1 := (same_cell HS.out _).trans c1
      clear hA hc c0 c1
      have b1 : (k : Int) < n := by omega
      by_cases m0 : m < 0
      · have HF := Lib.hid (all_false (x := (v, m)) HX.out (by simp [okItem]; omega))
        go_wp2_with fail
        go_quiet (fail)
        go_wp2
        go_ret
        exact ⟨by rw [HF.out]; rfl, HS.out.heap, HS.out.os, HS.out.tape, HS.out.output⟩
      · by_cases m1 : 64 < m
        · have HF := Lib.hid (all_false (x := (v, m)) HX.out (by simp [okItem]; omega))
          have e0 : decide (m < 0) = false := by simp; omega
          go_wp2_with fail
          go_quiet (fail)
          go_wp2
          go_ret
          exact ⟨by rw [HF.out]; rfl, HS.out.heap, HS.out.os, HS.out.tape, HS.out.output⟩
        · obtain ⟨q, rfl⟩ : ∃ q : Nat, m = (q : Int) := ⟨m.toNat, by omega⟩
          have e0 : decide ((q : Int) < 0) = false := by simp
          have e1 : decide ((64 : Int) < (q : Int)) = false := by simp; omega
          have HC := Lib.hid (fun W => refFits_any v q W (by omega) hv)
          by_cases hq : v < 2 ^ q
          · have HF := Lib.hid (show okItem (v, (q : Int)) = true by simp [okItem]; omega)
            have e2 : decide (v < 2 ^ q) = true := by simpa using hq
            have H2 := Lib.hid hq
            clear hq
            go_wp2_with fail
            go_quiet ((go_at_call 12; exact Calls.quiet_of_same (HC.out _)))
            go_wp2
            refine ⟨⟨k + 1, by omega, by go_num, fun j x hj hx => ?_, HS.out.heap, HS.out.os, HS.out.tape, HS.out.output⟩, by simp [intOf]; omega⟩
            by_cases hjk : j = k
            · subst hjk; rw [HX.out] at hx; injection hx with hx; rw [← hx]; exact HF.out
            · exact HK.out j x (by omega) hx
          · have HF := Lib.hid (all_false (x := (v, (q : Int))) HX.out (by simp [okItem]; omega))
            have e2 : decide (v < 2 ^ q) = false := by simpa using hq
            clear hq
            go_wp2_with fail
            go_quiet ((go_at_call 12; exact Calls.quiet_of_same (HC.out _)))
            go_wp2
            go_ret
            exact ⟨by rw [HF.out]; rfl, HS.out.heap, HS.out.os, HS.out.tape, HS.out.output⟩
    · have HA := Lib.hid (show l.all okItem = true by
        rw [List.all_eq_true]
        intro x hx
        obtain ⟨j, hj, rfl⟩ := List.getElem_of_mem hx
        exact HK.out j _ (by rw [HI.out.1] at hj; omega) (List.getElem?_eq_getElem hj))
      go_wp2
      go_ret
      exact ⟨by rw [HA.out]; simp; omega, HS.out⟩

theorem fits_none (w : World) (A : Option Addr) (c : Nat) : Calls Try.prog 25 #[.slice A 0 c] w fun e w' => e = .returned (.bool true) ∧ Same w w w' := by
  go_enter Try.func25, Try.ntmps25
  go_wp2
  go_loop [3] (fun i => i = .int .i64 0) (fun _ => 0)
  case atStart => rfl
  case round =>
    subst hrel
    go_wp2
    go_ret
    exact ⟨rfl, rfl, rfl, rfl, rfl⟩

theorem fits_any (w : World) (A : Option Addr) (n c : Nat) (l : List (Nat × Int)) (hn : n ≤ 9223372036854775807) (h : Items w A n l) :
    Calls Try.prog 25 #[.slice A n c] w fun e w' => e = .returned (.bool (l.all okItem && decide (n ≤ 60))) ∧ Same w w w' := by
  by_cases h0 : n = 0
  · subst h0
    have : l = [] := List.eq_nil_of_length_eq_zero h.1
    subst this
    exact fits_none w A c
  · obtain ⟨b, off, rfl, _⟩ := h.2 (by omega)
    exact fits_some w b off n c l hn h

/-- The bits of items, one behind the other. -/
def bitsAll (l : List (Nat × Int)) : List Bool := l.flatMap fun x => bitsOf x.1 x.2.toNat
theorem bitsAll_nil : bitsAll [] = [] := rfl
theorem bitsAll_snoc (l : List (Nat × Int)) (x : Nat × Int) : bitsAll (l ++ [x]) = bitsAll l ++ bitsOf x.1 x.2.toNat := by simp [bitsAll]
theorem bitsAll_append (l m : List (Nat × Int)) : bitsAll (l ++ m) = bitsAll l ++ bitsAll m := by simp [bitsAll]
theorem bitsAll_len (l : List (Nat × Int)) (h : l.all okItem = true) : (bitsAll l).length ≤ 64 * l.length := by
  induction l with
  | nil => simp [bitsAll]
  | cons x l ih =>
    simp only [List.all_cons, Bool.and_eq_true] at h
    have h1 := ih h.2
    have h2 := h.1
    simp [okItem] at h2
    have e : bitsAll (x :: l) = bitsOf x.1 x.2.toNat ++ bitsAll l := by simp [bitsAll]
    rw [e, List.length_append, length_bitsOf, List.length_cons]
    omega
theorem take_item {l : List (Nat × Int)} {k : Nat} {x : Nat × Int} (h : l[k]? = some x) : l.take (k + 1) = l.take k ++ [x] := by
  obtain ⟨hk, rfl⟩ := List.getElem?_eq_some_iff.1 h
  exact List.take_succ_eq_append_getElem hk
theorem all_take {l : List (Nat × Int)} (h : l.all okItem = true) (k : Nat) : (l.take k).all okItem = true := by
  rw [List.all_eq_true] at *
  exact fun x hx => h x (List.mem_of_mem_take hx)

def PutsAt (w : World) (B g : Nat) (u : Value) (bs : List Bool) (l : List (Nat × Int)) (n : Nat) (i : Value) (wr : World) : Prop :=
  ∃ k : Nat, k ≤ n ∧ i = .int .i64 k ∧ Wrote w wr B g u (bs ++ bitsAll (l.take k))

set_option maxHeartbeats 1600000 in
theorem put1_some (w : World) (B g : Nat) (u : Value) (bs : List Bool) (b off n c : Nat) (l : List (Nat × Int)) (hn : n ≤ 60) (hok : l.all okItem = true) (h : Items w (some ⟨b, off, none⟩) n l) (hb : b < B)
    (hw : WIs w B g u bs) (hg : B ≤ g) (hB : B ≤ w.heap.size) (hl : bs.length ≤ 33000000) :
    Calls Try.prog 26 #[.pointer (some ⟨g, 0, none⟩), .slice (some ⟨b, off, none⟩) n c] w fun e w' => e = .returned (.tuple #[]) ∧ Wrote w w' B g u (bs ++ bitsAll l) := by
  have HI := Lib.hid h
  have HW := Lib.hid hw
  have HO := Lib.hid hok
  clear h hw hok
  go_enter Try.func26, Try.ntmps26
  go_wp2
  go_loopw [4] (PutsAt w B g u bs l n) (fun i _ => n - (intOf i).toNat)
  case atStart => exact ⟨0, Nat.zero_le _, rfl, u, by simpa [bitsAll] using HW.out, Kept.refl _ _ _, Moved.refl _ _⟩
  case round =>
    obtain ⟨k, hk, rfl, u', hu', hkept, hmov⟩ := hrel
    have H1 := Lib.hid hu'
    have H2 := Lib.hid hkept
    have H3 := Lib.hid hmov
    clear hu' hkept hmov
    by_cases hlt : k < n
    · have hkl : k < l.length := by rw [HI.out.1]; exact hlt
      obtain ⟨b', off', hA, hc⟩ := HI.out.2 (by omega)
      obtain ⟨rfl, rfl⟩ : b = b' ∧ off = off' := by
        injection hA with hA; injection hA with h1 h2; exact ⟨h1, h2⟩
      obtain ⟨c0, c1, hv⟩ := hc k l[k] (List.getElem?_eq_getElem hkl)
      have HX := Lib.hid (List.getElem?_eq_getElem hkl)
      have ho : okItem l[k] = true := (List.all_eq_true.1 HO.out) _ (List.getElem_mem hkl)
      generalize l[k] = x at *
      obtain ⟨v, m⟩ := x
      simp [okItem] at ho
      obtain ⟨m0, m1, hm⟩ := ho
      obtain ⟨q, rfl⟩ : ∃ q : Nat, m = (q : Int) := ⟨m.toNat, by omega⟩
      have bl : Below B w wr := H2.out.below hg hB HW.out.own_ge
      have d0 := (bl.cell hb).trans c0
      have d1 := (bl.cell hb).trans c1
      have hsz := bl.size
      have hm' : v < 2 ^ q := by simpa using hm
      have HM := Lib.hid hm'
      clear hA hc c0 c1 bl hm hm'
      have b1 : (k : Int) < n := by omega
      go_wp2_with fail
      go_still_tail 11, (by kernel_rfl)
      change wpList _ _ _ _ _ wr.drew
      go_wp2_with fail
      refine (put_ok wr.drew B g u' (bs ++ bitsAll (l.take k)) v q (by omega) HM.out (H1.out.same ⟨rfl, rfl, rfl, rfl⟩) (Nat.le_trans hB hsz) (by
        have h1 := bitsAll_len (l.take k) (all_take HO.out k)
        rw [List.length_append]
        simp at h1; omega)).mono ?_
      rintro e w1 ⟨rfl, hw1⟩
      have H4 := Lib.hid hw1
      clear hw1
      go_wp2
      go_roundw
      case rel =>
        refine ⟨k + 1, by omega, by go_num, ?_⟩
        rw [take_item HX.out, bitsAll_snoc, ← List.append_assoc]
        exact Wrote.trans (w' := wr.drew) (Kept.trans H2.out H3.out (Kept.of_below ⟨rfl, rfl, rfl, Nat.le_refl _, fun _ _ => rfl⟩)) H3.out H4.out
      case measure => simp [intOf]; omega
    · go_wp2
      go_end0
      refine ⟨rfl, u', ?_, H2.out, H3.out⟩
      have := H1.out
      rwa [List.take_of_length_le (by rw [HI.out.1]; omega)] at this

theorem put1_none (w : World) (B g : Nat) (u : Value) (bs : List Bool) (A : Option Addr) (c : Nat) (hw : WIs w B g u bs) :
    Calls Try.prog 26 #[.pointer (some ⟨g, 0, none⟩), .slice A 0 c] w fun e w' => e = .returned (.tuple #[]) ∧ Wrote w w' B g u bs := by
  have HW := Lib.hid hw
  clear hw
  go_enter Try.func26, Try.ntmps26
  go_wp2
  go_loop [4] (fun i => i = .int .i64 0) (fun _ => 0)
  case atStart => rfl
  case round =>
    subst hrel
    go_wp2
    go_end0
    exact ⟨rfl, u, HW.out, Kept.refl _ _ _, Moved.refl _ _⟩

theorem put1_any (w : World) (B g : Nat) (u : Value) (bs : List Bool) (A : Option Addr) (n c : Nat) (l : List (Nat × Int)) (hn : n ≤ 60) (hok : l.all okItem = true) (h : Items w A n l) (hb : ∀ a, A = some a → 0 < n → a.block < B)
    (hw : WIs w B g u bs) (hg : B ≤ g) (hB : B ≤ w.heap.size) (hl : bs.length ≤ 33000000) :
    Calls Try.prog 26 #[.pointer (some ⟨g, 0, none⟩), .slice A n c] w fun e w' => e = .returned (.tuple #[]) ∧ Wrote w w' B g u (bs ++ bitsAll l) := by
  by_cases h0 : n = 0
  · subst h0
    have : l = [] := List.eq_nil_of_length_eq_zero h.1
    subst this
    rw [bitsAll_nil, List.append_nil]
    exact put1_none w B g u bs A c hw
  · obtain ⟨b, off, rfl, _⟩ := h.2 (by omega)
    exact put1_some w B g u bs b off n c l hn hok h (hb _ rfl (by omega)) hw hg hB hl
theorem Items.lt {w : World} {A : Option Addr} {n : Nat} {l : List (Nat × Int)} (h : Items w A n l) : ∀ a, A = some a → 0 < n → a.block < w.heap.size := by
  intro a ha hn
  obtain ⟨b, off, rfl, hc⟩ := h.2 hn
  injection ha with ha
  subst ha
  have h0 : 0 < l.length := by rw [h.1]; exact hn
  exact World.block_lt_of_cell? w _ (hc 0 l[0] (List.getElem?_eq_getElem h0)).1
end Go.Proofs.Ytehjipbnjffngaa
