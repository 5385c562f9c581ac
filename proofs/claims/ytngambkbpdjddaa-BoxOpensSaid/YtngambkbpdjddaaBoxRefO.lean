/- The document's right and fixed (layer 7). -/
import Derived.Test.YtngambkbpdjddaaBoxLaw
namespace Go.Proofs.Ytngambkbpdjddaa
open Go.RowKit

set_option maxHeartbeats 1600000 in
set_option maxRecDepth 100000 in
theorem r7right_any (w : World) (A : Option Addr) (n c : Nat) (l : List Nat) (h : Reads w A n (bts l)) (hd : Dig l) (h4 : 4 ≤ n) (hc : n ≤ c) (hn : n ≤ 1000000) :
    Calls Try.prog 34 #[.slice A n c] w (SealTold w l) := by
  obtain ⟨m, hm⟩ : ∃ m, n = m + 4 := ⟨n - 4, by omega⟩
  have hl := h.lenB
  have hs1 := fun W => run_tail A n c m 4 ((n : Int) - 4) (by omega) hm W
  have hs2 := fun W => run_head A n c m ((n : Int) - 4) (by omega) (by omega) W
  have K1 := Lib.hid (r7sum_any w.drew A m c (seg l 0 m) ((h.head m (by omega)).drew) (dig_seg hd _ _) (by omega))
  have K2 := Lib.hid (r7is_any w.drew (cutA A c m) 4 (c - m) (seg l m 4) (crcSum (seg l 0 m)) ((h.cut hc m 4 (by omega)).drew) (dig_seg hd _ _) (by have := crcSum_lt (seg l 0 m); omega))
  have HG := Lib.hid (show decide (seg l m 4 = low4 (crcSum (seg l 0 m))) = true ↔ Guarded l by
    rw [decide_eq_true_iff]
    unfold Guarded
    rw [hl, show n - 4 = m by omega, show seg l 0 m = l.take m by simp [seg], show seg l m 4 = l.drop m by unfold seg; rw [List.take_of_length_le (by rw [List.length_drop]; omega)]]
    exact ⟨fun e => ⟨by omega, e⟩, fun e => e.2⟩)
  generalize decide (seg l m 4 = low4 (crcSum (seg l 0 m))) = r at *
  generalize crcSum (seg l 0 m) = y at *
  generalize cutA A c m = A' at *
  generalize c - m = c' at *
  have t2 : (4 : Int) ≤ (n : Int) := by omega
  have t2' : decide ((4 : Int) ≤ (n : Int)) = true := by rw [decide_eq_true_iff]; omega
  have t4 : IntKind.i64.wrap ((n : Int) - 4) = (n : Int) - 4 := IntWalk.i64_in _ (by omega)
  clear h hd hl hm
  go_enter Try.func34, Try.ntmps34
  go_wp2_with fail
  go_region_held3 (fun _ => True) (trivial) (first
      | (go_at_call 52; refine K1.out.mono ?_; rintro e w1 ⟨rfl, rfl⟩)
      | (go_at_call 51; refine K2.out.mono ?_; rintro e w2 ⟨rfl, b2⟩; have b3 := up2 (upd (Below.refl w.heap.size w)) b2; clear b2)
      | fail)
  all_goals
    have B3 := Lib.hid b3
    go_wp2
    go_ret
    exact ⟨r, HG.out, rfl, B3.out⟩

/-- A fixed part, told: the number of chunks, or below 0. -/
def FixTold (w : World) (l : List Nat) (e : Ending) (w' : World) : Prop :=
  ((seg l 0 4 = magic ∧ Guarded l) ∧ e = .returned (.int .i64 ((val (seg l 4 2) : Nat) : Int)) ∧ Below w.heap.size w w') ∨ (¬ (seg l 0 4 = magic ∧ Guarded l) ∧ e = .returned (.int .i64 (-1)) ∧ Below w.heap.size w w')
theorem magic_iff {l : List Nat} (h : 4 ≤ l.length) : seg l 0 4 = magic ↔ l.getD 0 0 = 71 ∧ l.getD 1 0 = 89 ∧ l.getD 2 0 = 80 ∧ l.getD 3 0 = 83 := by
  rw [four_list h, magic]
  simp

set_option maxHeartbeats 6400000 in
set_option maxRecDepth 100000 in
theorem r7fix_any (w : World) (A : Option Addr) (c : Nat) (l : List Nat) (h : Reads w A 10 (bts l)) (hd : Dig l) (hc : 10 ≤ c) :
    Calls Try.prog 33 #[.slice A 10 c] w (FixTold w l) := by
  have hl := h.lenB
  have MG := Lib.hid (magic_iff (l := l) (by omega))
  have hs1 := fun W => run_tail A 10 c 6 4 6 rfl rfl W
  have hs2 := fun W => run_head A 10 c 6 6 rfl (by omega) W
  have hs3 := fun W => run_cut A 10 c 4 2 4 6 rfl rfl (by omega) W
  have K1 := Lib.hid (r7sum_any w.drew A 6 c (seg l 0 6) ((h.head 6 (by omega)).drew) (dig_seg hd _ _) (by omega))
  have K2 := Lib.hid (r7is_any w.drew (cutA A c 6) 4 (c - 6) (seg l 6 4) (crcSum (seg l 0 6)) ((h.cut hc 6 4 (by omega)).drew) (dig_seg hd _ _) (by have := crcSum_lt (seg l 0 6); omega))
  have K3 := Lib.hid (fun w' (b : Below w.heap.size w w') => r7get_any w' (cutA A c 4) 2 (c - 4) (seg l 4 2) ((h.cut hc 4 2 (by omega)).below b) (dig_seg hd _ _) (by omega))
  have HG := Lib.hid (show decide (seg l 6 4 = low4 (crcSum (seg l 0 6))) = true ↔ Guarded l by
    rw [decide_eq_true_iff]
    unfold Guarded
    rw [hl, show 10 - 4 = 6 by omega, show seg l 0 6 = l.take 6 by simp [seg], show seg l 6 4 = l.drop 6 by unfold seg; rw [List.take_of_length_le (by rw [List.length_drop]; omega)]]
    exact ⟨fun e => ⟨by omega, e⟩, fun e => e.2⟩)
  generalize decide (seg l 6 4 = low4 (crcSum (seg l 0 6))) = r at *
  generalize crcSum (seg l 0 6) = y at *
  have hval : val (seg l 4 2) < 65536 := by
    have h1 := val_lt (seg l 4 2) (dig_seg hd _ _)
    rw [length_seg _ _ _ (by omega)] at h1
    exact h1
  have HV : Hid (val (seg l 4 2) = val (seg l 4 2)) := Lib.hid rfl
  generalize hvv : val (seg l 4 2) = v at K3 hval
  have HVV := Lib.hid hvv
  generalize cutA A c 6 = A6 at *
  generalize c - 6 = c6 at *
  generalize cutA A c 4 = A4 at *
  generalize c - 4 = c4 at *
  obtain ⟨b, off, rfl, hcell⟩ := h.cellB (by omega)
  have k0 := hcell 0 (by omega)
  have k1 := hcell 1 (by omega)
  have k2 := hcell 2 (by omega)
  have k3 := hcell 3 (by omega)
  rw [Nat.add_zero] at k0
  generalize l.getD 0 0 = x0 at *
  generalize l.getD 1 0 = x1 at *
  generalize l.getD 2 0 = x2 at *
  generalize l.getD 3 0 = x3 at *
  have e10 : IntKind.i64.wrap (v : Int) = (v : Int) := IntWalk.i64_in _ (by omega)
  clear h hd hl hcell hvv HV
  by_cases h0 : x0 = 71
  · subst h0
    have e0 : (((71 : Nat) : Int) != 71) = false := by decide
    by_cases h1 : x1 = 89
    · subst h1
      have e1 : (((89 : Nat) : Int) != 89) = false := by decide
      by_cases h2 : x2 = 80
      · subst h2
        have e2 : (((80 : Nat) : Int) != 80) = false := by decide
        by_cases h3 : x3 = 83
        · subst h3
          have e3 : (((83 : Nat) : Int) != 83) = false := by decide
          have YES := Lib.hid (MG.out.2 ⟨rfl, rfl, rfl, rfl⟩)
          have f0 : w.drew.cell? ⟨b, off, none⟩ = some (.int .u8 ((71 : Nat) : Int)) := k0
          have f1 : w.drew.cell? ⟨b, off + 1, none⟩ = some (.int .u8 ((89 : Nat) : Int)) := k1
          have f2 : w.drew.cell? ⟨b, off + 2, none⟩ = some (.int .u8 ((80 : Nat) : Int)) := k2
          have f3 : w.drew.cell? ⟨b, off + 3, none⟩ = some (.int .u8 ((83 : Nat) : Int)) := k3
          have hbl := World.block_lt_of_cell? _ _ f0
          go_enter Try.func33, Try.ntmps33
          go_wp2_with fail
          go_region_held3 (fun w' => w'.cell? ⟨b, off, none⟩ = some (.int .u8 ((71 : Nat) : Int)) ∧ w'.cell? ⟨b, off + 1, none⟩ = some (.int .u8 ((89 : Nat) : Int)) ∧ w'.cell? ⟨b, off + 2, none⟩ = some (.int .u8 ((80 : Nat) : Int)) ∧ w'.cell? ⟨b, off + 3, none⟩ = some (.int .u8 ((83 : Nat) : Int)))
            (first | exact ⟨f0, f1, f2, f3⟩ | exact ⟨(b2.cell (p := ⟨b, off, none⟩) hbl).trans f0, (b2.cell (p := ⟨b, off + 1, none⟩) hbl).trans f1, (b2.cell (p := ⟨b, off + 2, none⟩) hbl).trans f2, (b2.cell (p := ⟨b, off + 3, none⟩) hbl).trans f3⟩ | fail)
            (first
              | (go_at_call 52; refine K1.out.mono ?_; rintro e w1 ⟨rfl, rfl⟩)
              | (go_at_call 51; refine K2.out.mono ?_; rintro e w2 ⟨rfl, b2⟩)
              | fail)
          have B3 := Lib.hid (up2 (upd (Below.refl w.heap.size w)) b2)
          clear b2
          cases r with
          | false =>
            have NO := Lib.hid (show ¬ (seg l 0 4 = magic ∧ Guarded l) from fun k => by have := HG.out.2 k.2; cases this)
            go_wp2
            go_ret
            exact .inr ⟨NO.out, rfl, B3.out⟩
          | true =>
            have GD := Lib.hid (HG.out.1 rfl)
            have K3' := Lib.hid (K3.out w2 B3.out)
            go_wp2_with fail
            refine K3'.out.mono ?_
            rintro e w4 ⟨rfl, rfl⟩
            go_wp2
            go_ret
            exact .inl ⟨⟨YES.out, GD.out⟩, by rw [HVV.out]; exact rfl, B3.out⟩
        · have e9 : (((x3 : Nat) : Int) != 83) = true := by rw [bne_iff_ne]; omega
          have NO := Lib.hid (fun (k : seg l 0 4 = magic ∧ Guarded l) => h3 (MG.out.1 k.1).2.2.2)
          clear K1 K2 K3 hs1 hs2 hs3
          go_enter Try.func33, Try.ntmps33
          go_wp2_with fail
          go_quiet (fail)
          go_wp2
          go_ret
          exact .inr ⟨NO.out, rfl, Reading.below ⟨_, rfl⟩⟩
      · have e9 : (((x2 : Nat) : Int) != 80) = true := by rw [bne_iff_ne]; omega
        have NO := Lib.hid (fun (k : seg l 0 4 = magic ∧ Guarded l) => h2 (MG.out.1 k.1).2.2.1)
        clear K1 K2 K3 hs1 hs2 hs3
        go_enter Try.func33, Try.ntmps33
        go_wp2_with fail
        go_quiet (fail)
        go_wp2
        go_ret
        exact .inr ⟨NO.out, rfl, Reading.below ⟨_, rfl⟩⟩
    · have e9 : (((x1 : Nat) : Int) != 89) = true := by rw [bne_iff_ne]; omega
      have NO := Lib.hid (fun (k : seg l 0 4 = magic ∧ Guarded l) => h1 (MG.out.1 k.1).2.1)
      clear K1 K2 K3 hs1 hs2 hs3
      go_enter Try.func33, Try.ntmps33
      go_wp2_with fail
      go_quiet (fail)
      go_wp2
      go_ret
      exact .inr ⟨NO.out, rfl, Reading.below ⟨_, rfl⟩⟩
  · have e0 : (((x0 : Nat) : Int) != 71) = true := by rw [bne_iff_ne]; omega
    have NO := Lib.hid (fun (k : seg l 0 4 = magic ∧ Guarded l) => h0 (MG.out.1 k.1).1)
    clear K1 K2 K3 hs1 hs2 hs3
    go_enter Try.func33, Try.ntmps33
    go_wp2_with fail
    go_quiet (fail)
    go_wp2
    go_ret
    exact .inr ⟨NO.out, rfl, Reading.below ⟨_, rfl⟩⟩
end Go.Proofs.Ytngambkbpdjddaa
