/- Bytes cut out of bytes; sumAt and isSealed (layer 7). -/
import Derived.Test.YtngambkbpdjddaaBoxPack
namespace Go.Proofs.Ytngambkbpdjddaa
open Go.RowKit

/-- Where a slice lies that is cut out of another one from p on. -/
def cutA (A : Option Addr) (c p : Nat) : Option Addr := if c = p then A else A.map (·.add p)
theorem size_elemB (W : World) : (sizeOf (Try.prog.elem 25)).run Try.prog W = .ok 1 W := by kernel_rfl
theorem run_cut (A : Option Addr) (N c p m : Nat) (P Q : Int) (hP : P = p) (hQ : Q = p + m) (h2 : p + m ≤ c) (W : World) :
    (Instr.slice 25 (.slice A N c) (some (.int .i64 P)) (some (.int .i64 Q)) none).run Try.prog W = .ok (.slice (cutA A c p) m (c - p)) W := by
  rw [run_slice_lh (P := Try.prog) W 25 A N c (by kernel_rfl) .i64 .i64 P Q (by omega) (by omega) (by omega), size_elemB]
  have e1 : P.toNat = p := by omega
  have e2 : Q.toNat - p = m := by omega
  simp [sliced, cutA, e1, e2]
theorem run_tail (A : Option Addr) (N c p m : Nat) (P : Int) (hP : P = p) (hN : N = p + m) (W : World) :
    (Instr.slice 25 (.slice A N c) (some (.int .i64 P)) none none).run Try.prog W = .ok (.slice (cutA A c p) m (c - p)) W := by
  rw [run_slice_l (P := Try.prog) W 25 A N c (by kernel_rfl) .i64 P (by omega) (by omega), size_elemB]
  have e1 : P.toNat = p := by omega
  have e2 : N - p = m := by omega
  simp [sliced, cutA, e1, e2]
theorem run_head (A : Option Addr) (N c m : Nat) (Q : Int) (hQ : Q = m) (h2 : m ≤ c) (W : World) :
    (Instr.slice 25 (.slice A N c) none (some (.int .i64 Q)) none).run Try.prog W = .ok (.slice A m c) W := by
  rw [run_slice_h (P := Try.prog) W 25 A N c (by kernel_rfl) .i64 Q (by omega) (by omega), size_elemB]
  have e1 : Q.toNat = m := by omega
  cases A <;> simp [sliced, Addr.add, e1]
theorem cutA_none {A : Option Addr} {c p : Nat} (h : A = none → c = 0) (e : cutA A c p = none) : c - p = 0 := by
  unfold cutA at e
  split at e
  · omega
  · cases A with
    | none => have := h rfl; omega
    | some a => cases e
theorem Reads.cut {w : World} {A : Option Addr} {n c : Nat} {l : List Nat} (h : Reads w A n (bts l)) (hc : n ≤ c) (p m : Nat) (hm : p + m ≤ n) : Reads w (cutA A c p) m (bts (seg l p m)) := by
  have hl := h.lenB
  refine ⟨by rw [length_bts, length_seg _ _ _ (by omega)], fun h0 => ?_⟩
  obtain ⟨ad, rfl, hcell⟩ := h.2 (by omega)
  refine ⟨ad.add p, by unfold cutA; rw [if_neg (by omega)]; rfl, fun j u hj => ?_⟩
  have hj2 : j < m := by
    have := (List.getElem?_eq_some_iff.1 hj).1
    rw [length_bts, length_seg _ _ _ (by omega)] at this
    exact this
  have e : (ad.add p).add j = ad.add (p + j) := by unfold Addr.add; by_cases h1 : p = 0 <;> by_cases h2 : j = 0 <;> simp [h1, h2, Nat.add_assoc]
  rw [e]
  refine hcell (p + j) u ?_
  rw [← hj]
  simp [bts, seg, List.getElem?_drop, hj2]
theorem Reads.head {w : World} {A : Option Addr} {n : Nat} {l : List Nat} (h : Reads w A n (bts l)) (m : Nat) (hm : m ≤ n) : Reads w A m (bts (seg l 0 m)) := by
  have hl := h.lenB
  refine ⟨by rw [length_bts, length_seg _ _ _ (by omega)], fun h0 => ?_⟩
  obtain ⟨ad, rfl, hcell⟩ := h.2 (by omega)
  refine ⟨ad, rfl, fun j u hj => hcell j u ?_⟩
  have hj2 : j < m := by
    have := (List.getElem?_eq_some_iff.1 hj).1
    rw [length_bts, length_seg _ _ _ (by omega)] at this
    exact this
  rw [← hj]
  simp [bts, seg, hj2]

set_option maxHeartbeats 800000 in
set_option maxRecDepth 100000 in
theorem sumAt_by (w : World) (b off : Nat) (n c : Nat) (D0 D1 D2 D3 X1 X2 X3 : Int) (_ : 0 ≤ D0 ∧ D0 < 256) (_ : 0 ≤ D1 ∧ D1 < 256) (_ : 0 ≤ D2 ∧ D2 < 256) (_ : 0 ≤ D3 ∧ D3 < 256) (h0 : w.cell? ⟨b, off, none⟩ = some (.int .u8 D0)) (h1 : w.cell? ⟨b, off + 1, none⟩ = some (.int .u8 D1)) (h2 : w.cell? ⟨b, off + 2, none⟩ = some (.int .u8 D2)) (h3 : w.cell? ⟨b, off + 3, none⟩ = some (.int .u8 D3))
    (e1 : bits .or .u32 D0 (D1 * 256) = X1) (e2 : bits .or .u32 X1 (D2 * 65536) = X2) (e3 : bits .or .u32 X2 (D3 * 16777216) = X3) (_ : 4 ≤ n) :
    Calls Try.prog 55 #[.slice (some ⟨b, off, none⟩) n c] w fun e w' => e = .returned (.int .u32 X3) ∧ Reading w w' := by
  go_enter Try.func55, Try.ntmps55
  have t0 : (0 : Int) < n := by omega
  have s0 : 0 < n := by omega
  have s1 : 1 < n := by omega
  have s2 : 2 < n := by omega
  have s3 : 3 < n := by omega
  have t1 : (1 : Int) < n := by omega
  have t2 : (2 : Int) < n := by omega
  have t3 : (3 : Int) < n := by omega
  go_wp2_with fail
  go_quiet (fail)
  go_wp2
  go_ret
  exact ⟨rfl, _, rfl⟩

theorem or_add (a b k : Nat) (h : a < 2 ^ k) : a ||| b * 2 ^ k = a + b * 2 ^ k := by
  have := Nat.two_pow_add_eq_or_of_lt h b
  rw [Nat.or_comm, Nat.mul_comm, ← this]
  omega
theorem four_num (d0 d1 d2 d3 : Nat) (h0 : d0 < 256) (h1 : d1 < 256) (h2 : d2 < 256) (h3 : d3 < 256) : leNum [d0, d1, d2, d3] = d0 + d1 * 256 + d2 * 65536 + d3 * 16777216 := by
  obtain ⟨s, hs⟩ : ∃ s, d0 + d1 * 256 + d2 * 65536 + d3 * 16777216 = s := ⟨_, rfl⟩
  rw [hs]
  have := leNum_four s (by omega)
  rwa [show s % 256 = d0 by omega, show s / 256 % 256 = d1 by omega, show s / 65536 % 256 = d2 by omega, show s / 16777216 % 256 = d3 by omega] at this
theorem four_list {l : List Nat} (h : 4 ≤ l.length) : seg l 0 4 = [l.getD 0 0, l.getD 1 0, l.getD 2 0, l.getD 3 0] := by
  match l, h with
  | a :: b :: c :: d :: l, _ => simp [seg]
theorem Reads.cellB {w : World} {A : Option Addr} {n : Nat} {l : List Nat} (h : Reads w A n (bts l)) (hn : 0 < n) : ∃ b off, A = some ⟨b, off, none⟩ ∧ ∀ k, k < n → w.cell? ⟨b, off + k, none⟩ = some (.int .u8 ((l.getD k 0 : Nat) : Int)) := by
  obtain ⟨ad, rfl, hc⟩ := h.2 hn
  obtain ⟨b, off, spot⟩ := ad
  have hl := h.lenB
  have c0 := hc 0 _ (bts_at l 0 (by omega))
  have hspot : spot = none := by simpa [Addr.add] using World.cell?_spot c0
  subst hspot
  refine ⟨b, off, rfl, fun k hk => ?_⟩
  have := hc k _ (bts_at l k (by omega))
  rwa [show (⟨b, off, none⟩ : Addr).add k = ⟨b, off + k, none⟩ by unfold Addr.add; split <;> simp_all] at this

theorem sumAt_any (w : World) (A : Option Addr) (n c : Nat) (l : List Nat) (h : Reads w A n (bts l)) (hd : Dig l) (h4 : 4 ≤ n) :
    Calls Try.prog 55 #[.slice A n c] w fun e w' => e = .returned (.int .u32 ((leNum (seg l 0 4) : Nat) : Int)) ∧ Reading w w' := by
  obtain ⟨b, off, rfl, hc⟩ := h.cellB (by omega)
  have d0 := dig_at hd 0
  have d1 := dig_at hd 1
  have d2 := dig_at hd 2
  have d3 := dig_at hd 3
  have hl := h.lenB
  rw [four_list (by omega), four_num _ _ _ _ d0 d1 d2 d3]
  have k0 := hc 0 (by omega)
  have k1 := hc 1 (by omega)
  have k2 := hc 2 (by omega)
  have k3 := hc 3 (by omega)
  generalize l.getD 0 0 = x0 at *
  generalize l.getD 1 0 = x1 at *
  generalize l.getD 2 0 = x2 at *
  generalize l.getD 3 0 = x3 at *
  refine sumAt_by w b off n c x0 x1 x2 x3 ((x0 + x1 * 256 : Nat) : Int) ((x0 + x1 * 256 + x2 * 65536 : Nat) : Int) _ (by omega) (by omega) (by omega) (by omega) k0 k1 k2 k3 ?_ ?_ ?_ h4
  · rw [show (x1 : Int) * 256 = ((x1 * 256 : Nat) : Int) by omega, u32_or_nat _ _ (by omega) (by omega)]
    exact congrArg _ (or_add x0 x1 8 (by omega))
  · rw [show (x2 : Int) * 65536 = ((x2 * 65536 : Nat) : Int) by omega, u32_or_nat _ _ (by omega) (by omega)]
    exact congrArg _ (or_add (x0 + x1 * 256) x2 16 (by omega))
  · rw [show (x3 : Int) * 16777216 = ((x3 * 16777216 : Nat) : Int) by omega, u32_or_nat _ _ (by omega) (by omega)]
    exact congrArg _ (or_add (x0 + x1 * 256 + x2 * 65536) x3 24 (by omega))

/-- What isSealed tells. -/
def SealTold (w : World) (l : List Nat) (e : Ending) (w' : World) : Prop := ∃ r : Bool, (r = true ↔ Guarded l) ∧ e = .returned (.bool r) ∧ Below w.heap.size w w'
theorem guarded_num {l : List Nat} (hd : Dig l) (h4 : 4 ≤ l.length) : leNum (seg (seg l (l.length - 4) 4) 0 4) = crcSum (seg l 0 (l.length - 4)) ↔ Guarded l := by
  have e1 : seg (seg l (l.length - 4) 4) 0 4 = l.drop (l.length - 4) := by
    rw [seg_sub _ _ _ _ _ (by omega), Nat.add_zero]
    unfold seg
    rw [List.take_of_length_le (by rw [List.length_drop]; omega)]
  have e2 : seg l 0 (l.length - 4) = l.take (l.length - 4) := by simp [seg]
  rw [e1, e2]
  refine ⟨fun h => ⟨h4, ?_⟩, fun h => ?_⟩
  · have hs := crcSum_lt (l.take (l.length - 4))
    refine leNum_inj (dig_drop hd _) (dig_low4 _) (by rw [List.length_drop, length_low4]; omega) ?_
    rw [h]
    exact (leNum_four _ hs).symm
  · rw [h.2]
    exact leNum_four _ (crcSum_lt _)

set_option maxHeartbeats 800000 in
set_option maxRecDepth 100000 in
theorem isSealed_any (w : World) (A : Option Addr) (n c : Nat) (l : List Nat) (h : Reads w A n (bts l)) (hd : Dig l) (h4 : 4 ≤ n) (hc : n ≤ c) (hn : n ≤ 1000000) :
    Calls Try.prog 46 #[.slice A n c] w (SealTold w l) := by
  obtain ⟨m, rfl⟩ : ∃ m, n = m + 4 := ⟨n - 4, by omega⟩
  have hl := h.lenB
  have HG := Lib.hid (guarded_num hd (by omega))
  rw [hl, show m + 4 - 4 = m by omega] at HG
  have hs1 := fun W => run_tail A (m + 4) c m 4 (m : Int) rfl rfl W
  have hs2 := fun W => run_head A (m + 4) c m (m : Int) rfl (by omega) W
  have K1 := Lib.hid (sumAt_any w.drew (cutA A c m) 4 (c - m) (seg l m 4) ((h.cut hc m 4 (by omega)).drew) (dig_seg hd _ _) (by omega))
  have K2 := Lib.hid (fun w' (b : Below w.heap.size w w') => csum_any w' A m c (seg l 0 m) ((h.head m (by omega)).below b) (dig_seg hd _ _) (by omega))
  have s1 := crcSum_lt (seg l 0 m)
  have s2 := leNum_lt (dig_seg (dig_seg hd m 4) 0 4)
  generalize leNum (seg (seg l m 4) 0 4) = x at *
  generalize crcSum (seg l 0 m) = y at *
  generalize cutA A c m = A' at *
  generalize c - m = c' at *
  have t1 : ((m + 4 : Nat) : Int) - 4 = (m : Int) := by omega
  clear h hd hl s1 s2
  go_enter Try.func46, Try.ntmps46
  go_wp2_with fail
  go_region_held3 (fun _ => True)
    (trivial)
    (first
      | (go_at_call 55; refine K1.out.mono ?_; rintro e w1 ⟨rfl, r1⟩; have b1 := up2 (upd (Below.refl w.heap.size w)) r1.below; clear r1)
      | (go_at_call 19; refine (K2.out _ (by assumption)).mono ?_; rintro e w2 ⟨rfl, b2⟩; have b3 := up2 b1 b2; clear b2)
      | fail)
  have B3 := Lib.hid b3
  go_wp2
  go_ret
  refine ⟨_, ?_, rfl, B3.out⟩
  rw [← HG.out]
  simp
  omega
end Go.Proofs.Ytngambkbpdjddaa
