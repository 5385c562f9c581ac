/- carry of layer 4: one more, in a row of bytes. -/
import Derived.Test.YtbkjfblmdilchaaDoorCGrow
namespace Go.Proofs.YtbkjfblmdilchaaDoor
open Go.RowKit

def bts (l : List Nat) : List Value := l.map fun d : Nat => .int .u8 (d : Int)
theorem length_bts (l : List Nat) : (bts l).length = l.length := by simp [bts]
theorem bts_append (a b : List Nat) : bts (a ++ b) = bts a ++ bts b := by simp [bts]
theorem bts_one (l : List Nat) : ∀ u ∈ bts l, u.oneCell' = true := by
  intro u hu
  simp only [bts, List.mem_map] at hu
  obtain ⟨x, _, rfl⟩ := hu
  rfl
theorem bts_at (l : List Nat) (k : Nat) (h : k < l.length) : (bts l)[k]? = some (.int .u8 ((l.getD k 0 : Nat) : Int)) := by
  simp [bts, List.getElem?_eq_getElem h]
/-- The bytes l lie at the start of block q. -/
def BRow (w : World) (q : Nat) (l : List Nat) (rest : List Value) : Prop := w.heap[q]? = some (.cells (bts l ++ rest).toArray 5 (0, 0))
theorem BRow.cell {w : World} {q : Nat} {l : List Nat} {rest : List Value} (h : BRow w q l rest) (k : Nat) (hk : k < l.length) : w.cell? ⟨q, k, none⟩ = some (.int .u8 ((l.getD k 0 : Nat) : Int)) := by
  rw [cell_in h, List.getElem?_toArray, List.getElem?_append_left (by rw [length_bts]; exact hk), bts_at l k hk]
theorem BRow.set {w : World} {q : Nat} {l : List Nat} {rest : List Value} (h : BRow w q l rest) (k x : Nat) (hk : k < l.length) : BRow (w.setCell ⟨q, k, none⟩ (.int .u8 (x : Int))) q (l.set k x) rest := by
  have := heap_set h k (.int .u8 (x : Int))
  rw [BRow, this, List.setIfInBounds_toArray, List.set_append_left _ _ (by rw [length_bts]; exact hk)]
  simp [bts, List.map_set]

def CarryAt (w : World) (q n V : Nat) (rest : List Value) (i : Value) (wr : World) : Prop :=
  ∃ (j : Nat) (D : List Nat), i = .int .i64 ((j : Int) - 1) ∧ j ≤ n ∧ D.length = n ∧ Dig D ∧ val D + 256 ^ (n - j) = V + 1 ∧ BRow wr q D rest ∧ Chg (· = q) w wr

set_option maxHeartbeats 2000000 in
set_option maxRecDepth 100000 in
theorem carry_any (w : World) (q n cap : Nat) (l : List Nat) (rest : List Value) (h : BRow w q l rest) (hn : l.length = n) (hd : Dig l) (hv : val l + 1 < 256 ^ n) (hm : n ≤ 1000000) :
    Calls Tryd.prog 29 #[.slice (some ⟨q, 0, none⟩) n cap] w fun e w' => e = .returned (.tuple #[]) ∧ BRow w' q (digs n (val l + 1)) rest ∧ Chg (· = q) w w' := by
  have HV := Lib.hid hv
  have HN := Lib.hid (⟨hn, hd, h⟩ : l.length = n ∧ Dig l ∧ BRow w q l rest)
  clear hv hn hd h
  go_enter Tryd.func29, Tryd.ntmps29
  go_wp2_with fail
  go_loopw [2] (CarryAt w q n (val l) rest) (fun i _ => (intOf i + 1).toNat)
  case atStart => exact ⟨n, l, rfl, Nat.le_refl _, HN.out.1, HN.out.2.1, by simp, HN.out.2.2, Chg.refl _ w⟩
  case round =>
    obtain ⟨j, D, rfl, hj, hl, hD, hval, hrow, hc⟩ := hrel
    have hv := HV.out
    rcases j with _ | j
    · exfalso
      rw [Nat.sub_zero] at hval
      omega
    · have hjn : j < n := by omega
      have ej : ((j + 1 : Nat) : Int) - 1 = (j : Int) := by omega
      rw [ej]
      have ck := hrow.cell j (by omega)
      have fk := frozen_in hrow j
      have bd := dig_at hD j
      have vs := val_set D j ((D.getD j 0 + 1) % 256) (by omega)
      have R2 := Lib.hid (hrow.set j ((D.getD j 0 + 1) % 256) (by omega))
      have D2 := Lib.hid (dig_set D j ((D.getD j 0 + 1) % 256) hD (by omega))
      have C2 := Lib.hid (hc.set ⟨q, j, none⟩ (.int .u8 ((((D.getD j 0 + 1) % 256 : Nat)) : Int)) (by exact rfl))
      have L2 := Lib.hid (show (D.set j ((D.getD j 0 + 1) % 256)).length = n by rw [List.length_set]; exact hl)
      have e1 : n - 1 - j = n - (j + 1) := by omega
      rw [hl, e1] at vs
      clear hrow hc hD
      generalize hd : D.getD j 0 = d at *
      have HD := Lib.hid hd
      clear hd
      by_cases hlt : d + 1 < 256
      · have em : (d + 1) % 256 = d + 1 := by omega
        rw [em] at vs R2 D2 C2 L2
        have V2 := Lib.hid (show val (D.set j (d + 1)) = val l + 1 by rw [Nat.add_mul] at vs; omega)
        clear em vs hval hv hl
        have t1 : (0:Int) ≤ (j : Int) := by omega
        have t2 : IntKind.u8.wrap ((d : Int) + 1) = ((d + 1 : Nat) : Int) := by rw [IntWalk.u8_in _ (by omega)]; omega
        have t3 : (((d + 1 : Nat) : Int) == 0) = false := by simp; omega
        have t4 : (j : Int) < n := by omega
        have t5 : ((d : Int) + 1 == 0) = false := by simp; omega
        go_wp2
        refine bodyPost_ret (results_none rfl _ _ _) rfl ?_
        refine ⟨rfl, ?_, C2.out⟩
        rw [← V2.out, ← L2.out, digs_val _ D2.out]
        exact R2.out
      · have hd : d = 255 := by omega
        subst hd
        have em : (255 + 1) % 256 = 0 := by decide
        rw [em] at vs R2 D2 C2 L2
        have V2 := Lib.hid (show val (D.set j 0) + 256 ^ (n - j) = val l + 1 by
          rw [show n - j = n - (j + 1) + 1 by omega, Nat.pow_succ]
          rw [Nat.zero_mul] at vs
          omega)
        clear em vs hval hv hl hlt
        have t1 : (0:Int) ≤ (j : Int) := by omega
        have t4 : (j : Int) < n := by omega
        go_wp2_with fail
        exact ⟨⟨j, D.set j 0, rfl, by omega, L2.out, D2.out, V2.out, R2.out, C2.out⟩, by simp [intOf]⟩
end Go.Proofs.YtbkjfblmdilchaaDoor
