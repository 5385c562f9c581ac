/- The document's Bump of a list of counts. -/
import Derived.Test.YtjacjgchbpghiaaTabRefB
namespace Go.Proofs.Ytjacjgchbpghiaa
open Go.RowKit

def RHalfAt (w : World) (q : Nat) (c : List Int) (rest : List Value) (n : Nat) (i : Value) (wr : World) : Prop :=
  ∃ k : Nat, k ≤ n ∧ i = .int .i64 (k : Int) ∧ Half w q (half c) c rest k wr

theorem Reads.of_row {w : World} {q : Nat} {xs : List Int} {rest : List Value} (h : w.heap[q]? = some (.cells (ints xs ++ rest).toArray 3 (0, 0))) : Reads w (some ⟨q, 0, none⟩) xs.length (ints xs) := by
  refine ⟨length_ints xs, fun _ => ⟨_, rfl, fun j u hj => ?_⟩⟩
  rw [add_zero_addr, cell_in h, List.getElem?_toArray, List.getElem?_append_left (List.getElem?_eq_some_iff.1 hj).1]
  exact hj
theorem getD_some {l : List Int} {k : Nat} (h : k < l.length) : l[k]? = some (l.getD k 0) := by
  simp [List.getElem?_eq_getElem h]

/-- What the document's Bump leaves. -/
def RBumped (w : World) (l : List Int) (n s : Nat) (e : Ending) (w' : World) : Prop :=
  ∃ q cap, e = .returned (.slice (some ⟨q, 0, none⟩) n cap) ∧ w.heap.size ≤ q ∧ n ≤ cap ∧ Reads w' (some ⟨q, 0, none⟩) n (ints (bumped l s)) ∧ Below w.heap.size w w'

set_option maxHeartbeats 2000000 in
theorem rbump_any (w : World) (A : Option Addr) (n c : Nat) (l : List Int) (s : Nat) (h : Reads w A n (ints l)) (ok : Ok l) (hs : s < n) :
    Calls Try.prog 22 #[.slice A n c, .int .i64 (s : Int)] w (RBumped w l n s) := by
  obtain ⟨i0, hi, hz0, hz1, hz2⟩ := info_parts Try.infoInt
  have HI := Lib.hid hi
  have HZ := Lib.hid (And.intro hz0 (And.intro hz1 hz2))
  have hl := h.len
  have hfew := ok.few
  rw [hl] at hfew
  have N1 := Lib.hid (empty_ints w)
  have B1 := Lib.hid ((Below.refl w.heap.size w).alloc (Nat.le_refl _) (.cells #[] 3))
  have HR := Lib.hid (h.below ((Below.refl w.heap.size w).alloc (Nat.le_refl _) (.cells #[] 3)))
  obtain ⟨ad, rfl, _⟩ := h.int 0 (by omega)
  have HL := Lib.hid hl
  have HOK := Lib.hid ok
  have HSM := Lib.hid (sum_more l s (by omega))
  have hat := more_at l s s (by omega)
  rw [if_pos rfl] at hat
  have HAT := Lib.hid hat
  have hy0 := zero_at ok.zero s
  have hyb : l.getD s 0 ≤ 65536 := by
    have := low_succ l s
    have := ok.low_le' s
    have := ok.low_le' (s + 1)
    omega
  have HSET := Lib.hid (show l.set s (l.getD s 0 + 32) = more l s from rfl)
  have HONE := Lib.hid (one_more ok.one s (by omega))
  have HB := Lib.hid (show bumped l s = if 65536 < l.sum + 32 then half (more l s) else more l s from rfl)
  have HT := Lib.hid ok.total
  clear h hi hz0 hz1 hz2 hl ok hat
  go_enter Try.func22, Try.ntmps22
  go_wp2_with (at_builtin; refine wpList_append_reads rfl (.tmp 7) (.tmp 8) 22 rfl w.heap.size 3 i0 (.int .i64 0) 8 Try.underlying22 HI.out HZ.out rfl (.slice (some ⟨w.heap.size, 0, none⟩) 0 0) 0 [] rfl N1.out (some ad) n c (ints l) rfl HR.out (fun e => (nomatch e)) (ints_one l) ?b1 ?b2 ?b3 ?_)
  case b1 => unfold maxLen; omega
  case b2 => omega
  case b3 => simp
  intro v' w2 hown0 hgr
  have hown : w2.ownsRow w.heap.size 3 1 v' n (ints l) := by simpa using hown0
  have B2 := Lib.hid (own_grown_below B1.out hgr B1.out.size (fun k hk => by simp [Value.ownBlock] at hk; omega))
  obtain ⟨q, cap, rest, rfl, hq, hcap, hh⟩ := own_row hown (by omega)
  have ck : w2.cell? ⟨q, s, none⟩ = some (.int .i64 (l.getD s 0)) := by
    rw [cell_in hh, List.getElem?_toArray, List.getElem?_append_left (by rw [length_ints, HL.out]; exact hs)]
    rw [ints, List.getElem?_map, getD_some (show s < l.length by rw [HL.out]; exact hs)]
    rfl
  have fk := frozen_in hh s
  have hh2 := heap_set hh s (.int .i64 (l.getD s 0 + 32))
  rw [row_set l rest s _ (by rw [HL.out]; exact hs), HSET.out] at hh2
  have B3 := Lib.hid (B2.out.setCell (p := ⟨q, s, none⟩) hq (.int .i64 (l.getD s 0 + 32)))
  have HH := Lib.hid hh2
  clear hown0 hgr hown hh hh2
  generalize l.getD s 0 = y at *
  have hsn : (s : Int) < n := by omega
  have e6 : IntKind.i64.wrap (y + 32) = y + 32 := IntWalk.i64_in _ (by omega)
  obtain ⟨W, hW⟩ : ∃ W, w2.setCell ⟨q, s, none⟩ (.int .i64 (y + 32)) = W := ⟨_, rfl⟩
  have HW := Lib.hid hW
  rw [hW] at HH B3
  clear hW
  have hlm : (more l s).length = n := by rw [length_more]; exact HL.out
  have HLM := Lib.hid hlm
  have hrd := Reads.of_row HH.out
  rw [hlm] at hrd
  have HRD := Lib.hid hrd
  have KT := rtotal_any W (some ⟨q, 0, none⟩) n cap (more l s) hrd (fun x hx => by have := HONE.out x hx; omega) (by rw [HSM.out]; have := HT.out; omega) (by omega)
  rw [HSM.out] at KT
  have HKT := Lib.hid KT
  clear hlm hrd KT
  go_wp2_with fail
  rw [HW.out]
  refine HKT.out.mono ?_
  rintro e w4 ⟨rfl, b4⟩
  have HH4 := Lib.hid (show w4.heap[q]? = some (.cells (ints (more l s) ++ rest).toArray 3 (0, 0)) by rw [b4.heap]; exact HH.out)
  have HRD4 := Lib.hid (HRD.out.read b4)
  have B4 := Lib.hid (B3.out.trans b4.below)
  have hq4 := heap_lt HH4.out
  clear b4
  have hbb := HB.out
  have HST := Lib.hid (show l.sum + 32 ≤ 65568 by have := HT.out; omega)
  generalize l.sum + 32 = S at *
  by_cases hS : 65536 < S
  · have HE := Lib.hid (show bumped l s = half (more l s) by rw [hbb, if_pos hS])
    clear hbb
    have HL2 := Lib.hid (show (half (more l s)).length = (more l s).length by rw [length_half])
    go_wp2_with fail
    go_loopw [6] (RHalfAt w4 q (more l s) rest n) (fun i _ => n - (intOf i).toNat)
    case atStart => exact ⟨0, Nat.zero_le _, rfl, by rw [mix_zero]; exact HH4.out, World.grownBy.refl w4 _⟩
    case round =>
      obtain ⟨k, hk, rfl, hf⟩ := hrel
      have HF := Lib.hid hf
      by_cases hlt : k < n
      · have hkm : k < (more l s).length := by rw [HLM.out]; exact hlt
        have ck := hf.cell HL2.out _ (getD_some hkm)
        have fk := frozen_in hf.1 k
        have HN := hf.set HL2.out _ (getD_some (show k < (half (more l s)).length by rw [HL2.out]; exact hkm))
        rw [half_at _ k hkm] at HN
        have HN2 := Lib.hid HN
        have hz0 := zero_at (fun x hx => show (0 : Int) ≤ x by have := HONE.out x hx; omega) k
        have hzb : (more l s).getD k 0 ≤ 65568 := by
          have h1 := low_succ (more l s) k
          have h2 := low_nonneg (fun x hx => show (0 : Int) ≤ x by have := HONE.out x hx; omega) k
          have h3 := low_sum (fun x hx => show (0 : Int) ≤ x by have := HONE.out x hx; omega) (k + 1)
          have h4 := HSM.out
          have h5 := HT.out
          have h6 := HST.out
          omega
        have hkn : (k : Int) < n := by omega
        clear hf HN
        generalize (more l s).getD k 0 = z at *
        have e3 : IntKind.i64.wrap (z + 1) = z + 1 := IntWalk.i64_in _ (by omega)
        have e4 : IntKind.i64.wrap ((z + 1) / 2) = (z + 1) / 2 := IntWalk.i64_in _ (by omega)
        go_wp2_with fail
        exact ⟨⟨k + 1, by omega, by go_num, HN2.out⟩, by simp [intOf]; omega⟩
      · obtain rfl : k = n := by omega
        have hrow := hf.1
        rw [mix_all _ _ _ HL2.out (by rw [HL2.out, HLM.out]; exact Nat.le_refl _)] at hrow
        have hrd := Reads.of_row hrow
        rw [length_half, HLM.out] at hrd
        have HR5 := Lib.hid hrd
        clear hf hrow hrd
        have hnl : ¬ (k : Int) < k := by omega
        go_wp2
        go_ret
        refine ⟨q, cap, rfl, hq, hcap, by rw [HE.out]; exact HR5.out, B4.out.trans ?_⟩
        exact grown_below HF.out.2 hq B4.out.size
  · have HE := Lib.hid (show bumped l s = more l s by rw [hbb, if_neg hS])
    clear hbb
    go_wp2
    go_ret
    exact ⟨q, cap, rfl, hq, hcap, by rw [HE.out]; exact HRD4.out, B4.out⟩
end Go.Proofs.Ytjacjgchbpghiaa
