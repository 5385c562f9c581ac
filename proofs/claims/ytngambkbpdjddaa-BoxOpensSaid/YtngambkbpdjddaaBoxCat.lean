/- slices.Grow of nothing and slices.Concat, of bytes. -/
import Derived.Test.YtngambkbpdjddaaBoxTable
import Derived.Lib.AppendZeros
namespace Go.Proofs.Ytngambkbpdjddaa
open Go.RowKit

/-- Values that are slices of bytes, which read so. -/
def Pieces (w : World) (xs : List Value) (rs : List (List Nat)) : Prop :=
  xs.length = rs.length ∧ ∀ i, i < rs.length → ∃ Ai ci, xs[i]? = some (.slice Ai (rs.getD i []).length ci) ∧ (Ai = none → ci = 0) ∧ Reads w Ai (rs.getD i []).length (bts (rs.getD i []))
theorem Pieces.below {w w' : World} {xs : List Value} {rs : List (List Nat)} (h : Pieces w xs rs) (hb : Below w.heap.size w w') : Pieces w' xs rs :=
  ⟨h.1, fun i hi => by
    obtain ⟨Ai, ci, h1, h2, h3⟩ := h.2 i hi
    exact ⟨Ai, ci, h1, h2, h3.below hb⟩⟩
theorem Pieces.one {w : World} {xs : List Value} {rs : List (List Nat)} (h : Pieces w xs rs) : ∀ u ∈ xs, u.oneCell' = true := by
  intro u hu
  obtain ⟨i, hi, rfl⟩ := List.mem_iff_getElem.1 hu
  obtain ⟨Ai, ci, h1, _⟩ := h.2 i (by have := h.1; omega)
  rw [List.getElem?_eq_getElem hi] at h1
  injection h1 with h1
  rw [h1]; rfl
theorem Pieces.nil (w : World) : Pieces w [] [] := ⟨rfl, fun i hi => by simp at hi⟩
theorem Pieces.snoc {w : World} {xs : List Value} {rs : List (List Nat)} (h : Pieces w xs rs) {A : Option Addr} {n c : Nat} {r : List Nat} (hA : A = none → c = 0) (hr : Reads w A n (bts r)) : Pieces w (xs ++ [.slice A n c]) (rs ++ [r]) := by
  have hl := hr.lenB
  subst hl
  refine ⟨by simp [h.1], fun i hi => ?_⟩
  rcases Nat.lt_or_ge i rs.length with h1 | h1
  · obtain ⟨Ai, ci, k1, k2⟩ := h.2 i h1
    have e : (rs ++ [r]).getD i [] = rs.getD i [] := by simp [List.getD_eq_getElem?_getD, List.getElem?_append_left h1]
    rw [e]
    exact ⟨Ai, ci, by rw [List.getElem?_append_left (by rw [h.1]; exact h1)]; exact k1, k2⟩
  · obtain rfl : i = rs.length := by simp at hi; omega
    have e : (rs ++ [r]).getD rs.length [] = r := by simp [List.getD_eq_getElem?_getD]
    rw [e]
    exact ⟨A, c, by rw [← h.1]; simp, hA, hr⟩
theorem Pieces.cell {w : World} {A : Option Addr} {n : Nat} {xs : List Value} {rs : List (List Nat)} (hx : Reads w A n xs) (h : Pieces w xs rs) (i : Nat) (hi : i < n) : ∃ ad Ai ci, A = some ad ∧ w.cell? (ad.add i) = some (.slice Ai (rs.getD i []).length ci) ∧ (Ai = none → ci = 0) ∧ Reads w Ai (rs.getD i []).length (bts (rs.getD i [])) := by
  obtain ⟨ad, rfl, hc⟩ := hx.2 (by omega)
  obtain ⟨Ai, ci, h1, h2, h3⟩ := h.2 i (by rw [← h.1, hx.1]; exact hi)
  exact ⟨ad, Ai, ci, rfl, hc i _ h1, h2, h3⟩
theorem Try.infoBytes : (Try.prog.info? 25).map (fun i => (i.zero, i.size, i.bytes)) = some (some (.slice none 0 0), 1, 24) := by kernel_rfl

theorem size_zeroCells (n : Nat) : (Builtin.zeroCells (Value.int .u8 0).cells n).size = n := by simp [Builtin.zeroCells, Value.cells]

/-- A new row without elements. -/
def Emptied (w : World) (e : Ending) (w' : World) : Prop := ∃ v, e = .returned v ∧ w'.ownsRow w.heap.size 5 1 v 0 [] ∧ Below w.heap.size w w'

theorem wpList_append_run {P : Program} {w : World} {ops : Array Oper} {rest : List Oper} {o : Oper} {a : Act} {Q : Exit → Act → World → Prop} (hgd : o.guard = none) (s x : Operand) (t tn : TypeId)
    (ho : o.op = .call { callee := .builtin .append, args := #[s, x], argTypes := #[t, tn] }) (vs vx v' : Value) (w' : World) (hs : a.eval s = vs) (hx : a.eval x = vx) (hrun : (Builtin.append_ #[t, tn] o.type #[vs, vx]).run P w = .ok v' w')
    (h : wpList P ops Q rest (a.put o.dst v') w') : wpList P ops Q (o :: rest) a w := by
  refine wpList_plain hgd fun _ hK => ?_
  unfold Oper.wp execOp
  simp only [ho, resolve, invoke, builtin, Sem.run_bind, Sem.run_pure, Result.andThen_ok, List.map_toArray, List.map_cons, List.map_nil, hs, hx, hrun]
  exact hK _ _ h

theorem own_zeros (w : World) (C : Array Value) (cap : Nat) (h : C.size = cap) (hm : cap ≤ maxLen) : (w.drew.alloc (.cells C 5)).ownsRow w.heap.size 5 1 (.slice (some ⟨w.heap.size, 0, none⟩) 0 cap) 0 [] := by
  refine ⟨rfl, .inr ⟨w.heap.size, cap, C, rfl, Nat.le_refl _, heap_alloc_last w.drew _, Nat.zero_le _, hm, by omega, by simp⟩⟩
set_option maxHeartbeats 800000 in
set_option maxRecDepth 100000 in
theorem grow_nil (w : World) (n : Nat) (h0 : 0 < n) (hn : n ≤ 100000000) : Calls Try.prog 41 #[.slice none 0 0, .int .i64 (n : Int)] w (Emptied w) := by
  obtain ⟨i0, hi, hz0, hz1, hz2⟩ := info_parts Try.infoU8
  have hap := Lib.run_append_nil_zeros (P := Try.prog) w 25 3 25 5 i0 (.int .u8 0) .i64 .i64 Try.underlying25 Try.underlying3 hi hz0 n h0 (by rw [hz1]; omega) (by omega) (by rw [hz2]; omega)
  have hcn : n ≤ grownCap w n 0 5 ∧ grownCap w n 0 5 ≤ maxLen := ⟨grownCap_ge _ _ _ _, grownCap_le_maxLen _ _ _ _ (by unfold maxLen; omega)⟩
  generalize hcap : grownCap w n 0 5 = cap at hap hcn
  have HO := Lib.hid (own_zeros w (Builtin.zeroCells (Value.int .u8 0).cells n ++ Builtin.zeroCells (Value.int .u8 0).cells (cap - n)) cap (by rw [Array.size_append, size_zeroCells, size_zeroCells]; omega) hcn.2)
  have HB := Lib.hid (show Below w.heap.size w (w.drew.alloc (.cells (Builtin.zeroCells (Value.int .u8 0).cells n ++ Builtin.zeroCells (Value.int .u8 0).cells (cap - n)) 5)) from up1 (upd (Below.refl _ _)) _)
  generalize Builtin.zeroCells (Value.int .u8 0).cells n ++ Builtin.zeroCells (Value.int .u8 0).cells (cap - n) = C at *
  generalize hw1 : w.drew.alloc (.cells C 5) = w1 at *
  have HAP := Lib.hid hap
  have t1 : (0 : Int) < n := by omega
  have t2 : ¬ (n : Int) < 0 := by omega
  have hcn0 := hcn.1
  clear hap hw1 hcap hi hz0 hz1 hz2 hcn
  go_enter Try.func41, Try.ntmps41
  go_wp2_with (at_builtin; refine wpList_append_run rfl (.tmp 20) (.tmp 21) 25 3 rfl (.slice none 0 0) (.int .i64 (n : Int)) _ _ rfl rfl HAP.out ?_)
  go_wp2
  go_ret
  exact ⟨_, rfl, HO.out, HB.out⟩

theorem flat_take (rs : List (List Nat)) (k : Nat) (h : k < rs.length) : (rs.take (k + 1)).flatten = (rs.take k).flatten ++ rs.getD k [] := by
  rw [List.take_succ_eq_append_getElem h, List.getD_eq_getElem?_getD, List.getElem?_eq_getElem h, List.flatten_append]
  simp
theorem flat_le (rs : List (List Nat)) (k : Nat) : (rs.take k).flatten.length ≤ rs.flatten.length := by
  have h : rs.flatten = (rs.take k).flatten ++ (rs.drop k).flatten := by rw [← List.flatten_append, List.take_append_drop]
  rw [h, List.length_append]
  omega

def CatIs (w : World) (rs : List (List Nat)) (e : Ending) (w' : World) : Prop := OwnB w rs.flatten.length rs.flatten e w'
def CatAt (w : World) (n : Nat) (rs : List (List Nat)) (s i : Value) (wr : World) : Prop :=
  w = wr ∧ ∃ k : Nat, k ≤ n ∧ i = .int .i64 (k : Int) ∧ s = .int .i64 (((rs.take k).flatten.length : Nat) : Int)
def CatTo (w : World) (n : Nat) (rs : List (List Nat)) (v i : Value) (wr : World) : Prop :=
  ∃ k : Nat, k ≤ n ∧ i = .int .i64 (k : Int) ∧ wr.ownsRow w.heap.size 5 1 v (rs.take k).flatten.length (bts (rs.take k).flatten) ∧ Below w.heap.size w wr

set_option maxHeartbeats 3200000 in
set_option maxRecDepth 100000 in
theorem concat_any (w : World) (A : Option Addr) (n c : Nat) (xs : List Value) (rs : List (List Nat)) (hx : Reads w A n xs) (hp : Pieces w xs rs) (hn : n ≤ 1000000) (h0 : 0 < rs.flatten.length) (hz : rs.flatten.length ≤ 10000000) :
    Calls Try.prog 24 #[.slice A n c] w (OwnB w rs.flatten.length rs.flatten) := by
  suffices h : Calls Try.prog 24 #[.slice A n c] w (CatIs w rs) from h
  obtain ⟨i0, hi, hz0, hz1, hz2⟩ := info_parts Try.infoU8
  have HI := Lib.hid hi
  have HZ := Lib.hid (And.intro hz0 (And.intro hz1 hz2))
  have HX := Lib.hid hx
  have HP := Lib.hid hp
  have HL := Lib.hid (show rs.length = n by rw [← hp.1, hx.1])
  have HF := Lib.hid (fun k => flat_le rs k)
  have KG := Lib.hid (grow_nil w rs.flatten.length h0 (by omega))
  have HZZ := Lib.hid hz
  clear hx hp h0 hi hz0 hz1 hz2 hz
  go_enter Try.func24, Try.ntmps24
  go_wp2_with fail
  go_loopw [3, 11] (CatAt w n rs) (fun _ i _ => n - (intOf i).toNat)
  case atStart => exact ⟨rfl, 0, Nat.zero_le _, rfl, rfl⟩
  case round =>
    obtain ⟨rfl, k, hk, rfl, rfl⟩ := hrel
    by_cases hlt : k < n
    · obtain ⟨ad, Ai, ci, rfl, ck, _, _⟩ := HP.out.cell HX.out k hlt
      have hft := congrArg List.length (flat_take rs k (by rw [HL.out]; exact hlt))
      rw [List.length_append] at hft
      have hfl := HF.out (k + 1)
      have hzz := HZZ.out
      generalize (rs.take k).flatten.length = a at *
      generalize (rs.getD k []).length = m at *
      have HA := Lib.hid hft
      have t1 : (k : Int) < n := by omega
      have t2 : ¬ (a : Int) + m < 0 := by omega
      have t3 : a + m ≤ 10000000 := by omega
      clear hft hfl hzz
      go_wp2_with fail
      exact ⟨⟨rfl, k + 1, by omega, by go_num, by rw [HA.out]; go_num⟩, by simp [intOf]; omega⟩
    · obtain rfl : k = n := by omega
      have t1 : ¬ (k : Int) < k := by omega
      rw [List.take_of_length_le (by rw [HL.out]; exact Nat.le_refl _)]
      obtain ⟨N, hN⟩ : ∃ N, rs.flatten.length = N := ⟨_, rfl⟩
      rw [hN] at KG ⊢
      have HN := Lib.hid hN
      clear hN
      go_wp2_with fail
      refine KG.out.mono ?_
      rintro e w1 ⟨v1, rfl, o1, b1⟩
      have OB1 := Lib.hid (And.intro o1 b1)
      clear o1 b1
      go_wp2_with fail
      go_loopw [6, 27] (CatTo w k rs) (fun _ i _ => k - (intOf i).toNat)
      case atStart => exact ⟨0, Nat.zero_le _, rfl, OB1.out.1, OB1.out.2⟩
      case round =>
        obtain ⟨j, hj, rfl, ho, hb⟩ := hrel
        by_cases hlt : j < k
        · obtain ⟨ad, Ai, ci, rfl, ck, hA, hr⟩ := HP.out.cell HX.out j hlt
          replace ck := (hb.cell (World.block_lt_of_cell? _ _ ck)).trans ck
          replace hr := hr.below hb
          have hft := flat_take rs j (by rw [HL.out]; exact hlt)
          have hfl := HF.out (j + 1)
          have hzz := HZZ.out
          rw [hft, List.length_append] at hfl
          obtain ⟨Av, cv, rfl, _, _⟩ := Reads.of_own ho
          generalize (rs.take j).flatten = a at *
          generalize rs.getD j [] = r at *
          obtain ⟨m, hm⟩ : ∃ m, r.length = m := ⟨_, rfl⟩
          obtain ⟨q, hq⟩ : ∃ q, a.length = q := ⟨_, rfl⟩
          rw [hm] at ck hr hfl
          rw [hq] at ho hfl ⊢
          have HO := Lib.hid (And.intro ho hb)
          have HR := Lib.hid (And.intro hr hA)
          have HM := Lib.hid (And.intro hm (And.intro hq hft))
          have t1 : (j : Int) < k := by omega
          have t3 : q + m ≤ 10000000 := by omega
          clear ho hb hr hA hft hfl hzz hm hq
          go_wp2_with (at_builtin; refine wpList_append_reads rfl (.tmp 31) (.tmp 32) 25 rfl w.heap.size 5 i0 (.int .u8 0) 1 Try.underlying25 HI.out HZ.out rfl (.slice Av q cv) q (bts a) rfl HO.out.1 Ai m ci (bts r) rfl HR.out.1 HR.out.2 (bts_one _) ?b1 ?b2 ?b3 ?_)
          case b1 => unfold maxLen; omega
          case b2 => omega
          case b3 => exact HO.out.2.size
          intro v2 w2 own2 gr2
          have Z := Lib.hid (And.intro (show w2.ownsRow w.heap.size 5 1 v2 (q + m) (bts (a ++ r)) by rw [bts_append]; exact own2) (own_grown_below HO.out.2 gr2 HO.out.2.size (fun q hq => (own_lt HO.out.1 q hq).1)))
          clear own2 gr2
          go_wp2_with fail
          refine ⟨⟨j + 1, by omega, by go_num, ?_, Z.out.2⟩, by simp [intOf]; omega⟩
          rw [HM.out.2.2, List.length_append, HM.out.1, HM.out.2.1]
          exact Z.out.1
        · obtain rfl : j = k := by omega
          rw [List.take_of_length_le (by rw [HL.out]; exact Nat.le_refl _)] at ho
          have t1 : ¬ (j : Int) < j := by omega
          have HO := Lib.hid (And.intro ho hb)
          clear ho hb
          go_wp2
          go_ret
          exact ⟨_, rfl, HO.out.1, HO.out.2⟩
end Go.Proofs.Ytngambkbpdjddaa
