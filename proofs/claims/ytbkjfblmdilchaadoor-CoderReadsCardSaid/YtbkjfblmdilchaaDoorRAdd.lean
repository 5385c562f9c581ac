/- The document's digits: add, less, wide. -/
import Derived.Test.YtbkjfblmdilchaaDoorCSame
namespace Go.Proofs.YtbkjfblmdilchaaDoor
open Go.RowKit

def dints (l : List Nat) : List Int := l.map fun d : Nat => (d : Int)
theorem length_dints (l : List Nat) : (dints l).length = l.length := by simp [dints]
theorem dints_append (a b : List Nat) : dints (a ++ b) = dints a ++ dints b := by simp [dints]
theorem dints_at (l : List Nat) (k : Nat) : (dints l).getD k 0 = ((l.getD k 0 : Nat) : Int) := by
  unfold dints
  rw [List.getD_eq_getElem?_getD, List.getElem?_map, List.getD_eq_getElem?_getD]
  cases l[k]? <;> rfl
theorem dints_set (l : List Nat) (k x : Nat) : dints (l.set k x) = (dints l).set k (x : Int) := by simp [dints, List.map_set]
theorem dints_take (l : List Nat) (k : Nat) : dints (l.take k) = (dints l).take k := by simp [dints, List.map_take]
/-- The digits l lie at the start of block q. -/
def IRow (w : World) (q : Nat) (l : List Nat) (rest : List Value) : Prop := w.heap[q]? = some (.cells (ints (dints l) ++ rest).toArray 3 (0, 0))
theorem IRow.cell {w : World} {q : Nat} {l : List Nat} {rest : List Value} (h : IRow w q l rest) (k : Nat) (hk : k < l.length) : w.cell? ⟨q, k, none⟩ = some (.int .i64 ((l.getD k 0 : Nat) : Int)) := by
  rw [cell_in h, List.getElem?_toArray, List.getElem?_append_left (by rw [length_ints, length_dints]; exact hk)]
  unfold ints
  rw [List.getElem?_map, List.getElem?_eq_getElem (by rw [length_dints]; exact hk)]
  have := dints_at l k
  rw [List.getD_eq_getElem?_getD, List.getElem?_eq_getElem (by rw [length_dints]; exact hk)] at this
  simp only [Option.getD_some] at this
  rw [this]; rfl
theorem IRow.set {w : World} {q : Nat} {l : List Nat} {rest : List Value} (h : IRow w q l rest) (k x : Nat) (hk : k < l.length) : IRow (w.setCell ⟨q, k, none⟩ (.int .i64 (x : Int))) q (l.set k x) rest := by
  have := heap_set h k (.int .i64 (x : Int))
  rw [IRow, this, row_set _ _ _ _ (by rw [length_dints]; exact hk), dints_set]
theorem ownI_block {w : World} {B n : Nat} {v : Value} {l : List Nat} (h : w.ownsRow B 3 1 v n (ints (dints l))) (hn : 0 < n) : ∃ q cap rest, v = .slice (some ⟨q, 0, none⟩) n cap ∧ IRow w q l rest ∧ n ≤ cap ∧ cap ≤ maxLen ∧ (ints (dints l) ++ rest).length = cap ∧ B ≤ q := by
  rcases h.2 with ⟨_, h1⟩ | ⟨q, cap, cur, h1, hq, hh, hc, hm, hs, ht⟩
  · omega
  · refine ⟨q, cap, cur.toList.drop n, h1, ?_, hc, hm, ?_, hq⟩
    · rw [IRow, hh, ← ht, Nat.mul_one, List.take_append_drop, Array.toArray_toList]
    · rw [← ht, Nat.mul_one, List.take_append_drop, Array.length_toList]
      omega
theorem ownI_of_block {w : World} {B n q cap : Nat} {l : List Nat} {rest : List Value} (h : IRow w q l rest) (hl : l.length = n) (hc : n ≤ cap) (hm : cap ≤ maxLen) (hs : (ints (dints l) ++ rest).length = cap) (hq : B ≤ q) : w.ownsRow B 3 1 (.slice (some ⟨q, 0, none⟩) n cap) n (ints (dints l)) := by
  refine ⟨by rw [length_ints, length_dints]; omega, .inr ⟨q, cap, _, rfl, hq, h, hc, hm, ?_, ?_⟩⟩
  · rw [List.size_toArray]; omega
  · rw [List.toList_toArray, Nat.mul_one, List.take_append_of_le_length (by rw [length_ints, length_dints]; omega), List.take_of_length_le (by rw [length_ints, length_dints]; omega)]
theorem Reads.digit {w : World} {A : Option Addr} {n : Nat} {l : List Nat} (h : Reads w A n (ints (dints l))) (k : Nat) (hk : k < n) : ∃ ad, A = some ad ∧ w.cell? (ad.add k) = some (.int .i64 ((l.getD k 0 : Nat) : Int)) := by
  obtain ⟨ad, hA, hc⟩ := h.int k hk
  rw [dints_at] at hc
  exact ⟨ad, hA, hc⟩
theorem Reads.lenD {w : World} {A : Option Addr} {n : Nat} {l : List Nat} (h : Reads w A n (ints (dints l))) : l.length = n := by have := h.len; rwa [length_dints] at this

theorem ownI_lt {w : World} {B n : Nat} {t : TypeId} {v : Value} {xs : List Value} (h : w.ownsRow B t 1 v n xs) (q : Nat) (hq : v.ownBlock = some q) : B ≤ q := (own_lt h q hq).1
theorem empty_ints (w : World) : (w.alloc (.cells #[] 3)).ownsRow w.heap.size 3 1 (.slice (some ⟨w.heap.size, 0, none⟩) 0 0) 0 [] :=
  World.ownsRow_made w #[] 0 (Nat.le_refl _) (by unfold maxLen; omega) (by simp)
/-- Digits in a row of their own. -/
def OwnD (w : World) (n : Nat) (l : List Nat) (e : Ending) (w' : World) : Prop := ∃ v, e = .returned v ∧ w'.ownsRow w.heap.size 3 1 v n (ints (dints l)) ∧ Below w.heap.size w w'
def AddAt (w : World) (q m T : Nat) (rest : List Value) (n i : Value) (wr : World) : Prop :=
  ∃ (j x : Nat) (D : List Nat), i = .int .i64 ((j : Int) - 1) ∧ n = .int .i64 (x : Int) ∧ j ≤ m ∧ x ≤ 4294967296 ∧ D.length = m ∧ Dig D ∧ val D + x * 256 ^ (m - j) = T ∧ IRow wr q D rest ∧ Chg (· = q) w wr

set_option maxHeartbeats 3200000 in
set_option maxRecDepth 100000 in
theorem add_any (w : World) (A : Option Addr) (m c : Nat) (l : List Nat) (x : Nat) (h : Reads w A m (ints (dints l))) (hA : A = none → c = 0) (hd : Dig l) (hm : m ≤ 1000000) (h0 : 0 < m) (hx : x ≤ 4294967296) (hv : val l + x < 256 ^ m) :
    Calls Tryd.prog 34 #[.slice A m c, .int .i64 (x : Int)] w (OwnD w m (digs m (val l + x))) := by
  obtain ⟨i0, hi, hz0, hz1, hz2⟩ := info_parts Tryd.infoInt
  have hl := h.lenD
  have HI := Lib.hid hi
  have HZ := Lib.hid (And.intro hz0 (And.intro hz1 hz2))
  have N1 := Lib.hid (empty_ints w)
  have B1 := Lib.hid ((Below.refl w.heap.size w).alloc (Nat.le_refl _) (.cells #[] 3))
  have HR := Lib.hid (h.below ((Below.refl w.heap.size w).alloc (Nat.le_refl _) (.cells #[] 3)))
  have HV := Lib.hid (⟨hv, hl, hd⟩ : val l + x < 256 ^ m ∧ l.length = m ∧ Dig l)
  have HA := Lib.hid hA
  clear h hi hz0 hz1 hz2 hA hv hl hd
  go_enter Tryd.func34, Tryd.ntmps34
  go_wp2_with (at_builtin; refine wpList_append_reads rfl (.tmp 7) (.tmp 8) 27 rfl w.heap.size 3 i0 (.int .i64 0) 8 Tryd.underlying27 HI.out HZ.out rfl (.slice (some ⟨w.heap.size, 0, none⟩) 0 0) 0 [] rfl N1.out A m c (ints (dints l)) rfl HR.out HA.out (ints_one _) ?b1 ?b2 ?b3 ?_)
  case b1 => unfold maxLen; omega
  case b2 => omega
  case b3 => simp
  intro v' w2 hown hgr
  have hown2 : w2.ownsRow w.heap.size 3 1 v' m (ints (dints l)) := by simpa using hown
  have B2 := Lib.hid (own_grown_below B1.out hgr B1.out.size (fun k hk => by simp [Value.ownBlock] at hk; omega))
  obtain ⟨q, cap, rest, rfl, hrow, hc1, hc2, hc3, hq⟩ := ownI_block hown2 h0
  have Q := Lib.hid (⟨hrow, hc1, hc2, hc3, hq⟩ : IRow w2 q l rest ∧ m ≤ cap ∧ cap ≤ maxLen ∧ (ints (dints l) ++ rest).length = cap ∧ w.heap.size ≤ q)
  clear hown hown2 hgr hrow hc1 hc2 hc3 hq
  go_wp2_with fail
  go_loopw [1, 6] (AddAt w2 q m (val l + x) rest) (fun _ i _ => (intOf i + 1).toNat)
  case atStart => exact ⟨m, x, l, rfl, rfl, Nat.le_refl _, hx, HV.out.2.1, HV.out.2.2, by simp, Q.out.1, Chg.refl _ _⟩
  case round =>
    obtain ⟨j, y, D, rfl, rfl, hj, hy, hDl, hD, hval, hrow, hch⟩ := hrel
    have FIN : (j = 0 ∨ y = 0) → OwnD w m (digs m (val l + x)) (.returned (.slice (some ⟨q, 0, none⟩) m cap)) wr := by
      intro hor
      have hvD : val D = val l + x := by
        rcases hor with h1 | h1
        · rw [h1, Nat.sub_zero] at hval
          have h2 := HV.out.1
          rcases Nat.eq_zero_or_pos y with h3 | h3
          · rw [h3] at hval; omega
          · have : 1 * 256 ^ m ≤ y * 256 ^ m := Nat.mul_le_mul_right _ h3
            omega
        · rw [h1] at hval; omega
      refine ⟨_, rfl, ?_, B2.out.trans (hch.below B2.out.size (fun p hp => by rw [hp]; exact Q.out.2.2.2.2))⟩
      rw [← hvD, ← hDl, digs_val D hD, hDl]
      refine ownI_of_block hrow hDl Q.out.2.1 Q.out.2.2.1 ?_ Q.out.2.2.2.2
      have := Q.out.2.2.2.1
      rw [List.length_append, length_ints, length_dints] at this ⊢
      rw [hDl]
      rw [HV.out.2.1] at this
      exact this
    have F := Lib.hid FIN
    clear FIN
    rcases j with _ | j
    · clear hval hrow hch hD hDl
      have t1 : ¬ (0 : Int) ≤ ((0 : Nat) : Int) - 1 := by omega
      have t2 : ((0 : Nat) : Int) - 1 = -1 := by omega
      rw [t2]
      go_wp2
      go_ret
      exact F.out (.inl (by trivial))
    · have ej : ((j + 1 : Nat) : Int) - 1 = (j : Int) := by omega
      rw [ej]
      have t1 : (0 : Int) ≤ (j : Int) := by omega
      by_cases hy0 : y = 0
      · subst hy0
        clear hval hrow hch hD hDl
        have t3 : ¬ (0 : Int) < ((0 : Nat) : Int) := by omega
        go_wp2
        go_ret
        exact F.out (.inr (by trivial))
      · have t3 : (0 : Int) < (y : Int) := by omega
        have ck := hrow.cell j (by omega)
        have fk := frozen_in hrow j
        have bd := dig_at hD j
        have vs := val_set D j ((y + D.getD j 0) % 256) (by omega)
        have R2 := Lib.hid (hrow.set j ((y + D.getD j 0) % 256) (by omega))
        have C2 := Lib.hid (hch.set ⟨q, j, none⟩ (.int .i64 (((y + D.getD j 0) % 256 : Nat) : Int)) (by exact rfl))
        have D2 := Lib.hid (⟨dig_set D j ((y + D.getD j 0) % 256) hD (by omega), show (D.set j ((y + D.getD j 0) % 256)).length = m by rw [List.length_set]; exact hDl⟩ : Dig (D.set j ((y + D.getD j 0) % 256)) ∧ (D.set j ((y + D.getD j 0) % 256)).length = m)
        have e1 : m - 1 - j = m - (j + 1) := by omega
        rw [hDl, e1] at vs
        clear hrow hch hD
        generalize hdd : D.getD j 0 = d at *
        have V2 := Lib.hid (show val (D.set j ((y + d) % 256)) + (y + d) / 256 * 256 ^ (m - j) = val l + x by
          rw [show m - j = m - (j + 1) + 1 by omega, Nat.pow_succ]
          have h1 := Nat.div_add_mod (y + d) 256
          generalize 256 ^ (m - (j + 1)) = P at *
          have h2 : (y + d) / 256 * (P * 256) + (y + d) % 256 * P = (y + d) * P := by
            rw [← Nat.mul_assoc, Nat.mul_comm ((y + d) / 256 * P) 256, ← Nat.mul_assoc, ← Nat.add_mul, h1]
          rw [Nat.add_mul] at h2
          omega)
        clear vs hval hdd
        have t4 : (j : Int) < m := by omega
        have m1 : IntKind.i64.wrap ((y : Int) + (d : Int)) = (y : Int) + (d : Int) := IntWalk.i64_in _ (by omega)
        have m2 : ((y : Int) + (d : Int)) % 256 = (((y + d) % 256 : Nat) : Int) := by omega
        have m3 : ((y : Int) + (d : Int)) / 256 = (((y + d) / 256 : Nat) : Int) := by omega
        have hyd : (y + d) / 256 ≤ 4294967296 := by omega
        rw [← m2] at C2 R2
        have M3 := Lib.hid m3
        clear m2 m3
        go_wp2_with fail
        refine ⟨⟨j, (y + d) / 256, _, rfl, ?_, by omega, hyd, D2.out.2, D2.out.1, V2.out, R2.out, C2.out⟩, by simp [intOf]⟩
        rw [← M3.out]

def LessAt4 (w : World) (a b : List Nat) (n : Nat) (i : Value) (wr : World) : Prop := ∃ k : Nat, k ≤ n ∧ i = .int .i64 (k : Int) ∧ a.take k = b.take k ∧ Reading w wr
theorem val_less {a b : List Nat} {k n : Nat} (ha : a.length = n) (hb : b.length = n) (da : Dig a) (hk : k < n) (ht : a.take k = b.take k) (h : a.getD k 0 < b.getD k 0) : val a < val b := by
  have h1 : a = a.take k ++ a.getD k 0 :: a.drop (k + 1) := by
    rw [List.getD_eq_getElem?_getD, List.getElem?_eq_getElem (by omega : k < a.length)]
    simp
  have h2 : b = b.take k ++ b.getD k 0 :: b.drop (k + 1) := by
    rw [List.getD_eq_getElem?_getD, List.getElem?_eq_getElem (by omega : k < b.length)]
    simp
  rw [h1, h2, ht]
  exact val_cmp _ _ _ _ _ (by rw [List.length_drop, List.length_drop, ha, hb]) (fun d hd => da d (List.mem_of_mem_drop hd)) h

set_option maxHeartbeats 1600000 in
set_option maxRecDepth 100000 in
theorem less_any (w : World) (A A' : Option Addr) (n c c' : Nat) (a b : List Nat) (h : Reads w A n (ints (dints a))) (h' : Reads w A' n (ints (dints b))) (hn : n ≤ 1000000) (da : Dig a) (db : Dig b) :
    Calls Tryd.prog 54 #[.slice A n c, .slice A' n c'] w fun e w' => e = .returned (.bool (decide (val a < val b))) ∧ Reading w w' := by
  have HR := Lib.hid (⟨h, h', h.lenD, h'.lenD, da, db⟩ : Reads w A n (ints (dints a)) ∧ Reads w A' n (ints (dints b)) ∧ a.length = n ∧ b.length = n ∧ Dig a ∧ Dig b)
  clear h h' da db
  go_enter Tryd.func54, Tryd.ntmps54
  go_wp2_with fail
  go_loopw [5] (LessAt4 w a b n) (fun i _ => n - (intOf i).toNat)
  case atStart => exact ⟨0, Nat.zero_le _, rfl, by simp, Reading.refl w⟩
  case round =>
    obtain ⟨k, hk, rfl, ht, hr⟩ := hrel
    by_cases hlt : k < n
    · obtain ⟨ad, rfl, d1⟩ := (HR.out.1.read hr).digit k hlt
      obtain ⟨ad', rfl, d2⟩ := (HR.out.2.1.read hr).digit k hlt
      have HT := Lib.hid (take_eq_succ (by rw [HR.out.2.2.1]; exact hlt) (by rw [HR.out.2.2.2.1]; exact hlt) ht)
      have L1 := Lib.hid (val_less HR.out.2.2.1 HR.out.2.2.2.1 HR.out.2.2.2.2.1 hlt ht)
      have L2 := Lib.hid (val_less HR.out.2.2.2.1 HR.out.2.2.1 HR.out.2.2.2.2.2 hlt ht.symm)
      generalize a.getD k 0 = x at *
      generalize b.getD k 0 = y at *
      have HX := Lib.hid hr
      have b1 : (k : Int) < n := by omega
      clear hr ht
      by_cases hxy : x = y
      · have HT2 := Lib.hid (HT.out.2 hxy)
        subst hxy
        have t : ((x : Int) != (x : Int)) = false := by simp
        go_wp2_with fail
        go_quiet (fail)
        go_wp2
        exact ⟨⟨k + 1, by omega, by go_num, HT2.out, HX.out.trans ⟨_, rfl⟩⟩, by simp [intOf]; omega⟩
      · have t : ((x : Int) != (y : Int)) = true := by simp; omega
        have hne : decide (val a < val b) = decide ((x : Int) < (y : Int)) := by
          apply decide_eq_decide.2
          constructor
          · intro h1
            rcases Nat.lt_or_ge x y with h2 | h2
            · omega
            · have := L2.out (by omega)
              omega
          · intro h1
            exact L1.out (by omega)
        have HNE := Lib.hid hne
        clear hne
        go_wp2_with fail
        go_quiet (fail)
        go_wp2
        go_quiet (fail)
        go_wp2
        go_ret
        refine ⟨?_, HX.out.trans ?_⟩
        · rw [HNE.out]
          show Ending.returned (.bool _) = _
          congr 2
          apply decide_eq_decide.2
          omega
        · first | exact ⟨_, rfl⟩ | exact (Reading.trans ⟨_, rfl⟩ ⟨_, rfl⟩)
    · have hkn : k = n := by omega
      have hne : decide (val a < val b) = false := by
        rw [decide_eq_false_iff_not]
        rw [hkn, List.take_of_length_le (by rw [HR.out.2.2.1]; exact Nat.le_refl _), List.take_of_length_le (by rw [HR.out.2.2.2.1]; exact Nat.le_refl _)] at ht
        rw [ht]
        omega
      have HNE := Lib.hid hne
      have HX := Lib.hid hr
      have b1 : ¬ (k : Int) < n := by omega
      clear hr ht hkn hne
      go_wp2
      go_ret
      exact ⟨by rw [HNE.out]; rfl, HX.out⟩

def WideAt (w : World) (b : List Nat) (m : Nat) (o i : Value) (wr : World) : Prop :=
  ∃ k : Nat, k ≤ m ∧ i = .int .i64 (k : Int) ∧ wr.ownsRow w.heap.size 3 1 o k (ints (dints (widen b k))) ∧ Below w.heap.size w wr
theorem ints_snoc (l : List Nat) (d : Nat) : ints (dints l) ++ [.int .i64 (d : Int)] = ints (dints (l ++ [d])) := by rw [dints_append, ints_append]; rfl

set_option maxHeartbeats 3200000 in
set_option maxRecDepth 100000 in
theorem wide_any (w : World) (A : Option Addr) (n c : Nat) (b : List Nat) (m : Nat) (h : Reads w A n (bts b)) (hb : Dig b) (hm : m ≤ 1000000) :
    Calls Tryd.prog 53 #[.slice A n c, .int .i64 (m : Int)] w (OwnD w m (widen b m)) := by
  obtain ⟨i0, hi, hz0, hz1, hz2⟩ := info_parts Tryd.infoInt
  have HR := Lib.hid (⟨h, h.lenB, hb⟩ : Reads w A n (bts b) ∧ b.length = n ∧ Dig b)
  clear h hb
  go_enter Tryd.func53, Tryd.ntmps53
  go_wp2_with fail
  go_loopw [5, 6] (WideAt w b m) (fun _ i _ => m - (intOf i).toNat)
  case atStart => exact ⟨0, Nat.zero_le _, rfl, World.ownsRow_nil _ _ _ _, Below.refl _ _⟩
  case round =>
    obtain ⟨k, hk, rfl, ho, hbl⟩ := hrel
    obtain ⟨A5, c5, rfl, _, _⟩ := Reads.of_own ho
    by_cases hlt : k < m
    · have b1 : (k : Int) < m := by omega
      have hws := widen_succ b k
      by_cases hkb : k < n
      · obtain ⟨ad, rfl, d1⟩ := (HR.out.1.below hbl).byte k hkb
        have bd := dig_at HR.out.2.2 k
        generalize b.getD k 0 = d at *
        have HO := Lib.hid (ho.alloc (.cells #[.int .i64 (d : Int)] 3))
        have HB := Lib.hid (⟨hbl, ho, hws⟩ : Below w.heap.size w wr ∧ wr.ownsRow w.heap.size 3 1 (.slice A5 k c5) k (ints (dints (widen b k))) ∧ widen b (k + 1) = widen b k ++ [d])
        have hsz := hbl.size
        have b2 : (k : Int) < n := by omega
        clear ho hbl hws
        go_wp2_with (at_builtin; refine wpList_append_lies _ rfl (.tmp 16) (.tmp 22) 27 rfl w.heap.size 3 i0 (.int .i64 0) 1 8 Tryd.underlying27 hi hz0 hz1 hz2 rfl (by decide) (.slice A5 k c5) k (ints (dints (widen b k))) rfl HO.out ⟨wr.heap.size, 0, none⟩ 1 1 [.int .i64 (d : Int)] rfl rfl (cell_one_new _ _ _) ?c2 (by decide) ?b1 ?b2 ?b3 (wr.heap.size + 1) ?b4 ?_)
        case c2 => intro u hu; simp at hu; subst hu; rfl
        case b1 => unfold maxLen; omega
        case b2 => omega
        case b3 => simp; omega
        case b4 => simp
        intro q cap w3 hown hgr hq hlt3
        have B3 := Lib.hid (show Below w.heap.size w w3 from own_grown_below (HB.out.1.alloc HB.out.1.size _) hgr (by simp; omega) (fun p hp => (ownI_lt HB.out.2.1 p hp)))
        rw [ints_snoc, ← HB.out.2.2] at hown
        have O3 := Lib.hid hown
        clear hown hgr hq hlt3
        go_wp2_with fail
        exact ⟨⟨k + 1, by omega, by go_num, O3.out, B3.out⟩, by simp [intOf]; omega⟩
      · have hz : b.getD k 0 = 0 := by rw [List.getD_eq_getElem?_getD, List.getElem?_eq_none (by have := HR.out.2.1; omega)]; rfl
        rw [hz] at hws
        have HO := Lib.hid (ho.alloc (.cells #[.int .i64 0] 3))
        have HB := Lib.hid (⟨hbl, ho, hws⟩ : Below w.heap.size w wr ∧ wr.ownsRow w.heap.size 3 1 (.slice A5 k c5) k (ints (dints (widen b k))) ∧ widen b (k + 1) = widen b k ++ [0])
        have hsz := hbl.size
        have b2 : ¬ (k : Int) < n := by omega
        clear ho hbl hws hz
        go_wp2_with (at_builtin; refine wpList_append_lies _ rfl (.tmp 24) (.tmp 25) 27 rfl w.heap.size 3 i0 (.int .i64 0) 1 8 Tryd.underlying27 hi hz0 hz1 hz2 rfl (by decide) (.slice A5 k c5) k (ints (dints (widen b k))) rfl HO.out ⟨wr.heap.size, 0, none⟩ 1 1 [.int .i64 0] rfl rfl (cell_one_new _ _ _) (by intro u hu; simp at hu; subst hu; rfl) (by decide) (by unfold maxLen; omega) (by omega) (by have := hsz; simp; omega) (wr.heap.size + 1) (by simp) ?_)
        intro q cap w3 hown hgr hq hlt3
        have B3 := Lib.hid (show Below w.heap.size w w3 from own_grown_below (HB.out.1.alloc HB.out.1.size _) hgr (by simp; omega) (fun p hp => (ownI_lt HB.out.2.1 p hp)))
        have e0 : ints (dints (widen b k)) ++ [.int .i64 0] = ints (dints (widen b (k + 1))) := by rw [HB.out.2.2, ← ints_snoc]; rfl
        rw [e0] at hown
        have O3 := Lib.hid hown
        clear hown hgr hq hlt3 e0
        go_wp2_with fail
        exact ⟨⟨k + 1, by omega, by go_num, O3.out, B3.out⟩, by simp [intOf]; omega⟩
    · obtain rfl : k = m := by omega
      have b1 : ¬ (k : Int) < k := by omega
      have HB := Lib.hid (⟨hbl, ho⟩ : Below w.heap.size w wr ∧ wr.ownsRow w.heap.size 3 1 (.slice A5 k c5) k (ints (dints (widen b k))))
      clear ho hbl
      go_wp2
      go_ret
      exact ⟨_, rfl, HB.out.2, HB.out.1⟩
end Go.Proofs.YtbkjfblmdilchaaDoor
