/- Layer 9: the document's witnesses, put one behind the other; those of the kind Index. -/
import Derived.Test.YtelbmjbjpgcdaaaCrEdge
import Derived.Test.YtelbmjbjpgcdaaaCeLone
import Derived.Test.YtelbmjbjpgcdaaaCeIdx
import Derived.Deep.AppendLies
namespace Go.Proofs.Ytelbmjbjpgcdaaa
open Go.RowKit

theorem ownK9_up {W W' : World} {B n s : Nat} {t : TypeId} {v : Value} {xs : List Value} (h : W.ownsRow B t s v n xs) (b : Below W.heap.size W W') : W'.ownsRow B t s v n xs := by
  refine ⟨h.1, ?_⟩
  rcases h.2 with h1 | ⟨p, cap, cur, h1, hp, hh, h3⟩
  · exact .inl h1
  · exact .inr ⟨p, cap, cur, h1, hp, (b.block p (heap_lt hh)).trans hh, h3⟩
theorem ownK9_base {W : World} {B B' n s : Nat} {t : TypeId} {v : Value} {xs : List Value} (h : W.ownsRow B t s v n xs) (hb : B' ≤ B) : W.ownsRow B' t s v n xs := by
  refine ⟨h.1, ?_⟩
  rcases h.2 with h1 | ⟨p, cap, cur, h1, hp, h3⟩
  · exact .inl h1
  · exact .inr ⟨p, cap, cur, h1, Nat.le_trans hb hp, h3⟩
theorem ownK9_form {W : World} {B n s : Nat} {t : TypeId} {v : Value} {xs : List Value} (h : W.ownsRow B t s v n xs) : ∃ A c, v = .slice A n c := by
  rcases h.2 with ⟨h1, h2⟩ | ⟨p, cap, cur, h1, _⟩
  · exact ⟨none, 0, by rw [h1, h2]⟩
  · exact ⟨_, _, h1⟩
theorem Try.infoRWit : (Try.prog.info? 37).map (fun i => (i.zero, i.size, i.bytes)) = some (some (.agg #[.int .i64 0, .int .i64 0, .int .i64 0]), 3, 24) := by kernel_rfl
/-- The document's witnesses so far, beside the soup's box. -/
structure RwSt (w wr : World) (g Z : Nat) (N : Int) (A : Option Addr) (n c : Nat) (v : Value) (l : List Wt) : Prop where
  below : Below w.heap.size w wr
  bx : Bx wr g N A n c
  own : wr.ownsRow Z 37 3 v l.length (ints (flat3 l))
  wz : w.heap.size ≤ Z
  gz : g < Z
  zw : Z ≤ wr.heap.size
theorem RwSt.up {w wr w' : World} {g Z : Nat} {N : Int} {A : Option Addr} {n c : Nat} {v : Value} {l : List Wt} (h : RwSt w wr g Z N A n c v l) (b : Below wr.heap.size wr w') : RwSt w w' g Z N A n c v l :=
  ⟨h.below.trans (b.mono h.below.size), h.bx.below b, ownK9_up h.own b, h.wz, h.gz, Nat.le_trans h.zw b.size⟩
theorem flat3_snoc (l : List Wt) (x : Wt) : ints (flat3 (l ++ [x])) = ints (flat3 l) ++ [.int .i64 x.1, .int .i64 x.2.1, .int .i64 x.2.2] := by simp [ints, flat3]
theorem ones9 (a b c : Int) : ∀ u ∈ [Value.int .i64 a, .int .i64 b, .int .i64 c], u.oneCell' = true := by
  intro u hu
  simp at hu
  rcases hu with rfl | rfl | rfl <;> rfl
abbrev witO (x : Wt) : Obj := .cells #[.int .i64 x.1, .int .i64 x.2.1, .int .i64 x.2.2] 37
theorem RwSt.wpl {w wr : World} {g Z : Nat} {N : Int} {A : Option Addr} {n c : Nat} {v : Value} {l : List Wt} (h : RwSt w wr g Z N A n c v l) (x : Wt) {ops : Array Oper} {rest : List Oper} {o : Oper} {a : Act} {Q : Exit → Act → World → Prop} (hgd : o.guard = none) (s y : Operand)
    (ho : o.op = .call { callee := .builtin .append, args := #[s, y], argTypes := #[29, 29] }) (hs : a.eval s = v) (hx : a.eval y = .slice (some ⟨wr.heap.size, 0, none⟩) 1 1) (hl : l.length ≤ 100000000)
    (cont : ∀ A' c' w9, RwSt w w9 g Z N A n c (.slice A' (l.length + 1) c') (l ++ [x]) → Below w.heap.size w w9 → wpList Try.prog ops Q rest (a.put o.dst (.slice A' (l.length + 1) c')) w9) :
    wpList Try.prog ops Q (o :: rest) a (wr.alloc (witO x)) := by
  obtain ⟨i0, hi, hz0, hz1, hz2⟩ := info_parts Try.infoRWit
  have b := (Below.refl _ wr).alloc (Nat.le_refl _) (witO x)
  have q := h.up b
  have hnew : (wr.alloc (witO x)).heap[wr.heap.size]? = some (.cells #[.int .i64 x.1, .int .i64 x.2.1, .int .i64 x.2.2] 37 (0, 0)) := heap_alloc_new wr _
  refine wpList_append_lies _ hgd s y 29 ho Z 37 i0 (.agg #[.int .i64 0, .int .i64 0, .int .i64 0]) 3 24 Try.underlying29 hi hz0 hz1 hz2 rfl (by decide) v l.length (ints (flat3 l)) hs q.own ⟨wr.heap.size, 0, none⟩ 1 1 [.int .i64 x.1, .int .i64 x.2.1, .int .i64 x.2.2] hx rfl
    (fun j u hj => by rw [add_zero_addr, cell_in hnew]; simpa using hj) (ones9 _ _ _) (by omega) (by unfold maxLen; omega) (by omega) q.zw _ rfl ?_
  intro g9 cap9 w9 own9 gr9 _ _
  have hne : ∀ k, v.ownBlock = some k → Z ≤ k := fun k hk => (q.own.lt k hk).1
  have hwz := h.wz
  have hgz := h.gz
  have g1 : Bx w9 g N A n c := (gr9.block g (heap_lt q.bx) (fun e => by have := hne g e.symm; omega)).trans q.bx
  have b9 : Below w.heap.size w w9 := own_grown_below q.below gr9 q.below.size (fun k hk => by have := hne k hk; omega)
  exact cont _ _ w9 ⟨b9, g1, by rw [flat3_snoc, List.length_append, List.length_singleton]; exact own9, h.wz, h.gz, Nat.le_trans q.zw gr9.size⟩ b9
def RwTold (w : World) (ws : List Wt) (e : Ending) (w' : World) : Prop := ∃ A c, e = .returned (.slice A ws.length c) ∧ w'.ownsRow w.heap.size 37 3 (.slice A ws.length c) ws.length (ints (flat3 ws)) ∧ Below w.heap.size w w'
theorem RwSt.told {w wr : World} {g Z : Nat} {N : Int} {A : Option Addr} {n c : Nat} {v : Value} {l : List Wt} (h : RwSt w wr g Z N A n c v l) : RwTold w l (.returned v) wr := by
  obtain ⟨A', c', rfl⟩ := ownK9_form h.own
  exact ⟨A', c', rfl, ownK9_base h.own h.wz, h.below⟩
theorem RwSt.start {w w1 : World} {g : Nat} {N : Int} {A : Option Addr} {n c : Nat} (b : Below w.heap.size w w1) (x : Bx w1 g N A n c) : RwSt w w1 g w1.heap.size N A n c (.slice none 0 0) [] :=
  ⟨b, x, World.ownsRow_nil _ _ _ _, b.size, heap_lt x, Nat.le_refl _⟩
/-- Is one of the first m vertices out of bounds? -/
def out9 (N : Int) (x : Tr) (m : Nat) : Bool := (List.range m).any fun j => !decide (inN N (vx x j))
theorem out9_succ (N : Int) (x : Tr) (m : Nat) : out9 N x (m + 1) = (out9 N x m || !decide (inN N (vx x m))) := by
  unfold out9
  rw [List.range_succ, List.any_append]
  simp
theorem out9_bad (N : Int) (x : Tr) : out9 N x 3 = decide (badT N x) := by
  rw [out9_succ, out9_succ, out9_succ]
  unfold out9 badT vx
  by_cases h0 : inN N x.1 <;> by_cases h1 : inN N x.2.1 <;> by_cases h2 : inN N x.2.2 <;> simp [h0, h1, h2]
def RiOut (w : World) (g Z : Nat) (N : Int) (A : Option Addr) (n c : Nat) (tl : List Tr) (v i : Value) (wr : World) : Prop := ∃ k : Nat, k ≤ n ∧ i = .int .i64 (k : Int) ∧ RwSt w wr g Z N A n c v (idxP 1 (fun t => decide (badT N t)) tl k)
def RiIn (w0 : World) (N : Int) (x : Tr) (bd i : Value) (wr : World) : Prop := ∃ m : Nat, m ≤ 3 ∧ i = .int .i64 (m : Int) ∧ bd = .bool (out9 N x m) ∧ Reading w0 wr
theorem idxP_len (kd : Int) (q : Tr → Bool) (tl : List Tr) (a : Nat) : (idxP kd q tl a).length ≤ a := by
  unfold idxP
  rw [List.length_map]
  have := List.length_filter_le (fun i => q (tl.getD i z3)) (List.range a)
  rwa [List.length_range] at this
theorem T3.at9 {w : World} {b off n : Nat} {l : List Tr} (h : T3 w (some ⟨b, off, none⟩) n l) (k : Nat) (hk : k < n) (m : Nat) (hm : m < 3) : w.cell? ⟨b, off + k * 3 + m, none⟩ = some (.int .i64 (vx (l.getD k z3) m)) := by
  obtain ⟨b', off', e, hc⟩ := h.2 (by omega)
  injection e with e
  injection e with e1 e2
  subst e1 e2
  obtain ⟨c0, c1, c2⟩ := hc k hk
  match m, hm with
  | 0, _ => exact c0
  | 1, _ => exact c1
  | 2, _ => exact c2

set_option maxHeartbeats 8000000 in
set_option maxRecDepth 100000 in
theorem r9index_any (w : World) (N : Int) (A : Option Addr) (n c : Nat) (tl : List Tr) (ht : T3 w A n tl) (hn : n ≤ 1000000) : Calls Try.prog 26 #[.agg #[.int .i64 N, .slice A n c]] w (RwTold w (indexW N tl)) := by
  obtain ⟨w1, hw1⟩ : ∃ w1, w.alloc (.cells #[.int .i64 N, .slice A n c] 24) = w1 := ⟨_, rfl⟩
  obtain ⟨g, hg⟩ : ∃ g, w.heap.size = g := ⟨_, rfl⟩
  have b1 : Below w.heap.size w w1 := by rw [← hw1]; exact (Below.refl _ w).alloc (Nat.le_refl _) _
  have x1 : Bx w1 g N A n c := by rw [← hw1, ← hg]; exact Bx.made w N A n c
  have z0 := x1.c0
  have z1 := x1.c1
  have HT := Lib.hid ht
  have hl := ht.1
  by_cases hr : N < 0 ∨ 4096 < N ∨ 8192 < n
  · have hw : indexW N tl = [(1, -1, 0)] := by rw [indexW, if_pos (by rw [hl]; exact hr)]
    rw [hw]
    have B2 := Lib.hid (b1.trans ((mk_below w1 (witO (1, -1, 0))).mono b1.size))
    have O2 := Lib.hid (heap_alloc_new w1 (witO (1, -1, 0)))
    have hsz := b1.size
    have fin : ∀ w2 q, w1.alloc (witO (1, -1, 0)) = w2 → w1.heap.size = q → RwTold w [(1, -1, 0)] (.returned (.slice (some ⟨q, 0, none⟩) 1 1)) w2 := fun w2 q e1 e2 => by
      subst e1 e2
      exact ⟨_, _, rfl, ⟨rfl, .inr ⟨_, 1, _, rfl, hsz, O2.out, Nat.le_refl _, by decide, rfl, rfl⟩⟩, B2.out⟩
    have FIN := Lib.hid (fin _ _ rfl rfl)
    clear b1 x1 ht hw fin hsz
    by_cases h1 : N < 0
    · go_enter Try.func26, Try.ntmps26
      go_wp2
      go_ret
      exact FIN.out
    · by_cases h2 : 4096 < N
      · go_enter Try.func26, Try.ntmps26
        go_wp2
        go_ret
        exact FIN.out
      · have h3 : (8192 : Int) < n := by omega
        go_enter Try.func26, Try.ntmps26
        go_wp2
        go_ret
        exact FIN.out
  have hw : indexW N tl = idxP 1 (fun t => decide (badT N t)) tl n := by rw [indexW, if_neg (by rw [hl]; exact hr), ← hl, idxP_all]
  rw [hw]
  have r0 : ¬ N < 0 := by omega
  have r1 : ¬ 4096 < N := by omega
  have r2 : ¬ (8192 : Int) < n := by omega
  have S1 := Lib.hid (RwSt.start b1 x1)
  obtain ⟨Z, hZ⟩ : ∃ Z, w1.heap.size = Z := ⟨_, rfl⟩
  rw [hZ] at S1
  clear b1 x1 ht hw hr hl
  go_enter Try.func26, Try.ntmps26
  go_wp2_with fail
  clear hw1 hg hZ z0 z1
  go_loopw [3, 4] (RiOut w g Z N A n c tl) (fun _ i _ => n - (intOf i).toNat)
  case atStart => exact ⟨0, Nat.zero_le _, rfl, S1.out⟩
  case round =>
    obtain ⟨k, hk, rfl, hst⟩ := hrel
    obtain ⟨Av, cv, rfl⟩ := ownK9_form hst.own
    have hlen := idxP_len 1 (fun t => decide (badT N t)) tl k
    obtain ⟨P, hP⟩ : ∃ P, idxP 1 (fun t => decide (badT N t)) tl k = P := ⟨_, rfl⟩
    rw [hP] at hst hlen ⊢
    obtain ⟨L, hL⟩ : ∃ L, P.length = L := ⟨_, rfl⟩
    rw [hL] at hst hlen ⊢
    have HS := Lib.hid hst
    have HPL := Lib.hid (And.intro hP hL)
    have z1 := hst.bx.c1
    clear hst hP hL
    by_cases hlt : k < n
    case neg =>
      obtain rfl : k = n := by omega
      have b1 : ¬ (k : Int) < k := by omega
      go_wp2
      go_ret
      have := HS.out.told
      rw [← HPL.out.1] at this
      exact this
    have b1 : (k : Int) < n := by omega
    obtain ⟨x, hx⟩ : ∃ x, tl.getD k z3 = x := ⟨_, rfl⟩
    have HX := Lib.hid hx
    clear hx
    go_wp2_with fail
    go_loopw [5, 6] (RiIn wr N x) (fun _ i _ => 3 - (intOf i).toNat)
    case atStart => exact ⟨0, by omega, rfl, rfl, Reading.refl _⟩
    case round =>
      obtain ⟨m, hm, rfl, rfl, hrd⟩ := hrel
      have S9 := Lib.hid (HS.out.up hrd.below)
      have HR := Lib.hid hrd
      have z1 := S9.out.bx.c1
      have z0 := S9.out.bx.c0
      clear hrd
      by_cases hm3 : m < 3
      case neg =>
        obtain rfl : m = 3 := by omega
        have hb := out9_bad N x
        obtain ⟨bd, hbd⟩ : ∃ bd, out9 N x 3 = bd := ⟨_, rfl⟩
        rw [hbd] at hb ⊢
        clear hbd z0
        cases bd
        · have E1 := Lib.hid (idxP_no (kd := 1) (q := fun t => decide (badT N t)) (tl := tl) (a := k) (by rw [HX.out]; exact hb.symm))
          clear hb
          go_wp2_with fail
          refine ⟨⟨k + 1, by omega, by go_num, ?_⟩, by simp [intOf]; omega⟩
          rw [E1.out, HPL.out.1]
          exact S9.out
        · have E1 := Lib.hid (idxP_yes (kd := 1) (q := fun t => decide (badT N t)) (tl := tl) (a := k) (by rw [HX.out]; exact hb.symm))
          clear hb
          go_wp2_with (at_builtin; refine RwSt.wpl S9.out (1, (k : Int), 0) rfl (.tmp 58) (.tmp 61) rfl (by go_simp) rfl (by rw [HPL.out.2]; omega) ?_)
          intro A' c' w9 st9 _
          have ST := Lib.hid st9
          clear st9
          go_wp2_with fail
          refine ⟨⟨k + 1, by omega, by go_num, ?_⟩, by simp [intOf]; omega⟩
          rw [E1.out, HPL.out.1]
          exact ST.out
      have m1 : (m : Int) < 3 := by omega
      have m0 : 0 ≤ (m : Int) := by omega
      obtain ⟨bA, off, rfl, _⟩ := (HT.out.below (S9.out.below)).2 (by omega)
      have cm := (HT.out.below S9.out.below).at9 k hlt m hm3
      rw [HX.out] at cm
      obtain ⟨z, hz⟩ : ∃ z, vx x m = z := ⟨_, rfl⟩
      rw [hz] at cm
      have ho := out9_succ N x m
      rw [hz] at ho
      obtain ⟨bd, hbd⟩ : ∃ bd, out9 N x m = bd := ⟨_, rfl⟩
      rw [hbd] at ho ⊢
      have HO := Lib.hid ho
      clear hz hbd ho
      cases bd
      · by_cases h1 : z < 0
        · have d1 : decide (z < 0) = true := by simp [h1]
          have HB := Lib.hid (show out9 N x (m + 1) = true by rw [HO.out, decide_eq_false (fun h : inN N z => absurd h.1 (by omega))]; rfl)
          go_wp2_with fail
          go_quiet (fail)
          go_wp2_with fail
          exact ⟨⟨m + 1, by omega, by go_num, by rw [HB.out], HR.out.trans ⟨_, rfl⟩⟩, by simp [intOf]; omega⟩
        · have d1 : decide (z < 0) = false := by simp; omega
          by_cases h2 : N ≤ z
          · have d2 : decide (z ≥ N) = true := by simp [h2]
            have HB := Lib.hid (show out9 N x (m + 1) = true by rw [HO.out, decide_eq_false (fun h : inN N z => absurd h.2 (by omega))]; rfl)
            go_wp2_with fail
            go_quiet (fail)
            go_wp2_with fail
            exact ⟨⟨m + 1, by omega, by go_num, by rw [HB.out], HR.out.trans ⟨_, rfl⟩⟩, by simp [intOf]; omega⟩
          · have d2 : decide (z ≥ N) = false := by simp; omega
            have HB := Lib.hid (show out9 N x (m + 1) = false by rw [HO.out, decide_eq_true (show inN N z from ⟨by omega, by omega⟩)]; rfl)
            go_wp2_with fail
            go_quiet (fail)
            go_wp2_with fail
            exact ⟨⟨m + 1, by omega, by go_num, by rw [HB.out], HR.out.trans ⟨_, rfl⟩⟩, by simp [intOf]; omega⟩
      · have HB := Lib.hid (show out9 N x (m + 1) = true by rw [HO.out]; rfl)
        go_wp2_with fail
        go_quiet (fail)
        go_wp2_with fail
        exact ⟨⟨m + 1, by omega, by go_num, by rw [HB.out], HR.out.trans ⟨_, rfl⟩⟩, by simp [intOf]; omega⟩
end Go.Proofs.Ytelbmjbjpgcdaaa
