/- Texts laid one behind the other: CrEdge, CrIdx, CrTw, CrPairs, CrPin, CrAll. -/
import Derived.Test.YtmflacmgffpjoaaGP
import Derived.Test.YtmflacmgffpjoaaGM
import Derived.Test.YtmflacmgffpjoaaGD
import Derived.Test.YtmflacmgffpjoaaGC
import Derived.Deep.AppendLies
import Derived.Deep.DeepCutAuto
import Derived.BigRegion
import Derived.Test.YtmflacmgffpjoaaGF

/- Layer 9: the document's: has a triangle an edge, a vertex; have two an edge in common. -/
namespace Go.Proofs.Ytmflacmgffpjoaa
open Go.RowKit

def DecTold (w : World) (P : Prop) [Decidable P] (e : Ending) (w' : World) : Prop := e = .returned (.bool (decide P)) ∧ Below w.heap.size w w'
theorem bool_dec {b : Bool} {P : Prop} [Decidable P] (h : b = true ↔ P) : b = decide P := by
  cases b
  · have : ¬ P := fun hp => by have := h.2 hp; cases this
    simp [this]
  · have := h.1 rfl
    simp [this]

set_option maxHeartbeats 2000000 in
set_option maxRecDepth 100000 in
theorem r9has_any (w : World) (x0 x1 x2 v : Int) : Calls Try.prog 60 #[.agg #[.int .i64 x0, .int .i64 x1, .int .i64 x2], .int .i64 v] w (DecTold w (hasV (x0, x1, x2) v)) := by
  obtain ⟨w1, hw1⟩ : ∃ w1, w.alloc (.cells #[.int .i64 x0, .int .i64 x1, .int .i64 x2] 53) = w1 := ⟨_, rfl⟩
  have b1 : Below w.heap.size w w1 := by rw [← hw1]; exact (Below.refl _ w).alloc (Nat.le_refl _) _
  obtain ⟨q, hq⟩ : ∃ q, w.heap.size = q := ⟨_, rfl⟩
  have q0 : w1.heap[q]? = some (.cells #[.int .i64 x0, .int .i64 x1, .int .i64 x2] 53 (0, 0)) := by rw [← hw1, ← hq]; exact heap_alloc_new w _
  have c0 : w1.cell? ⟨q, 0, none⟩ = some (.int .i64 x0) := by rw [cell_in q0]; rfl
  have c1 : w1.cell? ⟨q, 1, none⟩ = some (.int .i64 x1) := by rw [cell_in q0]; rfl
  have c2 : w1.cell? ⟨q, 2, none⟩ = some (.int .i64 x2) := by rw [cell_in q0]; rfl
  have B := Lib.hid b1
  clear b1 q0
  have key : ∀ d : Bool, (d = true ↔ hasV (x0, x1, x2) v) → Calls Try.prog 60 #[.agg #[.int .i64 x0, .int .i64 x1, .int .i64 x2], .int .i64 v] w fun e w' => e = .returned (.bool d) ∧ Below w.heap.size w w' := by
    intro d hd
    by_cases h0 : x0 = v
    · obtain rfl : d = true := hd.2 (.inl h0)
      subst h0
      clear hd
      go_enter Try.func60, Try.ntmps60
      go_wp2
      go_ret
      exact ⟨rfl, B.out⟩
    · have e0 : (x0 == v) = false := by simpa using h0
      by_cases h1 : x1 = v
      · obtain rfl : d = true := hd.2 (.inr (.inl h1))
        subst h1
        clear hd
        go_enter Try.func60, Try.ntmps60
        go_wp2
        go_ret
        exact ⟨rfl, B.out⟩
      · have e1 : (x1 == v) = false := by simpa using h1
        obtain rfl : d = (x2 == v) := by
          rw [Bool.eq_iff_iff, hd, beq_iff_eq]
          exact ⟨fun h => h.elim (fun h => absurd h h0) fun h => h.elim (fun h => absurd h h1) id, fun h => .inr (.inr h)⟩
        clear hd
        go_enter Try.func60, Try.ntmps60
        go_wp2
        go_ret
        exact ⟨rfl, B.out⟩
  exact key _ (by simp)

set_option maxHeartbeats 4000000 in
set_option maxRecDepth 100000 in
theorem r9edge_any (w : World) (x0 x1 x2 a b : Int) : Calls Try.prog 73 #[.agg #[.int .i64 x0, .int .i64 x1, .int .i64 x2], .int .i64 a, .int .i64 b] w (DecTold w (hasE (x0, x1, x2) a b)) := by
  obtain ⟨w1, hw1⟩ : ∃ w1, w.alloc (.cells #[.int .i64 x0, .int .i64 x1, .int .i64 x2] 53) = w1 := ⟨_, rfl⟩
  have b1 : Below w.heap.size w w1 := by rw [← hw1]; exact (Below.refl _ w).alloc (Nat.le_refl _) _
  obtain ⟨q, hq⟩ : ∃ q, w.heap.size = q := ⟨_, rfl⟩
  have q0 : w1.heap[q]? = some (.cells #[.int .i64 x0, .int .i64 x1, .int .i64 x2] 53 (0, 0)) := by rw [← hw1, ← hq]; exact heap_alloc_new w _
  have c0 : w1.cell? ⟨q, 0, none⟩ = some (.int .i64 x0) := by rw [cell_in q0]; rfl
  have c1 : w1.cell? ⟨q, 1, none⟩ = some (.int .i64 x1) := by rw [cell_in q0]; rfl
  have c2 : w1.cell? ⟨q, 2, none⟩ = some (.int .i64 x2) := by rw [cell_in q0]; rfl
  have B := Lib.hid b1
  clear b1 q0
  have key : ∀ (p0 p1 p2 r0 r1 r2 d : Bool), (x0 == a) = p0 → (x1 == a) = p1 → (x2 == a) = p2 → (x0 == b) = r0 → (x1 == b) = r1 → (x2 == b) = r2 → d = (p0 && r1 || p1 && r2 || p2 && r0) → Calls Try.prog 73 #[.agg #[.int .i64 x0, .int .i64 x1, .int .i64 x2], .int .i64 a, .int .i64 b] w fun e w' => e = .returned (.bool d) ∧ Below w.heap.size w w' := by
    intro p0 p1 p2 r0 r1 r2 d e0 e1 e2 f0 f1 f2 hd
    have HD := Lib.hid hd
    clear hd
    cases p0 <;> cases p1 <;> cases p2 <;> cases r0 <;> cases r1 <;> cases r2 <;>
      (go_enter Try.func73, Try.ntmps73
       go_wp2
       go_ret
       exact ⟨by rw [HD.out]; rfl, B.out⟩)
  exact key _ _ _ _ _ _ _ rfl rfl rfl rfl rfl rfl (by
    rw [Bool.eq_iff_iff]
    simp only [decide_eq_true_eq, Bool.or_eq_true, Bool.and_eq_true, beq_iff_eq]
    unfold hasE
    exact or_assoc.symm)
end Go.Proofs.Ytmflacmgffpjoaa

/- Layer 9: the document's witnesses, put one behind the other; those of the kind Index. -/
namespace Go.Proofs.Ytmflacmgffpjoaa
open Go.RowKit

theorem ownK9_up {W W' : World} {B n s : Nat} {t : TypeId} {v : Value} {xs : List Value} (h : W.ownsRow B t s v n xs) (b : Below W.heap.size W W') : W'.ownsRow B t s v n xs := by
  refine ⟨h.1, ?_⟩
  rcases h.2 with h1 | ⟨p, cap, cur, h1, hp, hh, h3⟩
  · exact .inl h1
  · exact .inr ⟨p, cap, cur, h1, hp, (b.block p (heap_lt hh)).trans hh, h3⟩
theorem ownK9_base {W : World} {B B' n s : Nat} {t : TypeId} {v : Value} {xs : List Value} (h : W.ownsRow B t s v n xs) (hb : B' ≤ B) : W.ownsRow B' t s v n xs := by
  refine ⟨h.1, ?_⟩
  rcases h.2 with h1 | ⟨p, cap, cur, h1, hp, h3⟩
  · exact .inl h1
  · exact .inr ⟨p, cap, cur, h1, Nat.le_trans hb hp, h3⟩
theorem ownK9_form {W : World} {B n s : Nat} {t : TypeId} {v : Value} {xs : List Value} (h : W.ownsRow B t s v n xs) : ∃ A c, v = .slice A n c := by
  rcases h.2 with ⟨h1, h2⟩ | ⟨p, cap, cur, h1, _⟩
  · exact ⟨none, 0, by rw [h1, h2]⟩
  · exact ⟨_, _, h1⟩
theorem Try.infoRWit : (Try.prog.info? 75).map (fun i => (i.zero, i.size, i.bytes)) = some (some (.agg #[.int .i64 0, .int .i64 0, .int .i64 0]), 3, 24) := by kernel_rfl
/-- The document's witnesses so far, beside the soup's box. -/
structure RwSt (w wr : World) (g Z : Nat) (N : Int) (A : Option Addr) (n c : Nat) (v : Value) (l : List Wt) : Prop where
  below : Below w.heap.size w wr
  bx : Bx wr g N A n c
  own : wr.ownsRow Z 75 3 v l.length (ints (flat3 l))
  wz : w.heap.size ≤ Z
  gz : g < Z
  zw : Z ≤ wr.heap.size
theorem RwSt.up {w wr w' : World} {g Z : Nat} {N : Int} {A : Option Addr} {n c : Nat} {v : Value} {l : List Wt} (h : RwSt w wr g Z N A n c v l) (b : Below wr.heap.size wr w') : RwSt w w' g Z N A n c v l :=
  ⟨h.below.trans (b.mono h.below.size), h.bx.below b, ownK9_up h.own b, h.wz, h.gz, Nat.le_trans h.zw b.size⟩
theorem flat3_snoc (l : List Wt) (x : Wt) : ints (flat3 (l ++ [x])) = ints (flat3 l) ++ [.int .i64 x.1, .int .i64 x.2.1, .int .i64 x.2.2] := by simp [ints, flat3]
theorem ones9 (a b c : Int) : ∀ u ∈ [Value.int .i64 a, .int .i64 b, .int .i64 c], u.oneCell' = true := by
  intro u hu
  simp at hu
  rcases hu with rfl | rfl | rfl <;> rfl
abbrev witO (x : Wt) : Obj := .cells #[.int .i64 x.1, .int .i64 x.2.1, .int .i64 x.2.2] 75
theorem RwSt.wpl {w wr : World} {g Z : Nat} {N : Int} {A : Option Addr} {n c : Nat} {v : Value} {l : List Wt} (h : RwSt w wr g Z N A n c v l) (x : Wt) {ops : Array Oper} {rest : List Oper} {o : Oper} {a : Act} {Q : Exit → Act → World → Prop} (hgd : o.guard = none) (s y : Operand)
    (ho : o.op = .call { callee := .builtin .append, args := #[s, y], argTypes := #[64, 64] }) (hs : a.eval s = v) (hx : a.eval y = .slice (some ⟨wr.heap.size, 0, none⟩) 1 1) (hl : l.length ≤ 100000000)
    (cont : ∀ A' c' w9, RwSt w w9 g Z N A n c (.slice A' (l.length + 1) c') (l ++ [x]) → Below w.heap.size w w9 → wpList Try.prog ops Q rest (a.put o.dst (.slice A' (l.length + 1) c')) w9) :
    wpList Try.prog ops Q (o :: rest) a (wr.alloc (witO x)) := by
  obtain ⟨i0, hi, hz0, hz1, hz2⟩ := info_parts Try.infoRWit
  have b := (Below.refl _ wr).alloc (Nat.le_refl _) (witO x)
  have q := h.up b
  have hnew : (wr.alloc (witO x)).heap[wr.heap.size]? = some (.cells #[.int .i64 x.1, .int .i64 x.2.1, .int .i64 x.2.2] 75 (0, 0)) := heap_alloc_new wr _
  refine wpList_append_lies _ hgd s y 64 ho Z 75 i0 (.agg #[.int .i64 0, .int .i64 0, .int .i64 0]) 3 24 Try.underlying64 hi hz0 hz1 hz2 rfl (by decide) v l.length (ints (flat3 l)) hs q.own ⟨wr.heap.size, 0, none⟩ 1 1 [.int .i64 x.1, .int .i64 x.2.1, .int .i64 x.2.2] hx rfl
    (fun j u hj => by rw [add_zero_addr, cell_in hnew]; simpa using hj) (ones9 _ _ _) (by omega) (by unfold maxLen; omega) (by omega) q.zw _ rfl ?_
  intro g9 cap9 w9 own9 gr9 _ _
  have hne : ∀ k, v.ownBlock = some k → Z ≤ k := fun k hk => (q.own.lt k hk).1
  have hwz := h.wz
  have hgz := h.gz
  have g1 : Bx w9 g N A n c := (gr9.block g (heap_lt q.bx) (fun e => by have := hne g e.symm; omega)).trans q.bx
  have b9 : Below w.heap.size w w9 := own_grown_below q.below gr9 q.below.size (fun k hk => by have := hne k hk; omega)
  exact cont _ _ w9 ⟨b9, g1, by rw [flat3_snoc, List.length_append, List.length_singleton]; exact own9, h.wz, h.gz, Nat.le_trans q.zw gr9.size⟩ b9
def RwTold (w : World) (ws : List Wt) (e : Ending) (w' : World) : Prop := ∃ A c, e = .returned (.slice A ws.length c) ∧ w'.ownsRow w.heap.size 75 3 (.slice A ws.length c) ws.length (ints (flat3 ws)) ∧ Below w.heap.size w w'
theorem RwSt.told {w wr : World} {g Z : Nat} {N : Int} {A : Option Addr} {n c : Nat} {v : Value} {l : List Wt} (h : RwSt w wr g Z N A n c v l) : RwTold w l (.returned v) wr := by
  obtain ⟨A', c', rfl⟩ := ownK9_form h.own
  exact ⟨A', c', rfl, ownK9_base h.own h.wz, h.below⟩
theorem RwSt.start {w w1 : World} {g : Nat} {N : Int} {A : Option Addr} {n c : Nat} (b : Below w.heap.size w w1) (x : Bx w1 g N A n c) : RwSt w w1 g w1.heap.size N A n c (.slice none 0 0) [] :=
  ⟨b, x, World.ownsRow_nil _ _ _ _, b.size, heap_lt x, Nat.le_refl _⟩
/-- Is one of the first m vertices out of bounds? -/
def out9 (N : Int) (x : Tr) (m : Nat) : Bool := (List.range m).any fun j => !decide (inN N (vx x j))
theorem out9_succ (N : Int) (x : Tr) (m : Nat) : out9 N x (m + 1) = (out9 N x m || !decide (inN N (vx x m))) := by
  unfold out9
  rw [List.range_succ, List.any_append]
  simp
theorem out9_bad (N : Int) (x : Tr) : out9 N x 3 = decide (badT N x) := by
  rw [out9_succ, out9_succ, out9_succ]
  unfold out9 badT vx
  by_cases h0 : inN N x.1 <;> by_cases h1 : inN N x.2.1 <;> by_cases h2 : inN N x.2.2 <;> simp [h0, h1, h2]
def RiOut (w : World) (g Z : Nat) (N : Int) (A : Option Addr) (n c : Nat) (tl : List Tr) (v i : Value) (wr : World) : Prop := ∃ k : Nat, k ≤ n ∧ i = .int .i64 (k : Int) ∧ RwSt w wr g Z N A n c v (idxP 1 (fun t => decide (badT N t)) tl k)
def RiIn (w0 : World) (N : Int) (x : Tr) (bd i : Value) (wr : World) : Prop := ∃ m : Nat, m ≤ 3 ∧ i = .int .i64 (m : Int) ∧ bd = .bool (out9 N x m) ∧ Reading w0 wr
theorem idxP_len (kd : Int) (q : Tr → Bool) (tl : List Tr) (a : Nat) : (idxP kd q tl a).length ≤ a := by
  unfold idxP
  rw [List.length_map]
  have := List.length_filter_le (fun i => q (tl.getD i z3)) (List.range a)
  rwa [List.length_range] at this
theorem T3.at9 {w : World} {b off n : Nat} {l : List Tr} (h : T3 w (some ⟨b, off, none⟩) n l) (k : Nat) (hk : k < n) (m : Nat) (hm : m < 3) : w.cell? ⟨b, off + k * 3 + m, none⟩ = some (.int .i64 (vx (l.getD k z3) m)) := by
  obtain ⟨b', off', e, hc⟩ := h.2 (by omega)
  injection e with e
  injection e with e1 e2
  subst e1 e2
  obtain ⟨c0, c1, c2⟩ := hc k hk
  match m, hm with
  | 0, _ => exact c0
  | 1, _ => exact c1
  | 2, _ => exact c2

set_option maxHeartbeats 8000000 in
set_option maxRecDepth 100000 in
theorem r9index_any (w : World) (N : Int) (A : Option Addr) (n c : Nat) (tl : List Tr) (ht : T3 w A n tl) (hn : n ≤ 1000000) : Calls Try.prog 58 #[.agg #[.int .i64 N, .slice A n c]] w (RwTold w (indexW N tl)) := by
  obtain ⟨w1, hw1⟩ : ∃ w1, w.alloc (.cells #[.int .i64 N, .slice A n c] 24) = w1 := ⟨_, rfl⟩
  obtain ⟨g, hg⟩ : ∃ g, w.heap.size = g := ⟨_, rfl⟩
  have b1 : Below w.heap.size w w1 := by rw [← hw1]; exact (Below.refl _ w).alloc (Nat.le_refl _) _
  have x1 : Bx w1 g N A n c := by rw [← hw1, ← hg]; exact Bx.made w N A n c
  have z0 := x1.c0
  have z1 := x1.c1
  have HT := Lib.hid ht
  have hl := ht.1
  by_cases hr : N < 0 ∨ 4096 < N ∨ 8192 < n
  · have hw : indexW N tl = [(1, -1, 0)] := by rw [indexW, if_pos (by rw [hl]; exact hr)]
    rw [hw]
    have B2 := Lib.hid (b1.trans ((mk_below w1 (witO (1, -1, 0))).mono b1.size))
    have O2 := Lib.hid (heap_alloc_new w1 (witO (1, -1, 0)))
    have hsz := b1.size
    have fin : ∀ w2 q, w1.alloc (witO (1, -1, 0)) = w2 → w1.heap.size = q → RwTold w [(1, -1, 0)] (.returned (.slice (some ⟨q, 0, none⟩) 1 1)) w2 := fun w2 q e1 e2 => by
      subst e1 e2
      exact ⟨_, _, rfl, ⟨rfl, .inr ⟨_, 1, _, rfl, hsz, O2.out, Nat.le_refl _, by decide, rfl, rfl⟩⟩, B2.out⟩
    have FIN := Lib.hid (fin _ _ rfl rfl)
    clear b1 x1 ht hw fin hsz
    by_cases h1 : N < 0
    · go_enter Try.func58, Try.ntmps58
      go_wp2
      go_ret
      exact FIN.out
    · by_cases h2 : 4096 < N
      · go_enter Try.func58, Try.ntmps58
        go_wp2
        go_ret
        exact FIN.out
      · have h3 : (8192 : Int) < n := by omega
        go_enter Try.func58, Try.ntmps58
        go_wp2
        go_ret
        exact FIN.out
  have hw : indexW N tl = idxP 1 (fun t => decide (badT N t)) tl n := by rw [indexW, if_neg (by rw [hl]; exact hr), ← hl, idxP_all]
  rw [hw]
  have r0 : ¬ N < 0 := by omega
  have r1 : ¬ 4096 < N := by omega
  have r2 : ¬ (8192 : Int) < n := by omega
  have S1 := Lib.hid (RwSt.start b1 x1)
  obtain ⟨Z, hZ⟩ : ∃ Z, w1.heap.size = Z := ⟨_, rfl⟩
  rw [hZ] at S1
  clear b1 x1 ht hw hr hl
  go_enter Try.func58, Try.ntmps58
  go_wp2_with fail
  clear hw1 hg hZ z0 z1
  go_loopw [3, 4] (RiOut w g Z N A n c tl) (fun _ i _ => n - (intOf i).toNat)
  case atStart => exact ⟨0, Nat.zero_le _, rfl, S1.out⟩
  case round =>
    obtain ⟨k, hk, rfl, hst⟩ := hrel
    obtain ⟨Av, cv, rfl⟩ := ownK9_form hst.own
    have hlen := idxP_len 1 (fun t => decide (badT N t)) tl k
    obtain ⟨P, hP⟩ : ∃ P, idxP 1 (fun t => decide (badT N t)) tl k = P := ⟨_, rfl⟩
    rw [hP] at hst hlen ⊢
    obtain ⟨L, hL⟩ : ∃ L, P.length = L := ⟨_, rfl⟩
    rw [hL] at hst hlen ⊢
    have HS := Lib.hid hst
    have HPL := Lib.hid (And.intro hP hL)
    have z1 := hst.bx.c1
    clear hst hP hL
    by_cases hlt : k < n
    case neg =>
      obtain rfl : k = n := by omega
      have b1 : ¬ (k : Int) < k := by omega
      go_wp2
      go_ret
      have := HS.out.told
      rw [← HPL.out.1] at this
      exact this
    have b1 : (k : Int) < n := by omega
    obtain ⟨x, hx⟩ : ∃ x, tl.getD k z3 = x := ⟨_, rfl⟩
    have HX := Lib.hid hx
    clear hx
    go_wp2_with fail
    go_loopw [5, 6] (RiIn wr N x) (fun _ i _ => 3 - (intOf i).toNat)
    case atStart => exact ⟨0, by omega, rfl, rfl, Reading.refl _⟩
    case round =>
      obtain ⟨m, hm, rfl, rfl, hrd⟩ := hrel
      have S9 := Lib.hid (HS.out.up hrd.below)
      have HR := Lib.hid hrd
      have z1 := S9.out.bx.c1
      have z0 := S9.out.bx.c0
      clear hrd
      by_cases hm3 : m < 3
      case neg =>
        obtain rfl : m = 3 := by omega
        have hb := out9_bad N x
        obtain ⟨bd, hbd⟩ : ∃ bd, out9 N x 3 = bd := ⟨_, rfl⟩
        rw [hbd] at hb ⊢
        clear hbd z0
        cases bd
        · have E1 := Lib.hid (idxP_no (kd := 1) (q := fun t => decide (badT N t)) (tl := tl) (a := k) (by rw [HX.out]; exact hb.symm))
          clear hb
          go_wp2_with fail
          refine ⟨⟨k + 1, by omega, by go_num, ?_⟩, by simp [intOf]; omega⟩
          rw [E1.out, HPL.out.1]
          exact S9.out
        · have E1 := Lib.hid (idxP_yes (kd := 1) (q := fun t => decide (badT N t)) (tl := tl) (a := k) (by rw [HX.out]; exact hb.symm))
          clear hb
          go_wp2_with (at_builtin; refine RwSt.wpl S9.out (1, (k : Int), 0) rfl (.tmp 58) (.tmp 61) rfl (by go_simp) rfl (by rw [HPL.out.2]; omega) ?_)
          intro A' c' w9 st9 _
          have ST := Lib.hid st9
          clear st9
          go_wp2_with fail
          refine ⟨⟨k + 1, by omega, by go_num, ?_⟩, by simp [intOf]; omega⟩
          rw [E1.out, HPL.out.1]
          exact ST.out
      have m1 : (m : Int) < 3 := by omega
      have m0 : 0 ≤ (m : Int) := by omega
      obtain ⟨bA, off, rfl, _⟩ := (HT.out.below (S9.out.below)).2 (by omega)
      have cm := (HT.out.below S9.out.below).at9 k hlt m hm3
      rw [HX.out] at cm
      obtain ⟨z, hz⟩ : ∃ z, vx x m = z := ⟨_, rfl⟩
      rw [hz] at cm
      have ho := out9_succ N x m
      rw [hz] at ho
      obtain ⟨bd, hbd⟩ : ∃ bd, out9 N x m = bd := ⟨_, rfl⟩
      rw [hbd] at ho ⊢
      have HO := Lib.hid ho
      clear hz hbd ho
      cases bd
      · by_cases h1 : z < 0
        · have d1 : decide (z < 0) = true := by simp [h1]
          have HB := Lib.hid (show out9 N x (m + 1) = true by rw [HO.out, decide_eq_false (fun h : inN N z => absurd h.1 (by omega))]; rfl)
          go_wp2_with fail
          go_quiet (fail)
          go_wp2_with fail
          exact ⟨⟨m + 1, by omega, by go_num, by rw [HB.out], HR.out.trans ⟨_, rfl⟩⟩, by simp [intOf]; omega⟩
        · have d1 : decide (z < 0) = false := by simp; omega
          by_cases h2 : N ≤ z
          · have d2 : decide (z ≥ N) = true := by simp [h2]
            have HB := Lib.hid (show out9 N x (m + 1) = true by rw [HO.out, decide_eq_false (fun h : inN N z => absurd h.2 (by omega))]; rfl)
            go_wp2_with fail
            go_quiet (fail)
            go_wp2_with fail
            exact ⟨⟨m + 1, by omega, by go_num, by rw [HB.out], HR.out.trans ⟨_, rfl⟩⟩, by simp [intOf]; omega⟩
          · have d2 : decide (z ≥ N) = false := by simp; omega
            have HB := Lib.hid (show out9 N x (m + 1) = false by rw [HO.out, decide_eq_true (show inN N z from ⟨by omega, by omega⟩)]; rfl)
            go_wp2_with fail
            go_quiet (fail)
            go_wp2_with fail
            exact ⟨⟨m + 1, by omega, by go_num, by rw [HB.out], HR.out.trans ⟨_, rfl⟩⟩, by simp [intOf]; omega⟩
      · have HB := Lib.hid (show out9 N x (m + 1) = true by rw [HO.out]; rfl)
        go_wp2_with fail
        go_quiet (fail)
        go_wp2_with fail
        exact ⟨⟨m + 1, by omega, by go_num, by rw [HB.out], HR.out.trans ⟨_, rfl⟩⟩, by simp [intOf]; omega⟩
end Go.Proofs.Ytmflacmgffpjoaa

/- Layer 9: the document's: have two triangles a directed edge in common. -/
namespace Go.Proofs.Ytmflacmgffpjoaa
open Go.RowKit

set_option maxHeartbeats 4000000 in
set_option maxRecDepth 100000 in
theorem r9twice_any (w : World) (t0 t1 t2 u0 u1 u2 : Int) : Calls Try.prog 70 #[.agg #[.int .i64 t0, .int .i64 t1, .int .i64 t2], .agg #[.int .i64 u0, .int .i64 u1, .int .i64 u2]] w (DecTold w (twice (t0, t1, t2) (u0, u1, u2))) := by
  obtain ⟨w1, hw1⟩ : ∃ w1, w.alloc (.cells #[.int .i64 t0, .int .i64 t1, .int .i64 t2] 53) = w1 := ⟨_, rfl⟩
  have b1 : Below w.heap.size w w1 := by rw [← hw1]; exact (Below.refl _ w).alloc (Nat.le_refl _) _
  obtain ⟨p, hp⟩ : ∃ p, w.heap.size = p := ⟨_, rfl⟩
  have p1 : w1.heap[p]? = some (.cells #[.int .i64 t0, .int .i64 t1, .int .i64 t2] 53 (0, 0)) := by rw [← hw1, ← hp]; exact heap_alloc_new w _
  obtain ⟨w2, hw2⟩ : ∃ w2, w1.alloc (.cells #[.int .i64 u0, .int .i64 u1, .int .i64 u2] 53) = w2 := ⟨_, rfl⟩
  have b2 : Below w1.heap.size w1 w2 := by rw [← hw2]; exact (Below.refl _ w1).alloc (Nat.le_refl _) _
  obtain ⟨q, hq⟩ : ∃ q, w1.heap.size = q := ⟨_, rfl⟩
  have q2 : w2.heap[q]? = some (.cells #[.int .i64 u0, .int .i64 u1, .int .i64 u2] 53 (0, 0)) := by rw [← hw2, ← hq]; exact heap_alloc_new w1 _
  have p2 := (b2.block p (heap_lt p1)).trans p1
  have B := Lib.hid (b1.trans (b2.mono b1.size))
  have HC := Lib.hid (fun W (hb : Below w2.heap.size w2 W) => show (W.cell? ⟨p, 0, none⟩ = some (.int .i64 t0) ∧ W.cell? ⟨p, 1, none⟩ = some (.int .i64 t1) ∧ W.cell? ⟨p, 2, none⟩ = some (.int .i64 t2)) ∧ W.cell? ⟨q, 0, none⟩ = some (.int .i64 u0) ∧ W.cell? ⟨q, 1, none⟩ = some (.int .i64 u1) ∧ W.cell? ⟨q, 2, none⟩ = some (.int .i64 u2) from by
    have p3 := (hb.block p (heap_lt p2)).trans p2
    have q3 := (hb.block q (heap_lt q2)).trans q2
    exact ⟨⟨by rw [cell_in p3]; rfl, by rw [cell_in p3]; rfl, by rw [cell_in p3]; rfl⟩, by rw [cell_in q3]; rfl, by rw [cell_in q3]; rfl, by rw [cell_in q3]; rfl⟩)
  obtain ⟨⟨c0, c1, c2⟩, d0, d1, d2⟩ := HC.out w2 (Below.refl _ _)
  have K0 := Lib.hid (r9edge_any w2 u0 u1 u2 t0 t1)
  have K1 := Lib.hid (fun W => r9edge_any W u0 u1 u2 t1 t2)
  have K2 := Lib.hid (fun W => r9edge_any W u0 u1 u2 t2 t0)
  obtain ⟨e0, h0⟩ : ∃ e0, decide (hasE (u0, u1, u2) t0 t1) = e0 := ⟨_, rfl⟩
  obtain ⟨e1, h1⟩ : ∃ e1, decide (hasE (u0, u1, u2) t1 t2) = e1 := ⟨_, rfl⟩
  obtain ⟨e2, h2⟩ : ∃ e2, decide (hasE (u0, u1, u2) t2 t0) = e2 := ⟨_, rfl⟩
  have HD := Lib.hid (show (e0 || e1 || e2) = decide (twice (t0, t1, t2) (u0, u1, u2)) from bool_dec (by
    rw [← h0, ← h1, ← h2]
    simp only [Bool.or_eq_true, decide_eq_true_eq]
    unfold twice
    exact or_assoc))
  unfold DecTold at K0 K1 K2
  rw [h0] at K0
  simp only [h1] at K1
  simp only [h2] at K2
  clear h0 h1 h2 b1 b2 p1 p2 q2
  go_enter Try.func70, Try.ntmps70
  go_wp2_with fail
  refine K0.out.mono ?_
  rintro e w3 ⟨rfl, b3⟩
  have B3 := Lib.hid b3
  clear b3
  obtain ⟨⟨c0, c1, c2⟩, d0, d1, d2⟩ := HC.out w3 B3.out
  cases e0
  case true =>
    go_wp2
    go_ret
    exact ⟨by rw [← HD.out]; rfl, B.out.trans (B3.out.mono B.out.size)⟩
  go_wp2_with fail
  refine (K1.out w3).mono ?_
  rintro e w4 ⟨rfl, b4⟩
  have B4 := Lib.hid (B3.out.trans (b4.mono B3.out.size))
  clear b4
  obtain ⟨⟨c0, c1, c2⟩, d0, d1, d2⟩ := HC.out w4 B4.out
  cases e1
  case true =>
    go_wp2
    go_ret
    exact ⟨by rw [← HD.out]; rfl, B.out.trans (B4.out.mono B.out.size)⟩
  go_wp2_with fail
  refine (K2.out w4).mono ?_
  rintro e w5 ⟨rfl, b5⟩
  have B5 := Lib.hid (B4.out.trans (b5.mono B4.out.size))
  clear b5
  go_wp2
  go_ret
  exact ⟨by rw [← HD.out]; rfl, B.out.trans (B5.out.mono B.out.size)⟩
end Go.Proofs.Ytmflacmgffpjoaa

/- Layer 9: the document's witnesses of two triangles: Twice, or Mirrored. -/
namespace Go.Proofs.Ytmflacmgffpjoaa
open Go.RowKit

theorem pairP_len (kd : Int) (q : Tr → Tr → Bool) (tl : List Tr) (b a : Nat) : (pairP kd q tl b a).length ≤ b * b + a := by
  induction b generalizing a with
  | zero =>
    unfold pairP rowP
    simp only [List.range_zero, List.flatMap_nil, List.nil_append, List.length_map]
    have := List.length_filter_le (fun i => q (tl.getD i z3) (tl.getD 0 z3)) (List.range a)
    rw [List.length_range] at this
    omega
  | succ b ih =>
    have h1 := ih b
    rw [← pairP_next] at h1
    have h2 : (pairP kd q tl (b + 1) a).length = (pairP kd q tl (b + 1) 0).length + (rowP kd q tl (b + 1) a).length := by
      have e0 : rowP kd q tl (b + 1) 0 = [] := rfl
      unfold pairP
      rw [e0, List.append_nil, List.length_append]
    have h3 : (rowP kd q tl (b + 1) a).length ≤ a := by
      unfold rowP
      rw [List.length_map]
      have := List.length_filter_le (fun i => q (tl.getD i z3) (tl.getD (b + 1) z3)) (List.range a)
      rwa [List.length_range] at this
    have h4 : (b + 1) * (b + 1) = b * b + b + b + 1 := by rw [Nat.mul_add, Nat.add_mul]; omega
    omega
def PaOut (w : World) (g Z : Nat) (N : Int) (A : Option Addr) (n c : Nat) (kd : Int) (q : Tr → Tr → Bool) (tl : List Tr) (v i : Value) (wr : World) : Prop := ∃ k : Nat, k ≤ n ∧ i = .int .i64 (k : Int) ∧ RwSt w wr g Z N A n c v (pairP kd q tl k 0)
def PaIn (w : World) (g Z : Nat) (N : Int) (A : Option Addr) (n c : Nat) (kd : Int) (q : Tr → Tr → Bool) (tl : List Tr) (k : Nat) (v i : Value) (wr : World) : Prop := ∃ a : Nat, a ≤ k ∧ i = .int .i64 (a : Int) ∧ RwSt w wr g Z N A n c v (pairP kd q tl k a)
def PaCut (w : World) (g Z : Nat) (N : Int) (A : Option Addr) (n c : Nat) (v : Value) (l : List Wt) (t u : Tr) (t8 t9 : Value) (wr : World) : Prop := ∃ p q, t8 = .pointer (some ⟨p, 0, none⟩) ∧ t9 = .pointer (some ⟨q, 0, none⟩) ∧ RwSt w wr g Z N A n c v l ∧
  wr.heap[p]? = some (.cells #[.int .i64 t.1, .int .i64 t.2.1, .int .i64 t.2.2] 53 (0, 0)) ∧ wr.heap[q]? = some (.cells #[.int .i64 u.1, .int .i64 u.2.1, .int .i64 u.2.2] 53 (0, 0))

abbrev triO9 (t : Tr) : Obj := .cells #[.int .i64 t.1, .int .i64 t.2.1, .int .i64 t.2.2] 53
theorem pa_one {w wr : World} {g Z : Nat} {N : Int} {A : Option Addr} {n c : Nat} {v : Value} {l : List Wt} (h : RwSt w wr g Z N A n c v l) (t u : Tr) : PaCut w g Z N A n c v l t u (.pointer (some ⟨wr.heap.size, 0, none⟩)) (.pointer (some ⟨wr.heap.size + 1, 0, none⟩)) ((wr.alloc (triO9 t)).alloc (triO9 u)).drew :=
  ⟨_, _, rfl, rfl, h.up (upd (up1 (up1 (Below.refl _ wr) _) _)), heap_alloc2_old wr (triO9 t) (triO9 u), heap_alloc2_new wr (triO9 t) (triO9 u)⟩
theorem pa_two {w wr : World} {g Z : Nat} {N : Int} {A : Option Addr} {n c : Nat} {v : Value} {l : List Wt} (h : RwSt w wr g Z N A n c v l) (t u : Tr) : PaCut w g Z N A n c v l t u (.pointer (some ⟨wr.heap.size + 1, 0, none⟩)) (.pointer (some ⟨wr.heap.size, 0, none⟩)) ((wr.alloc (triO9 u)).alloc (triO9 t)).drew :=
  ⟨_, _, rfl, rfl, h.up (upd (up1 (up1 (Below.refl _ wr) _) _)), heap_alloc2_new wr (triO9 u) (triO9 t), heap_alloc2_old wr (triO9 u) (triO9 t)⟩
set_option maxHeartbeats 8000000 in
set_option maxRecDepth 100000 in
theorem r9pairs_any (w : World) (N : Int) (A : Option Addr) (n c : Nat) (tl : List Tr) (kd : Int) (q : Tr → Tr → Bool) (hk : (kd = 3 ∧ q = q9) ∨ (kd = 4 ∧ q = m9)) (ht : T3 w A n tl) (hn : n ≤ 8192) : Calls Try.prog 59 #[.agg #[.int .i64 N, .slice A n c], .int .i64 kd] w (RwTold w (pairW kd q tl)) := by
  obtain ⟨w1, hw1⟩ : ∃ w1, w.alloc (.cells #[.int .i64 N, .slice A n c] 24) = w1 := ⟨_, rfl⟩
  obtain ⟨g, hg⟩ : ∃ g, w.heap.size = g := ⟨_, rfl⟩
  have b1 : Below w.heap.size w w1 := by rw [← hw1]; exact (Below.refl _ w).alloc (Nat.le_refl _) _
  have x1 : Bx w1 g N A n c := by rw [← hw1, ← hg]; exact Bx.made w N A n c
  have HT := Lib.hid ht
  have hw : pairW kd q tl = pairP kd q tl n 0 := by rw [← ht.1, pairP_all]
  rw [hw]
  have S1 := Lib.hid (RwSt.start b1 x1)
  obtain ⟨Z, hZ⟩ : ∃ Z, w1.heap.size = Z := ⟨_, rfl⟩
  rw [hZ] at S1
  have HK := Lib.hid hk
  clear b1 x1 ht hw hk
  go_enter Try.func59, Try.ntmps59
  go_wp2_with fail
  clear hw1 hg hZ
  go_loopw [5, 6] (PaOut w g Z N A n c kd q tl) (fun _ i _ => n - (intOf i).toNat)
  case atStart => exact ⟨0, Nat.zero_le _, rfl, S1.out⟩
  case round =>
    obtain ⟨k, hk, rfl, hst⟩ := hrel
    obtain ⟨Av, cv, rfl⟩ := ownK9_form hst.own
    obtain ⟨P, hP⟩ : ∃ P, pairP kd q tl k 0 = P := ⟨_, rfl⟩
    rw [hP] at hst ⊢
    obtain ⟨L, hL⟩ : ∃ L, P.length = L := ⟨_, rfl⟩
    rw [hL] at hst ⊢
    have HS := Lib.hid hst
    have HPL := Lib.hid (And.intro hP hL)
    have z1 := hst.bx.c1
    clear hst hP hL
    by_cases hlt : k < n
    case neg =>
      obtain rfl : k = n := by omega
      have b1 : ¬ (k : Int) < k := by omega
      go_wp2
      go_ret
      have := HS.out.told
      rw [← HPL.out.1] at this
      exact this
    have b1 : (k : Int) < n := by omega
    obtain ⟨u, hu⟩ : ∃ u, tl.getD k z3 = u := ⟨_, rfl⟩
    have HU := Lib.hid hu
    clear hu
    go_wp2_with fail
    go_loopw [5, 7] (PaIn w g Z N A n c kd q tl k) (fun _ i _ => k - (intOf i).toNat)
    case atStart => exact ⟨0, Nat.zero_le _, rfl, by rw [HPL.out.1]; exact HS.out⟩
    case round =>
      obtain ⟨a, ha, rfl, hst⟩ := hrel
      obtain ⟨Aw, cw, rfl⟩ := ownK9_form hst.own
      have hlen := pairP_len kd q tl k a
      obtain ⟨P2, hP2⟩ : ∃ P2, pairP kd q tl k a = P2 := ⟨_, rfl⟩
      rw [hP2] at hst hlen ⊢
      obtain ⟨L2, hL2⟩ : ∃ L2, P2.length = L2 := ⟨_, rfl⟩
      rw [hL2] at hst hlen ⊢
      have S9 := Lib.hid hst
      have HPL2 := Lib.hid (And.intro hP2 hL2)
      have z1 := hst.bx.c1
      have hkk : k * k ≤ 8192 * 8192 := Nat.mul_le_mul (by omega) (by omega)
      have HLN := Lib.hid (show L2 ≤ 100000000 by omega)
      clear hst hP2 hL2 hlen hkk
      by_cases hak : a < k
      case neg =>
        obtain rfl : a = k := by omega
        have b2 : ¬ (a : Int) < a := by omega
        go_wp2_with fail
        refine ⟨⟨a + 1, by omega, by go_num, ?_⟩, by simp [intOf]; omega⟩
        rw [pairP_next, HPL2.out.1]
        exact S9.out
      have b2 : (a : Int) < k := by omega
      have b3 : (a : Int) < n := by omega
      have m0 : 0 ≤ (a : Int) := by omega
      obtain ⟨bA, off, rfl, hat⟩ := (HT.out.below S9.out.below).2 (by omega)
      obtain ⟨c0, c1, c2⟩ := hat a (by omega)
      obtain ⟨d0, d1, d2⟩ := hat k hlt
      obtain ⟨t, ht⟩ : ∃ t, tl.getD a z3 = t := ⟨_, rfl⟩
      rw [ht] at c0 c1 c2
      rw [HU.out] at d0 d1 d2
      have HTt := Lib.hid ht
      clear hat ht
      obtain ⟨t0, t1, t2⟩ := t
      obtain ⟨u0, u1, u2⟩ := u
      have HF := Lib.hid (fun W (b' : Below wr.heap.size wr W) => show W.cell? ⟨g, 1, none⟩ = some (.slice (some ⟨bA, off, none⟩) n c) ∧ W.cell? ⟨bA, off + a * 3, none⟩ = some (.int .i64 t0) ∧ W.cell? ⟨bA, off + a * 3 + 1, none⟩ = some (.int .i64 t1) ∧ W.cell? ⟨bA, off + a * 3 + 2, none⟩ = some (.int .i64 t2) ∧ W.cell? ⟨bA, off + k * 3, none⟩ = some (.int .i64 u0) ∧ W.cell? ⟨bA, off + k * 3 + 1, none⟩ = some (.int .i64 u1) ∧ W.cell? ⟨bA, off + k * 3 + 2, none⟩ = some (.int .i64 u2) from
        ⟨(S9.out.bx.below b').c1, (b'.cell (World.block_lt_of_cell? wr _ c0)).trans c0, (b'.cell (World.block_lt_of_cell? wr _ c1)).trans c1, (b'.cell (World.block_lt_of_cell? wr _ c2)).trans c2, (b'.cell (World.block_lt_of_cell? wr _ d0)).trans d0, (b'.cell (World.block_lt_of_cell? wr _ d1)).trans d1, (b'.cell (World.block_lt_of_cell? wr _ d2)).trans d2⟩)
      have bd := upd (Below.refl _ wr)
      go_upto_region 8 with fail
      go_cut [8, 9] (PaCut w g Z N (some ⟨bA, off, none⟩) n c (.slice Aw L2 cw) P2 (t0, t1, t2) (u0, u1, u2))
      case first =>
        go_wp2_with fail
        go_region_held3 (fun W => W.cell? ⟨g, 1, none⟩ = some (.slice (some ⟨bA, off, none⟩) n c) ∧ W.cell? ⟨bA, off + a * 3, none⟩ = some (.int .i64 t0) ∧ W.cell? ⟨bA, off + a * 3 + 1, none⟩ = some (.int .i64 t1) ∧ W.cell? ⟨bA, off + a * 3 + 2, none⟩ = some (.int .i64 t2) ∧ W.cell? ⟨bA, off + k * 3, none⟩ = some (.int .i64 u0) ∧ W.cell? ⟨bA, off + k * 3 + 1, none⟩ = some (.int .i64 u1) ∧ W.cell? ⟨bA, off + k * 3 + 2, none⟩ = some (.int .i64 u2))
          (first | exact HF.out _ (Below.refl _ _) | exact HF.out _ bd | exact HF.out _ (up1 bd _) | exact HF.out _ (up1 (up1 bd _) _) | fail)
          (fail)
        all_goals go_wp2_with fail
        all_goals go_meet
        · exact pa_one S9.out (t0, t1, t2) (u0, u1, u2)
        · exact pa_two S9.out (t0, t1, t2) (u0, u1, u2)
      case rest =>
        obtain ⟨p, qb, rfl, rfl, st1, hp, hq⟩ := hcut
        have p0 : wc.cell? ⟨p, 0, none⟩ = some (.int .i64 t0) := by rw [cell_in hp]; rfl
        have p1 : wc.cell? ⟨p, 1, none⟩ = some (.int .i64 t1) := by rw [cell_in hp]; rfl
        have p2 : wc.cell? ⟨p, 2, none⟩ = some (.int .i64 t2) := by rw [cell_in hp]; rfl
        have q0 : wc.cell? ⟨qb, 0, none⟩ = some (.int .i64 u0) := by rw [cell_in hq]; rfl
        have q1 : wc.cell? ⟨qb, 1, none⟩ = some (.int .i64 u1) := by rw [cell_in hq]; rfl
        have q2 : wc.cell? ⟨qb, 2, none⟩ = some (.int .i64 u2) := by rw [cell_in hq]; rfl
        have ST1 := Lib.hid st1
        have HC := Lib.hid (fun W (hb : Below wc.heap.size wc W) => show (W.cell? ⟨p, 0, none⟩ = some (.int .i64 t0) ∧ W.cell? ⟨p, 1, none⟩ = some (.int .i64 t1) ∧ W.cell? ⟨p, 2, none⟩ = some (.int .i64 t2)) ∧ W.cell? ⟨qb, 0, none⟩ = some (.int .i64 u0) ∧ W.cell? ⟨qb, 1, none⟩ = some (.int .i64 u1) ∧ W.cell? ⟨qb, 2, none⟩ = some (.int .i64 u2) from
          ⟨⟨(hb.cell (World.block_lt_of_cell? wc _ p0)).trans p0, (hb.cell (World.block_lt_of_cell? wc _ p1)).trans p1, (hb.cell (World.block_lt_of_cell? wc _ p2)).trans p2⟩, (hb.cell (World.block_lt_of_cell? wc _ q0)).trans q0, (hb.cell (World.block_lt_of_cell? wc _ q1)).trans q1, (hb.cell (World.block_lt_of_cell? wc _ q2)).trans q2⟩)
        clear st1 hp hq bd
        have KT := Lib.hid (r9twice_any wc t0 t1 t2 u0 u1 u2)
        have KH0 := Lib.hid (r9has_any wc u0 u1 u2 t0)
        have KH1 := Lib.hid (fun W => r9has_any W u0 u1 u2 t1)
        have KH2 := Lib.hid (fun W => r9has_any W u0 u1 u2 t2)
        unfold DecTold at KT KH0 KH1 KH2
        rcases HK.out with ⟨hk3, hqq⟩ | ⟨hk4, hqq⟩
        · have f3 : (kd == 3) = true := by rw [beq_iff_eq]; exact hk3
          have f4 : (kd == 4) = false := by rw [beq_eq_false_iff_ne]; omega
          have hqv : q (t0, t1, t2) (u0, u1, u2) = decide (twice (t0, t1, t2) (u0, u1, u2)) := by rw [hqq]
          obtain ⟨d, hd⟩ : ∃ d, decide (twice (t0, t1, t2) (u0, u1, u2)) = d := ⟨_, rfl⟩
          rw [hd] at KT
          have hq9 := hqv.trans hd
          clear hk3 hqq hqv hd
          go_wp2_with fail
          refine KT.out.mono ?_
          rintro e w3 ⟨rfl, b9⟩
          have Bw3 := Lib.hid (b9)
          clear b9
          obtain ⟨⟨p0, p1, p2⟩, q0, q1, q2⟩ := HC.out w3 Bw3.out
          cases d
          · have E1 := Lib.hid (pairP_no (kd := kd) (q := q) (tl := tl) (b := k) (a := a) (by rw [HTt.out, HU.out]; exact hq9))
            clear hq9
            go_wp2_with fail
            refine ⟨⟨a + 1, by omega, by go_num, ?_⟩, by simp [intOf]; omega⟩
            rw [E1.out, HPL2.out.1]
            exact ST1.out.up Bw3.out
          · have E1 := Lib.hid (pairP_yes (kd := kd) (q := q) (tl := tl) (b := k) (a := a) (by rw [HTt.out, HU.out]; exact hq9))
            clear hq9
            go_wp2_with (at_builtin; refine RwSt.wpl (ST1.out.up Bw3.out) (kd, (a : Int), (k : Int)) rfl (.tmp 61) (.tmp 66) rfl (by go_simp) rfl (by rw [HPL2.out.2]; exact HLN.out) ?_)
            intro A' c' w9 st9 _
            have ST := Lib.hid st9
            clear st9
            go_wp2_with fail
            refine ⟨⟨a + 1, by omega, by go_num, ?_⟩, by simp [intOf]; omega⟩
            rw [E1.out, HPL2.out.1]
            exact ST.out
        · have f3 : (kd == 3) = false := by rw [beq_eq_false_iff_ne]; omega
          have f4 : (kd == 4) = true := by rw [beq_iff_eq]; exact hk4
          obtain ⟨e0, h0⟩ : ∃ e0, decide (hasV (u0, u1, u2) t0) = e0 := ⟨_, rfl⟩
          obtain ⟨e1, h1⟩ : ∃ e1, decide (hasV (u0, u1, u2) t1) = e1 := ⟨_, rfl⟩
          obtain ⟨e2, h2⟩ : ∃ e2, decide (hasV (u0, u1, u2) t2) = e2 := ⟨_, rfl⟩
          have hq9 : q (t0, t1, t2) (u0, u1, u2) = (e0 && (e1 && e2)) := by
            rw [hqq, ← h0, ← h1, ← h2]
            refine (bool_dec ?_).symm
            simp only [Bool.and_eq_true, decide_eq_true_eq]
            exact Iff.rfl
          rw [h0] at KH0
          simp only [h1] at KH1
          simp only [h2] at KH2
          clear hk4 hqq h0 h1 h2
          go_wp2_with fail
          refine KH0.out.mono ?_
          rintro e w3 ⟨rfl, b9⟩
          have Bw3 := Lib.hid (b9)
          clear b9
          obtain ⟨⟨p0, p1, p2⟩, q0, q1, q2⟩ := HC.out w3 Bw3.out
          cases e0
          · simp only [Bool.false_and] at hq9
            have E1 := Lib.hid (pairP_no (kd := kd) (q := q) (tl := tl) (b := k) (a := a) (by rw [HTt.out, HU.out]; exact hq9))
            clear hq9
            go_wp2_with fail
            refine ⟨⟨a + 1, by omega, by go_num, ?_⟩, by simp [intOf]; omega⟩
            rw [E1.out, HPL2.out.1]
            exact ST1.out.up Bw3.out
          simp only [Bool.true_and] at hq9
          go_wp2_with fail
          refine (KH1.out w3).mono ?_
          rintro e w4 ⟨rfl, b9⟩
          have Bw4 := Lib.hid (Bw3.out.trans (b9.mono Bw3.out.size))
          clear b9
          obtain ⟨⟨p0, p1, p2⟩, q0, q1, q2⟩ := HC.out w4 Bw4.out
          cases e1
          · simp only [Bool.false_and] at hq9
            have E1 := Lib.hid (pairP_no (kd := kd) (q := q) (tl := tl) (b := k) (a := a) (by rw [HTt.out, HU.out]; exact hq9))
            clear hq9
            go_wp2_with fail
            refine ⟨⟨a + 1, by omega, by go_num, ?_⟩, by simp [intOf]; omega⟩
            rw [E1.out, HPL2.out.1]
            exact ST1.out.up Bw4.out
          simp only [Bool.true_and] at hq9
          go_wp2_with fail
          refine (KH2.out w4).mono ?_
          rintro e w5 ⟨rfl, b9⟩
          have Bw5 := Lib.hid (Bw4.out.trans (b9.mono Bw4.out.size))
          clear b9
          obtain ⟨⟨p0, p1, p2⟩, q0, q1, q2⟩ := HC.out w5 Bw5.out
          cases e2
          · have E1 := Lib.hid (pairP_no (kd := kd) (q := q) (tl := tl) (b := k) (a := a) (by rw [HTt.out, HU.out]; exact hq9))
            clear hq9
            go_wp2_with fail
            refine ⟨⟨a + 1, by omega, by go_num, ?_⟩, by simp [intOf]; omega⟩
            rw [E1.out, HPL2.out.1]
            exact ST1.out.up Bw5.out
          · have E1 := Lib.hid (pairP_yes (kd := kd) (q := q) (tl := tl) (b := k) (a := a) (by rw [HTt.out, HU.out]; exact hq9))
            clear hq9
            go_wp2_with (at_builtin; refine RwSt.wpl (ST1.out.up Bw5.out) (kd, (a : Int), (k : Int)) rfl (.tmp 61) (.tmp 66) rfl (by go_simp) rfl (by rw [HPL2.out.2]; exact HLN.out) ?_)
            intro A' c' w9 st9 _
            have ST := Lib.hid st9
            clear st9
            go_wp2_with fail
            refine ⟨⟨a + 1, by omega, by go_num, ?_⟩, by simp [intOf]; omega⟩
            rw [E1.out, HPL2.out.1]
            exact ST.out
end Go.Proofs.Ytmflacmgffpjoaa

/- Layer 9: the document's: are the triangles of a vertex more than one ring, or fan? -/
namespace Go.Proofs.Ytmflacmgffpjoaa
open Go.RowKit

/-- The triangles of a vertex, put one behind the other, beside the soup's box. -/
structure RtSt (w wr : World) (g Z : Nat) (N : Int) (A : Option Addr) (n c : Nat) (v : Value) (l : List Tr) : Prop where
  below : Below w.heap.size w wr
  bx : Bx wr g N A n c
  own : wr.ownsRow Z 53 3 v l.length (ints (flat3 l))
  wz : w.heap.size ≤ Z
  gz : g < Z
  zw : Z ≤ wr.heap.size
theorem RtSt.up {w wr w' : World} {g Z : Nat} {N : Int} {A : Option Addr} {n c : Nat} {v : Value} {l : List Tr} (h : RtSt w wr g Z N A n c v l) (b : Below wr.heap.size wr w') : RtSt w w' g Z N A n c v l :=
  ⟨h.below.trans (b.mono h.below.size), h.bx.below b, ownK9_up h.own b, h.wz, h.gz, Nat.le_trans h.zw b.size⟩
abbrev triOb (x : Tr) : Obj := .cells #[.int .i64 x.1, .int .i64 x.2.1, .int .i64 x.2.2] 53
theorem RtSt.wpl {w wr : World} {g Z : Nat} {N : Int} {A : Option Addr} {n c : Nat} {v : Value} {l : List Tr} (h : RtSt w wr g Z N A n c v l) (x : Tr) {ops : Array Oper} {rest : List Oper} {o : Oper} {a : Act} {Q : Exit → Act → World → Prop} (hgd : o.guard = none) (s y : Operand)
    (ho : o.op = .call { callee := .builtin .append, args := #[s, y], argTypes := #[22, 22] }) (hs : a.eval s = v) (hx : a.eval y = .slice (some ⟨wr.heap.size, 0, none⟩) 1 1) (hl : l.length ≤ 100000000)
    (cont : ∀ A' c' w9, RtSt w w9 g Z N A n c (.slice A' (l.length + 1) c') (l ++ [x]) → Below w.heap.size w w9 → wpList Try.prog ops Q rest (a.put o.dst (.slice A' (l.length + 1) c')) w9) :
    wpList Try.prog ops Q (o :: rest) a (wr.alloc (triOb x)) := by
  obtain ⟨i0, hi, hz0, hz1, hz2⟩ := info_parts Try.infoTri
  have b := (Below.refl _ wr).alloc (Nat.le_refl _) (triOb x)
  have q := h.up b
  have hnew : (wr.alloc (triOb x)).heap[wr.heap.size]? = some (.cells #[.int .i64 x.1, .int .i64 x.2.1, .int .i64 x.2.2] 53 (0, 0)) := heap_alloc_new wr _
  refine wpList_append_lies _ hgd s y 22 ho Z 53 i0 (.agg #[.int .i64 0, .int .i64 0, .int .i64 0]) 3 24 Try.underlying22 hi hz0 hz1 hz2 rfl (by decide) v l.length (ints (flat3 l)) hs q.own ⟨wr.heap.size, 0, none⟩ 1 1 [.int .i64 x.1, .int .i64 x.2.1, .int .i64 x.2.2] hx rfl
    (fun j u hj => by rw [add_zero_addr, cell_in hnew]; simpa using hj) (ones9 _ _ _) (by omega) (by unfold maxLen; omega) (by omega) q.zw _ rfl ?_
  intro g9 cap9 w9 own9 gr9 _ _
  have hne : ∀ k, v.ownBlock = some k → Z ≤ k := fun k hk => (q.own.lt k hk).1
  have hwz := h.wz
  have hgz := h.gz
  have g1 : Bx w9 g N A n c := (gr9.block g (heap_lt q.bx) (fun e => by have := hne g e.symm; omega)).trans q.bx
  have b9 : Below w.heap.size w w9 := own_grown_below q.below gr9 q.below.size (fun k hk => by have := hne k hk; omega)
  exact cont _ _ w9 ⟨b9, g1, by rw [flat3_snoc, List.length_append, List.length_singleton]; exact own9, h.wz, h.gz, Nat.le_trans q.zw gr9.size⟩ b9
theorem RtSt.start {w w1 : World} {g : Nat} {N : Int} {A : Option Addr} {n c : Nat} (b : Below w.heap.size w w1) (x : Bx w1 g N A n c) : RtSt w w1 g w1.heap.size N A n c (.slice none 0 0) [] :=
  ⟨b, x, World.ownsRow_nil _ _ _ _, b.size, heap_lt x, Nat.le_refl _⟩
/-- The triangles at v, of the first k. -/
def atP (tl : List Tr) (v : Int) (k : Nat) : List Tr := (tl.take k).filter fun t => decide (hasV t v)
theorem atP_succ {tl : List Tr} {v : Int} {k : Nat} (hk : k < tl.length) : atP tl v (k + 1) = atP tl v k ++ (if hasV (tl.getD k z3) v then [tl.getD k z3] else []) := by
  unfold atP
  rw [List.take_succ_eq_append_getElem hk, List.filter_append, List.getD_eq_getElem?_getD, List.getElem?_eq_getElem hk, List.filter_cons]
  congr 1
  by_cases h : hasV tl[k] v
  · rw [if_pos (decide_eq_true h), Option.getD_some, if_pos h]; rfl
  · rw [if_neg (by simpa using h), Option.getD_some, if_neg h]; rfl
theorem atP_len (tl : List Tr) (v : Int) (k : Nat) : (atP tl v k).length ≤ k := by
  unfold atP
  have := List.length_filter_le (fun t => decide (hasV t v)) (tl.take k)
  rw [List.length_take] at this
  omega
theorem mem_atP {tl : List Tr} {v : Int} {t : Tr} : t ∈ atP tl v tl.length ↔ t ∈ tl ∧ hasV t v := by
  unfold atP
  rw [List.take_length, List.mem_filter, decide_eq_true_iff]
/-- The flags of a round. -/
structure Flags (v : Int) (L : List Tr) (fl : List Bool) : Prop where
  len : fl.length = L.length
  zero : fl.getD 0 false = true
  sub : ∀ i, i < L.length → fl.getD i false = true → Reach v L i
abbrev flF (fl : List Bool) : Nat → Bool := fun i => fl.getD i false
structure Grow (v : Int) (L : List Tr) (F0 F : Nat → Bool) (i k : Nat) : Prop where
  mono : ∀ a, a < L.length → F0 a = true → F a = true
  did : ∀ a b, a < L.length → b < L.length → (a < i ∨ (a = i ∧ b < k)) → F0 a = true → adjV v (L.getD a z3) (L.getD b z3) → F b = true
theorem Grow.next {v : Int} {L : List Tr} {F0 F : Nat → Bool} {i : Nat} (h : Grow v L F0 F i L.length) : Grow v L F0 F (i + 1) 0 :=
  ⟨h.mono, fun a b ha hb hab => h.did a b ha hb (by omega)⟩
/-- The pair (i, k) is done. -/
theorem Grow.step {v : Int} {L : List Tr} {F0 F G : Nat → Bool} {i k : Nat} (h : Grow v L F0 F i k) (hFG : ∀ a, a < L.length → F a = true → G a = true) (hk : F0 i = true → adjV v (L.getD i z3) (L.getD k z3) → G k = true) : Grow v L F0 G i (k + 1) := by
  refine ⟨fun a ha h0 => hFG a ha (h.mono a ha h0), fun a b ha hb hab h0 hadj => ?_⟩
  by_cases he : a = i ∧ b = k
  · obtain ⟨rfl, rfl⟩ := he
    exact hk h0 hadj
  · exact hFG b hb (h.did a b ha hb (by omega) h0 hadj)
theorem flag_set {fl : List Bool} {k : Nat} (hk : k < fl.length) (a : Nat) : (fl.set k true).getD a false = if k = a then true else fl.getD a false := by
  rw [List.getD_eq_getElem?_getD, List.getElem?_set, List.getD_eq_getElem?_getD]
  by_cases e : k = a
  · rw [if_pos e, if_pos e, if_pos hk]; rfl
  · rw [if_neg e, if_neg e]
/-- One of the first m vertices of t is another one than v, and one of u's. -/
def adM (v : Int) (t u : Tr) (m : Nat) : Bool := (List.range m).any fun j => decide (vx t j ≠ v) && decide (hasV u (vx t j))
theorem adM_succ (v : Int) (t u : Tr) (m : Nat) : adM v t u (m + 1) = (adM v t u m || (decide (vx t m ≠ v) && decide (hasV u (vx t m)))) := by
  unfold adM
  rw [List.range_succ, List.any_append]
  simp
theorem adM_all (v : Int) (t u : Tr) : adM v t u 3 = true ↔ adjV v t u := by
  rw [adM_succ, adM_succ, adM_succ, adjV_iff]
  unfold adM vx
  simp
  constructor
  · rintro ((h | h) | h)
    · exact .inl h
    · exact .inr (.inl h)
    · exact .inr (.inr h)
  · rintro (h | h | h)
    · exact .inl (.inl h)
    · exact .inl (.inr h)
    · exact .inr h
/-- The triangles at v, and their flags. -/
structure PnSt (w wr : World) (Al : Option Addr) (L : List Tr) (ib : Nat) (fl : List Bool) : Prop where
  below : Below w.heap.size w wr
  t3 : T3 wr Al L.length L
  row : BoolRow wr ib fl
  wi : w.heap.size ≤ ib
  far : 0 < L.length → ∀ b off, Al = some ⟨b, off, none⟩ → b ≠ ib
theorem PnSt.up {w wr w' : World} {Al : Option Addr} {L : List Tr} {ib : Nat} {fl : List Bool} (h : PnSt w wr Al L ib fl) (b : Below wr.heap.size wr w') : PnSt w w' Al L ib fl :=
  ⟨h.below.trans (b.mono h.below.size), h.t3.below b, (b.block ib (heap_lt h.row)).trans h.row, h.wi, h.far⟩
theorem PnSt.set {w wr : World} {Al : Option Addr} {L : List Tr} {ib : Nat} {fl : List Bool} (h : PnSt w wr Al L ib fl) (k : Nat) : PnSt w (wr.setCell ⟨ib, k, none⟩ (.bool true)) Al L ib (fl.set k true) :=
  ⟨h.below.setCell (p := ⟨ib, k, none⟩) h.wi _, h.t3.chg (S := fun b => b = ib) (.of_set wr _ _ rfl) h.far, h.row.set k true, h.wi, h.far⟩
def Pn0 (w : World) (g Z : Nat) (N : Int) (A : Option Addr) (n c : Nat) (tl : List Tr) (v : Int) (l i : Value) (wr : World) : Prop := ∃ k : Nat, k ≤ n ∧ i = .int .i64 (k : Int) ∧ RtSt w wr g Z N A n c l (atP tl v k)
def Pn1 (w : World) (Al : Option Addr) (v : Int) (L : List Tr) (ib ln : Nat) (i : Value) (wr : World) : Prop := ∃ r : Nat, r ≤ ln ∧ i = .int .i64 (r : Int) ∧ ∃ fl, PnSt w wr Al L ib fl ∧ Flags v L fl ∧ Far v L r (flF fl)
def Pn2 (w : World) (Al : Option Addr) (v : Int) (L : List Tr) (ib ln : Nat) (F0 : Nat → Bool) (i : Value) (wr : World) : Prop := ∃ a : Nat, a ≤ ln ∧ i = .int .i64 (a : Int) ∧ ∃ fl, PnSt w wr Al L ib fl ∧ Flags v L fl ∧ Grow v L F0 (flF fl) a 0
def Pn3 (w : World) (Al : Option Addr) (v : Int) (L : List Tr) (ib ln : Nat) (F0 : Nat → Bool) (a : Nat) (i : Value) (wr : World) : Prop := ∃ k : Nat, k ≤ ln ∧ i = .int .i64 (k : Int) ∧ ∃ fl, PnSt w wr Al L ib fl ∧ Flags v L fl ∧ Grow v L F0 (flF fl) a k
def Pn4 (w : World) (Al : Option Addr) (v : Int) (L : List Tr) (ib : Nat) (fl : List Bool) (k : Nat) (t u : Tr) (i : Value) (wr : World) : Prop := ∃ m : Nat, m ≤ 3 ∧ i = .int .i64 (m : Int) ∧ PnSt w wr Al L ib (if adM v t u m = true then fl.set k true else fl)
def Pn5 (w : World) (Al : Option Addr) (L : List Tr) (ib ln : Nat) (fl : List Bool) (i : Value) (wr : World) : Prop := ∃ a : Nat, a ≤ ln ∧ i = .int .i64 (a : Int) ∧ PnSt w wr Al L ib fl ∧ ∀ j, j < a → fl.getD j false = true
set_option maxHeartbeats 8000000 in
set_option maxRecDepth 100000 in
theorem r9pin_any (w : World) (N : Int) (A : Option Addr) (n c : Nat) (tl : List Tr) (v : Int) (p : Int → Bool) (hp : IsPin tl p) (hlp : ∀ t ∈ tl, ¬ loopT t) (ht : T3 w A n tl) (hn : n ≤ 8192) : Calls Try.prog 61 #[.agg #[.int .i64 N, .slice A n c], .int .i64 v] w fun e w' => e = .returned (.bool (p v)) ∧ Below w.heap.size w w' := by
  obtain ⟨w1, hw1⟩ : ∃ w1, w.alloc (.cells #[.int .i64 N, .slice A n c] 24) = w1 := ⟨_, rfl⟩
  obtain ⟨g, hg⟩ : ∃ g, w.heap.size = g := ⟨_, rfl⟩
  have b1 : Below w.heap.size w w1 := by rw [← hw1]; exact (Below.refl _ w).alloc (Nat.le_refl _) _
  have x1 : Bx w1 g N A n c := by rw [← hw1, ← hg]; exact Bx.made w N A n c
  have HT := Lib.hid ht
  have HP := Lib.hid (And.intro hp hlp)
  have S1 := Lib.hid (RtSt.start b1 x1)
  obtain ⟨Z, hZ⟩ : ∃ Z, w1.heap.size = Z := ⟨_, rfl⟩
  rw [hZ] at S1
  clear b1 x1 ht hp hlp
  go_enter Try.func61, Try.ntmps61
  go_wp2_with fail
  clear hw1 hg hZ
  go_loopw [5, 6] (Pn0 w g Z N A n c tl v) (fun _ i _ => n - (intOf i).toNat)
  case atStart => exact ⟨0, Nat.zero_le _, rfl, S1.out⟩
  case round =>
    obtain ⟨k, hk, rfl, hst⟩ := hrel
    obtain ⟨Av, cv, rfl⟩ := ownK9_form hst.own
    have hlen := atP_len tl v k
    obtain ⟨P, hP⟩ : ∃ P, atP tl v k = P := ⟨_, rfl⟩
    rw [hP] at hst hlen ⊢
    obtain ⟨L, hL⟩ : ∃ L, P.length = L := ⟨_, rfl⟩
    rw [hL] at hst hlen ⊢
    have HS := Lib.hid hst
    have HPL := Lib.hid (And.intro hP hL)
    have z1 := hst.bx.c1
    clear hst hP hL
    by_cases hlt : k < n
    case pos =>
      have b1 : (k : Int) < n := by omega
      obtain ⟨bA, off, rfl, hat⟩ := (HT.out.below HS.out.below).2 (by omega)
      obtain ⟨c0, c1, c2⟩ := hat k hlt
      clear hat
      obtain ⟨x, hx⟩ : ∃ x, tl.getD k z3 = x := ⟨_, rfl⟩
      rw [hx] at c0 c1 c2
      have HX := Lib.hid hx
      clear hx
      obtain ⟨x0, x1, x2⟩ := x
      have KH := Lib.hid (r9has_any wr x0 x1 x2 v)
      have hsucc := atP_succ (tl := tl) (v := v) (k := k) (by rw [HT.out.1]; exact hlt)
      rw [HX.out, HPL.out.1] at hsucc
      unfold DecTold at KH
      by_cases hv : hasV (x0, x1, x2) v
      · rw [if_pos hv] at hsucc
        rw [decide_eq_true hv] at KH
        have HE := Lib.hid hsucc
        clear hsucc hv
        go_wp2_with fail
        refine KH.out.mono ?_
        rintro e w3 ⟨rfl, b3⟩
        have S3 := Lib.hid (HS.out.up b3)
        have z1 := S3.out.bx.c1
        have t3 := (HT.out.below S3.out.below).2 (by omega)
        obtain ⟨b', o', e', hat⟩ := t3
        injection e' with e'
        injection e' with e1 e2
        subst e1 e2
        obtain ⟨c0, c1, c2⟩ := hat k hlt
        rw [HX.out] at c0 c1 c2
        clear b3 hat
        go_wp2_with (at_builtin; refine RtSt.wpl S3.out (x0, x1, x2) rfl (.tmp 27) (.tmp 33) rfl (by go_simp) rfl (by rw [HPL.out.2]; omega) ?_)
        intro A' c' w9 st9 _
        have ST := Lib.hid st9
        clear st9
        go_wp2_with fail
        refine ⟨⟨k + 1, by omega, by go_num, ?_⟩, by simp [intOf]; omega⟩
        rw [HE.out]
        exact ST.out
      · rw [if_neg hv, List.append_nil] at hsucc
        rw [decide_eq_false hv] at KH
        have HE := Lib.hid hsucc
        clear hsucc hv
        go_wp2_with fail
        refine KH.out.mono ?_
        rintro e w3 ⟨rfl, b3⟩
        have S3 := Lib.hid (HS.out.up b3)
        clear b3
        go_wp2_with fail
        refine ⟨⟨k + 1, by omega, by go_num, ?_⟩, by simp [intOf]; omega⟩
        rw [HE.out]
        exact S3.out
    obtain rfl : k = n := by omega
    have b1 : ¬ (k : Int) < k := by omega
    have hmem : ∀ t, t ∈ P ↔ t ∈ tl ∧ hasV t v := fun t => by
      rw [← HPL.out.1]
      have := mem_atP (tl := tl) (v := v) (t := t)
      rwa [HT.out.1] at this
    have hpv := HP.out.1 v
    by_cases h0 : L = 0
    · have hf : p v = false := by
        have hc : Conn tl v := fun Q ⟨t, ht, htv, _⟩ => by
          have := (hmem t).2 ⟨ht, htv⟩
          rw [List.eq_nil_of_length_eq_zero (HPL.out.2.trans h0)] at this
          cases this
        have : ¬ p v = true := fun h => hpv.1 h hc
        simpa using this
      have HF := Lib.hid hf
      subst h0
      clear hf hpv hmem
      go_wp2
      go_ret
      exact ⟨by rw [HF.out]; rfl, HS.out.below⟩
    have hrc := reach_conn (l := tl) (L := P) (v := v) hmem (by rw [HPL.out.2]; omega) (fun t ht => HP.out.2 t ((hmem t).1 ht).1)
    have HRC := Lib.hid (And.intro hrc hpv)
    clear hrc hpv hmem
    have t0 : T3 wr Av P.length P := by
      have := HS.out.own
      rw [HPL.out.2] at this ⊢
      exact T3.of_own this
    have hz0 : ((L : Int) == 0) = false := by rw [beq_eq_false_iff_ne]; omega
    have hmk := fun W => makeB9 L (by omega) W
    obtain ⟨w2, hw2⟩ : ∃ w2, wr.alloc (.cells (bls (List.replicate L false)).toArray 4) = w2 := ⟨_, rfl⟩
    obtain ⟨ib, hib⟩ : ∃ ib, wr.heap.size = ib := ⟨_, rfl⟩
    have b2 : Below wr.heap.size wr w2 := by rw [← hw2]; exact (Below.refl _ wr).alloc (Nat.le_refl _) _
    have st2 : PnSt w w2 Av P ib (List.replicate L false) := ⟨HS.out.below.trans (b2.mono HS.out.below.size), t0.below b2, by rw [← hw2, ← hib]; exact heap_alloc_new wr _, by have := HS.out.below.size; omega, fun hn b off e => by
      obtain ⟨b', off', e', hc⟩ := t0.2 hn
      rw [e] at e'
      injection e' with e'
      injection e' with e1 e2
      subst e1
      have : b < wr.heap.size := World.block_lt_of_cell? wr _ (hc 0 hn).1
      omega⟩
    have y0 := st2.row.cell 0 (by simp; omega)
    have y1 := frozen_in st2.row 0
    have st3 := st2.set 0
    obtain ⟨w3, hw3⟩ : ∃ w3, w2.setCell ⟨ib, 0, none⟩ (.bool true) = w3 := ⟨_, rfl⟩
    rw [hw3] at st3
    have hL1 : (0 : Int) < L := by omega
    have fg : Flags v P ((List.replicate L false).set 0 true) := by
      have hs := fun a => flag_set (fl := List.replicate L false) (k := 0) (by simp; omega) a
      refine ⟨by simp [HPL.out.2], by rw [hs 0, if_pos rfl], fun i hi hf => ?_⟩
      rw [hs i] at hf
      by_cases hi0 : 0 = i
      · subst hi0; exact Reach.zero v P
      · rw [if_neg hi0, List.getD_eq_getElem?_getD, List.getElem?_replicate] at hf
        split at hf <;> cases hf
    have T3s := Lib.hid (And.intro st3 fg)
    clear st2 st3 fg b2 t0
    go_wp2_with fail
    clear hw3 hw2 hib y0 y1 hmk z1
    go_loopw [45] (Pn1 w Av v P ib L) (fun i _ => L - (intOf i).toNat)
    case atStart => exact ⟨0, Nat.zero_le _, rfl, _, T3s.out.1, T3s.out.2, Far.start (by rw [HPL.out.2]; omega) T3s.out.2.zero⟩
    case round =>
      obtain ⟨r, hr, rfl, fl, hst, hfl, hfar⟩ := hrel
      have H1 := Lib.hid (And.intro hst (And.intro hfl hfar))
      clear hst hfl hfar
      by_cases hrL : r < L
      case neg =>
        obtain rfl : r = L := by omega
        have b2 : ¬ (r : Int) < r := by omega
        have hdone : ∀ i, i < r → (fl.getD i false = true ↔ Reach v P i) := fun i hi => by
          have hf := H1.out.2.2
          have := Far.done (v := v) (L := P) (F := flF fl) (by rw [HPL.out.2]; exact hf) (fun i hi h => H1.out.2.1.sub i hi h) i (by rw [HPL.out.2]; exact hi)
          exact this
        have HD := Lib.hid hdone
        clear hdone
        go_wp2_with fail
        go_loopw [12] (Pn5 w Av P ib r fl) (fun i _ => r - (intOf i).toNat)
        case atStart => exact ⟨0, Nat.zero_le _, rfl, H1.out.1, fun j hj => absurd hj (by omega)⟩
        case round =>
          obtain ⟨a, ha, rfl, hst, hall⟩ := hrel
          have H2 := Lib.hid (And.intro hst hall)
          by_cases haL : a < r
          case neg =>
            obtain rfl : a = r := by omega
            have b3 : ¬ (a : Int) < a := by omega
            have HF := Lib.hid (show p v = false by
              have hc : Conn tl v := HRC.out.1.1 fun i hi => (HD.out i (by rw [← HPL.out.2]; exact hi)).1 (hall i (by rw [← HPL.out.2]; exact hi))
              have : ¬ p v = true := fun h => HRC.out.2.1 h hc
              simpa using this)
            clear hst hall
            go_wp2
            go_ret
            exact ⟨by rw [HF.out]; rfl, H2.out.1.below⟩
          have b3 : (a : Int) < r := by omega
          have y0 := hst.row.cell a (by rw [H1.out.2.1.len, HPL.out.2]; exact haL)
          obtain ⟨y, hy⟩ : ∃ y, fl.getD a false = y := ⟨_, rfl⟩
          rw [hy] at y0
          cases y
          · have HF := Lib.hid (show p v = true by
              refine HRC.out.2.2 fun hc => ?_
              have := (HD.out a haL).2 (HRC.out.1.2 hc a (by rw [HPL.out.2]; exact haL))
              rw [hy] at this
              cases this)
            clear hst hall hy
            go_wp2
            go_ret
            exact ⟨by rw [HF.out]; rfl, H2.out.1.below⟩
          · have HY := Lib.hid hy
            clear hst hall hy
            go_wp2_with fail
            refine ⟨⟨a + 1, by omega, by go_num, H2.out.1, fun j hj => ?_⟩, by simp [intOf]; omega⟩
            by_cases hja : j = a
            · rw [hja]; exact HY.out
            · exact H2.out.2 j (by omega)
      have b2 : (r : Int) < L := by omega
      go_wp2_with fail
      go_loopw [8] (Pn2 w Av v P ib L (flF fl)) (fun i _ => L - (intOf i).toNat)
      case atStart => exact ⟨0, Nat.zero_le _, rfl, fl, H1.out.1, H1.out.2.1, fun _ _ h => h, fun a b _ _ hab => absurd hab (by omega)⟩
      case round =>
        obtain ⟨a, ha, rfl, fl2, hst, hfl, hgr⟩ := hrel
        have H2 := Lib.hid (And.intro hst (And.intro hfl hgr))
        clear hst hfl hgr
        by_cases haL : a < L
        case neg =>
          obtain rfl : a = L := by omega
          have b3 : ¬ (a : Int) < a := by omega
          go_wp2_with fail
          refine ⟨⟨r + 1, by omega, by go_num, fl2, H2.out.1, H2.out.2.1, ?_⟩, by simp [intOf]; omega⟩
          refine H1.out.2.2.round H1.out.2.1.zero H2.out.2.2.mono fun x y hx hy => H2.out.2.2.did x y hx hy (.inl (by rw [← HPL.out.2]; exact hx))
        have b3 : (a : Int) < L := by omega
        go_wp2_with fail
        go_loopw [9] (Pn3 w Av v P ib L (flF fl) a) (fun i _ => L - (intOf i).toNat)
        case atStart => exact ⟨0, Nat.zero_le _, rfl, fl2, H2.out⟩
        case round =>
          obtain ⟨k', hk', rfl, fl3, hst, hfl, hgr⟩ := hrel
          have H3 := Lib.hid (And.intro hst (And.intro hfl hgr))
          by_cases hkL : k' < L
          case neg =>
            obtain rfl : k' = L := by omega
            have b4 : ¬ (k' : Int) < k' := by omega
            clear hst hfl hgr
            go_wp2_with fail
            refine ⟨⟨a + 1, by omega, by go_num, fl3, H3.out.1, H3.out.2.1, ?_⟩, by simp [intOf]; omega⟩
            have := H3.out.2.2
            rw [← HPL.out.2] at this
            exact this.next
          have b4 : (k' : Int) < L := by omega
          have y0 := hst.row.cell a (by rw [hfl.len, HPL.out.2]; exact haL)
          have y1 := hst.row.cell k' (by rw [hfl.len, HPL.out.2]; exact hkL)
          obtain ⟨ya, hya⟩ : ∃ ya, fl3.getD a false = ya := ⟨_, rfl⟩
          obtain ⟨yk, hyk⟩ : ∃ yk, fl3.getD k' false = yk := ⟨_, rfl⟩
          rw [hya] at y0
          rw [hyk] at y1
          have HY := Lib.hid (And.intro hya hyk)
          clear hya hyk
          cases ya
          · -- not flagged: nothing is to be done
            have HG := Lib.hid (hgr.step (G := flF fl3) (fun _ _ h => h) (fun h0 => by
              have := hgr.mono a (by rw [HPL.out.2]; exact haL) h0
              rw [show flF fl3 a = false from HY.out.1] at this
              cases this))
            clear hst hfl hgr
            go_wp2_with fail
            exact ⟨⟨k' + 1, by omega, by go_num, fl3, H3.out.1, H3.out.2.1, HG.out⟩, by simp [intOf]; omega⟩
          cases yk
          case true =>
            have HG := Lib.hid (hgr.step (G := flF fl3) (fun _ _ h => h) (fun _ _ => HY.out.2))
            clear hst hfl hgr
            go_wp2_with fail
            exact ⟨⟨k' + 1, by omega, by go_num, fl3, H3.out.1, H3.out.2.1, HG.out⟩, by simp [intOf]; omega⟩
          obtain ⟨t, ht⟩ : ∃ t, P.getD a z3 = t := ⟨_, rfl⟩
          obtain ⟨u, hu⟩ : ∃ u, P.getD k' z3 = u := ⟨_, rfl⟩
          have HTU := Lib.hid (And.intro ht hu)
          clear hst hfl hgr ht hu y0 y1
          have y0 := H3.out.1.row.cell a (by rw [H3.out.2.1.len, HPL.out.2]; exact haL)
          have y1 := H3.out.1.row.cell k' (by rw [H3.out.2.1.len, HPL.out.2]; exact hkL)
          rw [HY.out.1] at y0
          rw [HY.out.2] at y1
          go_wp2_with fail
          clear y0 y1
          go_loopw [10] (Pn4 w Av v P ib fl3 k' t u) (fun i _ => 3 - (intOf i).toNat)
          case atStart => exact ⟨0, by omega, rfl, by rw [if_neg (by simp [adM])]; exact H3.out.1⟩
          case round =>
            obtain ⟨m, hm, rfl, hst⟩ := hrel
            obtain ⟨fl4, hfl4⟩ : ∃ fl4, (if adM v t u m = true then fl3.set k' true else fl3) = fl4 := ⟨_, rfl⟩
            rw [hfl4] at hst
            have H4 := Lib.hid (And.intro hst hfl4)
            clear hfl4
            by_cases hm3 : m < 3
            case neg =>
              obtain rfl : m = 3 := by omega
              have b5 : ¬ ((3 : Nat) : Int) < 3 := by omega
              clear hst
              have hk3 : k' < fl3.length := by rw [H3.out.2.1.len, HPL.out.2]; exact hkL
              have hs9 := fun x => flag_set hk3 x
              have HQ := Lib.hid (show Flags v P fl4 ∧ Grow v P (flF fl) (flF fl4) a (k' + 1) from by
                rw [← H4.out.2]
                have hadj := adM_all v t u
                by_cases had : adM v t u 3 = true
                · rw [if_pos had]
                  have hav : adjV v (P.getD a z3) (P.getD k' z3) := by rw [HTU.out.1, HTU.out.2]; exact hadj.1 had
                  refine ⟨⟨by rw [List.length_set]; exact H3.out.2.1.len, ?_, fun i hi hf => ?_⟩, H3.out.2.2.step (fun x _ h => ?_) (fun _ _ => ?_)⟩
                  · rw [hs9 0]
                    split
                    · rfl
                    · exact H3.out.2.1.zero
                  · rw [hs9 i] at hf
                    by_cases hki : k' = i
                    · subst hki
                      exact (H3.out.2.1.sub a (by rw [HPL.out.2]; exact haL) HY.out.1).step (by rw [HPL.out.2]; exact haL) hi hav
                    · rw [if_neg hki] at hf
                      exact H3.out.2.1.sub i hi hf
                  · show (fl3.set k' true).getD x false = true
                    rw [hs9 x]
                    split
                    · rfl
                    · exact h
                  · show (fl3.set k' true).getD k' false = true
                    rw [hs9 k', if_pos rfl]
                · rw [if_neg had]
                  refine ⟨H3.out.2.1, H3.out.2.2.step (fun _ _ h => h) (fun _ hav => ?_)⟩
                  rw [HTU.out.1, HTU.out.2] at hav
                  exact absurd (hadj.2 hav) had)
              clear hs9 hk3
              go_wp2_with fail
              exact ⟨⟨k' + 1, by omega, by go_num, fl4, H4.out.1, HQ.out⟩, by simp [intOf]; omega⟩
            have m1 : (m : Int) < 3 := by omega
            have m0 : 0 ≤ (m : Int) := by omega
            obtain ⟨bP, oP, rfl, hat⟩ := hst.t3.2 (by rw [HPL.out.2]; omega)
            have cm := hst.t3.at9 a (by rw [HPL.out.2]; exact haL) m hm3
            rw [HTU.out.1] at cm
            obtain ⟨c0, c1, c2⟩ := hat k' (by rw [HPL.out.2]; exact hkL)
            rw [HTU.out.2] at c0 c1 c2
            obtain ⟨z, hz⟩ : ∃ z, vx t m = z := ⟨_, rfl⟩
            rw [hz] at cm
            have hsu := adM_succ v t u m
            rw [hz] at hsu
            have HZ := Lib.hid hsu
            clear hz hsu hat hst
            obtain ⟨u0, u1, u2⟩ := u
            by_cases hzv : z = v
            · have e1 : (z != v) = false := by simpa using hzv
              have HE := Lib.hid (show adM v t (u0, u1, u2) (m + 1) = adM v t (u0, u1, u2) m by rw [HZ.out]; simp [hzv])
              clear hzv
              go_wp2_with fail
              refine ⟨⟨m + 1, by omega, by go_num, ?_⟩, by simp [intOf]; omega⟩
              rw [HE.out, H4.out.2]
              exact H4.out.1
            have e1 : (z != v) = true := by simpa using hzv
            have KH := Lib.hid (r9has_any wr u0 u1 u2 z)
            unfold DecTold at KH
            by_cases hv : hasV (u0, u1, u2) z
            · rw [decide_eq_true hv] at KH
              have HE := Lib.hid (show adM v t (u0, u1, u2) (m + 1) = true by rw [HZ.out]; simp [hzv, hv])
              clear hv hzv
              go_wp2_with fail
              refine KH.out.mono ?_
              rintro e w5 ⟨rfl, b5⟩
              have s5 := H4.out.1.up b5
              have hl4 : fl4.length = P.length := by
                rw [← H4.out.2]
                split
                · rw [List.length_set]; exact H3.out.2.1.len
                · exact H3.out.2.1.len
              have y4 := s5.row.cell k' (by rw [hl4, HPL.out.2]; exact hkL)
              have y5 := frozen_in s5.row k'
              have S5 := Lib.hid (s5.set k')
              clear b5 s5 hl4
              go_wp2_with fail
              refine ⟨⟨m + 1, by omega, by go_num, ?_⟩, by simp [intOf]; omega⟩
              rw [HE.out, if_pos rfl]
              have h1 := S5.out
              rw [← H4.out.2] at h1
              split at h1
              · rw [List.set_set] at h1; exact h1
              · exact h1
            · rw [decide_eq_false hv] at KH
              have HE := Lib.hid (show adM v t (u0, u1, u2) (m + 1) = adM v t (u0, u1, u2) m by rw [HZ.out]; simp [hv])
              clear hv hzv
              go_wp2_with fail
              refine KH.out.mono ?_
              rintro e w5 ⟨rfl, b5⟩
              have S5 := Lib.hid (H4.out.1.up b5)
              clear b5
              go_wp2_with fail
              refine ⟨⟨m + 1, by omega, by go_num, ?_⟩, by simp [intOf]; omega⟩
              rw [HE.out, H4.out.2]
              exact S5.out
end Go.Proofs.Ytmflacmgffpjoaa

/- Layer 9: the document's All. -/
namespace Go.Proofs.Ytmflacmgffpjoaa
open Go.RowKit

theorem RwSt.next {w wr w' : World} {g Z : Nat} {N : Int} {A : Option Addr} {n c : Nat} {v : Value} {l ws : List Wt} {A' : Option Addr} {c' : Nat} (h : RwSt w wr g Z N A n c v l) (o : w'.ownsRow wr.heap.size 75 3 (.slice A' ws.length c') ws.length (ints (flat3 ws))) (b : Below wr.heap.size wr w') : RwSt w w' g Z N A n c (.slice A' ws.length c') ws :=
  ⟨h.below.trans (b.mono h.below.size), h.bx.below b, ownK9_base o h.zw, h.wz, h.gz, Nat.le_trans h.zw b.size⟩
theorem RwSt.box {w wr : World} {g Z : Nat} {N : Int} {A : Option Addr} {n c : Nat} {v : Value} {l : List Wt} (h : RwSt w wr g Z N A n c v l) : wr.cell? ⟨g, 0, none⟩ = some (.int .i64 N) ∧ wr.cell? ⟨g, 1, none⟩ = some (.slice A n c) := ⟨h.bx.c0, h.bx.c1⟩
def usd (tl : List Tr) (v : Int) (k : Nat) : Bool := (List.range k).any fun i => decide (hasV (tl.getD i z3) v)
theorem usd_succ (tl : List Tr) (v : Int) (k : Nat) : usd tl v (k + 1) = (usd tl v k || decide (hasV (tl.getD k z3) v)) := by
  unfold usd
  rw [List.range_succ, List.any_append]
  simp
theorem usd_lonely (tl : List Tr) (v : Int) : lonely tl v = !usd tl v tl.length := by
  cases hq : usd tl v tl.length with
  | true =>
    unfold usd at hq
    rw [List.any_eq_true] at hq
    obtain ⟨i, hi, h⟩ := hq
    exact lonely_false.2 ⟨_, getD3_mem (List.mem_range.1 hi), of_decide_eq_true h⟩
  | false =>
    cases hl : lonely tl v with
    | true => rfl
    | false =>
      obtain ⟨t, ht, hv⟩ := lonely_false.1 hl
      obtain ⟨i, hi, rfl⟩ := mem3_getD ht
      unfold usd at hq
      rw [List.any_eq_false] at hq
      exact absurd (decide_eq_true hv) (hq i (List.mem_range.2 hi))
def Ra1 (w : World) (g Z : Nat) (N : Int) (A : Option Addr) (n c : Nat) (tl : List Tr) (v i : Value) (wr : World) : Prop := ∃ k : Nat, k ≤ n ∧ i = .int .i64 (k : Int) ∧ RwSt w wr g Z N A n c v (idxP 2 (fun t => decide (loopT t)) tl k)
def Ra2 (w : World) (g Z : Nat) (N : Int) (A : Option Addr) (n c : Nat) (kd : Int) (q : Int → Bool) (M : Nat) (v i : Value) (wr : World) : Prop := ∃ k : Nat, k ≤ M ∧ i = .int .i64 (k : Int) ∧ RwSt w wr g Z N A n c v (vertP kd q k)
def Ra3 (w : World) (g Z : Nat) (N : Int) (A : Option Addr) (n c : Nat) (tl : List Tr) (v : Int) (out : Value) (l : List Wt) (us i : Value) (wr : World) : Prop := ∃ k : Nat, k ≤ n ∧ i = .int .i64 (k : Int) ∧ us = .bool (usd tl v k) ∧ RwSt w wr g Z N A n c out l
theorem vertP_len (kd : Int) (q : Int → Bool) (a : Nat) : (vertP kd q a).length ≤ a := by
  unfold vertP vertW
  rw [List.length_map]
  have := List.length_filter_le (fun v : Nat => q v) (List.range (a : Int).toNat)
  rw [List.length_range] at this
  omega

set_option maxHeartbeats 16000000 in
set_option maxRecDepth 100000 in
theorem r9all_any (w : World) (N : Int) (A : Option Addr) (n c : Nat) (tl : List Tr) (p : Int → Bool) (hp : IsPin tl p) (ht : T3 w A n tl) (hn : n ≤ 1000000) : Calls Try.prog 34 #[.agg #[.int .i64 N, .slice A n c]] w (RwTold w (wits p N tl)) := by
  obtain ⟨w1, hw1⟩ : ∃ w1, w.alloc (.cells #[.int .i64 N, .slice A n c] 24) = w1 := ⟨_, rfl⟩
  obtain ⟨g, hg⟩ : ∃ g, w.heap.size = g := ⟨_, rfl⟩
  have b1 : Below w.heap.size w w1 := by rw [← hw1]; exact (Below.refl _ w).alloc (Nat.le_refl _) _
  have x1 : Bx w1 g N A n c := by rw [← hw1, ← hg]; exact Bx.made w N A n c
  have z0 := x1.c0
  have z1 := x1.c1
  have HT := Lib.hid ht
  have HP := Lib.hid hp
  have S1 := Lib.hid (RwSt.start b1 x1)
  obtain ⟨Z, hZ⟩ : ∃ Z, w1.heap.size = Z := ⟨_, rfl⟩
  rw [hZ] at S1
  have KI := Lib.hid (r9index_any w1 N A n c tl (ht.below b1) hn)
  have HW := Lib.hid (show ∀ k, (∀ j, j < k → (stgs p N tl).getD j [] = []) → (stgs p N tl).getD k [] ≠ [] → wits p N tl = (stgs p N tl).getD k [] from fun k h1 h2 => ((stage_at h1).resolve_left h2).symm)
  clear b1 x1 ht hp
  go_enter Try.func34, Try.ntmps34
  go_wp2_with fail
  clear hw1 hg hZ z0 z1
  refine KI.out.mono ?_
  rintro e w2 ⟨A0, c0, rfl, o2, b2⟩
  have s2 := S1.out.next o2 b2
  obtain ⟨ws0, h0⟩ : ∃ ws0, indexW N tl = ws0 := ⟨_, rfl⟩
  rw [h0] at s2 ⊢
  obtain ⟨L0, hL0⟩ : ∃ L0, ws0.length = L0 := ⟨_, rfl⟩
  rw [hL0] at s2 ⊢
  have S2 := Lib.hid s2
  have H0 := Lib.hid (And.intro h0 hL0)
  clear s2 o2 b2 h0 hL0
  by_cases hz : L0 = 0
  case neg =>
    have hz1 : (0 : Int) < L0 := by omega
    have HE := Lib.hid (show wits p N tl = ws0 by
      have := HW.out 0 (fun j hj => absurd hj (by omega)) (by show indexW N tl ≠ []; rw [H0.out.1]; intro e; rw [e] at H0; exact hz H0.out.2.symm)
      rw [this]; exact H0.out.1)
    go_wp2
    go_ret
    rw [HE.out]
    have := S2.out.told
    exact this
  subst hz
  have hw0 : ws0 = [] := List.eq_nil_of_length_eq_zero H0.out.2
  subst hw0
  have G0 := Lib.hid (stage0 H0.out.1)
  obtain ⟨M, rfl⟩ : ∃ M : Nat, N = (M : Int) := ⟨N.toNat, by have := G0.out.1; omega⟩
  have hM : M ≤ 4096 := by have := G0.out.2.1; omega
  have hn8 : n ≤ 8192 := by have := G0.out.2.2.1; rwa [HT.out.1] at this
  obtain ⟨z0, z1⟩ := S2.out.box
  go_wp2_with fail
  clear z0 z1
  go_loopw [3, 4] (Ra1 w g Z (M : Int) A n c tl) (fun _ i _ => n - (intOf i).toNat)
  case atStart => exact ⟨0, Nat.zero_le _, rfl, S2.out⟩
  case round =>
    obtain ⟨k, hk, rfl, hst⟩ := hrel
    obtain ⟨Av, cv, rfl⟩ := ownK9_form hst.own
    have hlen := idxP_len 2 (fun t => decide (loopT t)) tl k
    obtain ⟨P, hP⟩ : ∃ P, idxP 2 (fun t => decide (loopT t)) tl k = P := ⟨_, rfl⟩
    rw [hP] at hst hlen ⊢
    obtain ⟨L, hL⟩ : ∃ L, P.length = L := ⟨_, rfl⟩
    rw [hL] at hst hlen ⊢
    have HS := Lib.hid hst
    have HPL := Lib.hid (And.intro hP hL)
    obtain ⟨z0, z1⟩ := hst.box
    clear hst hP hL
    by_cases hlt : k < n
    case pos =>
      have b1 : (k : Int) < n := by omega
      obtain ⟨bA, off, rfl, hat⟩ := (HT.out.below HS.out.below).2 (by omega)
      obtain ⟨c0', c1, c2⟩ := hat k hlt
      clear hat
      obtain ⟨x, hx⟩ : ∃ x, tl.getD k z3 = x := ⟨_, rfl⟩
      rw [hx] at c0' c1 c2
      have HX := Lib.hid hx
      clear hx
      obtain ⟨x0, x1, x2⟩ := x
      obtain ⟨w3, hw3⟩ : ∃ w3, wr.alloc (.cells #[.int .i64 x0, .int .i64 x1, .int .i64 x2] 53) = w3 := ⟨_, rfl⟩
      have b3 : Below wr.heap.size wr w3 := by rw [← hw3]; exact (Below.refl _ wr).alloc (Nat.le_refl _) _
      obtain ⟨q, hq⟩ : ∃ q, wr.heap.size = q := ⟨_, rfl⟩
      have q0 : w3.heap[q]? = some (.cells #[.int .i64 x0, .int .i64 x1, .int .i64 x2] 53 (0, 0)) := by rw [← hw3, ← hq]; exact heap_alloc_new wr _
      have q1 := cell_in q0 0
      have q2 := cell_in q0 1
      have q3 := cell_in q0 2
      simp only [List.getElem?_toArray, List.getElem?_cons_zero, List.getElem?_cons_succ] at q1 q2 q3
      have S3 := Lib.hid (HS.out.up b3)
      clear b3 q0
      have yes : loopT (x0, x1, x2) → idxP 2 (fun t => decide (loopT t)) tl (k + 1) = P ++ [(2, (k : Int), 0)] := fun h => by
        rw [idxP_yes (by rw [HX.out]; exact decide_eq_true h), HPL.out.1]
      by_cases h0 : x0 = x1
      · have HE := Lib.hid (yes (.inl h0))
        subst h0
        clear yes
        go_wp2_with (at_builtin; refine RwSt.wpl S3.out (2, (k : Int), 0) rfl (.tmp 47) (.tmp 50) rfl (by go_simp) rfl (by rw [HPL.out.2]; omega) ?_)
        intro A' c' w9 st9 _
        have ST := Lib.hid st9
        clear st9
        go_wp2_with fail
        refine ⟨⟨k + 1, by omega, by go_num, ?_⟩, by simp [intOf]; omega⟩
        rw [HE.out]
        exact ST.out
      by_cases h1 : x1 = x2
      · have HE := Lib.hid (yes (.inr (.inl h1)))
        subst h1
        clear yes
        go_wp2_with (at_builtin; refine RwSt.wpl S3.out (2, (k : Int), 0) rfl (.tmp 47) (.tmp 50) rfl (by go_simp) rfl (by rw [HPL.out.2]; omega) ?_)
        intro A' c' w9 st9 _
        have ST := Lib.hid st9
        clear st9
        go_wp2_with fail
        refine ⟨⟨k + 1, by omega, by go_num, ?_⟩, by simp [intOf]; omega⟩
        rw [HE.out]
        exact ST.out
      by_cases h2 : x2 = x0
      · have HE := Lib.hid (yes (.inr (.inr h2)))
        subst h2
        clear yes
        go_wp2_with (at_builtin; refine RwSt.wpl S3.out (2, (k : Int), 0) rfl (.tmp 47) (.tmp 50) rfl (by go_simp) rfl (by rw [HPL.out.2]; omega) ?_)
        intro A' c' w9 st9 _
        have ST := Lib.hid st9
        clear st9
        go_wp2_with fail
        refine ⟨⟨k + 1, by omega, by go_num, ?_⟩, by simp [intOf]; omega⟩
        rw [HE.out]
        exact ST.out
      have HE := Lib.hid (idxP_no (kd := 2) (q := fun t => decide (loopT t)) (tl := tl) (a := k) (by rw [HX.out]; exact decide_eq_false fun h => h.elim h0 fun h => h.elim h1 h2))
      have e0 : (x0 == x1) = false := by simp [h0]
      have e1 : (x1 == x2) = false := by simp [h1]
      have e2 : (x2 == x0) = false := by simp [h2]
      clear yes
      go_wp2_with fail
      refine ⟨⟨k + 1, by omega, by go_num, ?_⟩, by simp [intOf]; omega⟩
      rw [HE.out, HPL.out.1]
      exact S3.out
    obtain rfl : k = n := by omega
    have b1 : ¬ (k : Int) < k := by omega
    have hP2 : idxW 2 (fun t => decide (loopT t)) tl = P := by rw [← idxP_all, HT.out.1, HPL.out.1]
    have H1 := Lib.hid hP2
    clear hP2
    by_cases hz : L = 0
    case neg =>
      have hz1 : (0 : Int) < L := by omega
      have HE := Lib.hid (show wits p (M : Int) tl = P by
        have := HW.out 1 (fun j hj => by obtain rfl : j = 0 := (by omega); exact H0.out.1) (by show idxW 2 (fun t => decide (loopT t)) tl ≠ []; rw [H1.out]; intro e; rw [e] at HPL; exact hz HPL.out.2.symm)
        rw [this]; exact H1.out)
      go_wp2
      go_ret
      rw [HE.out]
      exact HS.out.told
    subst hz
    obtain rfl : P = [] := List.eq_nil_of_length_eq_zero HPL.out.2
    have G1 := Lib.hid (stage1 H1.out)
    have K3 := Lib.hid (r9pairs_any wr (M : Int) A k c tl 3 q9 (.inl ⟨rfl, rfl⟩) (HT.out.below HS.out.below) hn8)
    go_wp2_with fail
    refine K3.out.mono ?_
    rintro e w4 ⟨A4, c4, rfl, o4, b4⟩
    have s4 := HS.out.next o4 b4
    obtain ⟨ws4, h4⟩ : ∃ ws4, pairW 3 q9 tl = ws4 := ⟨_, rfl⟩
    rw [h4] at s4 ⊢
    obtain ⟨L4, hL4⟩ : ∃ L4, ws4.length = L4 := ⟨_, rfl⟩
    rw [hL4] at s4 ⊢
    have S4 := Lib.hid s4
    have H4 := Lib.hid (And.intro h4 hL4)
    obtain ⟨z0, z1⟩ := s4.box
    clear s4 o4 b4 h4 hL4
    by_cases hz : L4 = 0
    case neg =>
      have hz1 : (0 : Int) < L4 := by omega
      have HE := Lib.hid (show wits p (M : Int) tl = ws4 by
        have := HW.out 2 (fun j hj => by
          rcases (show j = 0 ∨ j = 1 by omega) with rfl | rfl
          · exact H0.out.1
          · exact H1.out) (by show pairW 3 q9 tl ≠ []; rw [H4.out.1]; intro e; rw [e] at H4; exact hz H4.out.2.symm)
        rw [this]; exact H4.out.1)
      go_wp2
      go_ret
      rw [HE.out]
      exact S4.out.told
    subst hz
    obtain rfl : ws4 = [] := List.eq_nil_of_length_eq_zero H4.out.2
    have K5 := Lib.hid (r9pairs_any w4 (M : Int) A k c tl 4 m9 (.inr ⟨rfl, rfl⟩) (HT.out.below S4.out.below) hn8)
    go_wp2_with fail
    refine K5.out.mono ?_
    rintro e w5 ⟨A5, c5, rfl, o5, b5⟩
    have s5 := S4.out.next o5 b5
    obtain ⟨ws5, h5⟩ : ∃ ws5, pairW 4 m9 tl = ws5 := ⟨_, rfl⟩
    rw [h5] at s5 ⊢
    obtain ⟨L5, hL5⟩ : ∃ L5, ws5.length = L5 := ⟨_, rfl⟩
    rw [hL5] at s5 ⊢
    have S5 := Lib.hid s5
    have H5 := Lib.hid (And.intro h5 hL5)
    obtain ⟨z0, z1⟩ := s5.box
    clear s5 o5 b5 h5 hL5
    by_cases hz : L5 = 0
    case neg =>
      have hz1 : (0 : Int) < L5 := by omega
      have HE := Lib.hid (show wits p (M : Int) tl = ws5 by
        have := HW.out 3 (fun j hj => by
          rcases (show j = 0 ∨ j = 1 ∨ j = 2 by omega) with rfl | rfl | rfl
          · exact H0.out.1
          · exact H1.out
          · exact H4.out.1) (by show pairW 4 m9 tl ≠ []; rw [H5.out.1]; intro e; rw [e] at H5; exact hz H5.out.2.symm)
        rw [this]; exact H5.out.1)
      go_wp2
      go_ret
      rw [HE.out]
      exact S5.out.told
    subst hz
    obtain rfl : ws5 = [] := List.eq_nil_of_length_eq_zero H5.out.2
    have hA := HS.out.below
    clear K3 K5 S4
    go_wp2_with fail
    clear z0 z1
    go_loopw [3, 6] (Ra2 w g Z (M : Int) A k c 5 (lonely tl) M) (fun _ i _ => M - (intOf i).toNat)
    case atStart => exact ⟨0, Nat.zero_le _, rfl, S5.out⟩
    case round =>
      clear S5 HS
      obtain ⟨a, ha, rfl, hst⟩ := hrel
      obtain ⟨Av6, cv6, rfl⟩ := ownK9_form hst.own
      have hlen := vertP_len 5 (lonely tl) a
      obtain ⟨P, hP⟩ : ∃ P, vertP 5 (lonely tl) a = P := ⟨_, rfl⟩
      rw [hP] at hst hlen ⊢
      obtain ⟨L, hL⟩ : ∃ L, P.length = L := ⟨_, rfl⟩
      rw [hL] at hst hlen ⊢
      have HS := Lib.hid hst
      have HP6 := Lib.hid (And.intro hP hL)
      obtain ⟨z0, z1⟩ := hst.box
      clear hst hP hL
      by_cases hlt : a < M
      case pos =>
        have b1 : (a : Int) < M := by omega
        go_wp2_with fail
        clear z0 z1
        go_loopw [7, 8] (Ra3 w g Z (M : Int) A k c tl (a : Int) (.slice Av6 L cv6) P) (fun _ i _ => k - (intOf i).toNat)
        case atStart => exact ⟨0, Nat.zero_le _, rfl, rfl, HS.out⟩
        case round =>
          clear HS
          obtain ⟨j, hj, rfl, rfl, hst⟩ := hrel
          have HS := Lib.hid hst
          obtain ⟨z0, z1⟩ := hst.box
          clear hst
          by_cases hlt : j < k
          case pos =>
            have b2 : (j : Int) < k := by omega
            have hsucc := usd_succ tl (a : Int) j
            obtain ⟨us, hus⟩ : ∃ us, usd tl (a : Int) j = us := ⟨_, rfl⟩
            rw [hus] at hsucc ⊢
            clear hus
            cases us
            · obtain ⟨bA, off, rfl, hat⟩ := (HT.out.below HS.out.below).2 (by omega)
              obtain ⟨c0', c1, c2⟩ := hat j hlt
              clear hat
              obtain ⟨x, hx⟩ : ∃ x, tl.getD j z3 = x := ⟨_, rfl⟩
              rw [hx] at c0' c1 c2 hsucc
              clear hx
              have HU := Lib.hid hsucc
              clear hsucc
              obtain ⟨x0, x1, x2⟩ := x
              have KH := Lib.hid (r9has_any wr x0 x1 x2 (a : Int))
              unfold DecTold at KH
              go_wp2_with fail
              refine KH.out.mono ?_
              rintro e w6 ⟨rfl, b6⟩
              have S6 := Lib.hid (HS.out.up b6)
              clear b6
              go_wp2_with fail
              exact ⟨⟨j + 1, by omega, by go_num, by rw [HU.out]; rfl, S6.out⟩, by simp [intOf]; omega⟩
            · have HU := Lib.hid hsucc
              clear hsucc
              go_wp2_with fail
              exact ⟨⟨j + 1, by omega, by go_num, by rw [HU.out]; rfl, HS.out⟩, by simp [intOf]; omega⟩
          obtain rfl : j = k := by omega
          have b2 : ¬ (j : Int) < j := by omega
          have hlo := usd_lonely tl (a : Int)
          rw [HT.out.1] at hlo
          obtain ⟨us, hus⟩ : ∃ us, usd tl (a : Int) j = us := ⟨_, rfl⟩
          rw [hus] at hlo ⊢
          clear hus
          cases us
          · have HE := Lib.hid (vertP_yes (kd := 5) (q := lonely tl) (a := a) (by rw [hlo]; rfl))
            clear hlo
            go_wp2_with (at_builtin; refine RwSt.wpl HS.out (5, (a : Int), 0) rfl (.tmp 93) (.tmp 96) rfl (by go_simp) rfl (by rw [HP6.out.2]; omega) ?_)
            intro A' c' w9 st9 _
            have ST := Lib.hid st9
            clear st9
            go_wp2_with fail
            refine ⟨⟨a + 1, by omega, by go_num, ?_⟩, by simp [intOf]; omega⟩
            rw [HE.out, HP6.out.1]
            exact ST.out
          · have HE := Lib.hid (vertP_no (kd := 5) (q := lonely tl) (a := a) (by rw [hlo]; rfl))
            clear hlo
            go_wp2_with fail
            refine ⟨⟨a + 1, by omega, by go_num, ?_⟩, by simp [intOf]; omega⟩
            rw [HE.out, HP6.out.1]
            exact HS.out
      obtain rfl : a = M := by omega
      have b1 : ¬ (a : Int) < a := by omega
      have hP6 : vertW 5 (lonely tl) (a : Int) = P := HP6.out.1
      have H6 := Lib.hid hP6
      clear hP6
      by_cases hz : L = 0
      case neg =>
        have hz1 : (0 : Int) < L := by omega
        have HE := Lib.hid (show wits p (a : Int) tl = P by
          have := HW.out 4 (fun j hj => by
            rcases (show j = 0 ∨ j = 1 ∨ j = 2 ∨ j = 3 by omega) with rfl | rfl | rfl | rfl
            · exact H0.out.1
            · exact H1.out
            · exact H4.out.1
            · exact H5.out.1) (by show vertW 5 (lonely tl) _ ≠ []; rw [H6.out]; intro e; rw [e] at HP6; exact hz HP6.out.2.symm)
          rw [this]; exact H6.out)
        go_wp2
        go_ret
        rw [HE.out]
        exact HS.out.told
      subst hz
      obtain rfl : P = [] := List.eq_nil_of_length_eq_zero HP6.out.2
      go_wp2_with fail
      clear z0 z1
      go_loopw [3, 9] (Ra2 w g Z (a : Int) A k c 6 p a) (fun _ i _ => a - (intOf i).toNat)
      case atStart => exact ⟨0, Nat.zero_le _, rfl, HS.out⟩
      case round =>
        clear HS
        obtain ⟨v, hv, rfl, hst⟩ := hrel
        obtain ⟨Av7, cv7, rfl⟩ := ownK9_form hst.own
        have hlen7 := vertP_len 6 p v
        obtain ⟨P, hP⟩ : ∃ P, vertP 6 p v = P := ⟨_, rfl⟩
        rw [hP] at hst hlen7 ⊢
        obtain ⟨L, hL⟩ : ∃ L, P.length = L := ⟨_, rfl⟩
        rw [hL] at hst hlen7 ⊢
        have HS := Lib.hid hst
        have HP7 := Lib.hid (And.intro hP hL)
        obtain ⟨z0, z1⟩ := hst.box
        clear hst hP hL
        by_cases hlt : v < a
        case pos =>
          have b1 : (v : Int) < a := by omega
          have KP := Lib.hid (r9pin_any wr (a : Int) A k c tl (v : Int) p HP.out G1.out (HT.out.below HS.out.below) hn8)
          have hpy := fun h => vertP_yes (kd := 6) (q := p) (a := v) h
          have hpn := fun h => vertP_no (kd := 6) (q := p) (a := v) h
          obtain ⟨pv, hpv⟩ : ∃ pv, p (v : Int) = pv := ⟨_, rfl⟩
          rw [hpv] at KP hpy hpn
          clear hpv
          cases pv
          · have HE := Lib.hid (hpn rfl)
            clear hpy hpn
            go_wp2_with fail
            refine KP.out.mono ?_
            rintro e w6 ⟨rfl, b6⟩
            have S6 := Lib.hid (HS.out.up b6)
            clear b6
            go_wp2_with fail
            refine ⟨⟨v + 1, by omega, by go_num, ?_⟩, by simp [intOf]; omega⟩
            rw [HE.out, HP7.out.1]
            exact S6.out
          · have HE := Lib.hid (hpy rfl)
            clear hpy hpn
            go_wp2_with fail
            refine KP.out.mono ?_
            rintro e w6 ⟨rfl, b6⟩
            have S6 := Lib.hid (HS.out.up b6)
            clear b6
            go_wp2_with (at_builtin; refine RwSt.wpl S6.out (6, (v : Int), 0) rfl (.tmp 111) (.tmp 114) rfl (by go_simp) rfl (by rw [HP7.out.2]; omega) ?_)
            intro A' c' w9 st9 _
            have ST := Lib.hid st9
            clear st9
            go_wp2_with fail
            refine ⟨⟨v + 1, by omega, by go_num, ?_⟩, by simp [intOf]; omega⟩
            rw [HE.out, HP7.out.1]
            exact ST.out
        obtain rfl : v = a := by omega
        have b1 : ¬ (v : Int) < v := by omega
        have HE := Lib.hid (show wits p (v : Int) tl = P by
          by_cases he : P = []
          · rw [he]
            refine stage_none fun j hj => ?_
            rcases (show j = 0 ∨ j = 1 ∨ j = 2 ∨ j = 3 ∨ j = 4 ∨ j = 5 by omega) with rfl | rfl | rfl | rfl | rfl | rfl
            · exact H0.out.1
            · exact H1.out
            · exact H4.out.1
            · exact H5.out.1
            · exact H6.out
            · exact (HP7.out.1).trans he
          · have := HW.out 5 (fun j hj => by
              rcases (show j = 0 ∨ j = 1 ∨ j = 2 ∨ j = 3 ∨ j = 4 by omega) with rfl | rfl | rfl | rfl | rfl
              · exact H0.out.1
              · exact H1.out
              · exact H4.out.1
              · exact H5.out.1
              · exact H6.out) (fun e => he ((HP7.out.1).symm.trans e))
            rw [this]; exact HP7.out.1)
        go_wp2
        go_ret
        rw [HE.out]
        exact HS.out.told
end Go.Proofs.Ytmflacmgffpjoaa
