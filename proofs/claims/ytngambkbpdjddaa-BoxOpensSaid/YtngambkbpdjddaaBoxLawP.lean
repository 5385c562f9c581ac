/- pack of the law of layer 7: the document's container of chunks. -/
import Derived.Test.YtngambkbpdjddaaBoxRefP
import Derived.Test.YtngambkbpdjddaaStepRow
namespace Go.Proofs.Ytngambkbpdjddaa
open Go.RowKit

/-- The kinds and the data, side by side. -/
structure Two7 (w W : World) (o : Value) (lo : List Nat) (x : Value) (lx : List Value) : Prop where
  bel : Below w.heap.size w W
  ho : W.ownsRow w.heap.size 5 1 o lo.length (bts lo)
  hx : W.ownsRow w.heap.size 25 1 x lx.length lx
theorem own_upT {W W' : World} {B n : Nat} {t : TypeId} {v : Value} {xs : List Value} (h : W.ownsRow B t 1 v n xs) (b : Below W.heap.size W W') : W'.ownsRow B t 1 v n xs := own_keep (S := fun _ => False) h (.of_below b) (fun _ _ => id)
theorem Two7.call {w W W' : World} {o x : Value} {lo : List Nat} {lx : List Value} (h : Two7 w W o lo x lx) (b : Below W.heap.size W W') : Two7 w W' o lo x lx := ⟨up2 h.bel b, own_upT h.ho b, own_upT h.hx b⟩
theorem Two7.drew {w W : World} {o x : Value} {lo : List Nat} {lx : List Value} (h : Two7 w W o lo x lx) : Two7 w W.drew o lo x lx := h.call (Reading.below ⟨1, rfl⟩)
theorem own_far {W W' : World} {B n m : Nat} {s t : TypeId} {v u : Value} {xs ys : List Value} (hne : s ≠ t) (h : W.ownsRow B s 1 v n xs) (k : W.ownsRow B t 1 u m ys) (hgr : W.grownBy W' u.ownBlock) : W'.ownsRow B s 1 v n xs :=
  own_keep (S := fun b => u.ownBlock = some b) h (Chg.of_grown hgr fun _ e => e) (fun b hb e => by
    obtain ⟨_, _, cs, h1⟩ := own_lt k b e
    exact own_neT h h1 (fun h => hne h.symm) hb)
theorem Two7.stepO {w W : World} {o x : Value} {lo : List Nat} {lx : List Value} {ops : Array Oper} {op : Oper} {a : Act} {K : Act → World → Prop} {Q : Exit → Act → World → Prop} {E : Prop} {n : Nat} {q d : Nat}
    (h : Two7 w W o lo x lx) (hq : W.heap[q]? = some (.cells #[.int .u8 (d : Int)] 5 (0, 0))) (hgd : op.guard = none) (s u : Operand)
    (ho : op.op = .call { callee := .builtin .append, args := #[s, u], argTypes := #[25, 25] }) (hs : a.eval s = o) (hu : a.eval u = .slice (some ⟨q, 0, none⟩) 1 1) (hn : lo.length = n) (hb : n + 1 ≤ 100000000)
    (k : ∀ v W', Two7 w W' v (lo ++ [d]) x lx → Below w.heap.size w W' → W.grownBy W' o.ownBlock → K (a.put op.dst v) W') :
    if Region.wanted op (yielded ops a.tmps) = true then Oper.wp Try.prog op a W K Q else E := by
  obtain ⟨i0, hi, hz0, hz1, hz2⟩ := info_parts Try.infoU8
  have hO := h.ho
  rw [hn] at hO
  have hr := Reads.of_block (xs := [.int .u8 (d : Int)]) hq
  refine step_append_row hgd s u 25 ho w.heap.size 5 i0 (.int .u8 0) 1 Try.underlying25 hi ⟨hz0, hz1, hz2⟩ rfl o n (bts lo) hs hO ⟨q, 0, none⟩ 1 1 (bts [d]) hu rfl (fun j v hj => ?_) (bts_one _) (by unfold maxLen; omega) (by omega) h.bel.size ?_
  · obtain ⟨ad, he, hc⟩ := hr.2 (by simp)
    injection he with he
    subst he
    exact hc j v hj
  · intro v W' own gr
    have hb' := own_grown_below h.bel gr h.bel.size (fun q hq => (own_lt hO q hq).1)
    exact k v W' ⟨hb', by rw [List.length_append, hn, bts_append]; exact own, own_far (by decide) h.hx hO gr⟩ hb' gr
theorem Two7.stepX {w W : World} {o x : Value} {lo : List Nat} {lx : List Value} {ops : Array Oper} {op : Oper} {a : Act} {K : Act → World → Prop} {Q : Exit → Act → World → Prop} {E : Prop} {n : Nat} {q : Nat} {A : Option Addr} {m c : Nat}
    (h : Two7 w W o lo x lx) (hq : W.heap[q]? = some (.cells #[.slice A m c] 25 (0, 0))) (hgd : op.guard = none) (s u : Operand)
    (ho : op.op = .call { callee := .builtin .append, args := #[s, u], argTypes := #[54, 54] }) (hs : a.eval s = x) (hu : a.eval u = .slice (some ⟨q, 0, none⟩) 1 1) (hn : lx.length = n) (hb : n + 1 ≤ 100000000)
    (k : ∀ v W', Two7 w W' o lo v (lx ++ [.slice A m c]) → Below w.heap.size w W' → W.grownBy W' x.ownBlock → K (a.put op.dst v) W') :
    if Region.wanted op (yielded ops a.tmps) = true then Oper.wp Try.prog op a W K Q else E := by
  obtain ⟨i0, hi, hz0, hz1, hz2⟩ := info_parts Try.infoBytes
  have hO := h.hx
  rw [hn] at hO
  have hr := Reads.of_block (xs := [.slice A m c]) hq
  refine step_append_row hgd s u 54 ho w.heap.size 25 i0 (.slice none 0 0) 24 Try.underlying54 hi ⟨hz0, hz1, hz2⟩ rfl x n lx hs hO ⟨q, 0, none⟩ 1 1 [.slice A m c] hu rfl (fun j v hj => ?_) (fun v hv => by simp at hv; subst hv; rfl) (by unfold maxLen; omega) (by omega) h.bel.size ?_
  · obtain ⟨ad, he, hc⟩ := hr.2 (by simp)
    injection he with he
    subst he
    exact hc j v hj
  · intro v W' own gr
    have hb' := own_grown_below h.bel gr h.bel.size (fun q hq => (own_lt hO q hq).1)
    exact k v W' ⟨hb', own_far (by decide) h.ho hO gr, by rw [List.length_append, hn]; exact own⟩ hb' gr

theorem blk1 (w : World) (a b : Obj) : ((w.alloc a).alloc b).heap[w.heap.size]? = some a := ((mk_below (w.alloc a) b).block _ (by simp)).trans (heap_alloc_last w a)
theorem blk2 (w : World) (a b : Obj) : ((w.alloc a).alloc b).heap[w.heap.size + 1]? = some b := by
  have := heap_alloc_last (w.alloc a) b
  rwa [show (w.alloc a).heap.size = w.heap.size + 1 by simp] at this
theorem kept7 {W W' : World} {B n q : Nat} {s t : TypeId} {u : Value} {ys : List Value} {cs : Array Value} (hne : t ≠ s) (k : W.ownsRow B s 1 u n ys) (hgr : W.grownBy W' u.ownBlock) (hq : W.heap[q]? = some (.cells cs t (0, 0))) : W'.heap[q]? = some (.cells cs t (0, 0)) :=
  (hgr.block q (heap_lt hq) (fun e => own_neT k hq hne e.symm)).trans hq
def LPackAt (w : World) (n : Nat) (cs : List (Nat × List Nat)) (o x i : Value) (wr : World) : Prop :=
  ∃ (k : Nat) (xs : List Value), k ≤ n ∧ i = .int .i64 (k : Int) ∧ Two7 w wr o ((cs.take k).map (·.1)) x xs ∧ xs.length = k ∧ Pieces w xs ((cs.take k).map (·.2))
theorem map_take_succ {β : Type} (f : Nat × List Nat → β) (cs : List (Nat × List Nat)) (k : Nat) (h : k < cs.length) : (cs.take (k + 1)).map f = (cs.take k).map f ++ [f (cs.getD k (0, []))] := by
  rw [List.take_succ_eq_append_getElem h, List.getD_eq_getElem?_getD, List.getElem?_eq_getElem h, List.map_append]
  rfl

set_option maxHeartbeats 6400000 in
set_option maxRecDepth 100000 in
theorem lpack_any (w : World) (A : Option Addr) (n c : Nat) (cs : List (Nat × List Nat)) (h : Chunks w A n cs) (hd : DigC cs) (hsm : Small cs) :
    Calls Try.prog 14 #[.slice A n c] w (OwnB w (boxB cs).length (boxB cs)) := by
  have HS := Lib.hid h
  have HD := Lib.hid hd
  have HM := Lib.hid hsm
  have hl := h.len
  have hn : n ≤ 12 := by have := hsm.1; omega
  clear h hd hsm hl
  go_enter Try.func14, Try.ntmps14
  go_wp2_with fail
  go_loopw [3, 4, 5] (LPackAt w n cs) (fun _ _ i _ => n - (intOf i).toNat)
  case atStart => exact ⟨0, [], Nat.zero_le _, rfl, ⟨Below.refl _ _, World.ownsRow_nil _ _ _ _, World.ownsRow_nil _ _ _ _⟩, rfl, Pieces.nil w⟩
  case round =>
    obtain ⟨k, xs, hk, rfl, h2, hxl, hp⟩ := hrel
    by_cases hlt : k < n
    · have hkl : k < cs.length := by rw [HS.out.len]; exact hlt
      obtain ⟨b, off, rfl⟩ := HS.out.ad (by omega)
      obtain ⟨Ai, ci, c0, c1, hA, hm9, hr⟩ := HS.out.at k hlt
      have hb0 := World.block_lt_of_cell? _ _ c0
      have e1 := map_take_succ (·.1) cs k hkl
      have e2 := map_take_succ (·.2) cs k hkl
      have hlk : ((cs.take k).map (·.1)).length = k := by simp; omega
      generalize cs.getD k (0, []) = x at *
      obtain ⟨kd, dt⟩ := x
      obtain ⟨m, hm⟩ : ∃ m, dt.length = m := ⟨_, rfl⟩
      simp only [hm] at c1 hr hm9
      simp only at c0 e1 e2
      have HC := Lib.hid (fun W (b' : Below w.heap.size w W) => And.intro ((b'.cell (p := ⟨b, off + k * 2, none⟩) hb0).trans c0) ((b'.cell (p := ⟨b, off + k * 2 + 1, none⟩) hb0).trans c1))
      have hp' := hp.snoc hA hr
      rw [← e2] at hp'
      have d0 : wr.drew.cell? ⟨b, off + k * 2, none⟩ = some (.int .u8 (kd : Int)) := (HC.out _ h2.drew.bel).1
      have d1 : wr.drew.cell? ⟨b, off + k * 2 + 1, none⟩ = some (.slice Ai m ci) := (HC.out _ h2.drew.bel).2
      have HP := Lib.hid (And.intro hp' (And.intro e1 (And.intro hxl hlk)))
      have b1 : (k : Int) < n := by omega
      generalize (cs.take k).map (·.1) = lo at *
      obtain ⟨Ao, co, rfl, _, _⟩ := Reads.of_own h2.ho
      obtain ⟨Ax, cx, rfl, _, _⟩ := Reads.of_own h2.hx
      rw [hlk] at h2
      clear hp hp' e1 e2 hr hA hm
      go_wp2_with fail
      go_region_held3 (fun w' => w'.cell? ⟨b, off + k * 2, none⟩ = some (.int .u8 (kd : Int)) ∧ w'.cell? ⟨b, off + k * 2 + 1, none⟩ = some (.slice Ai m ci))
        (first | exact ⟨d0, d1⟩ | exact HC.out _ b7 | exact HC.out _ b8 | exact HC.out _ (up1 b7 _) | exact HC.out _ (upd (up1 h2.bel _)) | exact HC.out _ (upd (up1 (up1 h2.bel _) _)) | fail)
        (first
          | (refine Two7.stepO (h2.call (mk_below wr (.cells #[.int .u8 (kd : Int)] 5))).drew (heap_alloc_last wr (.cells #[.int .u8 (kd : Int)] 5)) (by rfl) (.tmp 14) (.tmp 20) (by rfl) (by go_simp) (by go_simp) HP.out.2.2.2 (by omega) ?_; intro v7 W7 t7 b7 g7; skip)
          | (refine Two7.stepO ((h2.call (mk_below wr (.cells #[.int .u8 (kd : Int)] 5))).call (mk_below _ (.cells #[.slice Ai m ci] 25))).drew (blk1 wr (.cells #[.int .u8 (kd : Int)] 5) (.cells #[.slice Ai m ci] 25)) (by rfl) (.tmp 14) (.tmp 20) (by rfl) (by go_simp) (by go_simp) HP.out.2.2.2 (by omega) ?_; intro v7 W7 t7 b7 g7; have k2 := kept7 (by decide) ((h2.call (mk_below wr (.cells #[.int .u8 (kd : Int)] 5))).call (mk_below _ (.cells #[.slice Ai m ci] 25))).drew.ho g7 (blk2 wr (.cells #[.int .u8 (kd : Int)] 5) (.cells #[.slice Ai m ci] 25)))
          | (refine Two7.stepO ((h2.call (mk_below wr (.cells #[.slice Ai m ci] 25))).call (mk_below _ (.cells #[.int .u8 (kd : Int)] 5))).drew (blk2 wr (.cells #[.slice Ai m ci] 25) (.cells #[.int .u8 (kd : Int)] 5)) (by rfl) (.tmp 14) (.tmp 20) (by rfl) (by go_simp) (by go_simp) HP.out.2.2.2 (by omega) ?_; intro v7 W7 t7 b7 g7; have k2 := kept7 (by decide) ((h2.call (mk_below wr (.cells #[.slice Ai m ci] 25))).call (mk_below _ (.cells #[.int .u8 (kd : Int)] 5))).drew.ho g7 (blk1 wr (.cells #[.slice Ai m ci] 25) (.cells #[.int .u8 (kd : Int)] 5)))
          | (refine Two7.stepX (t7.call (mk_below _ (.cells #[.slice Ai m ci] 25))) (heap_alloc_last _ (.cells #[.slice Ai m ci] 25)) (by rfl) (.tmp 22) (.tmp 28) (by rfl) (by go_simp) (by go_simp) HP.out.2.2.1 (by omega) ?_; intro v8 W8 t8 b8 g8; skip)
          | (refine Two7.stepX t7 k2 (by rfl) (.tmp 22) (.tmp 28) (by rfl) (by go_simp) (by go_simp) HP.out.2.2.1 (by omega) ?_; intro v8 W8 t8 b8 g8; skip)
          | fail)
      all_goals
        have Z := Lib.hid t8
        clear t8 t7 b7 b8 g7 g8
        go_wp2_with fail
        refine ⟨⟨k + 1, _, by omega, by go_num, ?_, ?_, HP.out.1⟩, by simp [intOf]; omega⟩
        · rw [HP.out.2.1]; exact Z.out
        · rw [List.length_append, HP.out.2.2.1]; rfl
    · obtain rfl : k = n := by omega
      have b1 : ¬ (k : Int) < k := by omega
      rw [List.take_of_length_le (by rw [HS.out.len]; exact Nat.le_refl _)] at h2 hp
      have hll := HS.out.len
      obtain ⟨Ao, co, rfl, _, ro⟩ := Reads.of_own h2.ho
      obtain ⟨Ax, cx, rfl, _, rx⟩ := Reads.of_own h2.hx
      have hsm := HM.out
      have hof := offs_bound hsm.2 cs.length (Nat.le_refl _)
      have hda := offs_all cs
      rw [show (cs.map (·.1)).length = k by simp [hll]] at ro ⊢
      rw [hxl] at rx ⊢
      have KP := Lib.hid (r7pack_any wr Ao k co Ax cx xs cs ro rx (hp.below h2.bel) HD.out (by omega) (fun x hx => by have := hsm.2 x hx; omega) (by omega))
      have HB := Lib.hid h2.bel
      clear h2 hp ro rx hsm hof hda hll
      go_wp2_with fail
      refine KP.out.mono ?_
      rintro e w8 ⟨v8, rfl, o8, b8⟩
      have Z := Lib.hid (And.intro (own_base o8 HB.out.size) (up2 HB.out b8))
      clear o8 b8
      go_wp2
      go_ret
      exact ⟨v8, rfl, Z.out.1, Z.out.2⟩
end Go.Proofs.Ytngambkbpdjddaa
