/- What an encoder holds in memory; narrowing by a symbol, in the words of intervals. -/
import Derived.Test.YtbkjfblmdilchaaDoorCCarry
namespace Go.Proofs.YtbkjfblmdilchaaDoor
open Go.RowKit

theorem Tryd.infoU8 : (Tryd.prog.info? 5).map (fun i => (i.zero, i.size, i.bytes)) = some (some (.int .u8 0), 1, 1) := by kernel_rfl
/-- The part of a symbol. -/
def cut (x : Iv) (c : List Int) (s : Nat) : Iv := part x (tot c) (lowN c s) (cntN c s) (decide (s + 1 = c.length))
/-- By how much L increases. -/
def stp (x : Iv) (c : List Int) (s : Nat) : Nat := lowN c s * (x.R / tot c)
theorem cut_L (x : Iv) (c : List Int) (s : Nat) : (cut x c s).L = x.L + stp x c s := rfl
theorem cut_k (x : Iv) (c : List Int) (s : Nat) : (cut x c s).k = x.k := rfl
theorem come_cut (x : Iv) (c : List Int) (s : Nat) : come x c s = norm 3 (cut x c s) := rfl
theorem stp_cast {x : Iv} {c : List Int} (h : Ok c) (s : Nat) : low c s * ((x.R : Int) / c.sum) = ((stp x c s : Nat) : Int) := by
  rw [stp, Int.natCast_mul, Int.natCast_ediv, low_cast h, tot_cast h]
theorem last_iff {c : List Int} (h : Ok c) (s : Nat) (hs : s < c.length) : low c s + c.getD s 0 = c.sum ↔ s + 1 = c.length := by
  rw [← low_succ]
  constructor
  · intro he
    rcases Nat.lt_or_ge (s + 1) c.length with hlt | hge
    · have h1 := low_succ c (s + 1)
      have h2 := one_at h.one (s + 1) hlt
      have h3 := low_sum h.zero (s + 1 + 1)
      omega
    · omega
  · intro he
    exact low_all c (s + 1) (by omega)
theorem newSz_cast {x : Iv} {c : List Int} (h : Ok c) (s : Nat) (hs : s < c.length) : newSz (x.R : Int) c.sum (low c s) (c.getD s 0) = (((cut x c s).R : Nat) : Int) := by
  have h1 := mul_unit_le (x := x) h s
  have h2 := stp_cast (x := x) h s
  unfold newSz cut part
  by_cases hl : s + 1 = c.length
  · rw [if_pos ((last_iff h s hs).2 hl)]
    simp only [hl, decide_true, if_true]
    rw [h2]
    unfold stp
    omega
  · rw [if_neg (fun e => hl ((last_iff h s hs).1 e))]
    simp only [hl, decide_false, Bool.false_eq_true, if_false]
    rw [Int.natCast_mul, Int.natCast_ediv, cnt_cast h, tot_cast h]
theorem wid_cast (R : Nat) (h0 : 0 < R) (h1 : R ≤ 4294967296) : wid ((R % 4294967296 : Nat) : Int) = (R : Int) := by
  unfold wid; split <;> omega

theorem narrow_iv (w : World) (g : Nat) (t : TypeId) (a : Value) (x : Iv) (rest : List Value) (h : SIs w g t a ((x.L % 4294967296 : Nat) : Int) ((x.R % 4294967296 : Nat) : Int) rest) (h0 : 0 < x.R) (h1 : x.R ≤ 4294967296)
    (gt q cap : Nat) (c : List Int) (ht : TIs w gt q cap c) (ok : Ok c) (s : Nat) (hs : s < c.length) :
    Calls Tryd.prog 28 #[.pointer (some ⟨g, 1, none⟩), .pointer (some ⟨gt, 0, none⟩), .int .i64 (s : Int)] w
      (Narrowed w g t a (((cut x c s).L % 4294967296 : Nat) : Int) (((cut x c s).R % 4294967296 : Nat) : Int) rest ((stp x c s : Nat) : Int)) := by
  have := narrow_any w g t a _ _ rest h (by omega) (by omega) gt q cap c ht ok s hs
  rw [wid_cast _ h0 h1, newSz_cast ok s hs, stp_cast ok s] at this
  rw [cut_L]
  have e : ((x.L % 4294967296 : Nat) + (stp x c s : Nat) : Int) % 4294967296 = (((x.L + stp x c s) % 4294967296 : Nat) : Int) := by omega
  rw [e] at this
  rw [Int.natCast_emod (cut x c s).R]
  exact this

/-- The bytes ahead of the last four. -/
def ahd (x : Iv) : List Nat := digs x.k (x.L / 4294967296)
def up (x : Iv) : Iv := ⟨x.k + 1, x.L * 256, x.R * 256⟩
theorem ahd_up (x : Iv) : ahd (up x) = ahd x ++ [x.L % 4294967296 / 16777216] := by
  unfold ahd up
  show digs (x.k + 1) (x.L * 256 / 4294967296) = _
  rw [digs, show x.L * 256 / 4294967296 / 256 = x.L / 4294967296 by omega, show x.L * 256 / 4294967296 % 256 = x.L % 4294967296 / 16777216 by omega]
theorem length_ahd (x : Iv) : (ahd x).length = x.k := length_digs _ _
theorem dig_ahd (x : Iv) : Dig (ahd x) := dig_digs _ _

/-- An encoder lies in block g, its bytes in the row v. -/
structure EIs (w : World) (B g : Nat) (v : Value) (x : Iv) : Prop where
  sp : SIs w g 62 v ((x.L % 4294967296 : Nat) : Int) ((x.R % 4294967296 : Nat) : Int) []
  row : w.ownsRow B 5 1 v x.k (bts (ahd x))
  low : B ≤ g

theorem own_lt {w : World} {B n : Nat} {t : TypeId} {v : Value} {xs : List Value} (h : w.ownsRow B t 1 v n xs) (q : Nat) (hq : v.ownBlock = some q) : B ≤ q ∧ q < w.heap.size ∧ ∃ cur, w.heap[q]? = some (.cells cur t (0, 0)) := by
  rcases h.2 with ⟨h1, _⟩ | ⟨p, cap, cur, h1, hp, hh, _⟩
  · subst h1; cases hq
  · subst h1
    injection hq with hq
    subst hq
    exact ⟨hp, heap_lt hh, cur, hh⟩
theorem own_keep {S : Nat → Prop} {w w' : World} {B n : Nat} {t : TypeId} {v : Value} {xs : List Value} (h : w.ownsRow B t 1 v n xs) (hc : Chg S w w') (hs : ∀ q, v.ownBlock = some q → ¬ S q) : w'.ownsRow B t 1 v n xs := by
  refine ⟨h.1, ?_⟩
  rcases h.2 with h1 | ⟨p, cap, cur, h1, hp, hh, h3⟩
  · exact .inl h1
  · exact .inr ⟨p, cap, cur, h1, hp, (hc.far p (heap_lt hh) (hs p (by rw [h1]; rfl))).trans hh, h3⟩
theorem EIs.far {w : World} {B g : Nat} {v : Value} {x : Iv} (h : EIs w B g v x) : v.ownBlock ≠ some g := by
  intro e
  obtain ⟨_, _, cur, hc⟩ := own_lt h.row g e
  have := h.sp
  rw [SIs, hc] at this
  injection this with this
  injection this with _ ht
  exact absurd ht (by decide)
theorem EIs.lt {w : World} {B g : Nat} {v : Value} {x : Iv} (h : EIs w B g v x) : g < w.heap.size := h.sp.lt
theorem EIs.keep {S : Nat → Prop} {w w' : World} {B g : Nat} {v : Value} {x : Iv} (h : EIs w B g v x) (hc : Chg S w w') (hg : ¬ S g) (hs : ∀ q, v.ownBlock = some q → ¬ S q) : EIs w' B g v x :=
  ⟨h.sp.keep hc hg, own_keep h.row hc hs, h.low⟩
theorem EIs.below {w w' : World} {B g : Nat} {v : Value} {x : Iv} (h : EIs w B g v x) (hb : Below w.heap.size w w') : EIs w' B g v x :=
  h.keep (S := fun _ => False) (.of_below hb) id (fun _ _ => id)
theorem EIs.read {w w' : World} {B g : Nat} {v : Value} {x : Iv} (h : EIs w B g v x) (hb : Reading w w') : EIs w' B g v x := h.below hb.below

theorem Chg.trans' {S T : Nat → Prop} {w w1 w2 : World} (h : Chg S w w1) (k : Chg T w1 w2) (ht : ∀ b, b < w.heap.size → T b → S b) : Chg S w w2 :=
  ⟨k.os.trans h.os, k.tape.trans h.tape, k.output.trans h.output, Nat.le_trans h.size k.size, fun b hb hs => (k.far b (Nat.lt_of_lt_of_le hb h.size) fun hx => hs (ht b hb hx)).trans (h.far b hb hs)⟩
/-- The row v' is v's or a new one. -/
def Mvd (w : World) (v v' : Value) : Prop := ∀ q, v'.ownBlock = some q → v.ownBlock = some q ∨ w.heap.size ≤ q
theorem Mvd.refl (w : World) (v : Value) : Mvd w v v := fun _ h => .inl h
theorem Mvd.trans {w w1 : World} {v v1 v2 : Value} (h : Mvd w v v1) (hs : w.heap.size ≤ w1.heap.size) (k : Mvd w1 v1 v2) : Mvd w v v2 := fun q hq => by
  rcases k q hq with k | k
  · exact h q k
  · exact .inr (by omega)
/-- What an encoder's call may turn. -/
def ESet (g : Nat) (v : Value) (b : Nat) : Prop := b = g ∨ v.ownBlock = some b
/-- An encoder went on. -/
def Went (w : World) (B g : Nat) (v : Value) (x : Iv) (w' : World) : Prop := ∃ v', EIs w' B g v' x ∧ Chg (ESet g v) w w' ∧ Mvd w v v'
theorem Went.below {w w' : World} {B g : Nat} {v : Value} {x y : Iv} (h : Went w B g v x w') (h0 : EIs w B g v y) : Below B w w' := by
  obtain ⟨v', _, hc, _⟩ := h
  refine hc.below (by have := h0.lt; have := h0.low; omega) ?_
  rintro b (rfl | hb)
  · exact h0.low
  · exact (own_lt h0.row b hb).1

/-- The row of an encoder lies in a block, once there are bytes. -/
theorem own_block {w : World} {B n : Nat} {v : Value} {l : List Nat} (h : w.ownsRow B 5 1 v n (bts l)) (hn : 0 < n) : ∃ q cap rest, v = .slice (some ⟨q, 0, none⟩) n cap ∧ BRow w q l rest ∧ n ≤ cap ∧ cap ≤ maxLen ∧ (bts l ++ rest).length = cap ∧ B ≤ q := by
  rcases h.2 with ⟨_, h1⟩ | ⟨q, cap, cur, h1, hq, hh, hc, hm, hs, ht⟩
  · omega
  · refine ⟨q, cap, cur.toList.drop n, h1, ?_, hc, hm, ?_, hq⟩
    · rw [BRow, hh, ← ht, Nat.mul_one, List.take_append_drop, Array.toArray_toList]
    · rw [← ht, Nat.mul_one, List.take_append_drop, Array.length_toList]
      omega
theorem own_of_block {w : World} {B n q cap : Nat} {l : List Nat} {rest : List Value} (h : BRow w q l rest) (hl : l.length = n) (hc : n ≤ cap) (hm : cap ≤ maxLen) (hs : (bts l ++ rest).length = cap) (hq : B ≤ q) : w.ownsRow B 5 1 (.slice (some ⟨q, 0, none⟩) n cap) n (bts l) := by
  refine ⟨by rw [length_bts]; omega, .inr ⟨q, cap, _, rfl, hq, h, hc, hm, ?_, ?_⟩⟩
  · rw [List.size_toArray]; omega
  · rw [List.toList_toArray, Nat.mul_one, List.take_append_of_le_length (by rw [length_bts]; omega), List.take_of_length_le (by rw [length_bts]; omega)]
theorem norm_small (t : Nat) (x : Iv) (h : x.R < 16777216) : norm (t + 1) x = norm t (up x) := by rw [norm, if_pos h]; rfl
theorem norm_big (t : Nat) (x : Iv) (h : 16777216 ≤ x.R) : norm t x = x := by
  cases t with
  | zero => rfl
  | succ t => rw [norm, if_neg (by omega)]
end Go.Proofs.YtbkjfblmdilchaaDoor
