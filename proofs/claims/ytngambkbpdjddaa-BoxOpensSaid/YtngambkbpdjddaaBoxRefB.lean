/- The document's Fixed and Size (layer 7); rows of bytes side by side. -/
import Derived.Test.YtngambkbpdjddaaBoxRefA
import Derived.Deep.AppendLies
namespace Go.Proofs.Ytngambkbpdjddaa
open Go.RowKit

set_option maxHeartbeats 1600000 in
set_option maxRecDepth 100000 in
theorem r7fixed_any (w : World) (n : Nat) (hn : n ≤ 65535) : Calls Try.prog 43 #[.int .i64 (n : Int)] w (OwnB w 10 (fixedPart n)) := by
  obtain ⟨i0, hi, hz0, hz1, hz2⟩ := info_parts Try.infoU8
  have HI := Lib.hid hi
  have HZ := Lib.hid (And.intro hz0 (And.intro hz1 hz2))
  have B0 := Lib.hid (mk_below w (.cells #[.int .u8 71, .int .u8 89, .int .u8 80, .int .u8 83] 5))
  have O0 := Lib.hid (show (w.alloc (.cells #[.int .u8 71, .int .u8 89, .int .u8 80, .int .u8 83] 5)).ownsRow w.heap.size 5 1 (.slice (some ⟨w.heap.size, 0, none⟩) 4 4) 4 (bts magic) from
    own_of_block (l := magic) (rest := []) (show BRow _ _ _ _ from heap_alloc_new _ _) rfl (Nat.le_refl _) (by decide) rfl (Nat.le_refl _))
  have KP := Lib.hid (fun w' => r7put_any w' 2 n (by omega) (by omega))
  have e0 : IntKind.u64.wrap (n : Int) = (n : Int) := IntWalk.u64_in _ (by omega)
  clear hi hz0 hz1 hz2
  go_enter Try.func43, Try.ntmps43
  go_wp2_with fail
  refine (KP.out _).mono ?_
  rintro e w1 ⟨v1, rfl, o1, b1⟩
  obtain ⟨A1, c1, rfl, hA1, r1⟩ := Reads.of_own o1
  have O1 := Lib.hid (own_keep (S := fun _ => False) O0.out (.of_below b1) (fun _ _ => id))
  have R1 := Lib.hid (And.intro r1 hA1)
  have B1 := Lib.hid (up2 B0.out b1)
  clear o1 b1 r1 hA1
  go_wp2_with (at_builtin; refine wpList_append_reads rfl (.tmp 4) (.tmp 7) 25 rfl w.heap.size 5 i0 (.int .u8 0) 1 Try.underlying25 HI.out HZ.out rfl (.slice (some ⟨w.heap.size, 0, none⟩) 4 4) 4 (bts magic) rfl O1.out A1 2 c1 (bts (digs 2 n)) rfl R1.out.1 R1.out.2 (bts_one _) (by decide) (by decide) B1.out.size ?_)
  intro v2 w2 own2 gr2
  obtain ⟨A2, c2, rfl, _, r2⟩ := Reads.of_own own2
  have O2 := Lib.hid (show w2.ownsRow w.heap.size 5 1 (.slice A2 6 c2) 6 (bts (magic ++ digs 2 n)) by rw [bts_append]; exact own2)
  have B2 := Lib.hid (own_grown_below B1.out gr2 B1.out.size (fun q hq => (own_lt O1.out q hq).1))
  have dm := dig_append dig_magic (dig_digs 2 n)
  have KS := Lib.hid (r7sum_any w2 A2 6 c2 (magic ++ digs 2 n) (by rw [bts_append]; exact r2) dm (by omega))
  have KL := Lib.hid (fun w' => r7low_any w' (crcSum (magic ++ digs 2 n)) (by have := crcSum_lt (magic ++ digs 2 n); omega))
  have HG := Lib.hid (show fixedPart n = (magic ++ digs 2 n) ++ low4 (crcSum (magic ++ digs 2 n)) from rfl)
  generalize hs : crcSum (magic ++ digs 2 n) = s at *
  clear own2 gr2 r2 dm hs
  go_wp2_with fail
  refine KS.out.mono ?_
  rintro e w3 ⟨rfl, rfl⟩
  go_wp2_with fail
  refine (KL.out _).mono ?_
  rintro e w4 ⟨v4, rfl, o4, b4⟩
  obtain ⟨A4, c4, rfl, hA4, r4⟩ := Reads.of_own o4
  have O4 := Lib.hid (own_keep (S := fun _ => False) O2.out (.of_below b4) (fun _ _ => id))
  have R4 := Lib.hid (And.intro r4 hA4)
  have B4 := Lib.hid (up2 B2.out b4)
  clear o4 b4 r4 hA4
  go_wp2_with (at_builtin; refine wpList_append_reads rfl (.tmp 9) (.tmp 12) 25 rfl w.heap.size 5 i0 (.int .u8 0) 1 Try.underlying25 HI.out HZ.out rfl (.slice A2 6 c2) 6 (bts (magic ++ digs 2 n)) rfl O4.out A4 4 c4 (bts (low4 s)) rfl R4.out.1 R4.out.2 (bts_one _) (by decide) (by decide) B4.out.size ?_)
  intro v5 w5 own5 gr5
  have Z := Lib.hid (And.intro (show w5.ownsRow w.heap.size 5 1 v5 10 (bts (fixedPart n)) by rw [HG.out, bts_append]; exact own5) (own_grown_below B4.out gr5 B4.out.size (fun q hq => (own_lt O4.out q hq).1)))
  clear own5 gr5
  go_wp2
  go_ret
  exact ⟨v5, rfl, Z.out.1, Z.out.2⟩

def Size7At (w : World) (n : Nat) (rs : List (List Nat)) (s i : Value) (wr : World) : Prop :=
  w = wr ∧ ∃ k : Nat, k ≤ n ∧ i = .int .i64 (k : Int) ∧ s = .int .i64 (36 + 18 * (n : Int) + ((rs.take k).flatten.length : Nat))
set_option maxHeartbeats 1600000 in
set_option maxRecDepth 100000 in
theorem r7size_any (w : World) (A : Option Addr) (n c : Nat) (xs : List Value) (rs : List (List Nat)) (hx : Reads w A n xs) (hp : Pieces w xs rs) (hn : n ≤ 1000000) (hz : rs.flatten.length ≤ 10000000) :
    Calls Try.prog 42 #[.slice A n c] w fun e w' => e = .returned (.int .i64 (36 + 18 * (n : Int) + (rs.flatten.length : Nat))) ∧ w = w' := by
  have HX := Lib.hid hx
  have HP := Lib.hid hp
  have HL := Lib.hid (show rs.length = n by rw [← hp.1, hx.1])
  have HF := Lib.hid (fun k => flat_le rs k)
  have HZZ := Lib.hid hz
  obtain ⟨N, hN⟩ : ∃ N, rs.flatten.length = N := ⟨_, rfl⟩
  rw [hN]
  have HN := Lib.hid hN
  clear hx hp hz hN
  go_enter Try.func42, Try.ntmps42
  go_wp2_with fail
  go_loopw [3, 4] (Size7At w n rs) (fun _ i _ => n - (intOf i).toNat)
  case atStart => exact ⟨rfl, 0, Nat.zero_le _, rfl, by simp⟩
  case round =>
    obtain ⟨rfl, k, hk, rfl, rfl⟩ := hrel
    by_cases hlt : k < n
    · obtain ⟨ad, Ai, ci, rfl, ck, _, _⟩ := HP.out.cell HX.out k hlt
      have hft := congrArg List.length (flat_take rs k (by rw [HL.out]; exact hlt))
      rw [List.length_append] at hft
      have hfl := HF.out (k + 1)
      have hzz := HZZ.out
      generalize (rs.take k).flatten.length = a at *
      generalize (rs.getD k []).length = m at *
      have HA := Lib.hid hft
      have t1 : (k : Int) < n := by omega
      have t3 : a + m ≤ 10000000 := by omega
      clear hft hfl hzz
      go_wp2_with fail
      exact ⟨⟨rfl, k + 1, by omega, by go_num, by rw [HA.out]; congr 1; omega⟩, by simp [intOf]; omega⟩
    · obtain rfl : k = n := by omega
      have t1 : ¬ (k : Int) < k := by omega
      rw [List.take_of_length_le (by rw [HL.out]; exact Nat.le_refl _), HN.out]
      go_wp2
      go_ret
      exact ⟨rfl, rfl⟩

/-- Four rows of bytes side by side; the first may be turned, the others are read. -/
structure St7 (w W : World) (o : Value) (lo : List Nat) (x : Value) (lx : List Nat) (p : Value) (lp : List Nat) (y : Value) (ly : List Nat) : Prop where
  bel : Below w.heap.size w W
  ho : W.ownsRow w.heap.size 5 1 o lo.length (bts lo)
  hx : W.ownsRow w.heap.size 5 1 x lx.length (bts lx)
  hp : W.ownsRow w.heap.size 5 1 p lp.length (bts lp)
  hy : W.ownsRow w.heap.size 5 1 y ly.length (bts ly)
  apart : ∀ b, o.ownBlock = some b → x.ownBlock ≠ some b ∧ p.ownBlock ≠ some b ∧ y.ownBlock ≠ some b
variable {w W W' : World} {o x p y : Value} {lo lx lp ly : List Nat}
theorem own_up {B n : Nat} {v : Value} {xs : List Value} (h : W.ownsRow B 5 1 v n xs) (b : Below W.heap.size W W') : W'.ownsRow B 5 1 v n xs := own_keep (S := fun _ => False) h (.of_below b) (fun _ _ => id)
theorem St7.call (h : St7 w W o lo x lx p lp y ly) (b : Below W.heap.size W W') : St7 w W' o lo x lx p lp y ly :=
  ⟨up2 h.bel b, own_up h.ho b, own_up h.hx b, own_up h.hp b, own_up h.hy b, h.apart⟩
theorem St7.drew (h : St7 w W o lo x lx p lp y ly) : St7 w W.drew o lo x lx p lp y ly := h.call (Reading.below ⟨1, rfl⟩)
theorem St7.one (h : St7 w W o lo (.slice none 0 0) [] p lp y ly) (kd : Nat) : St7 w (W.alloc (.cells #[.int .u8 (kd : Int)] 5)) o lo (.slice (some ⟨W.heap.size, 0, none⟩) 1 1) [kd] p lp y ly :=
  ⟨up1 h.bel _, own_up h.ho (mk_below _ _), own_one W _ kd h.bel.size, own_up h.hp (mk_below _ _), own_up h.hy (mk_below _ _), fun b hb => ⟨fun e => by have := (own_lt h.ho b hb).2.1; injection e with e; subst e; exact Nat.lt_irrefl _ this, (h.apart b hb).2.1, (h.apart b hb).2.2⟩⟩
theorem own_new {B n : Nat} {v : Value} {xs : List Value} (h : W'.ownsRow W.heap.size 5 1 v n xs) (hB : B ≤ W.heap.size) : W'.ownsRow B 5 1 v n xs := own_base h hB
theorem St7.put (h : St7 w W o lo x lx (.slice none 0 0) [] y ly) (b : Below W.heap.size W W') {v : Value} {l : List Nat} (hv : W'.ownsRow W.heap.size 5 1 v l.length (bts l)) : St7 w W' o lo x lx v l y ly :=
  ⟨up2 h.bel b, own_up h.ho b, own_up h.hx b, own_new hv h.bel.size, own_up h.hy b, fun c hc => ⟨(h.apart c hc).1, fun e => by have := (own_lt h.ho c hc).2.1; have := (own_lt hv c e).1; omega, (h.apart c hc).2.2⟩⟩
theorem St7.low (h : St7 w W o lo x lx p lp (.slice none 0 0) []) (b : Below W.heap.size W W') {v : Value} {l : List Nat} (hv : W'.ownsRow W.heap.size 5 1 v l.length (bts l)) : St7 w W' o lo x lx p lp v l :=
  ⟨up2 h.bel b, own_up h.ho b, own_up h.hx b, own_up h.hp b, own_new hv h.bel.size, fun c hc => ⟨(h.apart c hc).1, (h.apart c hc).2.1, fun e => by have := (own_lt h.ho c hc).2.1; have := (own_lt hv c e).1; omega⟩⟩
theorem St7.app (h : St7 w W o lo x lx p lp y ly) {n m g cap : Nat} {l : List Nat} (hn : lo.length = n) (hl : l.length = m) (hown : W'.ownsRow w.heap.size 5 1 (.slice (some ⟨g, 0, none⟩) (n + m) cap) (n + m) (bts lo ++ bts l)) (hgr : W.grownBy W' o.ownBlock) (hg : o.ownBlock = some g ∨ g = W.heap.size) :
    St7 w W' (.slice (some ⟨g, 0, none⟩) (n + m) cap) (lo ++ l) x lx p lp y ly := by
  have kp : ∀ {v : Value} {n : Nat} {xs : List Value}, W.ownsRow w.heap.size 5 1 v n xs → (∀ b, o.ownBlock = some b → v.ownBlock ≠ some b) → W'.ownsRow w.heap.size 5 1 v n xs := fun hv hne =>
    own_keep (S := fun b => o.ownBlock = some b) hv (Chg.of_grown hgr fun _ e => e) (fun b hb e => hne b e hb)
  refine ⟨own_grown_below h.bel hgr h.bel.size (fun q hq => (own_lt h.ho q hq).1), by rw [List.length_append, hn, hl, bts_append]; exact hown, kp h.hx fun b hb => (h.apart b hb).1, kp h.hp fun b hb => (h.apart b hb).2.1, kp h.hy fun b hb => (h.apart b hb).2.2, fun b hb => ?_⟩
  injection hb with hb
  subst hb
  rcases hg with hg | hg
  · exact h.apart g hg
  · subst hg
    exact ⟨fun e => Nat.lt_irrefl _ (own_lt h.hx _ e).2.1, fun e => Nat.lt_irrefl _ (own_lt h.hp _ e).2.1, fun e => Nat.lt_irrefl _ (own_lt h.hy _ e).2.1⟩
theorem own_some {B n : Nat} {v : Value} {xs : List Value} (h : W.ownsRow B 5 1 v n xs) (h0 : 0 < n) : ∃ q c, v = .slice (some ⟨q, 0, none⟩) n c := by
  rcases own_info h with ⟨_, h1⟩ | ⟨q, c, h1, _⟩
  · omega
  · exact ⟨q, c, h1⟩
theorem own_cells {B n c : Nat} {ad : Addr} {l : List Nat} (h : W.ownsRow B 5 1 (.slice (some ad) n c) n (bts l)) : ∀ j u, (bts l)[j]? = some u → W.cell? (ad.add j) = some u := by
  intro j u hj
  obtain ⟨A, c', hv, _, hr⟩ := Reads.of_own h
  injection hv with h1 _ h3
  subst h1 h3
  have hjn : j < n := by have := (List.getElem?_eq_some_iff.1 hj).1; have := hr.1; omega
  obtain ⟨ad', he, hc⟩ := hr.2 (by omega)
  injection he with he
  subst he
  exact hc j u hj

theorem St7.stepX {ops : Array Oper} {op : Oper} {a : Act} {K : Act → World → Prop} {Q : Exit → Act → World → Prop} {E : Prop} {Av : Option Addr} {n cv m c : Nat} {ad : Addr} {p y : Value}
    (h : St7 w W (.slice Av n cv) lo (.slice (some ad) m c) lx p lp y ly) (hgd : op.guard = none) (s u : Operand)
    (ho : op.op = .call { callee := .builtin .append, args := #[s, u], argTypes := #[25, 25] }) (hs : a.eval s = .slice Av n cv) (hu : a.eval u = .slice (some ad) m c) (hn : lo.length = n) (hm : lx.length = m) (h0 : 0 < m) (hb : n + m ≤ 100000000)
    (k : ∀ g cap W', St7 w W' (.slice (some ⟨g, 0, none⟩) (n + m) cap) (lo ++ lx) (.slice (some ad) m c) lx p lp y ly → K (a.put op.dst (.slice (some ⟨g, 0, none⟩) (n + m) cap)) W') :
    if Region.wanted op (yielded ops a.tmps) = true then Oper.wp Try.prog op a W K Q else E := by
  obtain ⟨i0, hi, hz0, hz1, hz2⟩ := info_parts Try.infoU8
  have hO := h.ho
  rw [hn] at hO
  have hS := h.hx
  rw [hm] at hS
  refine step_append_lies _ hgd s u 25 ho w.heap.size 5 i0 (.int .u8 0) 1 1 Try.underlying25 hi hz0 hz1 hz2 rfl (by decide) (.slice Av n cv) n (bts lo) hs hO ad m c (bts lx) hu (by rw [length_bts, hm, Nat.mul_one]) (own_cells hS) (bts_one _) h0 (by unfold maxLen; omega) (by omega) h.bel.size _ rfl ?_
  intro g cap W' own gr hg _
  exact k g cap W' (h.app hn hm own gr hg)

theorem St7.stepP {ops : Array Oper} {op : Oper} {a : Act} {K : Act → World → Prop} {Q : Exit → Act → World → Prop} {E : Prop} {Av : Option Addr} {n cv m c : Nat} {ad : Addr} {x y : Value}
    (h : St7 w W (.slice Av n cv) lo x lx (.slice (some ad) m c) lp y ly) (hgd : op.guard = none) (s u : Operand)
    (ho : op.op = .call { callee := .builtin .append, args := #[s, u], argTypes := #[25, 25] }) (hs : a.eval s = .slice Av n cv) (hu : a.eval u = .slice (some ad) m c) (hn : lo.length = n) (hm : lp.length = m) (h0 : 0 < m) (hb : n + m ≤ 100000000)
    (k : ∀ g cap W', St7 w W' (.slice (some ⟨g, 0, none⟩) (n + m) cap) (lo ++ lp) x lx (.slice (some ad) m c) lp y ly → K (a.put op.dst (.slice (some ⟨g, 0, none⟩) (n + m) cap)) W') :
    if Region.wanted op (yielded ops a.tmps) = true then Oper.wp Try.prog op a W K Q else E := by
  obtain ⟨i0, hi, hz0, hz1, hz2⟩ := info_parts Try.infoU8
  have hO := h.ho
  rw [hn] at hO
  have hS := h.hp
  rw [hm] at hS
  refine step_append_lies _ hgd s u 25 ho w.heap.size 5 i0 (.int .u8 0) 1 1 Try.underlying25 hi hz0 hz1 hz2 rfl (by decide) (.slice Av n cv) n (bts lo) hs hO ad m c (bts lp) hu (by rw [length_bts, hm, Nat.mul_one]) (own_cells hS) (bts_one _) h0 (by unfold maxLen; omega) (by omega) h.bel.size _ rfl ?_
  intro g cap W' own gr hg _
  exact k g cap W' (h.app hn hm own gr hg)

theorem St7.stepY {ops : Array Oper} {op : Oper} {a : Act} {K : Act → World → Prop} {Q : Exit → Act → World → Prop} {E : Prop} {Av : Option Addr} {n cv m c : Nat} {ad : Addr} {p x : Value}
    (h : St7 w W (.slice Av n cv) lo x lx p lp (.slice (some ad) m c) ly) (hgd : op.guard = none) (s u : Operand)
    (ho : op.op = .call { callee := .builtin .append, args := #[s, u], argTypes := #[25, 25] }) (hs : a.eval s = .slice Av n cv) (hu : a.eval u = .slice (some ad) m c) (hn : lo.length = n) (hm : ly.length = m) (h0 : 0 < m) (hb : n + m ≤ 100000000)
    (k : ∀ g cap W', St7 w W' (.slice (some ⟨g, 0, none⟩) (n + m) cap) (lo ++ ly) x lx p lp (.slice (some ad) m c) ly → K (a.put op.dst (.slice (some ⟨g, 0, none⟩) (n + m) cap)) W') :
    if Region.wanted op (yielded ops a.tmps) = true then Oper.wp Try.prog op a W K Q else E := by
  obtain ⟨i0, hi, hz0, hz1, hz2⟩ := info_parts Try.infoU8
  have hO := h.ho
  rw [hn] at hO
  have hS := h.hy
  rw [hm] at hS
  refine step_append_lies _ hgd s u 25 ho w.heap.size 5 i0 (.int .u8 0) 1 1 Try.underlying25 hi hz0 hz1 hz2 rfl (by decide) (.slice Av n cv) n (bts lo) hs hO ad m c (bts ly) hu (by rw [length_bts, hm, Nat.mul_one]) (own_cells hS) (bts_one _) h0 (by unfold maxLen; omega) (by omega) h.bel.size _ rfl ?_
  intro g cap W' own gr hg _
  exact k g cap W' (h.app hn hm own gr hg)
end Go.Proofs.Ytngambkbpdjddaa
