/- Layer 9: the map of directed edges, made once. -/
import Derived.Test.YtelbmjbjpgcdaaaCeEdge
import Derived.Test.YtelbmjbjpgcdaaaCeMap
namespace Go.Proofs.Ytelbmjbjpgcdaaa
open Go.RowKit

/-- The directed edges of the triangles, one by one, each with its triangle: the first m. -/
def edL (tl : List Tr) (m : Nat) : List (Ed × Int) := (List.range m).map fun j => (edE (tl.getD (j / 3) z3) (j % 3), ((j / 3 : Nat) : Int))
theorem edL_succ (tl : List Tr) (a k : Nat) (hk : k < 3) : edL tl (3 * a + k + 1) = edL tl (3 * a + k) ++ [(edE (tl.getD a z3) k, (a : Int))] := by
  unfold edL
  rw [List.range_succ, List.map_append, List.map_singleton, show (3 * a + k) / 3 = a by omega, show (3 * a + k) % 3 = k by omega]
theorem edL_len (tl : List Tr) (m : Nat) : (edL tl m).length = m := by simp [edL]

/-- The state while the map is filled. -/
structure EdSt (w wr : World) (g b : Nat) (N : Int) (A : Option Addr) (n c : Nat) (L : List (Ed × Int)) : Prop where
  lb : wr.heap[g]? = some (.cells #[.int .i64 N, .slice A n c, .map (some b)] 56 (0, 0))
  mp : MapL wr b L
  bw : w.heap.size ≤ b
  gb : g < w.heap.size
  chg : Chg (fun x => x = g) w wr
theorem EdSt.below {w wr w' : World} {g b : Nat} {N : Int} {A : Option Addr} {n c : Nat} {L : List (Ed × Int)} (h : EdSt w wr g b N A n c L) (hb : Below wr.heap.size wr w') : EdSt w w' g b N A n c L :=
  ⟨(hb.block g (heap_lt h.lb)).trans h.lb, h.mp.kept (hb.block b h.mp.lt), h.bw, h.gb, h.chg.trans (.of_below hb)⟩
theorem EdSt.put {w wr w' : World} {g b : Nat} {N : Int} {A : Option Addr} {n c : Nat} {L L' : List (Ed × Int)} (h : EdSt w wr g b N A n c L) (hg : wr.grownBy w' (some b)) (hm : MapL w' b L') : EdSt w w' g b N A n c L' :=
  ⟨(hg.block g (heap_lt h.lb) (fun e => by have := Option.some.inj e; have := h.bw; have := h.gb; omega)).trans h.lb, hm, h.bw, h.gb,
   h.chg.trans' (.of_grown (S := fun x => x = b) hg fun x hx => (Option.some.inj hx).symm) fun x hx e => by have := h.bw; omega⟩
theorem grown_cell {w w' : World} {b q o : Nat} {v : Value} (hg : w.grownBy w' (some b)) (hq : q ≠ b) (h : w.cell? ⟨q, o, none⟩ = some v) : w'.cell? ⟨q, o, none⟩ = some v := by
  have e := hg.block q (World.block_lt_of_cell? w _ h) (fun e => hq (Option.some.inj e))
  rw [← h]
  simp only [World.cell?, e]
def EdOut (w : World) (g b : Nat) (N : Int) (A : Option Addr) (n c : Nat) (tl : List Tr) (i : Value) (wr : World) : Prop := ∃ k : Nat, k ≤ n ∧ i = .int .i64 (k : Int) ∧ EdSt w wr g b N A n c (edL tl (3 * k))
def EdIn (w : World) (g b r : Nat) (N : Int) (A : Option Addr) (n c : Nat) (tl : List Tr) (k : Nat) (x : Tr) (j : Value) (wr : World) : Prop := ∃ m : Nat, m ≤ 3 ∧ j = .int .i64 (m : Int) ∧ EdSt w wr g b N A n c (edL tl (3 * k + m)) ∧ wr.heap[r]? = some (.cells #[.int .i64 x.1, .int .i64 x.2.1, .int .i64 x.2.2] 41 (0, 0)) ∧ r ≠ b
def EdgesMade (w : World) (g : Nat) (N : Int) (A : Option Addr) (n c : Nat) (tl : List Tr) (e : Ending) (w' : World) : Prop := ∃ b, e = .returned (.map (some b)) ∧ EdSt w w' g b N A n c (edL tl (3 * n))

theorem eqlIn_nilmap (d : Nat) (w : World) (m : Option Nat) : (Op.equalIn (d + 1) 54 (.map m) (.map none)).run Try.prog w = .ok m.isNone w := by
  cases m <;> simp [Op.equalIn, run_underlying Try.underlying54]
theorem eql_nilmap (w : World) (m : Option Nat) : (binOp .eql 54 (.map m) (.map none)).run Try.prog w = .ok (.bool m.isNone) w := by
  have h : (Op.equal 54 (.map m) (.map none)).run Try.prog w = .ok m.isNone w := eqlIn_nilmap 9999 w m
  simp [binOp, h]
theorem make_sized (w : World) (k : Int) : (Instr.makeMap 54 (some (.int .i64 k))).run Try.prog w = .ok (.map (some w.heap.size)) (w.alloc (.map #[] 0)) := by
  simp [Instr.makeMap, run_underlying Try.underlying54, asInt, asIntOf]
set_option maxHeartbeats 400000 in
set_option maxRecDepth 100000 in
theorem cedges_set (w : World) (g b : Nat) (N : Int) (A : Option Addr) (n c : Nat) (h : w.heap[g]? = some (.cells #[.int .i64 N, .slice A n c, .map (some b)] 56 (0, 0))) :
    Calls Try.prog 42 #[.pointer (some ⟨g, 0, none⟩)] w fun e w' => e = .returned (.map (some b)) ∧ w' = w := by
  have c2 : w.cell? ⟨g, 2, none⟩ = some (.map (some b)) := by rw [cell_in h]; rfl
  have q := eql_nilmap w (some b)
  clear h
  go_enter Try.func42, Try.ntmps42
  go_wp2
  go_ret
  exact ⟨rfl, rfl⟩

theorem wf_in {x N : Int} (h : inN N x) (hN : N ≤ 4096) : (Lit.int .i64 x).wf = true := WalkArith.wf_i64 (by have := h.1; have := h.2; omega)
theorem edE_wf {N : Int} {x : Tr} (h : inN N x.1 ∧ inN N x.2.1 ∧ inN N x.2.2) (hN : N ≤ 4096) (k : Nat) : wfE (edE x k) := by
  obtain ⟨h0, h1, h2⟩ := h
  unfold edE
  split
  · exact ⟨wf_in h0 hN, wf_in h1 hN⟩
  · split
    · exact ⟨wf_in h1 hN, wf_in h2 hN⟩
    · exact ⟨wf_in h2 hN, wf_in h0 hN⟩
set_option maxHeartbeats 8000000 in
set_option maxRecDepth 100000 in
theorem cedges_make (w : World) (g : Nat) (N : Int) (A : Option Addr) (n c : Nat) (tl : List Tr) (h : w.heap[g]? = some (.cells #[.int .i64 N, .slice A n c, .map none] 56 (0, 0))) (ht : T3 w A n tl) (hn : n ≤ 8192) (hN : N ≤ 4096)
    (hin : ∀ t ∈ tl, inN N t.1 ∧ inN N t.2.1 ∧ inN N t.2.2) (hA : 0 < n → ∀ b off, A = some ⟨b, off, none⟩ → b ≠ g) : Calls Try.prog 42 #[.pointer (some ⟨g, 0, none⟩)] w (EdgesMade w g N A n c tl) := by
  have c1 : w.cell? ⟨g, 1, none⟩ = some (.slice A n c) := by rw [cell_in h]; rfl
  have c2 : w.cell? ⟨g, 2, none⟩ = some (.map none) := by rw [cell_in h]; rfl
  have f2 := frozen_in h 2
  have qn := eql_nilmap w none
  have hmk := fun W => make_sized W (3 * (n : Int))
  have e3 : IntKind.i64.wrap (3 * (n : Int)) = 3 * (n : Int) := IntWalk.i64_in _ (by omega)
  have b0 := (Below.refl _ w).alloc (Nat.le_refl _) (.map #[] 0)
  obtain ⟨b, hb⟩ : ∃ b, w.heap.size = b := ⟨_, rfl⟩
  obtain ⟨w1, hw1⟩ : ∃ w1, w.alloc (.map #[] 0) = w1 := ⟨_, rfl⟩
  have m0 := MapL.made w
  have hgb := heap_lt h
  have h1 := (b0.block g hgb).trans h
  have f1 := frozen_in h1 2
  have c3 : (w.alloc (.map #[] 0)).cell? ⟨g, 2, none⟩ = some (.map none) := by rw [cell_in h1]; rfl
  have h2 := heap_set h1 2 (.map (some w.heap.size))
  have m1 : MapL ((w.alloc (.map #[] 0)).setCell ⟨g, 2, none⟩ (.map (some w.heap.size))) w.heap.size [] := m0.kept (Below.heap_setCell _ _ _ _ (Ne.symm (Nat.ne_of_lt hgb)))
  have st0 : EdSt w ((w.alloc (.map #[] 0)).setCell ⟨g, 2, none⟩ (.map (some w.heap.size))) g w.heap.size N A n c (edL tl (3 * 0)) :=
    ⟨by rw [h2]; simp, m1, Nat.le_refl _, hgb, (Chg.of_below b0).set _ _ rfl⟩
  rw [hw1, hb] at st0
  rw [hw1] at f1 c3
  obtain ⟨w2, hw2⟩ : ∃ w2, w1.setCell ⟨g, 2, none⟩ (.map (some b)) = w2 := ⟨_, rfl⟩
  rw [hw2] at st0
  have c4 : w2.cell? ⟨g, 1, none⟩ = some (.slice A n c) := by rw [cell_in st0.lb]; rfl
  have ST := Lib.hid st0
  have HT := Lib.hid ht
  have HI := Lib.hid hin
  have HA := Lib.hid (show 0 < n → ∀ bk off, A = some ⟨bk, off, none⟩ → ¬ bk = g from hA)
  clear ht hin hA h m0 m1 h1 h2 st0 b0 hgb
  go_enter Try.func42, Try.ntmps42
  go_wp2_with fail
  clear hw2 hw1 hb c1 c2 c3 c4 f1 f2 qn hmk e3
  go_loopw [28] (EdOut w g b N A n c tl) (fun i _ => n - (intOf i).toNat)
  case atStart => exact ⟨0, Nat.zero_le _, rfl, ST.out⟩
  case round =>
    obtain ⟨k, hk, rfl, hst⟩ := hrel
    by_cases hlt : k < n
    · have b1 : (k : Int) < n := by omega
      obtain ⟨bA, off, rfl, hat⟩ := (HT.out.chg hst.chg HA.out).2 (by omega)
      obtain ⟨c0, c1, c2⟩ := hat k hlt
      clear hat
      obtain ⟨x, hx⟩ : ∃ x, tl.getD k z3 = x := ⟨_, rfl⟩
      rw [hx] at c0 c1 c2
      have hin := HI.out _ (show x ∈ tl by rw [← hx]; exact getD3_mem (by rw [HT.out.1]; exact hlt))
      have HX := Lib.hid (And.intro hx hin)
      clear hx hin
      obtain ⟨x0, x1, x2⟩ := x
      obtain ⟨w3, hw3⟩ : ∃ w3, wr.alloc (.cells #[.int .i64 x0, .int .i64 x1, .int .i64 x2] 41) = w3 := ⟨_, rfl⟩
      have b3 : Below wr.heap.size wr w3 := by rw [← hw3]; exact (Below.refl _ wr).alloc (Nat.le_refl _) _
      obtain ⟨r, hr⟩ : ∃ r, wr.heap.size = r := ⟨_, rfl⟩
      have r0 : w3.heap[r]? = some (.cells #[.int .i64 x0, .int .i64 x1, .int .i64 x2] 41 (0, 0)) := by rw [← hw3, ← hr]; exact heap_alloc_new wr _
      have hrb : r ≠ b := by have := hst.mp.lt; omega
      have S3 := Lib.hid (And.intro (hst.below b3) (And.intro r0 hrb))
      clear hst b3 r0 hrb
      go_wp2_with fail
      clear hw3 hr c0 c1 c2
      go_loopw [33] (EdIn w g b r N (some ⟨bA, off, none⟩) n c tl k (x0, x1, x2)) (fun i _ => 3 - (intOf i).toNat)
      case atStart => exact ⟨0, by omega, rfl, S3.out⟩
      case round =>
        obtain ⟨m, hm, rfl, hst, r0, hrb⟩ := hrel
        by_cases hm3 : m < 3
        · have m1 : (m : Int) < 3 := by omega
          have hkm : (k : Int) ≤ 8192 := by omega
          have g2 : wr.cell? ⟨g, 2, none⟩ = some (.map (some b)) := by rw [cell_in hst.lb]; rfl
          have q0 : wr.cell? ⟨r, 0, none⟩ = some (.int .i64 x0) := by rw [cell_in r0]; rfl
          have q1 : wr.cell? ⟨r, 1, none⟩ = some (.int .i64 x1) := by rw [cell_in r0]; rfl
          have q2 : wr.cell? ⟨r, 2, none⟩ = some (.int .i64 x2) := by rw [cell_in r0]; rfl
          have hwf := edE_wf (x := (x0, x1, x2)) HX.out.2 hN m
          obtain ⟨d, hd⟩ : ∃ d, edE (x0, x1, x2) m = d := ⟨_, rfl⟩
          have K := Lib.hid (fun W => cedge_any W x0 x1 x2 m hm3)
          have HD := Lib.hid hd
          rw [hd] at hwf K
          have HW := Lib.hid hwf
          have HS := Lib.hid (And.intro hst (And.intro r0 hrb))
          have HG := Lib.hid (show g ≠ b by have := hst.gb; have := hst.bw; omega)
          have HKn := Lib.hid (show (edL tl (3 * k + m)).length < maxLen by rw [edL_len]; unfold maxLen; omega)
          have HF := Lib.hid (fun W (b' : Below wr.heap.size wr W) => show W.cell? ⟨g, 2, none⟩ = some (.map (some b)) ∧ W.cell? ⟨r, 0, none⟩ = some (.int .i64 x0) ∧ W.cell? ⟨r, 1, none⟩ = some (.int .i64 x1) ∧ W.cell? ⟨r, 2, none⟩ = some (.int .i64 x2) from
            ⟨(b'.cell (p := ⟨g, 2, none⟩) (heap_lt hst.lb)).trans g2, (b'.cell (p := ⟨r, 0, none⟩) (heap_lt r0)).trans q0, (b'.cell (p := ⟨r, 1, none⟩) (heap_lt r0)).trans q1, (b'.cell (p := ⟨r, 2, none⟩) (heap_lt r0)).trans q2⟩)
          clear hst r0 hrb hd hwf
          go_wp2_with fail
          go_region_held3 (fun w' => w'.cell? ⟨g, 2, none⟩ = some (.map (some b)) ∧ w'.cell? ⟨r, 0, none⟩ = some (.int .i64 x0) ∧ w'.cell? ⟨r, 1, none⟩ = some (.int .i64 x1) ∧ w'.cell? ⟨r, 2, none⟩ = some (.int .i64 x2))
            (first | exact ⟨g2, q0, q1, q2⟩ | exact HF.out _ (upd (Below.refl _ wr)) | exact HF.out _ b6 | exact z6 | fail)
            (first | (go_at_call 43; refine (K.out _).mono ?_; rintro e w5 ⟨rfl, b5⟩; have b6 := up2 (upd (Below.refl _ wr)) b5; have s5 := HS.out.1.below (upd (Below.refl _ wr)) |>.below b5; obtain ⟨w6, hrun, hM6, hg6⟩ := s5.mp.put d HW.out (k : Int) (WalkArith.wf_i64 (by omega)) HKn.out; have z5 := HF.out _ b6; have z6 := And.intro (grown_cell hg6 HG.out z5.1) (And.intro (grown_cell hg6 HS.out.2.2 z5.2.1) (And.intro (grown_cell hg6 HS.out.2.2 z5.2.2.1) (grown_cell hg6 HS.out.2.2 z5.2.2.2)))) | fail)
          have S6 := Lib.hid (s5.put hg6 hM6)
          have R6 := Lib.hid ((hg6.block r (heap_lt ((b6.block r (heap_lt HS.out.2.1)).trans HS.out.2.1)) (fun e => HS.out.2.2 (Option.some.inj e))).trans ((b6.block r (heap_lt HS.out.2.1)).trans HS.out.2.1))
          clear z5 z6 s5 b5 b6 hg6 hM6 hrun
          go_wp2_with fail
          refine ⟨⟨m + 1, by omega, by go_num, ?_, R6.out, HS.out.2.2⟩, by simp [intOf]; omega⟩
          rw [← Nat.add_assoc, edL_succ tl k m hm3, HX.out.1, HD.out]
          exact S6.out
        · obtain rfl : m = 3 := by omega
          have HS := Lib.hid hst
          clear hst r0 hrb
          go_wp2_with fail
          refine ⟨⟨k + 1, by omega, by go_num, ?_⟩, by simp [intOf]; omega⟩
          rw [Nat.mul_add]
          exact HS.out
    · obtain rfl : k = n := by omega
      have b1 : ¬ (k : Int) < k := by omega
      have c2 : wr.cell? ⟨g, 2, none⟩ = some (.map (some b)) := by rw [cell_in hst.lb]; rfl
      have HS := Lib.hid hst
      clear hst
      go_wp2
      go_ret
      exact ⟨b, rfl, HS.out⟩
end Go.Proofs.Ytelbmjbjpgcdaaa
