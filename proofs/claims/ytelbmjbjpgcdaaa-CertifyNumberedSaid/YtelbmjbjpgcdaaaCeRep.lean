/- Layer 9: report: one examiner after the other. -/
import Derived.Test.YtelbmjbjpgcdaaaCeRepP
import Derived.Test.YtelbmjbjpgcdaaaCeRep1
namespace Go.Proofs.Ytelbmjbjpgcdaaa
open Go.RowKit

def exRow : Array Value := #[.func (.func 36) #[] #[], .func (.func 37) #[] #[], .func (.func 38) #[] #[], .func (.func 39) #[] #[], .func (.func 40) #[] #[], .func (.func 41) #[] #[]]
set_option maxRecDepth 100000 in
theorem cexams_any (w : World) : Calls Try.prog 33 #[] w fun e w' => ∃ q, e = .returned (.slice (some ⟨q, 0, none⟩) 6 6) ∧ w'.heap[q]? = some (.cells exRow 60 (0, 0)) ∧ Below w.heap.size w w' ∧ w.heap.size ≤ q := by
  go_enter Try.func33, Try.ntmps33
  go_wp2
  go_ret
  exact ⟨_, rfl, heap_alloc_new w _, (Below.refl _ w).alloc (Nat.le_refl _) _, Nat.le_refl _⟩
/-- Between two examiners: nothing was handed yet. -/
structure RpSt (S : Nat → Prop) (Inv : List Wt → World → Prop) (w wr : World) (f : FuncId) (caps : List Value) (fb eb g : Nat) (N : Int) (A : Option Addr) (n c : Nat) (tl : List Tr) (mo : Option Nat) : Prop where
  inv : Inv [] wr
  chg : Chg S w wr
  found : wr.heap[fb]? = some (.cells #[.func (.func f) #[] caps.toArray] 52 (0, 0))
  exs : wr.heap[eb]? = some (.cells exRow 60 (0, 0))
  lb : wr.heap[g]? = some (.cells #[.int .i64 N, .slice A n c, .map mo] 56 (0, 0))
  mp : ∀ b, mo = some b → MapL wr b (edL tl (3 * n)) ∧ w.heap.size ≤ b
  hf : w.heap.size ≤ fb
  he : w.heap.size ≤ eb
  hg : w.heap.size ≤ g
  n1 : g ≠ fb
  n2 : eb ≠ fb
  n3 : eb ≠ g
  nb : ∀ b, mo = some b → b ≠ fb
def RpAt (S : Nat → Prop) (Inv : List Wt → World → Prop) (w : World) (f : FuncId) (caps : List Value) (fb eb g : Nat) (N : Int) (A : Option Addr) (n c : Nat) (tl : List Tr) (p : Int → Bool) (i : Value) (wr : World) : Prop :=
  ∃ k : Nat, k ≤ 6 ∧ i = .int .i64 (k : Int) ∧ (∃ mo, RpSt S Inv w wr f caps fb eb g N A n c tl mo ∧ (k ≤ 2 → mo = none) ∧ (3 ≤ k → ∃ b, mo = some b)) ∧ ∀ j, j < k → (stgs p N tl).getD j [] = []
section
variable {f : FuncId} {caps : List Value} {ws : List Wt} {go : List Wt → Bool} {S : Nat → Prop} {Inv : List Wt → World → Prop} {w wr w1 w2 : World} {fb eb g : Nat} {N : Int} {A : Option Addr} {n c : Nat} {tl : List Tr} {mo : Option Nat}
theorem RpSt.below (H : Taker f caps ws go S Inv) (h : RpSt S Inv w wr f caps fb eb g N A n c tl mo) (hb : Below wr.heap.size wr w1) : RpSt S Inv w w1 f caps fb eb g N A n c tl mo :=
  ⟨H.keep _ _ _ h.inv (Sam.of_below hb (H.lt _ _ h.inv)), h.chg.trans (.of_below hb), (hb.block fb (heap_lt h.found)).trans h.found, (hb.block eb (heap_lt h.exs)).trans h.exs, (hb.block g (heap_lt h.lb)).trans h.lb,
   fun b e => ⟨(h.mp b e).1.kept (hb.block b (h.mp b e).1.lt), (h.mp b e).2⟩, h.hf, h.he, h.hg, h.n1, h.n2, h.n3, h.nb⟩
/-- What the examiner's closure may turn. -/
abbrev S9 (S : Nat → Prop) (sb fb : Nat) : Nat → Prop := fun b => S b ∨ b = sb ∨ b = fb
theorem RpSt.seen (hS : ∀ b, S b → b < w.heap.size) (ht : T3 w A n tl) (hA : 0 < n → ∀ b off, A = some ⟨b, off, none⟩ → ¬ S b) (h : RpSt S Inv w w1 f caps fb eb g N A n c tl mo) {sb : Nat} (hsb : w.heap.size ≤ sb) (hgs : g ≠ sb) : Seen (S9 S sb fb) g N A n c mo tl w1 := by
  have hf := h.hf
  have hg := h.hg
  have hAw : 0 < n → ∀ b off, A = some ⟨b, off, none⟩ → b < w.heap.size := fun hn b off e => by
    obtain ⟨b', off', e', hc⟩ := ht.2 hn
    rw [e] at e'
    injection e' with e'
    injection e' with e1 e2
    subst e1
    exact World.block_lt_of_cell? w _ (hc 0 hn).1
  refine ⟨h.lb, ht.chg h.chg hA, ?_, fun hn b off e => ?_⟩
  · rintro (hs | hs | hs)
    · have := hS g hs; omega
    · exact hgs hs
    · exact h.n1 hs
  · have := hAw hn b off e
    rintro (hs | hs | hs)
    · exact hA hn b off e hs
    · omega
    · omega
theorem RpSt.full (hS : ∀ b, S b → b < w.heap.size) (ht : T3 w A n tl) (hA : 0 < n → ∀ b off, A = some ⟨b, off, none⟩ → ¬ S b) {b : Nat} (h : RpSt S Inv w w1 f caps fb eb g N A n c tl (some b)) {sb : Nat} (hsb : w.heap.size ≤ sb) (hgs : g ≠ sb) (hbs : b ≠ sb) : Full (S9 S sb fb) g N A n c b tl w1 := by
  refine ⟨h.seen hS ht hA hsb hgs, (h.mp b rfl).1, ?_⟩
  have := (h.mp b rfl).2
  rintro (hs | hs | hs)
  · have := hS b hs; omega
  · exact hbs hs
  · exact h.nb b rfl hs
end
/-- What an examiner leaves. -/
def ExEnd (S : Nat → Prop) (Inv : List Wt → World → Prop) (go : List Wt → Bool) (w : World) (f : FuncId) (caps : List Value) (sb fb eb g : Nat) (N : Int) (A : Option Addr) (n c : Nat) (tl : List Tr) (k : Nat) (stage ws : List Wt) (e : Ending) (w' : World) : Prop :=
  e = .returned (.tuple #[]) ∧ ((w'.heap[sb]? = some (.cells #[.bool true] 4 (0, 0)) ∧ ∃ l, Handed ws go l ∧ Inv l w' ∧ Chg S w w') ∨
    (w'.heap[sb]? = some (.cells #[.bool false] 4 (0, 0)) ∧ stage = [] ∧ ∃ mo, RpSt S Inv w w' f caps fb eb g N A n c tl mo ∧ (k + 1 ≤ 2 → mo = none) ∧ (3 ≤ k + 1 → ∃ b, mo = some b)))
section
variable {f : FuncId} {caps : List Value} {ws : List Wt} {go : List Wt → Bool} {S : Nat → Prop} {Inv : List Wt → World → Prop} {w wr w1 : World} {fb eb g : Nat} {N : Int} {A : Option Addr} {n c : Nat} {tl : List Tr} {mo : Option Nat}
theorem ex_end (hS : ∀ b, S b → b < w.heap.size) (h : RpSt S Inv w w1 f caps fb eb g N A n c tl mo) {sb k : Nat} (hsb : w.heap.size ≤ sb) (hgs : g ≠ sb) (hes : eb ≠ sb) (hbs : ∀ b, mo = some b → b ≠ sb) {stage : List Wt} (hst : stage = [] ∨ stage = ws) (hk1 : k + 1 ≤ 2 → mo = none) (hk2 : 3 ≤ k + 1 → ∃ b, mo = some b)
    {e : Ending} {w' : World} (he : Ended stage go (S9 S sb fb) (RepInv Inv f caps sb fb) w1 e w') : ExEnd S Inv go w f caps sb fb eb g N A n c tl k stage ws e w' := by
  obtain ⟨rfl, l, hl, hi, hc⟩ := he
  have hf := h.hf
  have hg := h.hg
  have he := h.he
  have far : ∀ b, w.heap.size ≤ b → b ≠ sb → b ≠ fb → ¬ S9 S sb fb b := fun b hb h1 h2 hs => by
    rcases hs with hs | hs | hs
    · have := hS b hs; omega
    · exact h1 hs
    · exact h2 hs
  have ch : Chg S w w' := h.chg.trans' hc fun b hb hs => by
    rcases hs with hs | hs | hs
    · exact hs
    · omega
    · omega
  refine ⟨rfl, ?_⟩
  cases l with
  | nil =>
    have hn := hl.none
    refine .inr ⟨hi.told, hn, mo, ⟨hi.inv, ch, hi.found, (hc.far eb (heap_lt h.exs) (far _ he hes h.n2)).trans h.exs, (hc.far g (heap_lt h.lb) (far _ hg hgs h.n1)).trans h.lb, fun b e => ⟨(h.mp b e).1.kept (hc.far b (h.mp b e).1.lt (far _ (h.mp b e).2 (hbs b e) (h.nb b e))), (h.mp b e).2⟩, h.hf, h.he, h.hg, h.n1, h.n2, h.n3, h.nb⟩, hk1, hk2⟩
  | cons x r =>
    refine .inl ⟨hi.told, _, ?_, hi.inv, ch⟩
    rcases hst with rfl | rfl
    · rcases hl with ⟨h1, _⟩ | ⟨m, y, _, h2, _⟩
      · cases h1
      · have := h2.length_le; simp at this
    · exact hl
theorem ex_end2 (hS : ∀ b, S b → b < w.heap.size) (h : RpSt S Inv w w1 f caps fb eb g N A n c tl mo) {sb : Nat} (hsb : w.heap.size ≤ sb) (hes : eb ≠ sb) {stage : List Wt} (hst : stage = [] ∨ stage = ws)
    {e : Ending} {w' : World} (he : TwEnd stage go (S9 S sb fb) (RepInv Inv f caps sb fb) w1 g N A n c tl e w') : ExEnd S Inv go w f caps sb fb eb g N A n c tl 2 stage ws e w' := by
  obtain ⟨rfl, ⟨l, hl, hi⟩, hc, b, hb⟩ := he
  have hf := h.hf
  have hg := h.hg
  have he := h.he
  have hlt := heap_lt h.found
  have hsz := h.chg.size
  have ch : Chg S w w' := h.chg.trans' hc fun b hb hs => by
    rcases hs with (hs | hs | hs) | hs
    · exact hs
    · omega
    · omega
    · omega
  have hex : ¬ (S9 S sb fb eb ∨ eb = g) := by
    rintro ((hs | hs | hs) | hs)
    · have := hS eb hs; omega
    · exact hes hs
    · exact h.n2 hs
    · exact h.n3 hs
  refine ⟨rfl, ?_⟩
  cases l with
  | nil =>
    have hn := hl.none
    have hbl := hb.le
    refine .inr ⟨hi.told, hn, some b, ⟨hi.inv, ch, hi.found, (hc.far eb (heap_lt h.exs) hex).trans h.exs, hb.lb, fun b' e => by injection e with e; subst e; exact ⟨hb.mp, by omega⟩, h.hf, h.he, h.hg, h.n1, h.n2, h.n3, fun b' e => by injection e with e; subst e; omega⟩, fun h => absurd h (by omega), fun _ => ⟨b, rfl⟩⟩
  | cons x r =>
    refine .inl ⟨hi.told, _, ?_, hi.inv, ch⟩
    rcases hst with rfl | rfl
    · rcases hl with ⟨h1, _⟩ | ⟨m, y, _, h2, _⟩
      · cases h1
      · have := h2.length_le; simp at this
    · exact hl
end
theorem set_same9 {w : World} {q : Nat} {v : Value} {t : TypeId} (h : w.heap[q]? = some (.cells #[v] t (0, 0))) : w.setCell ⟨q, 0, none⟩ v = w := by
  rw [setCell_eq_setRow w q 0 _ t (0, 0) v h]
  exact setRow_self w q _ t (0, 0) h

set_option maxHeartbeats 8000000 in
set_option maxRecDepth 100000 in
theorem creport_any {f : FuncId} {caps : List Value} {ws : List Wt} {go : List Wt → Bool} {S : Nat → Prop} {Inv : List Wt → World → Prop} (H : Taker f caps ws go S Inv) (w : World) (N : Int) (A : Option Addr) (n c : Nat) (tl : List Tr) (p : Int → Bool) (ht : T3 w A n tl) (hi : Inv [] w) (hA : 0 < n → ∀ b off, A = some ⟨b, off, none⟩ → ¬ S b)
    (hp : IsPin tl p) (hws : ws = wits p N tl) (hn : n ≤ 1000000) : Calls Try.prog 23 #[.agg #[.int .i64 N, .slice A n c], .func (.func f) #[] caps.toArray] w (Ended ws go S Inv w) := by
  have hSS := H.lt _ _ hi
  obtain ⟨w1, hw1⟩ : ∃ w1, w.alloc (.cells #[.int .i64 N, .slice A n c] 24) = w1 := ⟨_, rfl⟩
  obtain ⟨a, ha⟩ : ∃ a, w.heap.size = a := ⟨_, rfl⟩
  have b1 : Below w.heap.size w w1 := by rw [← hw1]; exact (Below.refl _ w).alloc (Nat.le_refl _) _
  have x1 : Bx w1 a N A n c := by rw [← hw1, ← ha]; exact Bx.made w N A n c
  obtain ⟨w2, hw2⟩ : ∃ w2, w1.alloc (.cells #[.func (.func f) #[] caps.toArray] 52) = w2 := ⟨_, rfl⟩
  obtain ⟨fb, hfb⟩ : ∃ fb, w1.heap.size = fb := ⟨_, rfl⟩
  have b2 : Below w1.heap.size w1 w2 := by rw [← hw2]; exact (Below.refl _ w1).alloc (Nat.le_refl _) _
  have f2 : w2.heap[fb]? = some (.cells #[.func (.func f) #[] caps.toArray] 52 (0, 0)) := by rw [← hw2, ← hfb]; exact heap_alloc_new w1 _
  have x2 := x1.below b2
  have z0 := x2.c0
  have z1 := x2.c1
  obtain ⟨w3, hw3⟩ : ∃ w3, w2.alloc (.cells #[.int .i64 N, .slice A n c, .map none] 56) = w3 := ⟨_, rfl⟩
  obtain ⟨g, hg⟩ : ∃ g, w2.heap.size = g := ⟨_, rfl⟩
  have b3 : Below w2.heap.size w2 w3 := by rw [← hw3]; exact (Below.refl _ w2).alloc (Nat.le_refl _) _
  have l3 : w3.heap[g]? = some (.cells #[.int .i64 N, .slice A n c, .map none] 56 (0, 0)) := by rw [← hw3, ← hg]; exact heap_alloc_new w2 _
  have f3 := (b3.block fb (heap_lt f2)).trans f2
  have B3 := Lib.hid (b1.trans ((b2.trans (b3.mono b2.size)).mono b1.size))
  have F3 := Lib.hid (And.intro l3 (And.intro f3 (And.intro (show w.heap.size ≤ fb by rw [← hfb]; exact b1.size) (show fb < g by rw [← hg]; exact heap_lt f2))))
  have HT := Lib.hid (And.intro ht (And.intro hi (And.intro hA (And.intro hp hws))))
  have HSS := Lib.hid hSS
  have KX := Lib.hid (cexams_any w3)
  have hmf : ∀ (fn : Fn) (first cap : Array Value) (w : World), (Instr.makeFunc fn first cap).run Try.prog w = .ok (.func fn first cap) w := fun _ _ _ _ => rfl
  clear b1 b2 b3 x1 x2 f2 l3 f3 ht hi hA hp hws hSS
  go_enter Try.func23, Try.ntmps23
  go_wp2_with fail
  clear hw1 ha hw2 hfb hw3 hg z0 z1
  refine KX.out.mono ?_
  rintro e w4 ⟨eb, rfl, e4, b4, heb⟩
  have st4 : RpSt S Inv w w4 f caps fb eb g N A n c tl none := by
    have h1 := B3.out.trans (b4.mono B3.out.size)
    have h2 := F3.out.2.2.1
    have h3 := F3.out.2.2.2
    have h4 := heap_lt F3.out.1
    exact ⟨H.keep _ _ _ HT.out.2.1 (Sam.of_below h1 HSS.out), .of_below h1, (b4.block fb (heap_lt F3.out.2.1)).trans F3.out.2.1, e4, (b4.block g h4).trans F3.out.1, (fun b e => by cases e), h2, by omega, by omega, by omega, by omega, by omega, (fun b e => by cases e)⟩
  have ST := Lib.hid st4
  clear st4 e4 b4 heb
  go_wp2_with fail
  go_loopw [13] (RpAt S Inv w f caps fb eb g N A n c tl p) (fun i _ => 6 - (intOf i).toNat)
  case atStart => exact ⟨0, by omega, rfl, ⟨_, ST.out, fun _ => rfl, fun h => absurd h (by omega)⟩, fun j hj => absurd hj (by omega)⟩
  case round =>
    obtain ⟨k, hk, rfl, ⟨mo, hst, hm1, hm2⟩, hnone⟩ := hrel
    by_cases hk6 : k < 6
    case neg =>
      obtain rfl : k = 6 := by omega
      have HR := Lib.hid (And.intro hst hnone)
      clear hst hnone hm1 hm2
      go_wp2
      refine bodyPost_ret (results_none rfl _ _ _) rfl ?_
      have hw0 : ws = [] := by rw [HT.out.2.2.2.2]; exact stage_none HR.out.2
      exact ⟨rfl, [], .inl ⟨hw0.symm, AllGo.nil _⟩, HR.out.1.inv, HR.out.1.chg⟩
    obtain ⟨sb, hsb⟩ : ∃ sb, wr.heap.size = sb := ⟨_, rfl⟩
    obtain ⟨w5, hw5⟩ : ∃ w5, wr.alloc (.cells #[.bool false] 4) = w5 := ⟨_, rfl⟩
    have b5 : Below wr.heap.size wr w5 := by rw [← hw5]; exact (Below.refl _ wr).alloc (Nat.le_refl _) _
    have s5 : w5.heap[sb]? = some (.cells #[.bool false] 4 (0, 0)) := by rw [← hw5, ← hsb]; exact heap_alloc_new wr _
    have st5 := hst.below H b5
    have hsz := hst.chg.size
    have hsb1 : w.heap.size ≤ sb := by omega
    have hgs : g ≠ sb := by have := heap_lt hst.lb; omega
    have hes : eb ≠ sb := by have := heap_lt hst.exs; omega
    have hfs : sb ≠ fb := by have := heap_lt hst.found; omega
    have hbs : ∀ b, mo = some b → b ≠ sb := fun b e => by have := (hst.mp b e).1.lt; omega
    have i5 : RepInv Inv f caps sb fb [] w5 := ⟨st5.inv, s5, st5.found⟩
    have stg := stage_at hnone
    rw [← HT.out.2.2.2.2] at stg
    have HT5 : Taker 34 [.pointer (some ⟨sb, 0, none⟩), .pointer (some ⟨fb, 0, none⟩)] ((stgs p N tl).getD k []) go (S9 S sb fb) (RepInv Inv f caps sb fb) :=
      rep_taker (H.stage stg) (fun hs => by have := HSS.out sb hs; omega) (fun hs => by have := HSS.out fb hs; have := hst.hf; omega) hfs
    have KK : ∃ F : FuncId, exRow[k]? = some (.func (.func F) #[] #[]) ∧ (∀ args W, (callFunc F args).run Try.prog W = .ok (.enter F args) W) ∧
        Calls Try.prog F #[.pointer (some ⟨g, 0, none⟩), .func (.func 34) #[] #[.pointer (some ⟨sb, 0, none⟩), .pointer (some ⟨fb, 0, none⟩)]] w5 (ExEnd S Inv go w f caps sb fb eb g N A n c tl k ((stgs p N tl).getD k []) ws) := by
      have hl := HT.out.1.1
      have g0 : 1 ≤ k → 0 ≤ N ∧ N ≤ 4096 ∧ tl.length ≤ 8192 ∧ ∀ t ∈ tl, inN N t.1 ∧ inN N t.2.1 ∧ inN N t.2.2 := fun h => stage0 (hnone 0 (by omega))
      have g1 : 2 ≤ k → ∀ t ∈ tl, ¬ loopT t := fun h => stage1 (hnone 1 (by omega))
      have g2 : 3 ≤ k → tl.Pairwise fun t u => ¬ twice t u := fun h => stage2 (hnone 2 (by omega))
      have g4 : 5 ≤ k → ∀ v : Int, inN N v → ∃ t ∈ tl, hasV t v := fun h => stage4 (hnone 4 (by omega))
      match k, hk6 with
      | 0, _ =>
        obtain rfl := hm1 (by omega)
        exact ⟨36, rfl, fun _ _ => by kernel_rfl, (cindex_any HT5 w5 g N A n c none tl (st5.seen HSS.out HT.out.1 HT.out.2.2.1 hsb1 hgs) i5 rfl hn).mono fun _ _ h => ex_end HSS.out st5 hsb1 hgs hes hbs stg (fun _ => rfl) (fun h => absurd h (by omega)) h⟩
      | 1, _ =>
        obtain rfl := hm1 (by omega)
        exact ⟨37, rfl, fun _ _ => by kernel_rfl, (cloop_any HT5 w5 g N A n c none tl (st5.seen HSS.out HT.out.1 HT.out.2.2.1 hsb1 hgs) i5 rfl hn).mono fun _ _ h => ex_end HSS.out st5 hsb1 hgs hes hbs stg (fun _ => rfl) (fun h => absurd h (by omega)) h⟩
      | 2, _ =>
        obtain rfl := hm1 (by omega)
        obtain ⟨n0, n1, n2, n3⟩ := g0 (by omega)
        have hAg : 0 < n → ∀ b off, A = some ⟨b, off, none⟩ → b ≠ g := fun h0 b off e => by
          obtain ⟨b', off', e', hc⟩ := HT.out.1.2 h0
          rw [e] at e'
          injection e' with e'
          injection e' with e1 e2
          subst e1
          have h1 : b < w.heap.size := World.block_lt_of_cell? w _ (hc 0 h0).1
          have := st5.hg
          omega
        exact ⟨38, rfl, fun _ _ => by kernel_rfl, (ctwice_any HT5 w5 g N A n c tl (st5.seen HSS.out HT.out.1 HT.out.2.2.1 hsb1 hgs) i5 rfl (by omega) n1 n3 hAg).mono fun _ _ h => ex_end2 HSS.out st5 hsb1 hes stg h⟩
      | 3, _ =>
        obtain ⟨b, rfl⟩ := hm2 (by omega)
        obtain ⟨n0, n1, n2, n3⟩ := g0 (by omega)
        exact ⟨39, rfl, fun _ _ => by kernel_rfl, (cmirr_any HT5 w5 g b N A n c tl (st5.full HSS.out HT.out.1 HT.out.2.2.1 hsb1 hgs (hbs b rfl)) i5 rfl (by omega) n1 n3 (g1 (by omega)) (g2 (by omega))).mono fun _ _ h => ex_end HSS.out st5 hsb1 hgs hes hbs stg (fun h => absurd h (by omega)) (fun _ => ⟨b, rfl⟩) h⟩
      | 4, _ =>
        obtain ⟨b, rfl⟩ := hm2 (by omega)
        obtain ⟨n0, n1, n2, n3⟩ := g0 (by omega)
        obtain ⟨M, rfl⟩ : ∃ M : Nat, N = (M : Int) := ⟨N.toNat, by omega⟩
        exact ⟨40, rfl, fun _ _ => by kernel_rfl, (clonely_any HT5 w5 g M A n c (some b) tl (st5.seen HSS.out HT.out.1 HT.out.2.2.1 hsb1 hgs) i5 rfl (by omega) (by omega) n3).mono fun _ _ h => ex_end HSS.out st5 hsb1 hgs hes hbs stg (fun h => absurd h (by omega)) (fun _ => ⟨b, rfl⟩) h⟩
      | 5, _ =>
        obtain ⟨b, rfl⟩ := hm2 (by omega)
        obtain ⟨n0, n1, n2, n3⟩ := g0 (by omega)
        obtain ⟨M, rfl⟩ : ∃ M : Nat, N = (M : Int) := ⟨N.toNat, by omega⟩
        exact ⟨41, rfl, fun _ _ => by kernel_rfl, (cpinch_any HT5 w5 g b M A n c tl p (st5.full HSS.out HT.out.1 HT.out.2.2.1 hsb1 hgs (hbs b rfl)) i5 HT.out.2.2.2.1 rfl (by omega) (by omega) n3 (g1 (by omega)) (g2 (by omega)) (g4 (by omega))).mono fun _ _ h => ex_end HSS.out st5 hsb1 hgs hes hbs stg (fun h => absurd h (by omega)) (fun _ => ⟨b, rfl⟩) h⟩
    obtain ⟨F, hF, hen, KF⟩ := KK
    have c6 : wr.cell? ⟨eb, k, none⟩ = some (.func (.func F) #[] #[]) := by rw [cell_in hst.exs]; exact hF
    have m1 : (k : Int) < 6 := by omega
    have KF := Lib.hid KF
    have HN := Lib.hid hnone
    have z5 : w5.cell? ⟨sb, 0, none⟩ = some (.bool false) := by rw [cell_in s5]; rfl
    have z5f := frozen_in s5 0
    have z5s := set_same9 s5
    clear hF st5 hst hsz hsb1 hgs hes hfs hbs i5 stg HT5 hm1 hm2 hnone b5 s5
    go_wp2_with fail
    refine KF.out.mono ?_
    rintro e w6 ⟨rfl, ⟨hs6, l, hl, hi6, hc6⟩ | ⟨hs6, hstg, hmo⟩⟩
    · have y6 : w6.cell? ⟨sb, 0, none⟩ = some (.bool true) := by rw [cell_in hs6]; rfl
      have HE := Lib.hid (And.intro hl (And.intro hi6 hc6))
      clear hs6 hl hi6 hc6
      go_wp2_with fail
      refine bodyPost_ret (results_none rfl _ _ _) rfl ?_
      exact ⟨rfl, l, HE.out⟩
    · have y6 : w6.cell? ⟨sb, 0, none⟩ = some (.bool false) := by rw [cell_in hs6]; rfl
      have HE := Lib.hid (And.intro hstg hmo)
      clear hs6 hstg hmo
      go_wp2_with fail
      refine ⟨⟨k + 1, by omega, by go_num, HE.out.2, fun j hj => ?_⟩, by simp [intOf]; omega⟩
      by_cases hjk : j = k
      · rw [hjk]; exact HE.out.1
      · exact HN.out j (by omega)
end Go.Proofs.Ytelbmjbjpgcdaaa
