/- Layer 9: the closure that report hands to an examiner. -/
import Derived.Test.YtelbmjbjpgcdaaaCeTake
import Derived.Deep.DeepCutAuto
namespace Go.Proofs.Ytelbmjbjpgcdaaa
open Go.RowKit

/-- The state of report's closure: that of the one that it hands on to, and whether anything came. -/
structure RepInv (Inv : List Wt → World → Prop) (f : FuncId) (caps : List Value) (sb fb : Nat) (l : List Wt) (w : World) : Prop where
  inv : Inv l w
  told : w.heap[sb]? = some (.cells #[.bool (!l.isEmpty)] 4 (0, 0))
  found : w.heap[fb]? = some (.cells #[.func (.func f) #[] caps.toArray] 52 (0, 0))

set_option maxHeartbeats 1000000 in
set_option maxRecDepth 100000 in
theorem creport1_any {f : FuncId} {caps : List Value} {ws : List Wt} {go : List Wt → Bool} {S : Nat → Prop} {Inv : List Wt → World → Prop} (H : Taker f caps ws go S Inv) {sb fb : Nat} (h1 : ¬ S sb) (h2 : ¬ S fb) (h3 : sb ≠ fb) (l : List Wt) (x : Wt) (w : World) (hp : l ++ [x] <+: ws) (hi : RepInv Inv f caps sb fb l w) :
    Calls Try.prog 34 #[wv x, .pointer (some ⟨sb, 0, none⟩), .pointer (some ⟨fb, 0, none⟩)] w fun e w' => e = .returned (.bool (go (l ++ [x]))) ∧ RepInv Inv f caps sb fb (l ++ [x]) w' ∧ Chg (fun b => S b ∨ b = sb) w w' := by
  have b0 := (Below.refl _ w).alloc (Nat.le_refl _) (.cells #[.int .i64 x.1, .int .i64 x.2.1, .int .i64 x.2.2] 35)
  have s1 := (b0.block sb (heap_lt hi.told)).trans hi.told
  have s2 := (b0.block fb (heap_lt hi.found)).trans hi.found
  have i1 := H.keep _ _ _ hi.inv (Sam.of_below b0 (H.lt _ _ hi.inv))
  have c0 : (w.alloc (.cells #[.int .i64 x.1, .int .i64 x.2.1, .int .i64 x.2.2] 35)).cell? ⟨sb, 0, none⟩ = some (.bool (!l.isEmpty)) := by rw [cell_in s1]; rfl
  have f0 := frozen_in s1 0
  have c1 : (w.alloc (.cells #[.int .i64 x.1, .int .i64 x.2.1, .int .i64 x.2.2] 35)).cell? ⟨fb, 0, none⟩ = some (.func (.func f) #[] caps.toArray) := by rw [cell_in s2]; rfl
  have n1 : (sb == fb) = false := by simpa using h3
  have n2 : (fb == sb) = false := by simpa using Ne.symm h3
  have s3 := heap_set s1 0 (.bool true)
  have s4 := heap_far s2 (p := ⟨sb, 0, none⟩) (Ne.symm h3) (.bool true)
  have i2 := H.keep _ _ _ i1 (Sam.of_set _ ⟨sb, 0, none⟩ (.bool true) h1)
  have ch : Chg (fun b => S b ∨ b = sb) w ((w.alloc (.cells #[.int .i64 x.1, .int .i64 x.2.1, .int .i64 x.2.2] 35)).setCell ⟨sb, 0, none⟩ (.bool true)) := (Chg.of_below b0).set _ _ (Or.inr rfl)
  have s5 := heap_far (heap_alloc_new w (.cells #[.int .i64 x.1, .int .i64 x.2.1, .int .i64 x.2.2] 35)) (p := ⟨sb, 0, none⟩) (Ne.symm (Nat.ne_of_lt (heap_lt hi.told))) (.bool true)
  have K := Lib.hid (H.call l x _ hp i2)
  have CH := Lib.hid ch
  have S3 := Lib.hid s3
  have S4 := Lib.hid s4
  have hen := H.enter
  clear i2 i1 ch s3 s1 s2 b0
  go_enter Try.func34, Try.ntmps34
  go_upto_region 2 with fail
  obtain ⟨W, hW⟩ : ∃ W, (w.alloc (.cells #[.int .i64 x.1, .int .i64 x.2.1, .int .i64 x.2.2] 35)).setCell ⟨sb, 0, none⟩ (.bool true) = W := ⟨_, rfl⟩
  obtain ⟨g, hg⟩ : ∃ g, w.heap.size = g := ⟨_, rfl⟩
  rw [hW, hg] at s5
  rw [hW] at K CH S3 s4 S4
  simp only [hW, hg]
  have z0 : W.cell? ⟨g, 0, none⟩ = some (.int .i64 x.1) := by rw [cell_in s5]; rfl
  have z1 : W.cell? ⟨g, 1, none⟩ = some (.int .i64 x.2.1) := by rw [cell_in s5]; rfl
  have z2 : W.cell? ⟨g, 2, none⟩ = some (.int .i64 x.2.2) := by rw [cell_in s5]; rfl
  have c2 : W.cell? ⟨fb, 0, none⟩ = some (.func (.func f) #[] caps.toArray) := by rw [cell_in s4]; rfl
  clear hW hg s4 s5 c0 c1 f0
  go_wp2_with fail
  refine K.out.mono ?_
  rintro e w1 ⟨rfl, i1, ch1⟩
  have I1 := Lib.hid i1
  have H1 := Lib.hid ch1
  clear i1 ch1
  go_wp2
  go_ret
  exact ⟨rfl, ⟨I1.out, (H1.out.far sb (heap_lt S3.out) h1).trans (by rw [S3.out]; simp), (H1.out.far fb (heap_lt S4.out) h2).trans S4.out⟩, CH.out.trans (H1.out.mono fun _ _ h => Or.inl h)⟩
theorem enter_rep1 (args : Array Value) (w : World) : (callFunc 34 args).run Try.prog w = .ok (.enter 34 args) w := by kernel_rfl
theorem rep_taker {f : FuncId} {caps : List Value} {ws : List Wt} {go : List Wt → Bool} {S : Nat → Prop} {Inv : List Wt → World → Prop} (H : Taker f caps ws go S Inv) {sb fb : Nat} (h1 : ¬ S sb) (h2 : ¬ S fb) (h3 : sb ≠ fb) :
    Taker 34 [.pointer (some ⟨sb, 0, none⟩), .pointer (some ⟨fb, 0, none⟩)] ws go (fun b => S b ∨ b = sb ∨ b = fb) (RepInv Inv f caps sb fb) where
  call l x w hp hi := (creport1_any H h1 h2 h3 l x w hp hi).mono fun e w' h => ⟨h.1, h.2.1, h.2.2.mono fun _ _ h => h.elim Or.inl fun h => Or.inr (Or.inl h)⟩
  keep l w w' hi hs := ⟨H.keep _ _ _ hi.inv (hs.mono fun _ h => Or.inl h), (hs sb (Or.inr (Or.inl rfl))).trans hi.told, (hs fb (Or.inr (Or.inr rfl))).trans hi.found⟩
  lt l w hi b hb := by
    rcases hb with h | rfl | rfl
    · exact H.lt _ _ hi.inv b h
    · exact heap_lt hi.told
    · exact heap_lt hi.found
  enter := enter_rep1
end Go.Proofs.Ytelbmjbjpgcdaaa
