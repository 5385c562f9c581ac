/- push appends one bit to a writer's bits. -/
import Derived.Test.YtdlblpmjghjhlaaMem
import Derived.BigRegion
import Derived.Maps.AppendAt
import Derived.Lib.Hide
import Derived.StillTailTactics
import Derived.RegionTactic
import Derived.ChangeAlike
namespace Go.Proofs.Ytdlblpmjghjhlaa
open Go.RowKit

theorem Try.info5 : (Try.prog.info? 5).map (fun i => (i.zero, i.size, i.bytes)) = some (some (.int .u8 0), 1, 1) := by kernel_rfl

/-- The byte x with the bit b laid at the place that s bits leave free. -/
def laid (x b s : Int) : Int := bits BinOp.or IntKind.u8 x (b * 2 ^ min (7 - s % 8).toNat 8 % 256)

/-- The heap of w' is that of W; the streams are as they were. -/
structure Same (W w w' : World) : Prop where
  heap : w'.heap = W.heap
  os : w'.os = w.os
  tape : w'.tape = w.tape
  output : w'.output = w.output

set_option maxHeartbeats 800000 in
theorem push_some (w : World) (g p m cap : Nat) (s x b : Int) (hs0 : 0 ≤ s) (hs : s < 33554432) (hu0 : (s % 8 == 0) = false) (hm : m < 33554432)
   (h0 : w.cell? ⟨g, 0, none⟩ = some (.slice (some ⟨p, 0, none⟩) (m + 1) cap)) (h1 : w.cell? ⟨g, 1, none⟩ = some (.int .i64 s))
   (f1 : w.frozen? ⟨g, 1, none⟩ = false) 
   (hx : w.cell? ⟨p, m, none⟩ = some (.int .u8 x)) (fx : w.frozen? ⟨p, m, none⟩ = false) (hgp : p ≠ g)
   : Calls Try.prog 41 #[.pointer (some ⟨g, 0, none⟩), .int .u8 b] w fun e w' => e = .returned (.tuple #[]) ∧ Same ((w.setCell ⟨p, m, none⟩ (.int .u8 (laid x b s))).setCell ⟨g, 1, none⟩ (.int .i64 (s + 1))) w w' := by
  go_enter Try.func41, Try.ntmps41
  go_wp2
  have e1 : IntKind.i64.wrap (m : Int) = (m : Int) := IntWalk.i64_in _ (by omega)
  have e3 : (m : Int) < (m : Int) + 1 := by omega
  have e5 : IntKind.i64.wrap (7 - s % 8) = 7 - s % 8 := IntWalk.i64_in _ (by omega)
  go_still_tail 18, (by kernel_rfl)
  change wpList _ _ _ _ _ w.drew
  go_wp2
  go_end0
  exact ⟨rfl, rfl, rfl, rfl, rfl⟩

/-- What a push leaves that opens a new byte. -/
def Opened (w w' : World) (B g : Nat) (v : Value) (n : Nat) (xs : List Value) (b s : Int) : Prop :=
  ∃ q cap w1, w1.ownsRow B 5 1 (.slice (some ⟨q, 0, none⟩) (n + 1) cap) (n + 1) (xs ++ [.int .u8 0]) ∧ w.grownBy w1 v.ownBlock ∧ (v.ownBlock = some q ∨ w.heap.size ≤ q) ∧ q ≠ g ∧
    Same (((w1.setCell ⟨g, 0, none⟩ (.slice (some ⟨q, 0, none⟩) (n + 1) cap)).setCell ⟨q, n, none⟩ (.int .u8 (laid 0 b s))).setCell ⟨g, 1, none⟩ (.int .i64 (s + 1))) w1 w'

set_option maxHeartbeats 800000 in
theorem push_none (w : World) (B g n c : Nat) (A : Option Addr) (xs : List Value) (s b : Int) (hs0 : 0 ≤ s) (hs : s < 33554432) (hu0 : (s % 8 == 0) = true) (hm : n < 33554432) (hB : B ≤ w.heap.size) (hg : g < w.heap.size)
   (h0 : w.cell? ⟨g, 0, none⟩ = some (.slice A n c)) (h1 : w.cell? ⟨g, 1, none⟩ = some (.int .i64 s))
   (f0 : w.frozen? ⟨g, 0, none⟩ = false) (f1 : w.frozen? ⟨g, 1, none⟩ = false) (hown : w.ownsRow B 5 1 (.slice A n c) n xs) (hne : (Value.slice A n c).ownBlock ≠ some g)
   : Calls Try.prog 41 #[.pointer (some ⟨g, 0, none⟩), .int .u8 b] w fun e w' => e = .returned (.tuple #[]) ∧ Opened w w' B g (.slice A n c) n xs b s := by
  obtain ⟨i0, hi, hz0, hz1, hz2⟩ := info_parts Try.info5
  have HO := Lib.hid (hown.alloc (.cells #[.int .u8 0] 5))
  have HX := Lib.hid hown.1
  have HN := Lib.hid hne
  clear hown hne
  go_enter Try.func41, Try.ntmps41
  go_wp2_with (at_builtin; refine wpList_append_lies _ rfl (.tmp 16) (.tmp 17) 25 rfl B 5 i0 (.int .u8 0) 1 1 Try.underlying25 hi hz0 hz1 hz2 rfl (by decide) (.slice A n c) n xs rfl HO.out ⟨w.heap.size, 0, none⟩ 1 1 [.int .u8 0] rfl rfl (cell_one_new _ _ _) ?c2 (by decide) ?b1 ?b2 ?b3 (w.heap.size + 1) ?b4 ?_)
  case c2 => intro u hu; simp at hu; subst hu; rfl
  case b1 => unfold maxLen; omega
  case b2 => omega
  case b3 => simp; omega
  case b4 => simp
  intro q cap w1 hown hgr hq hlt
  have hbel : w.grownBy w1 (Value.slice A n c).ownBlock := ⟨hgr.os, hgr.tape, hgr.output, by have := hgr.size; simp at this; omega, fun k hk hne => (hgr.block k (by simp; omega) hne).trans (Below.heap_alloc _ _ _ hk)⟩
  have hqq : (Value.slice A n c).ownBlock = some q ∨ w.heap.size ≤ q := by rcases hq with h | h; exact .inl h; exact .inr (by omega)
  have hqg : q ≠ g := by
    rcases hq with h | h
    · intro e; subst e; exact HN.out h
    · omega
  have k0 := (hbel.cell_far ⟨g, 0, none⟩ hg (fun e => HN.out e.symm)).trans h0
  have k1 := (hbel.cell_far ⟨g, 1, none⟩ hg (fun e => HN.out e.symm)).trans h1
  have e0 := (hbel.frozen_far ⟨g, 0, none⟩ hg (fun e => HN.out e.symm)).trans f0
  have e1 := (hbel.frozen_far ⟨g, 1, none⟩ hg (fun e => HN.out e.symm)).trans f1
  have hlx : xs.length = n := by have := HX.out; omega
  have kx : w1.cell? ⟨q, n, none⟩ = some (.int .u8 0) := by
    have := hown.cellAt n (by omega)
    rw [this, List.getElem?_append_right (by omega), hlx]; simp
  have fx : w1.frozen? ⟨q, n, none⟩ = false := hown.frozenAt n
  have HW := Lib.hid hown
  have HL := Lib.hid hlx
  have HG := Lib.hid hbel
  clear hown hlx hbel hgr
  go_wp2
  have j0 : (w1.setCell ⟨g, 0, none⟩ (.slice (some ⟨q, 0, none⟩) (n + 1) cap)).cell? ⟨g, 0, none⟩ = some (.slice (some ⟨q, 0, none⟩) (n + 1) cap) := by go_simp
  have j1 : (w1.setCell ⟨g, 0, none⟩ (.slice (some ⟨q, 0, none⟩) (n + 1) cap)).cell? ⟨g, 1, none⟩ = some (.int .i64 s) := by go_simp
  have jx : (w1.setCell ⟨g, 0, none⟩ (.slice (some ⟨q, 0, none⟩) (n + 1) cap)).cell? ⟨q, n, none⟩ = some (.int .u8 0) := by
    rw [World.cell?_setCell_other _ _ _ _ (by intro e; injection e with e; exact hqg e.symm)]; exact kx
  have i1 : (w1.setCell ⟨g, 0, none⟩ (.slice (some ⟨q, 0, none⟩) (n + 1) cap)).frozen? ⟨g, 1, none⟩ = false := by go_simp
  have ix : (w1.setCell ⟨g, 0, none⟩ (.slice (some ⟨q, 0, none⟩) (n + 1) cap)).frozen? ⟨q, n, none⟩ = false := by go_simp
  have HW2 := Lib.hid (rfl : w1.setCell ⟨g, 0, none⟩ (.slice (some ⟨q, 0, none⟩) (n + 1) cap) = w1.setCell ⟨g, 0, none⟩ (.slice (some ⟨q, 0, none⟩) (n + 1) cap))
  have HP : (w1.setCell ⟨g, 0, none⟩ (.slice (some ⟨q, 0, none⟩) (n + 1) cap)).os = w1.os ∧ (w1.setCell ⟨g, 0, none⟩ (.slice (some ⟨q, 0, none⟩) (n + 1) cap)).tape = w1.tape ∧ (w1.setCell ⟨g, 0, none⟩ (.slice (some ⟨q, 0, none⟩) (n + 1) cap)).output = w1.output := ⟨rfl, rfl, rfl⟩
  generalize hW2 : w1.setCell ⟨g, 0, none⟩ (.slice (some ⟨q, 0, none⟩) (n + 1) cap) = W2 at *
  have HW3 := Lib.hid hW2
  have HP3 := Lib.hid HP
  clear hW2 HW2 HP k0 k1 e0 e1 kx fx
  have e1 : IntKind.i64.wrap (n : Int) = (n : Int) := IntWalk.i64_in _ (by omega)
  have e3 : (n : Int) < (n : Int) + 1 := by omega
  have e5 : IntKind.i64.wrap (7 - s % 8) = 7 - s % 8 := IntWalk.i64_in _ (by omega)
  go_still_tail 18, (by kernel_rfl)
  change wpList _ _ _ _ _ W2.drew
  go_wp2
  go_end0
  refine ⟨rfl, q, cap, w1, HW.out, HG.out, hqq, hqg, ?_⟩
  rw [HW3.out]
  exact ⟨rfl, HP3.out.1, HP3.out.2.1, HP3.out.2.2⟩
end Go.Proofs.Ytdlblpmjghjhlaa
