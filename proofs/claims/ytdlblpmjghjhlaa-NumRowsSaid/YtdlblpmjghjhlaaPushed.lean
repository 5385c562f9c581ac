/- push, in words of bits. -/
import Derived.Test.YtdlblpmjghjhlaaPush
import Derived.Test.YtdlblpmjghjhlaaPlain
namespace Go.Proofs.Ytdlblpmjghjhlaa
open Go.RowKit

theorem own_congr {w w' : World} (h : w'.heap = w.heap) {base : Nat} {e : TypeId} {size : Nat} {v : Value} {n : Nat} {xs : List Value} (k : w.ownsRow base e size v n xs) : w'.ownsRow base e size v n xs := by
  unfold World.ownsRow at *; rw [h]; exact k
theorem laid_nat (x : Nat) (hx : x < 256) (b : Bool) (s : Nat) : laid x b.toNat s = ((x ||| b.toNat * 2 ^ (7 - s % 8) : Nat) : Int) := by
  unfold laid
  have h7 : min (7 - (s : Int) % 8).toNat 8 = 7 - s % 8 := by omega
  have hp : 2 ^ (7 - s % 8) ≤ 128 := by
    have : 2 ^ (7 - s % 8) ≤ 2 ^ 7 := Nat.pow_le_pow_right (by omega) (by omega)
    simpa using this
  have hy : b.toNat * 2 ^ (7 - s % 8) < 256 := by cases b <;> simp; omega
  have he : ((b.toNat : Int) * 2 ^ min (7 - (s : Int) % 8).toNat 8 % 256) = ((b.toNat * 2 ^ (7 - s % 8) : Nat) : Int) := by
    rw [h7]
    have : ((b.toNat : Int) * 2 ^ (7 - s % 8)) = ((b.toNat * 2 ^ (7 - s % 8) : Nat) : Int) := by push_cast; rfl
    rw [this]; omega
  rw [he, u8_or_nat _ _ hx hy]
theorem u8s_set (xs : List Nat) (k x : Nat) : (u8s xs).set k (.int .u8 (x : Int)) = u8s (xs.set k x) := by simp [u8s, List.map_set]
theorem u8s_snoc (xs : List Nat) (x : Nat) : u8s xs ++ [.int .u8 (x : Int)] = u8s (xs ++ [x]) := by simp [u8s]

/-- What a call leaves behind that writes into the writer in block g. -/
def Wrote (w w' : World) (B g : Nat) (v : Value) (bs : List Bool) : Prop := ∃ v', WIs w' B g v' bs ∧ Kept w w' g v ∧ Moved w v v'

theorem Wrote.trans {w w' w'' : World} {B g : Nat} {v : Value} {bs : List Bool} {v' : Value} (k : Kept w w' g v) (m : Moved w v v') (h : Wrote w' w'' B g v' bs) : Wrote w w'' B g v bs := by
  obtain ⟨v2, h2, k2, m2⟩ := h
  exact ⟨v2, h2, k.trans m k2, Moved.trans k m m2⟩

set_option maxHeartbeats 800000 in
theorem push_any (w : World) (B g : Nat) (v : Value) (bs : List Bool) (b : Bool) (h : WIs w B g v bs) (hB : B ≤ w.heap.size) (hl : bs.length < 33554432) :
    Calls Try.prog 41 #[.pointer (some ⟨g, 0, none⟩), .int .u8 (b.toNat : Int)] w fun e w' => e = .returned (.tuple #[]) ∧ Wrote w w' B g v (bs ++ [b]) := by
  have hg := heap_lt h.blk
  have c0 : w.cell? ⟨g, 0, none⟩ = some v := by rw [cell_in h.blk]; rfl
  have c1 : w.cell? ⟨g, 1, none⟩ = some (.int .i64 (bs.length : Int)) := by rw [cell_in h.blk]; rfl
  have f0 := frozen_in h.blk 0
  have f1 := frozen_in h.blk 1
  have hlp := length_pack bs
  have hne := h.own_ne
  by_cases hu : bs.length % 8 = 0
  · have hv : ∃ A c, v = .slice A (pack bs).length c := by
      rcases h.row.2 with ⟨h1, h2⟩ | ⟨q, cap, cur, h1, _⟩
      · exact ⟨none, 0, by rw [h1, h2]⟩
      · exact ⟨_, _, h1⟩
    obtain ⟨A, c, rfl⟩ := hv
    refine (push_none w B g (pack bs).length c A (u8s (pack bs)) bs.length b.toNat (by omega) (by omega) (by simp; omega) (by omega) hB hg c0 c1 f0 f1 h.row hne).mono ?_
    rintro e w' ⟨rfl, q, cap, w1, hown, hgr, hq, hqg, hs⟩
    refine ⟨rfl, .slice (some ⟨q, 0, none⟩) ((pack bs).length + 1) cap, ⟨?_, ?_⟩, ⟨?_, ?_, ?_, ?_, ?_⟩, ?_⟩
    · have hb1 : w1.heap[g]? = some (.cells #[.slice A (pack bs).length c, .int .i64 (bs.length : Int)] 27 (0, 0)) := (hgr.block g hg (fun e => hne e.symm)).trans h.blk
      rw [hs.heap]
      have := heap_set (heap_far (heap_set hb1 0 (.slice (some ⟨q, 0, none⟩) ((pack bs).length + 1) cap)) (p := ⟨q, (pack bs).length, none⟩) (fun e => hqg e.symm) (.int .u8 (laid 0 b.toNat bs.length))) 1 (.int .i64 ((bs.length : Int) + 1))
      rw [this]; simp
    · refine own_congr hs.heap ?_
      have h1 := ownsRow_far hown (p := ⟨g, 0, none⟩) (by simpa [Value.ownBlock] using hqg) (.slice (some ⟨q, 0, none⟩) ((pack bs).length + 1) cap)
      have h2 := (h1.stored (pack bs).length (.int .u8 (laid 0 b.toNat bs.length))).1
      have h3 := ownsRow_far h2 (p := ⟨g, 1, none⟩) (by simpa [Value.ownBlock] using hqg) (.int .i64 ((bs.length : Int) + 1))
      have e0 : laid 0 b.toNat bs.length = ((0 ||| b.toNat * 2 ^ (7 - bs.length % 8) : Nat) : Int) := laid_nat 0 (by omega) b bs.length
      have e1 : (u8s (pack bs) ++ [Value.int .u8 0]).set (pack bs).length (.int .u8 (laid 0 b.toNat bs.length)) = u8s (pack (bs ++ [b])) := by
        rw [pack_snoc_none bs b hu, e0, ← u8s_snoc, List.set_append_right _ _ (by simp [u8s])]; simp [u8s]
      rw [e1] at h3
      have e2 : (pack (bs ++ [b])).length = (pack bs).length + 1 := by rw [length_pack, length_pack]; simp; omega
      rw [e2]; exact h3
    · exact hs.os.trans hgr.os
    · exact hs.tape.trans hgr.tape
    · exact hs.output.trans hgr.output
    · rw [hs.heap]; simpa using hgr.size
    · intro k hk hkg hkv
      rw [hs.heap, Below.heap_setCell _ _ _ _ hkg, Below.heap_setCell _ _ _ _ (by
        rintro rfl
        rcases hq with hq | hq
        · exact hkv hq.symm
        · omega), Below.heap_setCell _ _ _ _ hkg]
      exact hgr.block k hk hkv
    · rcases hq with hq | hq
      · exact .inl (by simpa [Value.ownBlock] using hq.symm)
      · exact .inr ⟨q, rfl, hq⟩
  · have hm : (pack bs).length = bs.length / 8 + 1 := by omega
    obtain ⟨q, cap, rfl⟩ : ∃ q cap, v = .slice (some ⟨q, 0, none⟩) (bs.length / 8 + 1) cap := by
      rcases h.row.2 with ⟨h1, h2⟩ | ⟨q, cap, cur, h1, _⟩
      · omega
      · exact ⟨q, cap, by rw [← hm]; exact h1⟩
    have hqg : q ≠ g := by simpa [Value.ownBlock] using hne
    have hrow := h.row
    rw [hm] at hrow
    have cx : w.cell? ⟨q, bs.length / 8, none⟩ = some (.int .u8 (byteAt bs (bs.length / 8) : Nat)) := by
      rw [hrow.cellAt _ (by omega)]
      simp only [u8s, List.getElem?_map]
      rw [getD_pack _ _ (by omega)]; rfl
    refine (push_some w g q (bs.length / 8) cap bs.length (byteAt bs (bs.length / 8) : Nat) b.toNat (by omega) (by omega) (by simp; omega) (by omega) c0 c1 f1 cx (hrow.frozenAt _) hqg).mono ?_
    rintro e w' ⟨rfl, hs⟩
    refine ⟨rfl, .slice (some ⟨q, 0, none⟩) (bs.length / 8 + 1) cap, ⟨?_, ?_⟩, ⟨?_, ?_, ?_, ?_, ?_⟩, .inl rfl⟩
    · rw [hs.heap]
      have := heap_set (heap_far h.blk (p := ⟨q, bs.length / 8, none⟩) (fun e => hqg e.symm) (.int .u8 (laid (byteAt bs (bs.length / 8) : Nat) b.toNat bs.length))) 1 (.int .i64 ((bs.length : Int) + 1))
      rw [this]; simp
    · refine own_congr hs.heap ?_
      have h2 := (hrow.stored (bs.length / 8) (.int .u8 (laid (byteAt bs (bs.length / 8) : Nat) b.toNat bs.length))).1
      have h3 := ownsRow_far h2 (p := ⟨g, 1, none⟩) (by simpa [Value.ownBlock] using hqg) (.int .i64 ((bs.length : Int) + 1))
      rw [laid_nat _ (byteAt_lt _ _), u8s_set, ← pack_snoc_some bs b hu] at h3
      have e2 : (pack (bs ++ [b])).length = bs.length / 8 + 1 := by rw [length_pack]; simp; omega
      rw [e2]; rw [laid_nat _ (byteAt_lt _ _)]; exact h3
    · exact hs.os
    · exact hs.tape
    · exact hs.output
    · rw [hs.heap]; simp
    · intro k hk hkg hkv
      rw [hs.heap, Below.heap_setCell _ _ _ _ hkg, Below.heap_setCell _ _ _ _ (by
        rintro rfl
        exact hkv rfl)]
end Go.Proofs.Ytdlblpmjghjhlaa
