/- slices.Clone of a slice of integers; Clone: the same counts in blocks of their own. -/
import Derived.Test.YtjacjgchbpghiaaTabIs
namespace Go.Proofs.Ytjacjgchbpghiaa
open Go.RowKit

theorem empty_ints (w : World) : (w.alloc (.cells #[] 3)).ownsRow w.heap.size 3 1 (.slice (some ⟨w.heap.size, 0, none⟩) 0 0) 0 [] :=
  World.ownsRow_made w #[] 0 (Nat.le_refl _) (by unfold maxLen; omega) (by simp)
theorem own_grown_below {w w1 w2 : World} {B : Nat} {v : Value} (hb : Below B w w1) (hg : w1.grownBy w2 v.ownBlock) (hB : B ≤ w1.heap.size) (hv : ∀ k, v.ownBlock = some k → B ≤ k) : Below B w w2 :=
  hb.trans ⟨hg.os, hg.tape, hg.output, hg.size, fun j hj => hg.block j (by omega) (fun e => by have := hv j e.symm; omega)⟩

theorem eqlIn_nil (d : Nat) (w : World) (a : Option Addr) (n c : Nat) : (Op.equalIn (d + 1) 22 (.slice a n c) (.slice none 0 0)).run Try.prog w = .ok a.isNone w := by
  cases a <;> simp [Op.equalIn, run_underlying Try.underlying22]
theorem eql_nil (w : World) (a : Option Addr) (n c : Nat) : (binOp .eql 22 (.slice a n c) (.slice none 0 0)).run Try.prog w = .ok (.bool a.isNone) w := by
  have h : (Op.equal 22 (.slice a n c) (.slice none 0 0)).run Try.prog w = .ok a.isNone w := eqlIn_nil 9999 w a n c
  simp [binOp, h]

theorem cloneInts_any (w : World) (ad : Addr) (n c : Nat) (xs : List Int) (h : Reads w (some ad) n (ints xs)) (hn : n ≤ 1000000) :
    Calls Try.prog 32 #[.slice (some ad) n c] w fun e w' => ∃ v, e = .returned v ∧ w'.ownsRow w.heap.size 3 1 v n (ints xs) ∧ Below w.heap.size w w' := by
  obtain ⟨i0, hi, hz0, hz1, hz2⟩ := info_parts Try.infoInt
  have HI := Lib.hid hi
  have HZ := Lib.hid (And.intro hz0 (And.intro hz1 hz2))
  have N1 := Lib.hid (empty_ints w)
  have B1 := Lib.hid ((Below.refl w.heap.size w).alloc (Nat.le_refl _) (.cells #[] 3))
  have HR := Lib.hid (h.below ((Below.refl w.heap.size w).alloc (Nat.le_refl _) (.cells #[] 3)))
  clear h hi hz0 hz1 hz2
  have hq := eql_nil w (some ad) n c
  simp only [Option.isNone_some] at hq
  go_enter Try.func32, Try.ntmps32
  go_wp2_with (at_builtin; refine wpList_append_reads rfl (.tmp 5) (.tmp 6) 22 rfl w.heap.size 3 i0 (.int .i64 0) 8 Try.underlying22 HI.out HZ.out rfl (.slice (some ⟨w.heap.size, 0, none⟩) 0 0) 0 [] rfl N1.out (some ad) n c (ints xs) rfl HR.out (fun e => (nomatch e)) (ints_one xs) ?b1 ?b2 ?b3 ?_)
  case b1 => unfold maxLen; omega
  case b2 => omega
  case b3 => simp
  intro v' w2 hown hgr
  have O := Lib.hid (show w2.ownsRow w.heap.size 3 1 v' n (ints xs) by simpa using hown)
  have B2 := Lib.hid (own_grown_below B1.out hgr B1.out.size (fun k hk => by simp [Value.ownBlock] at hk; omega))
  clear hown hgr
  go_wp2
  go_ret
  exact ⟨v', rfl, O.out, B2.out⟩

/-- A slice of integers in a block of its own. -/
theorem own_row {w : World} {B n : Nat} {v : Value} {xs : List Int} (h : w.ownsRow B 3 1 v n (ints xs)) (h0 : 0 < n) : ∃ q cap rest, v = .slice (some ⟨q, 0, none⟩) n cap ∧ B ≤ q ∧ n ≤ cap ∧ w.heap[q]? = some (.cells (ints xs ++ rest).toArray 3 (0, 0)) := by
  rcases h.2 with ⟨_, h2⟩ | ⟨q, cap, cur, h1, hq, hh, hc, hm, hs, ht⟩
  · omega
  · refine ⟨q, cap, cur.toList.drop n, h1, hq, hc, ?_⟩
    rw [Nat.mul_one] at ht
    rw [hh, ← ht, List.take_append_drop]

theorem TIs.reads {w : World} {g q cap : Nat} {c : List Int} (h : TIs w g q cap c) : Reads w (some ⟨q, 0, none⟩) c.length (ints (ends c)) := by
  obtain ⟨r, hr⟩ := h.row
  refine ⟨by rw [length_ints, length_ends], fun _ => ⟨_, rfl, fun j u hj => ?_⟩⟩
  rw [add_zero_addr, cell_in hr, List.getElem?_toArray, List.getElem?_append_left (List.getElem?_eq_some_iff.1 hj).1]
  exact hj

theorem clone_any (w : World) (g q cap : Nat) (c : List Int) (h : TIs w g q cap c) (h0 : 0 < c.length) (hm : c.length ≤ 256) :
    Calls Try.prog 24 #[.pointer (some ⟨g, 0, none⟩)] w fun e w' => ∃ g1 q1 cap1, e = .returned (.pointer (some ⟨g1, 0, none⟩)) ∧ TIs w' g1 q1 cap1 c ∧ w.heap.size ≤ g1 ∧ w.heap.size ≤ q1 ∧ Below w.heap.size w w' := by
  have c0 := h.head
  have K := Lib.hid (cloneInts_any w ⟨q, 0, none⟩ c.length cap (ends c) h.reads (by omega))
  clear h
  obtain ⟨n, hn⟩ : ∃ n, c.length = n := ⟨_, rfl⟩
  rw [hn] at c0 K h0
  have HN := Lib.hid hn
  clear hn hm
  go_enter Try.func24, Try.ntmps24
  go_wp2_with fail
  refine K.out.mono ?_
  rintro e w1 ⟨v, rfl, hown, b1⟩
  obtain ⟨q1, cap1, rest, rfl, hq, _, hh⟩ := own_row hown h0
  have B1 := Lib.hid b1
  have HH := Lib.hid hh
  clear hown b1 hh
  go_wp2
  go_ret
  refine ⟨w1.heap.size, q1, cap1, rfl, ⟨?_, rest, ?_⟩, B1.out.size, hq, B1.out.alloc B1.out.size _⟩
  · rw [heap_alloc_new, HN.out]
  · rw [Below.heap_alloc _ _ _ (heap_lt HH.out), HH.out]

theorem clone_nil (w : World) : Calls Try.prog 24 #[.pointer none] w fun e w' => e = .returned (.pointer none) ∧ Reading w w' := by
  go_enter Try.func24, Try.ntmps24
  go_wp2
  go_ret
  exact ⟨rfl, 0, rfl⟩
end Go.Proofs.Ytjacjgchbpghiaa
