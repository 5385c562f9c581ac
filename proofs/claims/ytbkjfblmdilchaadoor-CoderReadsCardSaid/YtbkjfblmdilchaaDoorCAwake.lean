/- awake: the document's examples come out. -/
import Derived.Test.YtbkjfblmdilchaaDoorCCode
namespace Go.Proofs.YtbkjfblmdilchaaDoor
open Go.RowKit

def c112 : List Int := [1, 1, 2]
theorem ok112 : Ok c112 := ⟨by decide, by decide, by decide, by decide⟩
theorem codeA {b : List Nat} (h : IsCode (runIv firstIv (nats [(c112, 0), (c112, 0)])) b) : b = [] := by
  have e : runIv firstIv (nats [(c112, 0), (c112, 0)]) = ⟨0, 0, 268435456⟩ := by kernel_rfl
  rw [e] at h
  exact isCode_one h (even_code ⟨by decide, by decide, by decide⟩ 0 0 (Nat.le_refl _) (by decide) (Nat.le_refl _) (fun j h1 h2 => by have : j < 0 := h2; omega) (.inl rfl))
theorem codeB {b : List Nat} (h : IsCode (runIv firstIv (nats [(c112, 2)])) b) : b = [128] := by
  have e : runIv firstIv (nats [(c112, 2)]) = ⟨0, 2147483648, 2147483648⟩ := by kernel_rfl
  rw [e] at h
  exact isCode_one h (odd_code ⟨by decide, by decide, by decide⟩ (by unfold evenIv; decide))
theorem codeD {b : List Nat} (h : IsCode (runIv firstIv (nats [(c112, 1), (c112, 0)])) b) : b = [64] := by
  have e : runIv firstIv (nats [(c112, 1), (c112, 0)]) = ⟨0, 1073741824, 268435456⟩ := by kernel_rfl
  rw [e] at h
  exact isCode_one h (odd_code ⟨by decide, by decide, by decide⟩ (by unfold evenIv; decide))
theorem right112 (l : List Int) (h : ∀ s ∈ l, 0 ≤ s ∧ s < 3) : AllRight (l.map fun s => (c112, s)) := by
  intro p hp
  obtain ⟨s, hs, rfl⟩ := List.mem_map.1 hp
  exact ⟨⟨ok112, (h s hs).1, by show s < (3 : Int); exact (h s hs).2⟩, by show (3 : Nat) ≤ 20; decide⟩

theorem steps_two {w : World} {q : Nat} {A : Option Addr} {n c : Nat} {cl : List Int} (s t : Int) (hr : Reads w A n (ints cl)) (hq : q = w.heap.size) :
    Steps (w.alloc (.cells #[.slice A n c, .int .i64 s, .slice A n c, .int .i64 t] 36)) (some ⟨q, 0, none⟩) 2 [(cl, s), (cl, t)] := by
  subst hq
  have hN : (w.alloc (.cells #[.slice A n c, .int .i64 s, .slice A n c, .int .i64 t] 36)).heap[w.heap.size]? = some (.cells #[.slice A n c, .int .i64 s, .slice A n c, .int .i64 t] 36 (0, 0)) := (Array.getElem?_push_size : (w.heap.push _)[w.heap.size]? = some _)
  have hb : Below w.heap.size w (w.alloc (.cells #[.slice A n c, .int .i64 s, .slice A n c, .int .i64 t] 36)) := ⟨rfl, rfl, rfl, by simp, fun b hb => Below.heap_alloc _ _ _ hb⟩
  refine ⟨rfl, fun _ => ⟨_, _, rfl, fun i p hp => ?_⟩⟩
  rcases i with _ | _ | i
  · injection hp with hp
    subst hp
    exact ⟨A, n, c, by rw [cell_in hN]; rfl, by rw [cell_in hN]; rfl, hr.below hb⟩
  · injection hp with hp
    subst hp
    exact ⟨A, n, c, by rw [cell_in hN]; rfl, by rw [cell_in hN]; rfl, hr.below hb⟩
  · cases hp
theorem steps_one {w : World} {q : Nat} {A : Option Addr} {n c : Nat} {cl : List Int} (s : Int) (hr : Reads w A n (ints cl)) (hq : q = w.heap.size) :
    Steps (w.alloc (.cells #[.slice A n c, .int .i64 s] 36)) (some ⟨q, 0, none⟩) 1 [(cl, s)] := by
  subst hq
  have hN : (w.alloc (.cells #[.slice A n c, .int .i64 s] 36)).heap[w.heap.size]? = some (.cells #[.slice A n c, .int .i64 s] 36 (0, 0)) := (Array.getElem?_push_size : (w.heap.push _)[w.heap.size]? = some _)
  have hb : Below w.heap.size w (w.alloc (.cells #[.slice A n c, .int .i64 s] 36)) := ⟨rfl, rfl, rfl, by simp, fun b hb => Below.heap_alloc _ _ _ hb⟩
  refine ⟨rfl, fun _ => ⟨_, _, rfl, fun i p hp => ?_⟩⟩
  rcases i with _ | i
  · injection hp with hp
    subst hp
    exact ⟨A, n, c, by rw [cell_in hN]; rfl, by rw [cell_in hN]; rfl, hr.below hb⟩
  · cases hp
theorem alloc_below (w : World) (o : Obj) : Below w.heap.size w (w.alloc o) := ⟨rfl, rfl, rfl, by simp, fun b hb => Below.heap_alloc _ _ _ hb⟩
theorem reads_one (w : World) (d : Nat) : Reads (w.alloc (.cells #[.int .u8 (d : Int)] 5)) (some ⟨w.heap.size, 0, none⟩) 1 (bts [d]) :=
  Reads.of_block (t := 5) (xs := [.int .u8 (d : Int)]) (Array.getElem?_push_size : (w.heap.push _)[w.heap.size]? = some _)

set_option maxHeartbeats 3200000 in
set_option maxRecDepth 100000 in
theorem awake_true (w : World) : Calls Tryd.prog 10 #[] w fun e w' => e = .returned (.bool true) ∧ Below w.heap.size w w' := by
  have R1 := Lib.hid (show Reads (w.alloc (.cells #[.int .i64 1, .int .i64 1, .int .i64 2] 3)) (some ⟨w.heap.size, 0, none⟩) 3 (ints c112) from
    Reads.of_block (t := 3) (xs := [.int .i64 1, .int .i64 1, .int .i64 2]) (Array.getElem?_push_size : (w.heap.push _)[w.heap.size]? = some _))
  have B1 := Lib.hid (alloc_below w (.cells #[.int .i64 1, .int .i64 1, .int .i64 2] 3))
  go_enter Tryd.func10, Tryd.ntmps10
  go_wp2_with fail
  generalize hw1 : w.alloc (.cells #[.int .i64 1, .int .i64 1, .int .i64 2] 3) = w1 at *
  have hs1 : w.heap.size + 1 = w1.heap.size := by rw [← hw1]; simp
  clear hw1
  refine (code_ok _ _ 2 2 [(c112, 0), (c112, 0)] (steps_two 0 0 R1.out hs1) (right112 [0, 0] (by decide)) (by decide)).mono ?_
  rintro e w2 ⟨b2, v2, rfl, i2, o2, h2⟩
  obtain rfl := codeA i2
  have g2 := (alloc_below w1 (.cells #[.slice (some ⟨w.heap.size, 0, none⟩) 3 3, .int .i64 0, .slice (some ⟨w.heap.size, 0, none⟩) 3 3, .int .i64 0] 36)).trans (h2.mono (by simp))
  have B2 := Lib.hid (B1.out.trans (g2.mono B1.out.size))
  have R2 := Lib.hid (R1.out.below g2)
  obtain ⟨A2, c2, rfl, _, _⟩ := Reads.of_own o2
  clear i2 o2 h2 g2 R1 hs1
  go_wp2_with fail
  refine (code_ok _ _ 1 1 [(c112, 2)] (steps_one 2 R2.out rfl) (right112 [2] (by decide)) (by decide)).mono ?_
  rintro e w3 ⟨b3, v3, rfl, i3, o3, h3⟩
  obtain rfl := codeB i3
  have g3 := (alloc_below w2 (.cells #[.slice (some ⟨w.heap.size, 0, none⟩) 3 3, .int .i64 2] 36)).trans (h3.mono (by simp))
  have B3 := Lib.hid (B2.out.trans (g3.mono B2.out.size))
  have R3 := Lib.hid (R2.out.below g3)
  have O3 := Lib.hid o3
  clear i3 o3 h3 g3 R2
  go_wp2_with fail
  refine (code_ok _ _ 2 2 [(c112, 1), (c112, 0)] (steps_two 1 0 R3.out rfl) (right112 [1, 0] (by decide)) (by decide)).mono ?_
  rintro e w4 ⟨b4, v4, rfl, i4, o4, h4⟩
  obtain rfl := codeD i4
  have g4 := (alloc_below w3 (.cells #[.slice (some ⟨w.heap.size, 0, none⟩) 3 3, .int .i64 1, .slice (some ⟨w.heap.size, 0, none⟩) 3 3, .int .i64 0] 36)).trans (h4.mono (by simp))
  have B4 := Lib.hid (B3.out.trans (g4.mono B3.out.size))
  have O4 := Lib.hid (own_keep (S := fun _ => False) O3.out (.of_below g4) (fun _ _ => id))
  obtain ⟨A3, c3, rfl, _, r3⟩ := Reads.of_own O4.out
  obtain ⟨A4, c4, rfl, _, r4⟩ := Reads.of_own o4
  have R4 := Lib.hid (⟨r3, r4⟩ : Reads w4 A3 [128].length (bts [128]) ∧ Reads w4 A4 [64].length (bts [64]))
  clear i4 o4 h4 g4 R3 r3 r4 O3 O4
  go_wp2_with fail
  have a5 := alloc_below w4 (.cells #[.int .u8 128] 5)
  refine (same4_any _ _ _ 1 1 _ _ [128] [128] (R4.out.1.below a5) (reads_one w4 128) (by decide) (by decide)).mono ?_
  rintro e w5 ⟨rfl, b5⟩
  have B5 := Lib.hid ((B4.out.trans (a5.mono B4.out.size)).trans b5.below)
  have R5 := Lib.hid ((R4.out.2.below a5).read b5)
  clear b5 a5
  rw [decide_eq_true (rfl : [128] = [128])]
  go_wp2_with fail
  have a6 := alloc_below w5 (.cells #[.int .u8 64] 5)
  refine (same4_any _ _ _ 1 1 _ _ [64] [64] (R5.out.below a6) (reads_one w5 64) (by decide) (by decide)).mono ?_
  rintro e w6 ⟨rfl, b6⟩
  have B6 := Lib.hid ((B5.out.trans (a6.mono B5.out.size)).trans b6.below)
  clear b6 a6
  rw [decide_eq_true (rfl : [64] = [64])]
  go_wp2
  go_ret
  exact ⟨rfl, B6.out⟩
end Go.Proofs.YtbkjfblmdilchaaDoor
