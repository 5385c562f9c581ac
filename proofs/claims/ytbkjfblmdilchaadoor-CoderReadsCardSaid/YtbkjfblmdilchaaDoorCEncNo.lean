/- Encode of layer 4 where it refuses; New. -/
import Derived.Test.YtbkjfblmdilchaaDoorCEncIs
namespace Go.Proofs.YtbkjfblmdilchaaDoor
open Go.RowKit

set_option maxHeartbeats 800000 in
set_option maxRecDepth 100000 in
theorem encode_nil (w : World) (t : Value) (s : Int) : Calls Tryd.prog 14 #[.pointer none, t, .int .i64 s] w fun e w' => e = .returned (.int .i64 1) ∧ Reading w w' := by
  go_enter Tryd.func14, Tryd.ntmps14
  go_wp2
  go_ret
  exact ⟨rfl, 0, rfl⟩
set_option maxHeartbeats 800000 in
set_option maxRecDepth 100000 in
theorem encode_notab (w : World) (p : Addr) (s : Int) : Calls Tryd.prog 14 #[.pointer (some p), .pointer none, .int .i64 s] w fun e w' => e = .returned (.int .i64 1) ∧ Reading w w' := by
  have K := Lib.hid (symbols_nil w)
  go_enter Tryd.func14, Tryd.ntmps14
  go_wp2_with fail
  refine K.out.mono ?_
  rintro e w1 ⟨rfl, b1⟩
  have B1 := Lib.hid b1
  clear b1
  go_wp2
  go_ret
  exact ⟨rfl, B1.out⟩
set_option maxHeartbeats 800000 in
set_option maxRecDepth 100000 in
theorem encode_range (w : World) (p : Addr) (gt q cap : Nat) (c : List Int) (ht : TIs w gt q cap c) (ok : Ok c) (s : Int) (hs : s < 0 ∨ c.length ≤ s) :
    Calls Tryd.prog 14 #[.pointer (some p), .pointer (some ⟨gt, 0, none⟩), .int .i64 s] w fun e w' => e = .returned (.int .i64 2) ∧ Reading w w' := by
  have KS := Lib.hid (fun w' (b : Reading w w') => symbols_any w' gt q cap c (ht.read b))
  have n1 := ok.pos
  have n2 := ok.few
  clear ht ok
  generalize c.length = n at *
  have t1 : ((n : Int) == 0) = false := by simp; omega
  by_cases h0 : s < 0
  · clear hs
    go_enter Tryd.func14, Tryd.ntmps14
    go_wp2_with fail
    refine (KS.out w (Reading.refl w)).mono ?_
    rintro e w1 ⟨rfl, b1⟩
    have B1 := Lib.hid b1
    clear b1
    go_wp2
    go_ret
    exact ⟨rfl, B1.out⟩
  · have h1 : (n : Int) ≤ s := by omega
    clear hs
    go_enter Tryd.func14, Tryd.ntmps14
    go_wp2_with fail
    refine (KS.out w (Reading.refl w)).mono ?_
    rintro e w1 ⟨rfl, b1⟩
    have B1 := Lib.hid b1
    clear b1
    go_wp2_with fail
    refine (KS.out w1 B1.out).mono ?_
    rintro e w2 ⟨rfl, b2⟩
    have B2 := Lib.hid (B1.out.trans b2)
    clear b2
    go_wp2
    go_ret
    exact ⟨rfl, B2.out⟩

def MadeEnc (w : World) (B : Nat) (e : Ending) (w' : World) : Prop :=
  ∃ g v, e = .returned (.pointer (some ⟨g, 0, none⟩)) ∧ EIs w' B g v firstIv ∧ Below w.heap.size w w' ∧ w.heap.size ≤ g ∧ v.ownBlock = none
set_option maxHeartbeats 800000 in
set_option maxRecDepth 100000 in
theorem cnew_any (w : World) (B : Nat) (hB : B ≤ w.heap.size) : Calls Tryd.prog 12 #[] w (MadeEnc w B) := by
  have HB := Lib.hid hB
  clear hB
  go_enter Tryd.func12, Tryd.ntmps12
  go_wp2
  go_ret
  refine ⟨_, .slice none 0 0, rfl, ⟨?_, World.ownsRow_nil _ _ _ _, HB.out⟩, ⟨rfl, rfl, rfl, by simp, fun b hb => Below.heap_alloc _ _ _ hb⟩, Nat.le_refl _, rfl⟩
  exact (Array.getElem?_push_size : (w.heap.push _)[w.heap.size]? = some _)
end Go.Proofs.YtbkjfblmdilchaaDoor
