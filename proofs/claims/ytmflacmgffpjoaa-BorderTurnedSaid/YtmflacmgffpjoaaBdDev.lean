/- Layer 12: the developers' border: its four functions, of any table and of none. -/
import Derived.Test.YtmflacmgffpjoaaBdEds
import Derived.Test.YtmflacmgffpjoaaBdLpd
namespace Go.Proofs.Ytmflacmgffpjoaa
open Go.RowKit

theorem bE_nil : bE [] = [] := rfl
theorem after_nil (v : Int) : afterV [] v = -1 := after_lone rfl
theorem rt_any {w : World} {B g : Nat} {N : Int} {l : List Tr} (h : KTab w B g N l) : RT w (some ⟨g, 0, none⟩) l := .inr ⟨B, g, N, rfl, h⟩
theorem rt_nil (w : World) : RT w none [] := .inl ⟨rfl, rfl⟩
theorem bdedges_any (w : World) (B g : Nat) (N : Int) (l : List Tr) (h : KTab w B g N l) : Calls Try.prog 14 #[.pointer (some ⟨g, 0, none⟩)] w (EdgesTold w (bE l)) := bdedges_of w _ l (rt_any h)
theorem bdedges_nil (w : World) : Calls Try.prog 14 #[.pointer none] w (EdgesTold w []) := bdedges_of w none [] (rt_nil w)
theorem bdafter_any (w : World) (B g : Nat) (N : Int) (l : List Tr) (h : KTab w B g N l) (v : Int) (_hv : -9223372036854775808 ≤ v ∧ v ≤ 9223372036854775807) : Calls Try.prog 16 #[.pointer (some ⟨g, 0, none⟩), .int .i64 v] w (IntTold w (afterV l v)) := bdafter_of w _ l (rt_any h) v
theorem bdafter_nil (w : World) (v : Int) (_hv : -9223372036854775808 ≤ v ∧ v ≤ 9223372036854775807) : Calls Try.prog 16 #[.pointer none, .int .i64 v] w (IntTold w (-1)) := by
  have := bdafter_of w none [] (rt_nil w) v
  rwa [after_nil] at this
theorem bdloops_any (w : World) (B g : Nat) (N : Int) (l : List Tr) (h : KTab w B g N l) (LL : List (List Nat)) (hL : IsLoops N l LL) : Calls Try.prog 19 #[.pointer (some ⟨g, 0, none⟩)] w (RowsTold w (LL.map natsI)) :=
  bdloops_of w _ l N (rt_any h) (fun _ b => (h.below b).verts) (.inr h.surf) LL hL
theorem bdloops_nil (w : World) : Calls Try.prog 19 #[.pointer none] w (RowsTold w []) :=
  bdloops_of w none [] 0 (rt_nil w) (fun _ _ => kverts_nil _) (.inl ⟨rfl, rfl⟩) [] (IsLoopsK.nil 0 [])
theorem bdwalk_any (w : World) (B g : Nat) (N : Int) (l : List Tr) (h : KTab w B g N l) (v : Int) (_hv : -9223372036854775808 ≤ v ∧ v ≤ 9223372036854775807) (xs : List Int) (hx : IsWalk N l v xs) (W : World) (hb : Below w.heap.size w W) : Calls Try.prog 24 #[.pointer (some ⟨g, 0, none⟩), .int .i64 v] W (SeqF 45 w.heap.size W xs) :=
  bdwalk_of (fun x => .int .i64 x) w _ l (rt_any h) N (.inr h.surf) v xs hx (fun _ _ => rfl) W hb
theorem bdwalk_nil (w : World) (v : Int) (_hv : -9223372036854775808 ≤ v ∧ v ≤ 9223372036854775807) (W : World) (hb : Below w.heap.size w W) : Calls Try.prog 24 #[.pointer none, .int .i64 v] W (SeqF 45 w.heap.size W []) :=
  bdwalk_of (fun x => .int .i64 x) w none [] (rt_nil w) 0 (.inl rfl) v [] (.inl ⟨by rw [after_nil]; decide, rfl⟩) (fun _ _ => rfl) W hb
end Go.Proofs.Ytmflacmgffpjoaa
