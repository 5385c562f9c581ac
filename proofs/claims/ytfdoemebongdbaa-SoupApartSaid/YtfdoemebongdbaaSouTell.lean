/- Layer 8: what Pick and Part tell, the code's and the document's, in one relation that has one answer. -/
import Derived.Test.YtfdoemebongdbaaSouLaw
import Derived.Test.YtfdoemebongdbaaSouRefD
import Derived.Test.YtfdoemebongdbaaSouRPart
namespace Go.Proofs.Ytfdoemebongdbaa
open Go.RowKit

def PickAns (N : Int) (n : Nat) (l : List Tr) (cs : List Int) (N' : Int) (l' : List Tr) (k : Int) : Prop :=
  (¬ Fit N l ∧ N' = 0 ∧ l' = [] ∧ k = 1) ∨ (Fit N l ∧ ¬ allIn (3 * (n : Int)) cs ∧ N' = 0 ∧ l' = [] ∧ k = 2) ∨ (Fit N l ∧ allIn (3 * (n : Int)) cs ∧ N' = N ∧ l' = cs.map (pickT l) ∧ k = 0)
theorem PickAns.one {N : Int} {n : Nat} {l : List Tr} {cs : List Int} {M M' : Int} {a a' : List Tr} {k k' : Int} (h : PickAns N n l cs M a k) (h' : PickAns N n l cs M' a' k') : M' = M ∧ a' = a ∧ k' = k := by
  rcases h with ⟨h1, rfl, rfl, rfl⟩ | ⟨h1, h2, rfl, rfl, rfl⟩ | ⟨h1, h2, rfl, rfl, rfl⟩ <;> rcases h' with ⟨g1, rfl, rfl, rfl⟩ | ⟨g1, g2, rfl, rfl, rfl⟩ | ⟨g1, g2, rfl, rfl, rfl⟩ <;> first
    | exact ⟨rfl, rfl, rfl⟩
    | exact absurd h1 g1
    | exact absurd g1 h1
    | exact absurd h2 g2
    | exact absurd g2 h2
def PartAns (N : Int) (n : Nat) (l : List Tr) (cs : List Int) (N' : Int) (l' : List Tr) (vs : List Int) (k : Int) : Prop :=
  (¬ Fit N l ∧ N' = 0 ∧ l' = [] ∧ vs = [] ∧ k = 1) ∨ (Fit N l ∧ ¬ allIn (n : Int) cs ∧ N' = 0 ∧ l' = [] ∧ vs = [] ∧ k = 2) ∨ (Fit N l ∧ allIn (n : Int) cs ∧ ¬ cs.Nodup ∧ N' = 0 ∧ l' = [] ∧ vs = [] ∧ k = 9) ∨
  (Fit N l ∧ allIn (n : Int) cs ∧ cs.Nodup ∧ N' = ((vertsUp l cs N.toNat).length : Int) ∧ l' = partL l (vertsUp l cs N.toNat) cs ∧ vs = vertsUp l cs N.toNat ∧ k = 0)
theorem PartAns.one {N : Int} {n : Nat} {l : List Tr} {cs : List Int} {M M' : Int} {a a' : List Tr} {v v' : List Int} {k k' : Int} (h : PartAns N n l cs M a v k) (h' : PartAns N n l cs M' a' v' k') : M' = M ∧ a' = a ∧ v' = v ∧ k' = k := by
  rcases h with ⟨h1, rfl, rfl, rfl, rfl⟩ | ⟨h1, h2, rfl, rfl, rfl, rfl⟩ | ⟨h1, h2, h3, rfl, rfl, rfl, rfl⟩ | ⟨h1, h2, h3, rfl, rfl, rfl, rfl⟩ <;> rcases h' with ⟨g1, rfl, rfl, rfl, rfl⟩ | ⟨g1, g2, rfl, rfl, rfl, rfl⟩ | ⟨g1, g2, g3, rfl, rfl, rfl, rfl⟩ | ⟨g1, g2, g3, rfl, rfl, rfl, rfl⟩ <;> first
    | exact ⟨rfl, rfl, rfl, rfl⟩
    | exact absurd h1 g1
    | exact absurd g1 h1
    | exact absurd h2 g2
    | exact absurd g2 h2
    | exact absurd h3 g3
    | exact absurd g3 h3
/-- A new soup and an error's number. -/
def PickTell (w : World) (N : Int) (n : Nat) (l : List Tr) (cs : List Int) (e : Ending) (w' : World) : Prop :=
  ∃ N' A m c l' k, e = .returned (.tuple #[.agg #[.int .i64 N', .slice A m c], .int .i64 k]) ∧ PickAns N n l cs N' l' k ∧ w'.ownsRow w.heap.size 51 3 (.slice A m c) m (ints (flat3 l')) ∧ m ≤ 8192 ∧ Below w.heap.size w w'
def PartTell (w : World) (N : Int) (n : Nat) (l : List Tr) (cs : List Int) (e : Ending) (w' : World) : Prop :=
  ∃ N' A m c l' Ao mo co vs k, e = .returned (.tuple #[.agg #[.int .i64 N', .slice A m c], .slice Ao mo co, .int .i64 k]) ∧ PartAns N n l cs N' l' vs k ∧ w'.ownsRow w.heap.size 51 3 (.slice A m c) m (ints (flat3 l')) ∧ w'.ownsRow w.heap.size 3 1 (.slice Ao mo co) mo (ints vs) ∧ m ≤ 8192 ∧ mo ≤ 8192 ∧ Below w.heap.size w w'

theorem pickTell_err {w w' : World} {N : Int} {n : Nat} {l : List Tr} {cs : List Int} {k : Int} {e : Ending} (h : ErrS w k e w') (ha : PickAns N n l cs 0 [] k) : PickTell w N n l cs e w' := by
  obtain ⟨rfl, b⟩ := h
  exact ⟨0, none, 0, 0, [], k, rfl, ha, World.ownsRow_nil _ _ _ _, by omega, b⟩
theorem pickTell_ok {w w' : World} {N : Int} {n : Nat} {l : List Tr} {cs : List Int} {e : Ending} (hm : cs.length ≤ 8192) (h : OkS w N (cs.map (pickT l)) e w') (hf : Fit N l) (hp : allIn (3 * (n : Int)) cs) : PickTell w N n l cs e w' := by
  obtain ⟨v, rfl, A, c, rfl, o, b⟩ := h
  exact ⟨_, A, _, c, _, 0, rfl, .inr (.inr ⟨hf, hp, rfl, rfl, rfl⟩), o, by rw [List.length_map]; exact hm, b⟩
theorem partTell_err {w w' : World} {N : Int} {n : Nat} {l : List Tr} {cs : List Int} {k : Int} {e : Ending} (h : ErrP w k e w') (ha : PartAns N n l cs 0 [] [] k) : PartTell w N n l cs e w' := by
  obtain ⟨rfl, b⟩ := h
  exact ⟨0, none, 0, 0, [], none, 0, 0, [], k, rfl, ha, World.ownsRow_nil _ _ _ _, World.ownsRow_nil _ _ _ _, by omega, by omega, b⟩
theorem partTell_ok {w w' : World} {M : Nat} {n : Nat} {l : List Tr} {cs : List Int} {e : Ending} (hm : cs.length ≤ 8192) (h : OkP w (vertsUp l cs M) (partL l (vertsUp l cs M) cs) e w') (hf : Fit (M : Int) l) (hp : allIn (n : Int) cs) (hd : cs.Nodup) : PartTell w (M : Int) n l cs e w' := by
  obtain ⟨v, A, c, rfl, ⟨A', c', rfl, o, b⟩, o'⟩ := h
  have h1 := vertsUp_le l cs M
  have h2 := hf.2.1
  exact ⟨_, A', _, c', _, A, _, c, _, 0, rfl, .inr (.inr (.inr ⟨hf, hp, hd, rfl, rfl, rfl, rfl⟩)), o, o', by rw [partL, List.length_map]; exact hm, by omega, b⟩

theorem spick_tell (w : World) (N : Int) (A B : Option Addr) (n c m d : Nat) (l : List Tr) (cs : List Int) (h : T3 w A n l) (ht : Reads w B m (ints cs)) (hn : n ≤ 1000000) (hm : m ≤ 8192) :
    Calls Try.prog 22 #[.agg #[.int .i64 N, .slice A n c], .slice B m d] w (PickTell w N n l cs) := by
  have hl : cs.length ≤ 8192 := by rw [ht.len]; exact hm
  by_cases hf : Fit N l
  · by_cases hp : allIn (3 * (n : Int)) cs
    · exact (spick_ok w N A B n c m d l cs h ht hn hm hf hp).mono fun e w' h' => pickTell_ok hl h' hf hp
    · exact (spick_range w N A B n c m d l cs h ht hn (by omega) hf hp).mono fun e w' h' => pickTell_err h' (.inr (.inl ⟨hf, hp, rfl, rfl, rfl⟩))
  · exact (spick_arg w N A B n c m d l h hn hf).mono fun e w' h' => pickTell_err h' (.inl ⟨hf, rfl, rfl, rfl⟩)
theorem rpick_tell (w : World) (N : Int) (A B : Option Addr) (n c m d : Nat) (l : List Tr) (cs : List Int) (h : T3 w A n l) (ht : Reads w B m (ints cs)) (hn : n ≤ 1000000) (hm : m ≤ 8192) :
    Calls Try.prog 23 #[.agg #[.int .i64 N, .slice A n c], .slice B m d] w (PickTell w N n l cs) := by
  have hl : cs.length ≤ 8192 := by rw [ht.len]; exact hm
  by_cases hf : Fit N l
  · refine (rpick_any w N A B n c m d l cs h ht hn hm hf).mono fun e w' h' => ?_
    rcases h' with ⟨hp, h'⟩ | ⟨hp, h'⟩
    · exact pickTell_ok hl h' hf hp
    · exact pickTell_err h' (.inr (.inl ⟨hf, hp, rfl, rfl, rfl⟩))
  · exact (rpick_arg w N A B n c m d l h hn hf).mono fun e w' h' => pickTell_err h' (.inl ⟨hf, rfl, rfl, rfl⟩)
theorem spart_tell (w : World) (N : Int) (A B : Option Addr) (n c m d : Nat) (l : List Tr) (cs : List Int) (h : T3 w A n l) (ht : Reads w B m (ints cs)) (hn : n ≤ 1000000) (hm : m ≤ 8192) :
    Calls Try.prog 24 #[.agg #[.int .i64 N, .slice A n c], .slice B m d] w (PartTell w N n l cs) := by
  have hl : cs.length ≤ 8192 := by rw [ht.len]; exact hm
  by_cases hf : Fit N l
  · by_cases hp : allIn (n : Int) cs
    · by_cases hd : cs.Nodup
      · obtain ⟨M, rfl⟩ : ∃ M : Nat, N = (M : Int) := ⟨N.toNat, by have := hf.1; omega⟩
        exact (spart_ok w M A B n c m d l cs h ht hn (by omega) hf hp hd).mono fun e w' h' => partTell_ok hl h' hf hp hd
      · exact (spart_twice w N A B n c m d l cs h ht hn (by omega) hf hp hd).mono fun e w' h' => partTell_err h' (.inr (.inr (.inl ⟨hf, hp, hd, rfl, rfl, rfl, rfl⟩)))
    · exact (spart_range w N A B n c m d l cs h ht hn (by omega) hf hp).mono fun e w' h' => partTell_err h' (.inr (.inl ⟨hf, hp, rfl, rfl, rfl, rfl⟩))
  · exact (spart_arg w N A B n c m d l h hn hf).mono fun e w' h' => partTell_err h' (.inl ⟨hf, rfl, rfl, rfl, rfl⟩)
theorem rpart_tell (w : World) (N : Int) (A B : Option Addr) (n c m d : Nat) (l : List Tr) (cs : List Int) (h : T3 w A n l) (ht : Reads w B m (ints cs)) (hn : n ≤ 1000) (hm : m ≤ 1000) :
    Calls Try.prog 25 #[.agg #[.int .i64 N, .slice A n c], .slice B m d] w (PartTell w N n l cs) := by
  have hl : cs.length ≤ 8192 := by rw [ht.len]; omega
  by_cases hf : Fit N l
  · obtain ⟨M, rfl⟩ : ∃ M : Nat, N = (M : Int) := ⟨N.toNat, by have := hf.1; omega⟩
    refine (rpart_any w M A B n c m d l cs h ht hn hm hf).mono fun e w' h' => ?_
    rcases h' with ⟨hp, h'⟩ | ⟨hp, hd, h'⟩ | ⟨hp, hd, h'⟩
    · exact partTell_err h' (.inr (.inl ⟨hf, hp, rfl, rfl, rfl, rfl⟩))
    · exact partTell_err h' (.inr (.inr (.inl ⟨hf, hp, hd, rfl, rfl, rfl, rfl⟩)))
    · exact partTell_ok hl h' hf hp hd
  · exact (rpart_arg w N A B n c m d l h (by omega) hf).mono fun e w' h' => partTell_err h' (.inl ⟨hf, rfl, rfl, rfl, rfl⟩)
end Go.Proofs.Ytfdoemebongdbaa
