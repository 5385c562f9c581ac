/- What the laws of layer 7 share. -/
import Derived.Test.YtngambkbpdjddaaBoxAwake
import Derived.Test.YtngambkbpdjddaaBoxLawP
import Derived.Test.YtngambkbpdjddaaArgChunks
import Derived.Test.YtngambkbpdjddaaArgB4
namespace Go.Proofs.Ytngambkbpdjddaa
open Go.RowKit

/-- What small chunks are like. -/
structure Small7 (w : World) (A : Option Addr) (n : Nat) (cs : List (Nat × List Nat)) : Prop where
  ch : Chunks w A n cs
  dig : DigC cs
  sm : Small cs
theorem Small7.below {w w' : World} {A : Option Addr} {n : Nat} {cs : List (Nat × List Nat)} (h : Small7 w A n cs) (b : Below w.heap.size w w') : Small7 w' A n cs := ⟨h.ch.below b, h.dig, h.sm⟩
theorem Small7.n {w : World} {A : Option Addr} {n : Nat} {cs : List (Nat × List Nat)} (h : Small7 w A n cs) : n ≤ 12 := by have := h.sm.1; have := h.ch.len; omega
theorem Small7.size {w : World} {A : Option Addr} {n : Nat} {cs : List (Nat × List Nat)} (h : Small7 w A n cs) : (boxB cs).length = 36 + 18 * n + offs cs n ∧ offs cs n ≤ 1200 ∧ (boxB cs).length ≤ 1452 := by
  have h1 := length_box cs
  have h2 := offs_all cs
  have h3 := offs_bound h.sm.2 cs.length (Nat.le_refl _)
  have h4 := h.n
  rw [h.ch.len] at h1 h2 h3
  omega
theorem Small7.lt {w : World} {A : Option Addr} {n : Nat} {cs : List (Nat × List Nat)} (h : Small7 w A n cs) : cs.length < 65536 ∧ ∀ x ∈ cs, x.2.length < 4294967296 := ⟨by have := h.sm.1; omega, fun x hx => by have := h.sm.2 x hx; omega⟩
theorem Small7.pack {w : World} {A : Option Addr} {n : Nat} {cs : List (Nat × List Nat)} (h : Small7 w A n cs) (c : Nat) : Calls Try.prog 13 #[.slice A n c] w (PackIs w cs) :=
  bpack_ok w A n c cs h.ch h.dig (by have := h.n; omega) (by have := h.size; have := h.n; omega) (fun x hx => by have := h.sm.2 x hx; omega)
theorem Small7.lpack {w : World} {A : Option Addr} {n : Nat} {cs : List (Nat × List Nat)} (h : Small7 w A n cs) (c : Nat) : Calls Try.prog 14 #[.slice A n c] w (OwnB w (boxB cs).length (boxB cs)) := lpack_any w A n c cs h.ch h.dig h.sm
theorem own_cap {w : World} {B n c : Nat} {A : Option Addr} {l : List Value} (h : w.ownsRow B 5 1 (.slice A n c) n l) : n ≤ c := by
  rcases own_info h with ⟨h1, h2⟩ | ⟨q, c', h1, hc⟩
  · injection h1 with _ _ h3; omega
  · injection h1 with _ _ h3; omega
/-- append at a step of a region that draws its order, of an operation that is wanted: a slice that reads as a list is put behind an owned row (nil let in). -/
theorem step_append_want {P : Program} {w : World} {ops : Array Oper} {o : Oper} {a : Act} {K : Act → World → Prop} {Q : Exit → Act → World → Prop} {E : Prop} (hw : Region.wanted o (yielded ops a.tmps) = true) (s x : Operand) (t : TypeId)
    (ho : o.op = .call { callee := .builtin .append, args := #[s, x], argTypes := #[t, t] }) (base : Nat) (e : TypeId) (i : TypeInfo) (z : Value) (bytes : Nat) (ht : P.underlying t = some (.slice e)) (hi : P.info? e = some i)
    (hz : i.zero = some z ∧ i.size = 1 ∧ i.bytes = bytes) (hzs : z.cells.size = 1) (v : Value) (n : Nat) (xs : List Value) (hs : a.eval s = v) (hown : w.ownsRow base e 1 v n xs) (A : Option Addr) (m c : Nat) (news : List Value) (hx : a.eval x = .slice A m c)
    (hr : Reads w A m news) (hA : A = none → c = 0) (h1 : ∀ u ∈ news, u.oneCell' = true) (h63 : n + m ≤ maxLen) (hbytes : (n + m) * bytes ≤ 140737488355328) (hbase : base ≤ w.heap.size)
    (h : ∀ v' w', w'.ownsRow base e 1 v' (n + m) (xs ++ news) → w.grownBy w' v.ownBlock → K (a.put o.dst v') w') : if Region.wanted o (yielded ops a.tmps) = true then Oper.wp P o a w K Q else E := by
  rw [if_pos hw]
  rcases A with _ | ad
  · have hc : c = 0 := hA rfl
    have hm : m = 0 := by
      rcases Nat.eq_zero_or_pos m with h0 | h0
      · exact h0
      · obtain ⟨ad, he, _⟩ := hr.2 h0; cases he
    subst hc hm
    have hnil : news = [] := List.eq_nil_of_length_eq_zero hr.1
    subst hnil
    have hrun := run_append_owned_none (P := P) w base t o.type e i 1 ht hi v n xs hown
    unfold Oper.wp execOp
    simp only [ho, resolve, invoke, builtin, Sem.run_bind, Sem.run_pure, Result.andThen_ok, List.map_toArray, List.map_cons, List.map_nil, hs, hx, hrun]
    exact h v w (by simpa using hown) (World.grownBy.refl w _)
  · have hcells : ∀ j u, news[j]? = some u → w.cell? (ad.add j) = some u := by
      intro j u hu
      have hj : j < news.length := (List.getElem?_eq_some_iff.1 hu).1
      obtain ⟨ad', he, hc⟩ := hr.2 (by have := hr.1; omega)
      injection he with he
      subst he
      exact hc j u hu
    exact wp_append_own w s x t ho base e i z 1 bytes ht hi hz.1 hz.2.1 hz.2.2 hzs (by omega) v n xs hs hown ad m c news hx (by have := hr.1; omega) hcells h1 h63 hbytes hbase fun v' w' h2 h3 _ => h v' w' h2 h3
end Go.Proofs.Ytngambkbpdjddaa
