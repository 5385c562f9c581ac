/- Layer 12: the developers' Edges: of any table, and of none. -/
import Derived.Test.YtmflacmgffpjoaaBdAft
import Derived.Test.YtmflacmgffpjoaaBdEdg
namespace Go.Proofs.Ytmflacmgffpjoaa
open Go.RowKit

theorem wpl_snocE {wr : World} {B n : Nat} {v : Value} {es : List Ed} (e : Ed) (own : wr.ownsRow B 59 2 v n (ints (flat2 es))) (hB : B ≤ wr.heap.size) (hn : n ≤ 1000000) {ops : Array Oper} {rest : List Oper} {o : Oper} {a : Act} {Q : Exit → Act → World → Prop} (hgd : o.guard = none) (s y : Operand)
    (ho : o.op = .call { callee := .builtin .append, args := #[s, y], argTypes := #[30, 30] }) (hs : a.eval s = v) (hx : a.eval y = .slice (some ⟨wr.heap.size, 0, none⟩) 1 1)
    (cont : ∀ A' c' w9, Below B wr w9 → w9.ownsRow B 59 2 (.slice A' (n + 1) c') (n + 1) (ints (flat2 (es ++ [e]))) → wpList Try.prog ops Q rest (a.put o.dst (.slice A' (n + 1) c')) w9) :
    wpList Try.prog ops Q (o :: rest) a (wr.alloc (.cells #[.int .i64 e.1, .int .i64 e.2] 59)) := by
  obtain ⟨i0, hi, hz0, hz1, hz2⟩ := info_parts Try.infoEd
  have b := (Below.refl _ wr).alloc (Nat.le_refl _) (.cells #[.int .i64 e.1, .int .i64 e.2] 59)
  have q := ownK_up own b
  have hnew := heap_alloc_new wr (.cells #[.int .i64 e.1, .int .i64 e.2] 59)
  refine wpList_append_lies _ hgd s y 30 ho B 59 i0 (.agg #[.int .i64 0, .int .i64 0]) 2 16 Try.underlying30 hi hz0 hz1 hz2 rfl (by decide) v n (ints (flat2 es)) hs q ⟨wr.heap.size, 0, none⟩ 1 1 (ints [e.1, e.2]) hx rfl
    (fun j u hj => by rw [add_zero_addr, cell_in hnew, List.getElem?_toArray]; exact hj) (fun u hu => by simp [ints] at hu; rcases hu with rfl | rfl <;> rfl) (by omega) (by unfold maxLen; omega) (by omega) (Nat.le_trans hB b.size) _ rfl ?_
  intro g9 cap9 w9 own9 gr9 _ _
  refine cont _ cap9 w9 ((b.mono hB).trans ⟨gr9.os, gr9.tape, gr9.output, gr9.size, fun j hj => gr9.block j (by have := b.size; omega) fun e => by have := (own.lt j e.symm).1; omega⟩) ?_
  rw [flat2_append, ints_append]
  exact own9
set_option maxHeartbeats 4000000 in
set_option maxRecDepth 100000 in
theorem bdedges_of (w : World) (p : Option Addr) (l : List Tr) (h : RT w p l) : Calls Try.prog 14 #[.pointer p] w (EdgesTold w (bE l)) := by
  have hn : l.length ≤ 8192 := by
    rcases h.surf with rfl | ⟨N, hs⟩
    · simp
    · exact hs.t1
  have KT := Lib.hid h.tris
  have KO := Lib.hid (fun W (b : Below w.heap.size w W) x => (h.below b).opp x)
  have KE := Lib.hid (fun W (b : Below w.heap.size w W) x => (h.below b).edge x)
  have hmul : IntKind.i64.wrap (3 * (l.length : Int)) = 3 * (l.length : Int) := IntWalk.i64_in _ (by omega)
  clear h
  go_enter Try.func14, Try.ntmps14
  go_wp2_with fail
  refine KT.out.mono ?_
  rintro e w1 ⟨rfl, rfl⟩
  go_wp2_with fail
  go_loopw [3, 8] (EgR w1 l.length l) (fun _ i _ => 3 * l.length - (intOf i).toNat)
  case atStart => exact ⟨Below.refl _ _, 0, Nat.zero_le _, rfl, none, 0, rfl, World.ownsRow_nil _ _ _ _⟩
  case round =>
    obtain ⟨hb, k, hk, rfl, Ao, co, rfl, ho⟩ := hrel
    by_cases hlt : k < 3 * l.length
    case neg =>
      obtain rfl : k = 3 * l.length := by omega
      have b1 : ¬ (((3 * l.length : Nat) : Int) < 3 * (l.length : Int)) := by omega
      have b2 : decide (((3 * l.length : Nat) : Int) < 3 * (l.length : Int)) = false := decide_eq_false b1
      have HE := Lib.hid (show bUp l (3 * l.length) = bE l from rfl)
      have HO := Lib.hid (And.intro hb ho)
      clear hb ho
      go_wp2_with fail
      go_ret
      refine ⟨_, _, _, rfl, ?_, HO.out.1⟩
      have := E2.of_own HO.out.2
      rwa [HE.out] at this ⊢
    have b1 : (k : Int) < 3 * (l.length : Int) := by omega
    have K2 := Lib.hid (by have := KO.out wr hb (k : Int); rwa [oppI_nat hlt] at this)
    obtain ⟨m, hm⟩ : ∃ m, (bUp l k).length = m := ⟨_, rfl⟩
    have hmk : m ≤ 900000 := by have := bUp_le l k; omega
    have hs := bUp_succ l k
    obtain ⟨es, hes⟩ : ∃ es, bUp l k = es := ⟨_, rfl⟩
    rw [hm, hes] at ho
    rw [hes] at hs
    obtain ⟨z, hz⟩ : ∃ z, oppC l k = z := ⟨_, rfl⟩
    have hzn := opp_neg (l := l) (c := k)
    rw [hz] at K2 hs hzn
    have HB := Lib.hid (And.intro hb ho)
    have HX := Lib.hid (And.intro hs hzn)
    have HM := Lib.hid (show es.length = m by rw [← hes]; exact hm)
    have K3 := Lib.hid (by have := KE.out wr hb (k : Int); rwa [show edgI l l.length (k : Int) = edgeC l k by unfold edgI; rw [if_pos (isC_nat hlt), Int.toNat_natCast]] at this)
    obtain ⟨u, hu⟩ : ∃ u, edgeC l k = u := ⟨_, rfl⟩
    obtain ⟨x, y⟩ := u
    rw [hu] at K3 hs
    have HU := Lib.hid hu
    have hsz := hb.size
    simp only [hm]
    clear hb ho hs hz hzn hm hes hu
    by_cases hz0 : z < 0
    case neg =>
      have d2 : decide (z < 0) = false := by simpa using hz0
      have HN := Lib.hid (show bUp l (k + 1) = es by rw [HX.out.1, if_neg fun e => hz0 (HX.out.2.2 e), List.append_nil])
      clear hz0
      go_wp2_with fail
      refine K2.out.mono ?_
      rintro e w2 ⟨rfl, rfl⟩
      go_wp2_with fail
      exact ⟨⟨HB.out.1, k + 1, by omega, by go_num, Ao, co, by rw [HN.out, HM.out], by rw [HN.out, HM.out]; exact HB.out.2⟩, by simp [intOf]; omega⟩
    have d2 : decide (z < 0) = true := by simpa using hz0
    have HN := Lib.hid (show bUp l (k + 1) = es ++ [(x, y)] by rw [HX.out.1, if_pos (HX.out.2.1 hz0), HU.out])
    clear hz0
    go_wp2_with fail
    refine K2.out.mono ?_
    rintro e w2 ⟨rfl, rfl⟩
    go_wp2_with fail
    refine K3.out.mono ?_
    rintro e w3 ⟨rfl, b3⟩
    have B3 := Lib.hid (And.intro (up2 HB.out.1 b3) (ownK_up HB.out.2 b3))
    have hs3 := Nat.le_trans hsz b3.size
    clear b3
    go_wp2_with (at_builtin; refine wpl_snocE (x, y) B3.out.2 hs3 (by omega) rfl (.tmp 15) (.tmp 19) rfl (by go_simp) rfl ?_)
    intro A9 c9 w9 b9 own9
    have H9 := Lib.hid (And.intro (B3.out.1.trans b9) own9)
    clear b9 own9
    go_wp2_with fail
    refine ⟨⟨H9.out.1, k + 1, by omega, by go_num, A9, c9, by rw [HN.out, List.length_append, HM.out]; rfl, ?_⟩, by simp [intOf]; omega⟩
    rw [HN.out, List.length_append, HM.out]
    exact H9.out.2
end Go.Proofs.Ytmflacmgffpjoaa
