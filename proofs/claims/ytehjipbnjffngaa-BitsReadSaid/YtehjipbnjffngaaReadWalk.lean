/- BitsRead's walk: of any bytes, as any bits, what is read, of any widths, is the document's. -/
import Derived.Test.YtehjipbnjffngaaAwake
import Derived.Test.YtehjipbnjffngaaRefB
import Derived.Test.YtehjipbnjffngaaPair
namespace Go.Proofs.Ytehjipbnjffngaa.bitsRead
open Go.RowKit

def i64w (ws : List Int) : List Value := ws.map (Value.int .i64)

theorem many (w : World) (A : Option Addr) (n c : Nat) (m : Int) (C : Option Addr) (k d : Nat) (h : 120 < n ∨ (n ≤ 120 ∧ 60 < k)) :
    Calls Try.prog 4 #[.slice A n c, .int .i64 m, .slice C k d] w fun e w' => e = .returned (.bool true) ∧ Below w.heap.size w w' := by
  rcases h with h | ⟨h, h2⟩
  · have b : (120 : Int) < n := by omega
    go_enter Try.func4, Try.ntmps4
    go_wp2_with fail
    refine (awake_true w).mono ?_
    rintro e w1 ⟨rfl, b1⟩
    go_wp2_with fail
    refine (awake_true w1).mono ?_
    rintro e w2 ⟨rfl, b2⟩
    go_wp2
    go_ret
    exact ⟨rfl, b1.trans (b2.mono b1.size)⟩
  · have b : ¬ (120 : Int) < n := by omega
    have b2 : (60 : Int) < k := by omega
    go_enter Try.func4, Try.ntmps4
    go_wp2_with fail
    refine (awake_true w).mono ?_
    rintro e w1 ⟨rfl, b1⟩
    go_wp2_with fail
    refine (awake_true w1).mono ?_
    rintro e w2 ⟨rfl, b2⟩
    go_wp2
    go_ret
    exact ⟨rfl, b1.trans (b2.mono b1.size)⟩

/-- append of a slice that reads as a list, nil let in. -/
theorem wpList_append_reads {P : Program} {w : World} {ops : Array Oper} {rest : List Oper} {o : Oper} {a : Act} {Q : Exit → Act → World → Prop} (hgd : o.guard = none) (s x : Operand) (t : TypeId)
    (ho : o.op = .call { callee := .builtin .append, args := #[s, x], argTypes := #[t, t] }) (base : Nat) (e : TypeId) (i : TypeInfo) (z : Value) (bytes : Nat) (ht : P.underlying t = some (.slice e)) (hi : P.info? e = some i)
    (hz : i.zero = some z ∧ i.size = 1 ∧ i.bytes = bytes) (hzs : z.cells.size = 1) (v : Value) (n : Nat) (xs : List Value) (hs : a.eval s = v) (hown : w.ownsRow base e 1 v n xs) (A : Option Addr) (m c : Nat) (news : List Value) (hx : a.eval x = .slice A m c)
    (hr : Reads w A m news) (hA : A = none → c = 0) (h1 : ∀ u ∈ news, u.oneCell' = true) (h63 : n + m ≤ maxLen) (hbytes : (n + m) * bytes ≤ 140737488355328) (hbase : base ≤ w.heap.size)
    (h : ∀ v' w', w'.ownsRow base e 1 v' (n + m) (xs ++ news) → w.grownBy w' v.ownBlock → wpList P ops Q rest (a.put o.dst v') w') : wpList P ops Q (o :: rest) a w := by
  rcases A with _ | ad
  · have hc : c = 0 := hA rfl
    have hm : m = 0 := by
      rcases Nat.eq_zero_or_pos m with h0 | h0
      · exact h0
      · obtain ⟨ad, he, _⟩ := hr.2 h0; cases he
    subst hc hm
    have hnil : news = [] := List.eq_nil_of_length_eq_zero hr.1
    subst hnil
    have hrun := run_append_owned_none (P := P) w base t o.type e i 1 ht hi v n xs hown
    refine wpList_plain hgd fun _ hK => ?_
    unfold Oper.wp execOp
    simp only [ho, resolve, invoke, builtin, Sem.run_bind, Sem.run_pure, Result.andThen_ok, List.map_toArray, List.map_cons, List.map_nil, hs, hx, hrun]
    exact hK _ _ (h v w (by simpa using hown) (World.grownBy.refl w _))
  · have hcells : ∀ j u, news[j]? = some u → w.cell? (ad.add j) = some u := by
      intro j u hu
      have hj : j < news.length := (List.getElem?_eq_some_iff.1 hu).1
      obtain ⟨ad', he, hc⟩ := hr.2 (by have := hr.1; omega)
      injection he with he
      subst he
      exact hc j u hu
    exact wpList_append_own w hgd s x t ho base e i z 1 bytes ht hi hz.1 hz.2.1 hz.2.2 hzs (by omega) v n xs hs hown ad m c news hx (by have := hr.1; omega) hcells h1 h63 hbytes hbase fun v' w' h2 h3 _ => h v' w' h2 h3

def ZeroAt (w : World) (n : Nat) (own : Value) (i : Value) (wr : World) : Prop :=
  ∃ k ys, k ≤ n ∧ i = .int .i64 (k : Nat) ∧ wr.ownsRow w.heap.size 5 1 own n ys ∧ Below w.heap.size w wr

set_option maxHeartbeats 1600000 in
set_option maxRecDepth 100000 in
theorem refused (w : World) (A : Option Addr) (n c : Nat) (m : Int) (C : Option Addr) (k d : Nat) (xs : List Nat) (hn : n ≤ 120) (hk : k ≤ 60) (h : Reads w A n (u8s xs)) (hA : A = none → c = 0) (er : Int) (her : (er != 0) = true)
    (h1 : ∀ W Ao co, Below w.heap.size w W → Reads W Ao n (u8s xs) → Calls Try.prog 19 #[.slice Ao n co, .int .i64 m] W fun e w' => e = .returned (.tuple #[.pointer none, .int .i64 er]) ∧ W = w')
    (h2 : ∀ W, Below w.heap.size w W → Calls Try.prog 20 #[.slice A n c, .int .i64 m] W fun e w' => e = .returned (.tuple #[.slice none 0 0, .int .i64 er]) ∧ Below W.heap.size W w') :
    Calls Try.prog 4 #[.slice A n c, .int .i64 m, .slice C k d] w fun e w' => e = .returned (.bool true) ∧ Below w.heap.size w w' := by
  obtain ⟨i0, hi, hz0, hz1, hz2⟩ := info_parts Try.info5
  have HI := Lib.hid hi
  have HZ := Lib.hid (And.intro hz0 (And.intro hz1 hz2))
  have HR := Lib.hid h
  have H1 := Lib.hid h1
  have H2 := Lib.hid h2
  have b : ¬ (120 : Int) < n := by omega
  have b2 : ¬ (60 : Int) < k := by omega
  clear hi hz0 hz1 hz2 h h1 h2
  go_enter Try.func4, Try.ntmps4
  go_wp2_with fail
  refine (awake_true w).mono ?_
  rintro e w1 ⟨rfl, b1⟩
  have B1 := Lib.hid b1
  clear b1
  have HN := Lib.hid hA
  clear hA
  have N1 := Lib.hid (World.ownsRow_lit (base := w.heap.size) (e := 5) (size := 1) w1 #[] 0 B1.out.size (by unfold maxLen; omega) rfl)
  have R1 := Lib.hid ((HR.out.below B1.out).below ((Below.refl w1.heap.size w1).alloc (Nat.le_refl _) (.cells #[] 5)))
  go_wp2_with (at_builtin; refine wpList_append_reads rfl (.tmp 30) (.tmp 31) 24 rfl w.heap.size 5 i0 (.int .u8 0) 1 Try.underlying24 HI.out HZ.out rfl (.slice (some ⟨w1.heap.size, 0, none⟩) 0 0) 0 [] rfl N1.out A n c (u8s xs) rfl R1.out HN.out (u8s_one xs) ?b1 ?b2 ?b3 ?_)
  case b1 => unfold maxLen; omega
  case b2 => omega
  case b3 => have := B1.out.size; simp; omega
  intro own w2 hown hgr
  have hown' : w2.ownsRow w.heap.size 5 1 own n (u8s xs) := by simpa using hown
  have B2 := Lib.hid ((B1.out.alloc B1.out.size (.cells #[] 5)).grown hgr (by have := B1.out.size; simp; omega) (fun j e => (N1.out.lt j e).1))
  obtain ⟨Ao, co, rfl, hro⟩ := reads_own hown'
  have O2 := Lib.hid hown'
  have RO := Lib.hid hro
  clear hown hown' hgr hro
  go_wp2_with fail
  refine (H1.out w2 Ao co B2.out RO.out).mono ?_
  rintro e w3 ⟨rfl, rfl⟩
  go_wp2_with fail
  refine (H2.out w2 B2.out).mono ?_
  rintro e w3 ⟨rfl, b3⟩
  have B3 := Lib.hid (B2.out.trans (b3.mono B2.out.size))
  have O3 := Lib.hid (show w3.ownsRow w.heap.size 5 1 (.slice Ao n co) n (u8s xs) from ⟨O2.out.1, by
    rcases O2.out.2 with h2 | ⟨q, cap, cur, e, hq, hh, rest⟩
    · exact .inl h2
    · exact .inr ⟨q, cap, cur, e, hq, (b3.block q (heap_lt hh)).trans hh, rest⟩⟩)
  have t1 : (er != er) = false := by simp
  have t2 : (er == 0) = false := by simpa using her
  clear b3
  go_wp2_with fail
  clear t1 t2
  go_loopw [57] (ZeroAt w n (.slice Ao n co)) (fun i _ => n - (intOf i).toNat)
  case atStart => exact ⟨0, _, Nat.zero_le _, rfl, O3.out, B3.out⟩
  case round =>
    obtain ⟨j, ys, hj, rfl, ho, hb⟩ := hrel
    by_cases hlt : j < n
    · obtain ⟨q, cap, hq, _⟩ := ho.form (by omega)
      obtain ⟨rfl, rfl⟩ : Ao = some ⟨q, 0, none⟩ ∧ co = cap := by injection hq with e1 e2 e3; exact ⟨e1, e3⟩
      have hyl : j < ys.length := by have := ho.1; omega
      have hcell := ho.cellAt j (by omega)
      rw [List.getElem?_eq_getElem hyl] at hcell
      have hfz := ho.frozenAt j
      have P1 := Lib.hid (ho.stored j (.int .u8 0)).1
      have P2 := Lib.hid (hb.setCell (p := ⟨q, j, none⟩) (show w.heap.size ≤ q from (ho.lt q rfl).1) (.int .u8 0))
      generalize ys[j] = y at *
      have t0 : (j : Int) < n := by omega
      clear ho hb hq
      go_wp2_with fail
      exact ⟨⟨j + 1, _, by omega, by go_num, P1.out, P2.out⟩, by simp [intOf]; omega⟩
    · have t0 : ¬ (j : Int) < n := by omega
      have HB := Lib.hid hb
      clear ho hb
      go_wp2_with fail
      go_loop [14] (fun i => i = .int .i64 0) (fun _ => 0)
      case atStart => rfl
      case round =>
        subst hrel
        by_cases hk0 : 0 < k
        · have t9 : (0 : Int) < k := by omega
          go_wp2_with fail
          go_ret
          exact ⟨rfl, HB.out⟩
        · have t9 : ¬ (0 : Int) < k := by omega
          go_wp2_with fail
          go_ret
          exact ⟨rfl, HB.out⟩
end Go.Proofs.Ytehjipbnjffngaa.bitsRead
