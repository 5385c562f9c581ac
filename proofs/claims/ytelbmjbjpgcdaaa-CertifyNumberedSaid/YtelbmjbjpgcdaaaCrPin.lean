/- Layer 9: the document's: are the triangles of a vertex more than one ring, or fan? -/
import Derived.Test.YtelbmjbjpgcdaaaCrIdx
import Derived.Test.YtelbmjbjpgcdaaaCerPinch
namespace Go.Proofs.Ytelbmjbjpgcdaaa
open Go.RowKit

/-- The triangles of a vertex, put one behind the other, beside the soup's box. -/
structure RtSt (w wr : World) (g Z : Nat) (N : Int) (A : Option Addr) (n c : Nat) (v : Value) (l : List Tr) : Prop where
  below : Below w.heap.size w wr
  bx : Bx wr g N A n c
  own : wr.ownsRow Z 41 3 v l.length (ints (flat3 l))
  wz : w.heap.size ≤ Z
  gz : g < Z
  zw : Z ≤ wr.heap.size
theorem RtSt.up {w wr w' : World} {g Z : Nat} {N : Int} {A : Option Addr} {n c : Nat} {v : Value} {l : List Tr} (h : RtSt w wr g Z N A n c v l) (b : Below wr.heap.size wr w') : RtSt w w' g Z N A n c v l :=
  ⟨h.below.trans (b.mono h.below.size), h.bx.below b, ownK9_up h.own b, h.wz, h.gz, Nat.le_trans h.zw b.size⟩
abbrev triOb (x : Tr) : Obj := .cells #[.int .i64 x.1, .int .i64 x.2.1, .int .i64 x.2.2] 41
theorem RtSt.wpl {w wr : World} {g Z : Nat} {N : Int} {A : Option Addr} {n c : Nat} {v : Value} {l : List Tr} (h : RtSt w wr g Z N A n c v l) (x : Tr) {ops : Array Oper} {rest : List Oper} {o : Oper} {a : Act} {Q : Exit → Act → World → Prop} (hgd : o.guard = none) (s y : Operand)
    (ho : o.op = .call { callee := .builtin .append, args := #[s, y], argTypes := #[22, 22] }) (hs : a.eval s = v) (hx : a.eval y = .slice (some ⟨wr.heap.size, 0, none⟩) 1 1) (hl : l.length ≤ 100000000)
    (cont : ∀ A' c' w9, RtSt w w9 g Z N A n c (.slice A' (l.length + 1) c') (l ++ [x]) → Below w.heap.size w w9 → wpList Try.prog ops Q rest (a.put o.dst (.slice A' (l.length + 1) c')) w9) :
    wpList Try.prog ops Q (o :: rest) a (wr.alloc (triOb x)) := by
  obtain ⟨i0, hi, hz0, hz1, hz2⟩ := info_parts Try.infoTri
  have b := (Below.refl _ wr).alloc (Nat.le_refl _) (triOb x)
  have q := h.up b
  have hnew : (wr.alloc (triOb x)).heap[wr.heap.size]? = some (.cells #[.int .i64 x.1, .int .i64 x.2.1, .int .i64 x.2.2] 41 (0, 0)) := heap_alloc_new wr _
  refine wpList_append_lies _ hgd s y 22 ho Z 41 i0 (.agg #[.int .i64 0, .int .i64 0, .int .i64 0]) 3 24 Try.underlying22 hi hz0 hz1 hz2 rfl (by decide) v l.length (ints (flat3 l)) hs q.own ⟨wr.heap.size, 0, none⟩ 1 1 [.int .i64 x.1, .int .i64 x.2.1, .int .i64 x.2.2] hx rfl
    (fun j u hj => by rw [add_zero_addr, cell_in hnew]; simpa using hj) (ones9 _ _ _) (by omega) (by unfold maxLen; omega) (by omega) q.zw _ rfl ?_
  intro g9 cap9 w9 own9 gr9 _ _
  have hne : ∀ k, v.ownBlock = some k → Z ≤ k := fun k hk => (q.own.lt k hk).1
  have hwz := h.wz
  have hgz := h.gz
  have g1 : Bx w9 g N A n c := (gr9.block g (heap_lt q.bx) (fun e => by have := hne g e.symm; omega)).trans q.bx
  have b9 : Below w.heap.size w w9 := own_grown_below q.below gr9 q.below.size (fun k hk => by have := hne k hk; omega)
  exact cont _ _ w9 ⟨b9, g1, by rw [flat3_snoc, List.length_append, List.length_singleton]; exact own9, h.wz, h.gz, Nat.le_trans q.zw gr9.size⟩ b9
theorem RtSt.start {w w1 : World} {g : Nat} {N : Int} {A : Option Addr} {n c : Nat} (b : Below w.heap.size w w1) (x : Bx w1 g N A n c) : RtSt w w1 g w1.heap.size N A n c (.slice none 0 0) [] :=
  ⟨b, x, World.ownsRow_nil _ _ _ _, b.size, heap_lt x, Nat.le_refl _⟩
/-- The triangles at v, of the first k. -/
def atP (tl : List Tr) (v : Int) (k : Nat) : List Tr := (tl.take k).filter fun t => decide (hasV t v)
theorem atP_succ {tl : List Tr} {v : Int} {k : Nat} (hk : k < tl.length) : atP tl v (k + 1) = atP tl v k ++ (if hasV (tl.getD k z3) v then [tl.getD k z3] else []) := by
  unfold atP
  rw [List.take_succ_eq_append_getElem hk, List.filter_append, List.getD_eq_getElem?_getD, List.getElem?_eq_getElem hk, List.filter_cons]
  congr 1
  by_cases h : hasV tl[k] v
  · rw [if_pos (decide_eq_true h), Option.getD_some, if_pos h]; rfl
  · rw [if_neg (by simpa using h), Option.getD_some, if_neg h]; rfl
theorem atP_len (tl : List Tr) (v : Int) (k : Nat) : (atP tl v k).length ≤ k := by
  unfold atP
  have := List.length_filter_le (fun t => decide (hasV t v)) (tl.take k)
  rw [List.length_take] at this
  omega
theorem mem_atP {tl : List Tr} {v : Int} {t : Tr} : t ∈ atP tl v tl.length ↔ t ∈ tl ∧ hasV t v := by
  unfold atP
  rw [List.take_length, List.mem_filter, decide_eq_true_iff]
/-- The flags of a round. -/
structure Flags (v : Int) (L : List Tr) (fl : List Bool) : Prop where
  len : fl.length = L.length
  zero : fl.getD 0 false = true
  sub : ∀ i, i < L.length → fl.getD i false = true → Reach v L i
abbrev flF (fl : List Bool) : Nat → Bool := fun i => fl.getD i false
structure Grow (v : Int) (L : List Tr) (F0 F : Nat → Bool) (i k : Nat) : Prop where
  mono : ∀ a, a < L.length → F0 a = true → F a = true
  did : ∀ a b, a < L.length → b < L.length → (a < i ∨ (a = i ∧ b < k)) → F0 a = true → adjV v (L.getD a z3) (L.getD b z3) → F b = true
theorem Grow.next {v : Int} {L : List Tr} {F0 F : Nat → Bool} {i : Nat} (h : Grow v L F0 F i L.length) : Grow v L F0 F (i + 1) 0 :=
  ⟨h.mono, fun a b ha hb hab => h.did a b ha hb (by omega)⟩
/-- The pair (i, k) is done. -/
theorem Grow.step {v : Int} {L : List Tr} {F0 F G : Nat → Bool} {i k : Nat} (h : Grow v L F0 F i k) (hFG : ∀ a, a < L.length → F a = true → G a = true) (hk : F0 i = true → adjV v (L.getD i z3) (L.getD k z3) → G k = true) : Grow v L F0 G i (k + 1) := by
  refine ⟨fun a ha h0 => hFG a ha (h.mono a ha h0), fun a b ha hb hab h0 hadj => ?_⟩
  by_cases he : a = i ∧ b = k
  · obtain ⟨rfl, rfl⟩ := he
    exact hk h0 hadj
  · exact hFG b hb (h.did a b ha hb (by omega) h0 hadj)
theorem flag_set {fl : List Bool} {k : Nat} (hk : k < fl.length) (a : Nat) : (fl.set k true).getD a false = if k = a then true else fl.getD a false := by
  rw [List.getD_eq_getElem?_getD, List.getElem?_set, List.getD_eq_getElem?_getD]
  by_cases e : k = a
  · rw [if_pos e, if_pos e, if_pos hk]; rfl
  · rw [if_neg e, if_neg e]
/-- One of the first m vertices of t is another one than v, and one of u's. -/
def adM (v : Int) (t u : Tr) (m : Nat) : Bool := (List.range m).any fun j => decide (vx t j ≠ v) && decide (hasV u (vx t j))
theorem adM_succ (v : Int) (t u : Tr) (m : Nat) : adM v t u (m + 1) = (adM v t u m || (decide (vx t m ≠ v) && decide (hasV u (vx t m)))) := by
  unfold adM
  rw [List.range_succ, List.any_append]
  simp
theorem adM_all (v : Int) (t u : Tr) : adM v t u 3 = true ↔ adjV v t u := by
  rw [adM_succ, adM_succ, adM_succ, adjV_iff]
  unfold adM vx
  simp
  constructor
  · rintro ((h | h) | h)
    · exact .inl h
    · exact .inr (.inl h)
    · exact .inr (.inr h)
  · rintro (h | h | h)
    · exact .inl (.inl h)
    · exact .inl (.inr h)
    · exact .inr h
/-- The triangles at v, and their flags. -/
structure PnSt (w wr : World) (Al : Option Addr) (L : List Tr) (ib : Nat) (fl : List Bool) : Prop where
  below : Below w.heap.size w wr
  t3 : T3 wr Al L.length L
  row : BoolRow wr ib fl
  wi : w.heap.size ≤ ib
  far : 0 < L.length → ∀ b off, Al = some ⟨b, off, none⟩ → b ≠ ib
theorem PnSt.up {w wr w' : World} {Al : Option Addr} {L : List Tr} {ib : Nat} {fl : List Bool} (h : PnSt w wr Al L ib fl) (b : Below wr.heap.size wr w') : PnSt w w' Al L ib fl :=
  ⟨h.below.trans (b.mono h.below.size), h.t3.below b, (b.block ib (heap_lt h.row)).trans h.row, h.wi, h.far⟩
theorem PnSt.set {w wr : World} {Al : Option Addr} {L : List Tr} {ib : Nat} {fl : List Bool} (h : PnSt w wr Al L ib fl) (k : Nat) : PnSt w (wr.setCell ⟨ib, k, none⟩ (.bool true)) Al L ib (fl.set k true) :=
  ⟨h.below.setCell (p := ⟨ib, k, none⟩) h.wi _, h.t3.chg (S := fun b => b = ib) (.of_set wr _ _ rfl) h.far, h.row.set k true, h.wi, h.far⟩
def Pn0 (w : World) (g Z : Nat) (N : Int) (A : Option Addr) (n c : Nat) (tl : List Tr) (v : Int) (l i : Value) (wr : World) : Prop := ∃ k : Nat, k ≤ n ∧ i = .int .i64 (k : Int) ∧ RtSt w wr g Z N A n c l (atP tl v k)
def Pn1 (w : World) (Al : Option Addr) (v : Int) (L : List Tr) (ib ln : Nat) (i : Value) (wr : World) : Prop := ∃ r : Nat, r ≤ ln ∧ i = .int .i64 (r : Int) ∧ ∃ fl, PnSt w wr Al L ib fl ∧ Flags v L fl ∧ Far v L r (flF fl)
def Pn2 (w : World) (Al : Option Addr) (v : Int) (L : List Tr) (ib ln : Nat) (F0 : Nat → Bool) (i : Value) (wr : World) : Prop := ∃ a : Nat, a ≤ ln ∧ i = .int .i64 (a : Int) ∧ ∃ fl, PnSt w wr Al L ib fl ∧ Flags v L fl ∧ Grow v L F0 (flF fl) a 0
def Pn3 (w : World) (Al : Option Addr) (v : Int) (L : List Tr) (ib ln : Nat) (F0 : Nat → Bool) (a : Nat) (i : Value) (wr : World) : Prop := ∃ k : Nat, k ≤ ln ∧ i = .int .i64 (k : Int) ∧ ∃ fl, PnSt w wr Al L ib fl ∧ Flags v L fl ∧ Grow v L F0 (flF fl) a k
def Pn4 (w : World) (Al : Option Addr) (v : Int) (L : List Tr) (ib : Nat) (fl : List Bool) (k : Nat) (t u : Tr) (i : Value) (wr : World) : Prop := ∃ m : Nat, m ≤ 3 ∧ i = .int .i64 (m : Int) ∧ PnSt w wr Al L ib (if adM v t u m = true then fl.set k true else fl)
def Pn5 (w : World) (Al : Option Addr) (L : List Tr) (ib ln : Nat) (fl : List Bool) (i : Value) (wr : World) : Prop := ∃ a : Nat, a ≤ ln ∧ i = .int .i64 (a : Int) ∧ PnSt w wr Al L ib fl ∧ ∀ j, j < a → fl.getD j false = true
set_option maxHeartbeats 8000000 in
set_option maxRecDepth 100000 in
theorem r9pin_any (w : World) (N : Int) (A : Option Addr) (n c : Nat) (tl : List Tr) (v : Int) (p : Int → Bool) (hp : IsPin tl p) (hlp : ∀ t ∈ tl, ¬ loopT t) (ht : T3 w A n tl) (hn : n ≤ 8192) : Calls Try.prog 29 #[.agg #[.int .i64 N, .slice A n c], .int .i64 v] w fun e w' => e = .returned (.bool (p v)) ∧ Below w.heap.size w w' := by
  obtain ⟨w1, hw1⟩ : ∃ w1, w.alloc (.cells #[.int .i64 N, .slice A n c] 24) = w1 := ⟨_, rfl⟩
  obtain ⟨g, hg⟩ : ∃ g, w.heap.size = g := ⟨_, rfl⟩
  have b1 : Below w.heap.size w w1 := by rw [← hw1]; exact (Below.refl _ w).alloc (Nat.le_refl _) _
  have x1 : Bx w1 g N A n c := by rw [← hw1, ← hg]; exact Bx.made w N A n c
  have HT := Lib.hid ht
  have HP := Lib.hid (And.intro hp hlp)
  have S1 := Lib.hid (RtSt.start b1 x1)
  obtain ⟨Z, hZ⟩ : ∃ Z, w1.heap.size = Z := ⟨_, rfl⟩
  rw [hZ] at S1
  clear b1 x1 ht hp hlp
  go_enter Try.func29, Try.ntmps29
  go_wp2_with fail
  clear hw1 hg hZ
  go_loopw [5, 6] (Pn0 w g Z N A n c tl v) (fun _ i _ => n - (intOf i).toNat)
  case atStart => exact ⟨0, Nat.zero_le _, rfl, S1.out⟩
  case round =>
    obtain ⟨k, hk, rfl, hst⟩ := hrel
    obtain ⟨Av, cv, rfl⟩ := ownK9_form hst.own
    have hlen := atP_len tl v k
    obtain ⟨P, hP⟩ : ∃ P, atP tl v k = P := ⟨_, rfl⟩
    rw [hP] at hst hlen ⊢
    obtain ⟨L, hL⟩ : ∃ L, P.length = L := ⟨_, rfl⟩
    rw [hL] at hst hlen ⊢
    have HS := Lib.hid hst
    have HPL := Lib.hid (And.intro hP hL)
    have z1 := hst.bx.c1
    clear hst hP hL
    by_cases hlt : k < n
    case pos =>
      have b1 : (k : Int) < n := by omega
      obtain ⟨bA, off, rfl, hat⟩ := (HT.out.below HS.out.below).2 (by omega)
      obtain ⟨c0, c1, c2⟩ := hat k hlt
      clear hat
      obtain ⟨x, hx⟩ : ∃ x, tl.getD k z3 = x := ⟨_, rfl⟩
      rw [hx] at c0 c1 c2
      have HX := Lib.hid hx
      clear hx
      obtain ⟨x0, x1, x2⟩ := x
      have KH := Lib.hid (r9has_any wr x0 x1 x2 v)
      have hsucc := atP_succ (tl := tl) (v := v) (k := k) (by rw [HT.out.1]; exact hlt)
      rw [HX.out, HPL.out.1] at hsucc
      unfold DecTold at KH
      by_cases hv : hasV (x0, x1, x2) v
      · rw [if_pos hv] at hsucc
        rw [decide_eq_true hv] at KH
        have HE := Lib.hid hsucc
        clear hsucc hv
        go_wp2_with fail
        refine KH.out.mono ?_
        rintro e w3 ⟨rfl, b3⟩
        have S3 := Lib.hid (HS.out.up b3)
        have z1 := S3.out.bx.c1
        have t3 := (HT.out.below S3.out.below).2 (by omega)
        obtain ⟨b', o', e', hat⟩ := t3
        injection e' with e'
        injection e' with e1 e2
        subst e1 e2
        obtain ⟨c0, c1, c2⟩ := hat k hlt
        rw [HX.out] at c0 c1 c2
        clear b3 hat
        go_wp2_with (at_builtin; refine RtSt.wpl S3.out (x0, x1, x2) rfl (.tmp 27) (.tmp 33) rfl (by go_simp) rfl (by rw [HPL.out.2]; omega) ?_)
        intro A' c' w9 st9 _
        have ST := Lib.hid st9
        clear st9
        go_wp2_with fail
        refine ⟨⟨k + 1, by omega, by go_num, ?_⟩, by simp [intOf]; omega⟩
        rw [HE.out]
        exact ST.out
      · rw [if_neg hv, List.append_nil] at hsucc
        rw [decide_eq_false hv] at KH
        have HE := Lib.hid hsucc
        clear hsucc hv
        go_wp2_with fail
        refine KH.out.mono ?_
        rintro e w3 ⟨rfl, b3⟩
        have S3 := Lib.hid (HS.out.up b3)
        clear b3
        go_wp2_with fail
        refine ⟨⟨k + 1, by omega, by go_num, ?_⟩, by simp [intOf]; omega⟩
        rw [HE.out]
        exact S3.out
    obtain rfl : k = n := by omega
    have b1 : ¬ (k : Int) < k := by omega
    have hmem : ∀ t, t ∈ P ↔ t ∈ tl ∧ hasV t v := fun t => by
      rw [← HPL.out.1]
      have := mem_atP (tl := tl) (v := v) (t := t)
      rwa [HT.out.1] at this
    have hpv := HP.out.1 v
    by_cases h0 : L = 0
    · have hf : p v = false := by
        have hc : Conn tl v := fun Q ⟨t, ht, htv, _⟩ => by
          have := (hmem t).2 ⟨ht, htv⟩
          rw [List.eq_nil_of_length_eq_zero (HPL.out.2.trans h0)] at this
          cases this
        have : ¬ p v = true := fun h => hpv.1 h hc
        simpa using this
      have HF := Lib.hid hf
      subst h0
      clear hf hpv hmem
      go_wp2
      go_ret
      exact ⟨by rw [HF.out]; rfl, HS.out.below⟩
    have hrc := reach_conn (l := tl) (L := P) (v := v) hmem (by rw [HPL.out.2]; omega) (fun t ht => HP.out.2 t ((hmem t).1 ht).1)
    have HRC := Lib.hid (And.intro hrc hpv)
    clear hrc hpv hmem
    have t0 : T3 wr Av P.length P := by
      have := HS.out.own
      rw [HPL.out.2] at this ⊢
      exact T3.of_own this
    have hz0 : ((L : Int) == 0) = false := by rw [beq_eq_false_iff_ne]; omega
    have hmk := fun W => makeB9 L (by omega) W
    obtain ⟨w2, hw2⟩ : ∃ w2, wr.alloc (.cells (bls (List.replicate L false)).toArray 4) = w2 := ⟨_, rfl⟩
    obtain ⟨ib, hib⟩ : ∃ ib, wr.heap.size = ib := ⟨_, rfl⟩
    have b2 : Below wr.heap.size wr w2 := by rw [← hw2]; exact (Below.refl _ wr).alloc (Nat.le_refl _) _
    have st2 : PnSt w w2 Av P ib (List.replicate L false) := ⟨HS.out.below.trans (b2.mono HS.out.below.size), t0.below b2, by rw [← hw2, ← hib]; exact heap_alloc_new wr _, by have := HS.out.below.size; omega, fun hn b off e => by
      obtain ⟨b', off', e', hc⟩ := t0.2 hn
      rw [e] at e'
      injection e' with e'
      injection e' with e1 e2
      subst e1
      have : b < wr.heap.size := World.block_lt_of_cell? wr _ (hc 0 hn).1
      omega⟩
    have y0 := st2.row.cell 0 (by simp; omega)
    have y1 := frozen_in st2.row 0
    have st3 := st2.set 0
    obtain ⟨w3, hw3⟩ : ∃ w3, w2.setCell ⟨ib, 0, none⟩ (.bool true) = w3 := ⟨_, rfl⟩
    rw [hw3] at st3
    have hL1 : (0 : Int) < L := by omega
    have fg : Flags v P ((List.replicate L false).set 0 true) := by
      have hs := fun a => flag_set (fl := List.replicate L false) (k := 0) (by simp; omega) a
      refine ⟨by simp [HPL.out.2], by rw [hs 0, if_pos rfl], fun i hi hf => ?_⟩
      rw [hs i] at hf
      by_cases hi0 : 0 = i
      · subst hi0; exact Reach.zero v P
      · rw [if_neg hi0, List.getD_eq_getElem?_getD, List.getElem?_replicate] at hf
        split at hf <;> cases hf
    have T3s := Lib.hid (And.intro st3 fg)
    clear st2 st3 fg b2 t0
    go_wp2_with fail
    clear hw3 hw2 hib y0 y1 hmk z1
    go_loopw [45] (Pn1 w Av v P ib L) (fun i _ => L - (intOf i).toNat)
    case atStart => exact ⟨0, Nat.zero_le _, rfl, _, T3s.out.1, T3s.out.2, Far.start (by rw [HPL.out.2]; omega) T3s.out.2.zero⟩
    case round =>
      obtain ⟨r, hr, rfl, fl, hst, hfl, hfar⟩ := hrel
      have H1 := Lib.hid (And.intro hst (And.intro hfl hfar))
      clear hst hfl hfar
      by_cases hrL : r < L
      case neg =>
        obtain rfl : r = L := by omega
        have b2 : ¬ (r : Int) < r := by omega
        have hdone : ∀ i, i < r → (fl.getD i false = true ↔ Reach v P i) := fun i hi => by
          have hf := H1.out.2.2
          have := Far.done (v := v) (L := P) (F := flF fl) (by rw [HPL.out.2]; exact hf) (fun i hi h => H1.out.2.1.sub i hi h) i (by rw [HPL.out.2]; exact hi)
          exact this
        have HD := Lib.hid hdone
        clear hdone
        go_wp2_with fail
        go_loopw [12] (Pn5 w Av P ib r fl) (fun i _ => r - (intOf i).toNat)
        case atStart => exact ⟨0, Nat.zero_le _, rfl, H1.out.1, fun j hj => absurd hj (by omega)⟩
        case round =>
          obtain ⟨a, ha, rfl, hst, hall⟩ := hrel
          have H2 := Lib.hid (And.intro hst hall)
          by_cases haL : a < r
          case neg =>
            obtain rfl : a = r := by omega
            have b3 : ¬ (a : Int) < a := by omega
            have HF := Lib.hid (show p v = false by
              have hc : Conn tl v := HRC.out.1.1 fun i hi => (HD.out i (by rw [← HPL.out.2]; exact hi)).1 (hall i (by rw [← HPL.out.2]; exact hi))
              have : ¬ p v = true := fun h => HRC.out.2.1 h hc
              simpa using this)
            clear hst hall
            go_wp2
            go_ret
            exact ⟨by rw [HF.out]; rfl, H2.out.1.below⟩
          have b3 : (a : Int) < r := by omega
          have y0 := hst.row.cell a (by rw [H1.out.2.1.len, HPL.out.2]; exact haL)
          obtain ⟨y, hy⟩ : ∃ y, fl.getD a false = y := ⟨_, rfl⟩
          rw [hy] at y0
          cases y
          · have HF := Lib.hid (show p v = true by
              refine HRC.out.2.2 fun hc => ?_
              have := (HD.out a haL).2 (HRC.out.1.2 hc a (by rw [HPL.out.2]; exact haL))
              rw [hy] at this
              cases this)
            clear hst hall hy
            go_wp2
            go_ret
            exact ⟨by rw [HF.out]; rfl, H2.out.1.below⟩
          · have HY := Lib.hid hy
            clear hst hall hy
            go_wp2_with fail
            refine ⟨⟨a + 1, by omega, by go_num, H2.out.1, fun j hj => ?_⟩, by simp [intOf]; omega⟩
            by_cases hja : j = a
            · rw [hja]; exact HY.out
            · exact H2.out.2 j (by omega)
      have b2 : (r : Int) < L := by omega
      go_wp2_with fail
      go_loopw [8] (Pn2 w Av v P ib L (flF fl)) (fun i _ => L - (intOf i).toNat)
      case atStart => exact ⟨0, Nat.zero_le _, rfl, fl, H1.out.1, H1.out.2.1, fun _ _ h => h, fun a b _ _ hab => absurd hab (by omega)⟩
      case round =>
        obtain ⟨a, ha, rfl, fl2, hst, hfl, hgr⟩ := hrel
        have H2 := Lib.hid (And.intro hst (And.intro hfl hgr))
        clear hst hfl hgr
        by_cases haL : a < L
        case neg =>
          obtain rfl : a = L := by omega
          have b3 : ¬ (a : Int) < a := by omega
          go_wp2_with fail
          refine ⟨⟨r + 1, by omega, by go_num, fl2, H2.out.1, H2.out.2.1, ?_⟩, by simp [intOf]; omega⟩
          refine H1.out.2.2.round H1.out.2.1.zero H2.out.2.2.mono fun x y hx hy => H2.out.2.2.did x y hx hy (.inl (by rw [← HPL.out.2]; exact hx))
        have b3 : (a : Int) < L := by omega
        go_wp2_with fail
        go_loopw [9] (Pn3 w Av v P ib L (flF fl) a) (fun i _ => L - (intOf i).toNat)
        case atStart => exact ⟨0, Nat.zero_le _, rfl, fl2, H2.out⟩
        case round =>
          obtain ⟨k', hk', rfl, fl3, hst, hfl, hgr⟩ := hrel
          have H3 := Lib.hid (And.intro hst (And.intro hfl hgr))
          by_cases hkL : k' < L
          case neg =>
            obtain rfl : k' = L := by omega
            have b4 : ¬ (k' : Int) < k' := by omega
            clear hst hfl hgr
            go_wp2_with fail
            refine ⟨⟨a + 1, by omega, by go_num, fl3, H3.out.1, H3.out.2.1, ?_⟩, by simp [intOf]; omega⟩
            have := H3.out.2.2
            rw [← HPL.out.2] at this
            exact this.next
          have b4 : (k' : Int) < L := by omega
          have y0 := hst.row.cell a (by rw [hfl.len, HPL.out.2]; exact haL)
          have y1 := hst.row.cell k' (by rw [hfl.len, HPL.out.2]; exact hkL)
          obtain ⟨ya, hya⟩ : ∃ ya, fl3.getD a false = ya := ⟨_, rfl⟩
          obtain ⟨yk, hyk⟩ : ∃ yk, fl3.getD k' false = yk := ⟨_, rfl⟩
          rw [hya] at y0
          rw [hyk] at y1
          have HY := Lib.hid (And.intro hya hyk)
          clear hya hyk
          cases ya
          · -- not flagged: nothing is to be done
            have HG := Lib.hid (hgr.step (G := flF fl3) (fun _ _ h => h) (fun h0 => by
              have := hgr.mono a (by rw [HPL.out.2]; exact haL) h0
              rw [show flF fl3 a = false from HY.out.1] at this
              cases this))
            clear hst hfl hgr
            go_wp2_with fail
            exact ⟨⟨k' + 1, by omega, by go_num, fl3, H3.out.1, H3.out.2.1, HG.out⟩, by simp [intOf]; omega⟩
          cases yk
          case true =>
            have HG := Lib.hid (hgr.step (G := flF fl3) (fun _ _ h => h) (fun _ _ => HY.out.2))
            clear hst hfl hgr
            go_wp2_with fail
            exact ⟨⟨k' + 1, by omega, by go_num, fl3, H3.out.1, H3.out.2.1, HG.out⟩, by simp [intOf]; omega⟩
          obtain ⟨t, ht⟩ : ∃ t, P.getD a z3 = t := ⟨_, rfl⟩
          obtain ⟨u, hu⟩ : ∃ u, P.getD k' z3 = u := ⟨_, rfl⟩
          have HTU := Lib.hid (And.intro ht hu)
          clear hst hfl hgr ht hu y0 y1
          have y0 := H3.out.1.row.cell a (by rw [H3.out.2.1.len, HPL.out.2]; exact haL)
          have y1 := H3.out.1.row.cell k' (by rw [H3.out.2.1.len, HPL.out.2]; exact hkL)
          rw [HY.out.1] at y0
          rw [HY.out.2] at y1
          go_wp2_with fail
          clear y0 y1
          go_loopw [10] (Pn4 w Av v P ib fl3 k' t u) (fun i _ => 3 - (intOf i).toNat)
          case atStart => exact ⟨0, by omega, rfl, by rw [if_neg (by simp [adM])]; exact H3.out.1⟩
          case round =>
            obtain ⟨m, hm, rfl, hst⟩ := hrel
            obtain ⟨fl4, hfl4⟩ : ∃ fl4, (if adM v t u m = true then fl3.set k' true else fl3) = fl4 := ⟨_, rfl⟩
            rw [hfl4] at hst
            have H4 := Lib.hid (And.intro hst hfl4)
            clear hfl4
            by_cases hm3 : m < 3
            case neg =>
              obtain rfl : m = 3 := by omega
              have b5 : ¬ ((3 : Nat) : Int) < 3 := by omega
              clear hst
              have hk3 : k' < fl3.length := by rw [H3.out.2.1.len, HPL.out.2]; exact hkL
              have hs9 := fun x => flag_set hk3 x
              have HQ := Lib.hid (show Flags v P fl4 ∧ Grow v P (flF fl) (flF fl4) a (k' + 1) from by
                rw [← H4.out.2]
                have hadj := adM_all v t u
                by_cases had : adM v t u 3 = true
                · rw [if_pos had]
                  have hav : adjV v (P.getD a z3) (P.getD k' z3) := by rw [HTU.out.1, HTU.out.2]; exact hadj.1 had
                  refine ⟨⟨by rw [List.length_set]; exact H3.out.2.1.len, ?_, fun i hi hf => ?_⟩, H3.out.2.2.step (fun x _ h => ?_) (fun _ _ => ?_)⟩
                  · rw [hs9 0]
                    split
                    · rfl
                    · exact H3.out.2.1.zero
                  · rw [hs9 i] at hf
                    by_cases hki : k' = i
                    · subst hki
                      exact (H3.out.2.1.sub a (by rw [HPL.out.2]; exact haL) HY.out.1).step (by rw [HPL.out.2]; exact haL) hi hav
                    · rw [if_neg hki] at hf
                      exact H3.out.2.1.sub i hi hf
                  · show (fl3.set k' true).getD x false = true
                    rw [hs9 x]
                    split
                    · rfl
                    · exact h
                  · show (fl3.set k' true).getD k' false = true
                    rw [hs9 k', if_pos rfl]
                · rw [if_neg had]
                  refine ⟨H3.out.2.1, H3.out.2.2.step (fun _ _ h => h) (fun _ hav => ?_)⟩
                  rw [HTU.out.1, HTU.out.2] at hav
                  exact absurd (hadj.2 hav) had)
              clear hs9 hk3
              go_wp2_with fail
              exact ⟨⟨k' + 1, by omega, by go_num, fl4, H4.out.1, HQ.out⟩, by simp [intOf]; omega⟩
            have m1 : (m : Int) < 3 := by omega
            have m0 : 0 ≤ (m : Int) := by omega
            obtain ⟨bP, oP, rfl, hat⟩ := hst.t3.2 (by rw [HPL.out.2]; omega)
            have cm := hst.t3.at9 a (by rw [HPL.out.2]; exact haL) m hm3
            rw [HTU.out.1] at cm
            obtain ⟨c0, c1, c2⟩ := hat k' (by rw [HPL.out.2]; exact hkL)
            rw [HTU.out.2] at c0 c1 c2
            obtain ⟨z, hz⟩ : ∃ z, vx t m = z := ⟨_, rfl⟩
            rw [hz] at cm
            have hsu := adM_succ v t u m
            rw [hz] at hsu
            have HZ := Lib.hid hsu
            clear hz hsu hat hst
            obtain ⟨u0, u1, u2⟩ := u
            by_cases hzv : z = v
            · have e1 : (z != v) = false := by simpa using hzv
              have HE := Lib.hid (show adM v t (u0, u1, u2) (m + 1) = adM v t (u0, u1, u2) m by rw [HZ.out]; simp [hzv])
              clear hzv
              go_wp2_with fail
              refine ⟨⟨m + 1, by omega, by go_num, ?_⟩, by simp [intOf]; omega⟩
              rw [HE.out, H4.out.2]
              exact H4.out.1
            have e1 : (z != v) = true := by simpa using hzv
            have KH := Lib.hid (r9has_any wr u0 u1 u2 z)
            unfold DecTold at KH
            by_cases hv : hasV (u0, u1, u2) z
            · rw [decide_eq_true hv] at KH
              have HE := Lib.hid (show adM v t (u0, u1, u2) (m + 1) = true by rw [HZ.out]; simp [hzv, hv])
              clear hv hzv
              go_wp2_with fail
              refine KH.out.mono ?_
              rintro e w5 ⟨rfl, b5⟩
              have s5 := H4.out.1.up b5
              have hl4 : fl4.length = P.length := by
                rw [← H4.out.2]
                split
                · rw [List.length_set]; exact H3.out.2.1.len
                · exact H3.out.2.1.len
              have y4 := s5.row.cell k' (by rw [hl4, HPL.out.2]; exact hkL)
              have y5 := frozen_in s5.row k'
              have S5 := Lib.hid (s5.set k')
              clear b5 s5 hl4
              go_wp2_with fail
              refine ⟨⟨m + 1, by omega, by go_num, ?_⟩, by simp [intOf]; omega⟩
              rw [HE.out, if_pos rfl]
              have h1 := S5.out
              rw [← H4.out.2] at h1
              split at h1
              · rw [List.set_set] at h1; exact h1
              · exact h1
            · rw [decide_eq_false hv] at KH
              have HE := Lib.hid (show adM v t (u0, u1, u2) (m + 1) = adM v t (u0, u1, u2) m by rw [HZ.out]; simp [hv])
              clear hv hzv
              go_wp2_with fail
              refine KH.out.mono ?_
              rintro e w5 ⟨rfl, b5⟩
              have S5 := Lib.hid (H4.out.1.up b5)
              clear b5
              go_wp2_with fail
              refine ⟨⟨m + 1, by omega, by go_num, ?_⟩, by simp [intOf]; omega⟩
              rw [HE.out, H4.out.2]
              exact S5.out
end Go.Proofs.Ytelbmjbjpgcdaaa
