/- Texts laid one behind the other: MEnc, MRead, MReadC, MStr, MDec. -/
import Derived.Test.YtjbfgajognnmiaaDoorGRow
import Derived.Test.YtjbfgajognnmiaaDoorGTab
import Derived.Test.YtjbfgajognnmiaaDoorGDec
import Derived.Test.YtjbfgajognnmiaaDoorGCoder
import Derived.Laws.BytesArg

/- encode and Encode (layer 5). -/
namespace Go.Proofs.YtjbfgajognnmiaaDoor
open Go.RowKit

/-- The bytes of a row have been told, in memory of their own. -/
def ToldRow (w : World) (n : Nat) (cs ss : List Nat) (e : Ending) (w' : World) : Prop := ∃ b, BytesOf n cs ss b ∧ OwnB w b.length b e w'
theorem own_lower {w : World} {B B' n : Nat} {t : TypeId} {v : Value} {xs : List Value} (h : w.ownsRow B t 1 v n xs) (hB : B' ≤ B) : w.ownsRow B' t 1 v n xs := by
  refine ⟨h.1, ?_⟩
  rcases h.2 with h2 | ⟨q, cap, cur, h1, hq, r⟩
  · exact .inl h2
  · exact .inr ⟨q, cap, cur, h1, Nat.le_trans hB hq, r⟩

set_option maxHeartbeats 2000000 in
set_option maxRecDepth 100000 in
theorem encode5_any (w : World) (A A' : Option Addr) (L c c' n N : Nat) (ss cs : List Nat) (h : Reads w A L (nts ss)) (h' : Reads w A' L (nts cs)) (hL : L ≤ 65536) (h0 : 0 < n) (hn : n ≤ 256) (hN : N ≤ 64) (hs : ∀ s ∈ ss, s < n) (hcs : ∀ c ∈ cs, c < N) :
    Calls Tryd.prog 22 #[.int .i64 (n : Int), .int .i64 (N : Int), .slice A L c, .slice A' L c'] w (ToldRow w n cs ss) := by
  have HL := Lib.hid h.nlen
  have KC := Lib.hid (codedForm_any w A A' L c c' n N ss cs h h' hL h0 hn hN hs hcs)
  have KP := Lib.hid (fun w' (b : Below w.heap.size w w') => plainForm_any w' A L c n ss (h.below b) hL hn hs)
  have KS := Lib.hid (fun w' => plainSize_any w' n L hn (by omega))
  have HG := Lib.hid (row_good h0 hn (cs.zip ss) (zip_lt hs))
  have HK := Lib.hid (show (rowIv n (cs.zip ss)).k ≤ 1000000 by
    have h1 := row_k n (cs.zip ss)
    rw [List.length_zip] at h1
    have := HL.out
    omega)
  clear h h' hs hcs
  go_enter Tryd.func22, Tryd.ntmps22
  go_wp2_with fail
  refine KC.out.mono ?_
  rintro e w1 ⟨b, ic, v, rfl, o1, b1⟩
  obtain ⟨A1, c1, rfl, _, _⟩ := Reads.of_own o1
  have IC := Lib.hid ic
  have O1 := Lib.hid o1
  have B1 := Lib.hid b1
  have hbl := isCode_len HG.out ic
  have hbk := HK.out
  have hb2 : b.length ≤ 1000001 := by omega
  clear o1 b1 ic hbl hbk
  by_cases hlt : b.length + 1 < plainLen n L
  · have HB := Lib.hid (show BytesOf n cs ss (1 :: b) from ⟨b, IC.out, by rw [HL.out, if_pos hlt]⟩)
    have HE := Lib.hid (show (1 :: b).length = b.length + 1 from rfl)
    generalize hnb : b.length = nb at *
    generalize plainLen n L = pl at *
    have t1 : ((nb : Int) + 1) < pl := by omega
    have HN := Lib.hid hnb
    clear hnb
    go_wp2_with fail
    refine (KS.out w1).mono ?_
    rintro e w2 ⟨rfl, rfl⟩
    go_wp2
    go_ret
    exact ⟨_, HB.out, _, rfl, by rw [HE.out]; exact O1.out, B1.out⟩
  · have HB := Lib.hid (show BytesOf n cs ss (0 :: pack (pbits n ss)) from ⟨b, IC.out, by rw [HL.out, if_neg hlt]⟩)
    have HE := Lib.hid (show (0 :: pack (pbits n ss)).length = plainLen n L by rw [length_plain, HL.out])
    generalize hnb : b.length = nb at *
    generalize hpl : plainLen n L = pl at *
    have t1 : ¬ ((nb : Int) + 1) < pl := by omega
    have HN := Lib.hid hnb
    have HPL := Lib.hid hpl
    clear hnb hpl
    go_wp2_with fail
    refine (KS.out w1).mono ?_
    rintro e w2 ⟨rfl, rfl⟩
    go_wp2_with fail
    refine (KP.out w1 B1.out).mono ?_
    rintro e w2 ⟨v2, rfl, o2, b2⟩
    have O2 := Lib.hid (own_lower o2 B1.out.size)
    have B2 := Lib.hid (B1.out.trans (b2.mono B1.out.size))
    clear o2 b2
    go_wp2
    go_ret
    exact ⟨_, HB.out, _, rfl, by rw [HE.out]; exact O2.out, B2.out⟩

/-- May a row be? Else why not. -/
def fitsOf (sy cx : Int) (a l : List Int) : Nat :=
  if ¬ (1 ≤ sy ∧ sy ≤ 256) ∨ ¬ (1 ≤ cx ∧ cx ≤ 64) then 2 else if a.length ≠ l.length then 1 else if 65536 < a.length then 7 else if below sy a && below cx l then 0 else 2
structure FitRow (sy cx : Int) (a l : List Int) : Prop where
  isy : 1 ≤ sy ∧ sy ≤ 256
  icx : 1 ≤ cx ∧ cx ≤ 64
  len : a.length = l.length
  few : a.length ≤ 65536
  syms : below sy a = true
  ctx : below cx l = true
theorem fits_row {sy cx : Int} {a l : List Int} (h : fitsOf sy cx a l = 0) : FitRow sy cx a l := by
  unfold fitsOf at h
  by_cases h1 : ¬ (1 ≤ sy ∧ sy ≤ 256) ∨ ¬ (1 ≤ cx ∧ cx ≤ 64)
  · rw [if_pos h1] at h; cases h
  · rw [if_neg h1] at h
    by_cases h2 : a.length ≠ l.length
    · rw [if_pos h2] at h; cases h
    · rw [if_neg h2] at h
      by_cases h3 : 65536 < a.length
      · rw [if_pos h3] at h; cases h
      · rw [if_neg h3] at h
        by_cases h4 : (below sy a && below cx l) = true
        · rw [Bool.and_eq_true] at h4
          exact ⟨by omega, by omega, by omega, by omega, h4.1, h4.2⟩
        · rw [if_neg h4] at h; cases h
theorem FitRow.zero {sy cx : Int} {a l : List Int} (h : FitRow sy cx a l) : fitsOf sy cx a l = 0 := by
  unfold fitsOf
  rw [if_neg (by have := h.isy; have := h.icx; omega), if_neg (by have := h.len; omega), if_neg (by have := h.few; omega), if_pos (by rw [h.syms, h.ctx]; rfl)]
theorem below_all {m : Int} {l : List Int} (h : below m l = true) : ∀ x ∈ l, 0 ≤ x ∧ x < m := fun x hx => by
  have := List.all_eq_true.1 h x hx
  simpa [okAt] using this
/-- A list of ints, none of which is negative, as naturals. -/
def nats (l : List Int) : List Nat := l.map Int.toNat
theorem length_nats (l : List Int) : (nats l).length = l.length := by simp [nats]
theorem below_nats {m : Nat} {l : List Int} (h : below (m : Int) l = true) : ints l = nts (nats l) ∧ ∀ s ∈ nats l, s < m := by
  have h1 := below_all h
  refine ⟨nts_ints l fun x hx => (h1 x hx).1, fun s hs => ?_⟩
  obtain ⟨x, hx, rfl⟩ := List.mem_map.1 hs
  have := h1 x hx
  omega

/-- What Encode answers of a row that may be. -/
def Encoded (w : World) (n : Nat) (cs ss : List Nat) (e : Ending) (w' : World) : Prop :=
  ∃ b v, e = .returned (.tuple #[v, .int .i64 0]) ∧ BytesOf n cs ss b ∧ w'.ownsRow w.heap.size 5 1 v b.length (bts b) ∧ Below w.heap.size w w'

set_option maxHeartbeats 2000000 in
set_option maxRecDepth 100000 in
theorem menc_ok (w : World) (A A' : Option Addr) (L c c' n N : Nat) (ss cs : List Nat) (h : Reads w A L (nts ss)) (h' : Reads w A' L (nts cs)) (hL : L ≤ 65536) (h0 : 0 < n) (hn : n ≤ 256) (hN0 : 0 < N) (hN : N ≤ 64) (hs : ∀ s ∈ ss, s < n) (hcs : ∀ c ∈ cs, c < N) :
    Calls Tryd.prog 12 #[.int .i64 (n : Int), .int .i64 (N : Int), .slice A L c, .slice A' L c'] w (Encoded w n cs ss) := by
  have e1 : ∀ l : List Nat, nts l = ints (l.map Int.ofNat) := fun l => by simp [nts, ints]
  have e2 : ∀ (l : List Nat) (m : Nat), (∀ s ∈ l, s < m) → below (m : Int) (l.map Int.ofNat) = true := fun l m hl => by
    refine List.all_eq_true.2 fun x hx => ?_
    obtain ⟨s, hs, rfl⟩ := List.mem_map.1 hx
    have := hl s hs
    simp [okAt]
    omega
  have K1 := hasSym_any w (n : Int)
  have K2 := hasCtx_any w (N : Int)
  rw [show decide (1 ≤ (n : Int) ∧ (n : Int) ≤ 256) = true by simp; omega] at K1
  rw [show decide (1 ≤ (N : Int) ∧ (N : Int) ≤ 64) = true by simp; omega] at K2
  have K3 := allBelow_any w A L c (ss.map Int.ofNat) (n : Int) (by rw [← e1]; exact h) (by omega)
  rw [e2 ss n hs] at K3
  have K4 := fun w' (b : Below w.heap.size w w') => allBelow_any w' A' L c' (cs.map Int.ofNat) (N : Int) (by rw [← e1]; exact h'.below b) (by omega)
  rw [e2 cs N hcs] at K4
  have K5 := Lib.hid (fun w' (b : Below w.heap.size w w') => encode5_any w' A A' L c c' n N ss cs (h.below b) (h'.below b) hL h0 hn hN hs hcs)
  have H1 := Lib.hid K1
  have H2 := Lib.hid K2
  have H3 := Lib.hid K3
  have H4 := Lib.hid K4
  clear h h' hs hcs K1 K2 K3 K4 e1 e2
  have t1 : ¬ (65536 : Int) < L := by omega
  go_enter Tryd.func12, Tryd.ntmps12
  go_wp2_with fail
  refine H1.out.mono ?_
  rintro e w1 ⟨rfl, rfl⟩
  go_wp2_with fail
  refine H2.out.mono ?_
  rintro e w1 ⟨rfl, rfl⟩
  go_wp2_with fail
  refine H3.out.mono ?_
  rintro e w1 ⟨rfl, b1⟩
  have B1 := Lib.hid b1
  clear b1
  go_wp2_with fail
  refine (H4.out w1 B1.out).mono ?_
  rintro e w2 ⟨rfl, b2⟩
  have B2 := Lib.hid (B1.out.trans (b2.mono B1.out.size))
  clear b2
  go_wp2_with fail
  refine (K5.out w2 B2.out).mono ?_
  rintro e w3 ⟨b, hb, v, rfl, o3, b3⟩
  have O3 := Lib.hid (own_lower o3 B2.out.size)
  have B3 := Lib.hid (B2.out.trans (b3.mono B2.out.size))
  have HB := Lib.hid hb
  clear o3 b3 hb
  go_wp2
  go_ret2
  exact ⟨b, v, rfl, HB.out, O3.out, B3.out⟩

/-- What Encode, or Decode, answers else. -/
def Refused (w : World) (f : Nat) (e : Ending) (w' : World) : Prop := e = .returned (.tuple #[.slice none 0 0, .int .i64 (f : Int)]) ∧ Below w.heap.size w w'

set_option maxHeartbeats 2000000 in
set_option maxRecDepth 100000 in
theorem menc_range (w : World) (sy cx : Int) (u v : Value) (h : ¬ (1 ≤ sy ∧ sy ≤ 256) ∨ ¬ (1 ≤ cx ∧ cx ≤ 64)) :
    Calls Tryd.prog 12 #[.int .i64 sy, .int .i64 cx, u, v] w (Refused w 2) := by
  have K1 := hasSym_any w sy
  have K2 := hasCtx_any w cx
  by_cases h1 : 1 ≤ sy ∧ sy ≤ 256
  · have h2 : ¬ (1 ≤ cx ∧ cx ≤ 64) := by omega
    rw [decide_eq_true h1] at K1
    rw [decide_eq_false h2] at K2
    have H1 := Lib.hid K1
    have H2 := Lib.hid K2
    clear h h1 h2 K1 K2
    go_enter Tryd.func12, Tryd.ntmps12
    go_wp2_with fail
    refine H1.out.mono ?_
    rintro e w1 ⟨rfl, rfl⟩
    go_wp2_with fail
    refine H2.out.mono ?_
    rintro e w1 ⟨rfl, rfl⟩
    go_wp2
    go_ret2
    exact ⟨rfl, Below.refl _ _⟩
  · rw [decide_eq_false h1] at K1
    have H1 := Lib.hid K1
    clear h h1 K1 K2
    go_enter Tryd.func12, Tryd.ntmps12
    go_wp2_with fail
    refine H1.out.mono ?_
    rintro e w1 ⟨rfl, rfl⟩
    go_wp2
    go_ret2
    exact ⟨rfl, Below.refl _ _⟩

set_option maxHeartbeats 2000000 in
set_option maxRecDepth 100000 in
theorem menc_no (w : World) (A A' : Option Addr) (L L' c c' : Nat) (sy cx : Int) (a l : List Int) (h : Reads w A L (ints a)) (h' : Reads w A' L' (ints l)) (hf : fitsOf sy cx a l ≠ 0) :
    Calls Tryd.prog 12 #[.int .i64 sy, .int .i64 cx, .slice A L c, .slice A' L' c'] w (Refused w (fitsOf sy cx a l)) := by
  have hl := h.len
  have hl' := h'.len
  unfold fitsOf at hf ⊢
  by_cases hr : ¬ (1 ≤ sy ∧ sy ≤ 256) ∨ ¬ (1 ≤ cx ∧ cx ≤ 64)
  · rw [if_pos hr]
    exact menc_range w sy cx _ _ hr
  · rw [if_neg hr] at hf ⊢
    have K1 := hasSym_any w sy
    have K2 := hasCtx_any w cx
    rw [decide_eq_true (show 1 ≤ sy ∧ sy ≤ 256 by omega)] at K1
    rw [decide_eq_true (show 1 ≤ cx ∧ cx ≤ 64 by omega)] at K2
    have H1 := Lib.hid K1
    have H2 := Lib.hid K2
    clear K1 K2 hr
    rw [hl, hl'] at hf ⊢
    by_cases he : L ≠ L'
    · rw [if_pos he]
      have t0 : ((L : Int) != (L' : Int)) = true := by rw [bne_iff_ne]; omega
      clear h h' hf he
      go_enter Tryd.func12, Tryd.ntmps12
      go_wp2_with fail
      refine H1.out.mono ?_
      rintro e w1 ⟨rfl, rfl⟩
      go_wp2_with fail
      refine H2.out.mono ?_
      rintro e w1 ⟨rfl, rfl⟩
      go_wp2
      go_ret2
      exact ⟨rfl, Below.refl _ _⟩
    · rw [if_neg he] at hf ⊢
      obtain rfl : L = L' := by omega
      by_cases hb : 65536 < L
      · rw [if_pos hb]
        have t1 : (65536 : Int) < L := by omega
        clear h h' hf he
        go_enter Tryd.func12, Tryd.ntmps12
        go_wp2_with fail
        refine H1.out.mono ?_
        rintro e w1 ⟨rfl, rfl⟩
        go_wp2_with fail
        refine H2.out.mono ?_
        rintro e w1 ⟨rfl, rfl⟩
        go_wp2
        go_ret2
        exact ⟨rfl, Below.refl _ _⟩
      · rw [if_neg hb] at hf ⊢
        have t1 : ¬ (65536 : Int) < L := by omega
        have K3 := allBelow_any w A L c a sy h (by omega)
        have K4 := fun w' (b : Below w.heap.size w w') => allBelow_any w' A' L c' l cx (h'.below b) (by omega)
        have hno : ¬ (below sy a && below cx l) = true := fun e => by rw [if_pos e] at hf; exact hf rfl
        rw [if_neg hno]
        by_cases hs : below sy a = true
        · have hs2 : below cx l = false := by
            rw [hs] at hno
            simpa using hno
          rw [hs] at K3
          rw [hs2] at K4
          have H3 := Lib.hid K3
          have H4 := Lib.hid K4
          clear h h' hf he K3 K4 hno hs hs2
          go_enter Tryd.func12, Tryd.ntmps12
          go_wp2_with fail
          refine H1.out.mono ?_
          rintro e w1 ⟨rfl, rfl⟩
          go_wp2_with fail
          refine H2.out.mono ?_
          rintro e w1 ⟨rfl, rfl⟩
          go_wp2_with fail
          refine H3.out.mono ?_
          rintro e w1 ⟨rfl, b1⟩
          have B1 := Lib.hid b1
          clear b1
          go_wp2_with fail
          refine (H4.out w1 B1.out).mono ?_
          rintro e w2 ⟨rfl, b2⟩
          have B2 := Lib.hid (B1.out.trans (b2.mono B1.out.size))
          clear b2
          go_wp2
          go_ret2
          exact ⟨rfl, B2.out⟩
        · have hs2 : below sy a = false := by simpa using hs
          rw [hs2] at K3
          have H3 := Lib.hid K3
          clear h h' hf he K3 K4 hno hs hs2
          go_enter Tryd.func12, Tryd.ntmps12
          go_wp2_with fail
          refine H1.out.mono ?_
          rintro e w1 ⟨rfl, rfl⟩
          go_wp2_with fail
          refine H2.out.mono ?_
          rintro e w1 ⟨rfl, rfl⟩
          go_wp2_with fail
          refine H3.out.mono ?_
          rintro e w1 ⟨rfl, b1⟩
          have B1 := Lib.hid b1
          clear b1
          go_wp2
          go_ret2
          exact ⟨rfl, B1.out⟩

/-- Encode of any row. -/
def EncAny (w : World) (sy cx : Int) (a l : List Int) (e : Ending) (w' : World) : Prop :=
  if fitsOf sy cx a l = 0 then Encoded w sy.toNat (nats l) (nats a) e w' else Refused w (fitsOf sy cx a l) e w'
theorem menc_any (w : World) (A A' : Option Addr) (L L' c c' : Nat) (sy cx : Int) (a l : List Int) (h : Reads w A L (ints a)) (h' : Reads w A' L' (ints l)) :
    Calls Tryd.prog 12 #[.int .i64 sy, .int .i64 cx, .slice A L c, .slice A' L' c'] w (EncAny w sy cx a l) := by
  unfold EncAny
  by_cases hf : fitsOf sy cx a l = 0
  · have r := fits_row hf
    have hl := h.len
    have hl' := h'.len
    have h1 := r.len
    obtain rfl : L = L' := by omega
    have h2 := r.isy
    have h3 := r.icx
    obtain ⟨n, rfl⟩ : ∃ n : Nat, sy = n := ⟨sy.toNat, by omega⟩
    obtain ⟨N, rfl⟩ : ∃ N : Nat, cx = N := ⟨cx.toNat, by omega⟩
    obtain ⟨e1, e2⟩ := below_nats r.syms
    obtain ⟨e3, e4⟩ := below_nats r.ctx
    rw [e1] at h
    rw [e3] at h'
    refine (menc_ok w A A' L c c' n N (nats a) (nats l) h h' (by have := r.few; omega) (by omega) (by omega) (by omega) (by omega) e2 e4).mono ?_
    intro e w' hh
    rw [if_pos hf]
    exact hh
  · refine (menc_no w A A' L L' c c' sy cx a l h h' hf).mono ?_
    intro e w' hh
    rw [if_neg hf]
    exact hh
end Go.Proofs.YtjbfgajognnmiaaDoor

/- readPlain (layer 5): the symbols of plain bytes, or that there are none. -/
namespace Go.Proofs.YtjbfgajognnmiaaDoor
open Go.RowKit

/-- NewReader of any bytes as so many bits. -/
def NrAny (w : World) (b : List Nat) (M : Nat) (e : Ending) (w' : World) : Prop :=
  (∃ bs, bs.length = M ∧ pack bs = b ∧ Made w bs e w') ∨ ∃ f : Int, f ≠ 0 ∧ e = .returned (.tuple #[.pointer none, .int .i64 f]) ∧ w = w' ∧ ∀ bs : List Bool, bs.length = M → pack bs ≠ b
theorem nr_any (w : World) (A : Option Addr) (nb c M : Nat) (b : List Nat) (h : Reads w A nb (bts b)) (hd : Dig b) (hM : M ≤ 33554432) :
    Calls Tryd.prog 65 #[.slice A nb c, .int .i64 (M : Int)] w (NrAny w b M) := by
  have hl : b.length = nb := by have := h.1; rwa [length_bts] at this
  rcases Nat.lt_trichotomy nb ((M + 7) / 8) with h1 | h1 | h1
  · refine (nr_end w A nb c M hM h1).mono ?_
    rintro e w' ⟨rfl, rfl⟩
    exact .inr ⟨4, by decide, rfl, rfl, fun bs h2 h3 => by have := length_pack bs; rw [h3] at this; omega⟩
  · by_cases hu : M % 8 = 0 ∨ b.getD (M / 8) 0 * 2 ^ (M % 8) % 256 = 0
    · have hp := pack_unpack b M hd (by omega) hu
      have hn := length_unpack b M
      have hr : Reads w A (pack (unpack b M)).length (u8s (pack (unpack b M))) := by rw [hp, hl]; exact h
      have := nr_ok w A c (unpack b M) (by omega) hr
      rw [hp, hl, hn] at this
      refine this.mono ?_
      intro e w' hm
      exact .inl ⟨unpack b M, hn, hp, hm⟩
    · have hm8 : M % 8 ≠ 0 := fun e => hu (.inl e)
      have hz : b.getD (M / 8) 0 * 2 ^ (M % 8) % 256 ≠ 0 := fun e => hu (.inr e)
      obtain ⟨ad, rfl, hc⟩ := h.2 (by omega)
      obtain rfl : nb = M / 8 + 1 := by omega
      have hx : w.cell? (ad.add (M / 8)) = some (.int .u8 ((b.getD (M / 8) 0 : Nat) : Int)) := hc _ _ (bts_at b (M / 8) (by omega))
      refine (nr_form w ad (M / 8) c M (b.getD (M / 8) 0) hM (by omega) hm8 hx hz).mono ?_
      rintro e w' ⟨rfl, rfl⟩
      refine .inr ⟨3, by decide, rfl, rfl, fun bs h2 h3 => hz ?_⟩
      subst h2
      have h4 := (shift_out _ _ (by omega)).2 (byte_free bs)
      have h5 := getD_pack bs (bs.length / 8) (by omega)
      rw [h3] at h5
      rw [List.getD_eq_getElem?_getD, h5]
      exact h4
  · refine (nr_more w A nb c M hM h1).mono ?_
    rintro e w' ⟨rfl, rfl⟩
    exact .inr ⟨5, by decide, rfl, rfl, fun bs h2 h3 => by have := length_pack bs; rw [h3] at this; omega⟩

/-- A row of ints of which the first are laid, the rest noughts. -/
def laidRow (out : List Nat) (L : Nat) : List Value := nts out ++ List.replicate (L - out.length) (.int .i64 0)
theorem laidRow_set (out : List Nat) (L s : Nat) (h : out.length < L) : (laidRow out L).toArray.setIfInBounds out.length (.int .i64 (s : Int)) = (laidRow (out ++ [s]) L).toArray := by
  rw [List.setIfInBounds_toArray]
  unfold laidRow
  rw [List.set_append_right _ _ (by rw [length_nts]; exact Nat.le_refl _), length_nts, Nat.sub_self]
  obtain ⟨d, hd⟩ : ∃ d, L - out.length = d + 1 := ⟨L - out.length - 1, by omega⟩
  rw [hd, List.replicate_succ, List.set_cons_zero, List.length_append, show L - (out.length + [s].length) = d by simp; omega]
  simp [nts]
theorem laidRow_none (L : Nat) : laidRow [] L = List.replicate L (.int .i64 0) := by simp [laidRow, nts]
theorem laidRow_all (out : List Nat) : laidRow out out.length = nts out := by simp [laidRow]
theorem laidRow_cell {w : World} {q L : Nat} {out : List Nat} (h : w.heap[q]? = some (.cells (laidRow out L).toArray 3 (0, 0))) (hk : out.length < L) : w.cell? ⟨q, out.length, none⟩ = some (.int .i64 0) := by
  rw [cell_in h, List.getElem?_toArray]
  unfold laidRow
  rw [List.getElem?_append_right (by rw [length_nts]; exact Nat.le_refl _), length_nts, Nat.sub_self, List.getElem?_replicate, if_pos (by omega)]
theorem laidRow_made (w : World) (L : Nat) : (w.alloc (.cells (madeCells #[.int .i64 0] L) 3)).heap[w.heap.size]? = some (.cells (laidRow [] L).toArray 3 (0, 0)) := by
  rw [heap_alloc_new, laidRow_none, ← toList_madeCells_one]

/-- The symbols that plain bits spell. -/
def syms5 (bs : List Bool) (W k : Nat) : List Nat := (List.range k).map (symAt bs W)
theorem length_syms5 (bs : List Bool) (W k : Nat) : (syms5 bs W k).length = k := by simp [syms5]
theorem syms5_succ (bs : List Bool) (W k : Nat) : syms5 bs W (k + 1) = syms5 bs W k ++ [symAt bs W k] := by simp [syms5, List.range_succ]
theorem syms5_pbits (n : Nat) (ss : List Nat) (hs : ∀ s ∈ ss, s < n) : syms5 (pbits n ss) (wide (n : Int)) ss.length = ss := by
  apply List.ext_getElem
  · rw [length_syms5]
  · intro j h1 h2
    have h3 := symAt_pbits n ss j h2 (getD_lt hs j h2)
    rw [List.getD_eq_getElem?_getD, List.getElem?_eq_getElem h2] at h3
    simp only [syms5, List.getElem_map, List.getElem_range]
    exact h3
theorem pack_one {bs : List Bool} {n L : Nat} {ss : List Nat} (h1 : bs.length = L * wide (n : Int)) (h2 : ss.length = L) (h3 : pack bs = pack (pbits n ss)) : bs = pbits n ss := by
  have h4 : (pbits n ss).length = bs.length := by rw [length_pbits, h1, h2]
  rw [← unpack_pack bs, h3, ← h4, unpack_pack]

/-- What readPlain answers. -/
def PlainRead (w : World) (n L : Nat) (b : List Nat) (e : Ending) (w' : World) : Prop :=
  Below w.heap.size w w' ∧
  ((∃ out A c, e = .returned (.tuple #[.slice A L c, .bool true]) ∧ out.length = L ∧ (∀ s ∈ out, s < n) ∧ Reads w' A L (nts out) ∧ ∀ ss : List Nat, ss.length = L → (∀ s ∈ ss, s < n) → b = pack (pbits n ss) → ss = out)
  ∨ (e = .returned (.tuple #[.slice none 0 0, .bool false]) ∧ ∀ ss : List Nat, ss.length = L → (∀ s ∈ ss, s < n) → b ≠ pack (pbits n ss)))

def ReadAt (w : World) (n L r p q : Nat) (bs : List Bool) (i : Value) (wr : World) : Prop :=
  ∃ k : Nat, k ≤ L ∧ i = .int .i64 (k : Int) ∧ RIs wr r p bs (k * wide (n : Int)) ∧ wr.heap[q]? = some (.cells (laidRow (syms5 bs (wide (n : Int)) k) L).toArray 3 (0, 0)) ∧ (∀ j, j < k → symAt bs (wide (n : Int)) j < n) ∧ Below w.heap.size w wr

set_option maxHeartbeats 4000000 in
set_option maxRecDepth 100000 in
theorem readPlain_any (w : World) (A : Option Addr) (nb c n L : Nat) (b : List Nat) (h : Reads w A nb (bts b)) (hd : Dig b) (h0 : 0 < n) (hn : n ≤ 256) (hL : L ≤ 65536) :
    Calls Tryd.prog 50 #[.slice A nb c, .int .i64 (n : Int), .int .i64 (L : Int)] w (PlainRead w n L b) := by
  have KW := Lib.hid (width_any w (n : Int) (by omega))
  have hW := wide_le (n : Int) (by omega)
  have hP : L * wide (n : Int) ≤ 65536 * 63 := Nat.mul_le_mul hL hW
  have KN := Lib.hid (nr_any w A nb c (L * wide (n : Int)) b h hd (by omega))
  have hmk := fun W => run_make_row' (P := Tryd.prog) 22 3 (.int .i64 0) 8 Tryd.underlying22 Tryd.infoInt rfl .i64 .i64 L (by omega) (by omega) W
  have e0 : (L : Int) * (wide (n : Int) : Int) = ((L * wide (n : Int) : Nat) : Int) := by push_cast; rfl
  have HSM := Lib.hid (fun (j : Nat) (hj : j < L) => show j * wide (n : Int) + wide (n : Int) ≤ L * wide (n : Int) by
    have : (j + 1) * wide (n : Int) ≤ L * wide (n : Int) := Nat.mul_le_mul_right _ hj
    rwa [Nat.succ_mul] at this)
  have HPK := Lib.hid (fun (bs : List Bool) (ss : List Nat) (h1 : bs.length = L * wide (n : Int)) (h2 : ss.length = L) (h3 : pack bs = pack (pbits n ss)) => pack_one (n := n) h1 h2 h3)
  have HLP := Lib.hid (fun (ss : List Nat) (h2 : ss.length = L) => show (pbits n ss).length = L * wide (n : Int) by rw [length_pbits, h2])
  have HSY := Lib.hid (fun (ss : List Nat) (hs : ∀ s ∈ ss, s < n) => syms5_pbits n ss hs)
  have HAT := Lib.hid (fun (ss : List Nat) (j : Nat) (hj : j < ss.length) (hs : ss.getD j 0 < n) => symAt_pbits n ss j hj hs)
  have KU := Lib.hid (fun (w : World) (r p : Nat) (bs : List Bool) (k : Nat) (h : RIs w r p bs k) => unfixed_ok w r p bs k (n : Int) h (by omega) (by omega))
  have KV := Lib.hid (fun (w : World) (r p : Nat) (bs : List Bool) (k : Nat) (h : RIs w r p bs k) => unfixed_form w r p bs k (n : Int) h (by omega) (by omega))
  have HRA := Lib.hid (show ∀ (q r p : Nat) (bs : List Bool) (i : Value) (wr : World), ReadAt w n L r p q bs i wr → ∃ k : Nat, k ≤ L ∧ i = .int .i64 (k : Int) ∧ RIs wr r p bs (k * wide (n : Int)) ∧ wr.heap[q]? = some (.cells (laidRow (syms5 bs (wide (n : Int)) k) L).toArray 3 (0, 0)) ∧ (∀ j, j < k → symAt bs (wide (n : Int)) j < n) ∧ Below w.heap.size w wr from fun _ _ _ _ _ _ h => h)
  have HRB := Lib.hid (show ∀ (q r p : Nat) (bs : List Bool) (i : Value) (wr : World), (∃ k : Nat, k ≤ L ∧ i = .int .i64 (k : Int) ∧ RIs wr r p bs (k * wide (n : Int)) ∧ wr.heap[q]? = some (.cells (laidRow (syms5 bs (wide (n : Int)) k) L).toArray 3 (0, 0)) ∧ (∀ j, j < k → symAt bs (wide (n : Int)) j < n) ∧ Below w.heap.size w wr) → ReadAt w n L r p q bs i wr from fun _ _ _ _ _ _ h => h)
  generalize wide (n : Int) = W at *
  have e1 : IntKind.i64.wrap ((L : Int) * (W : Int)) = ((L * W : Nat) : Int) := by rw [e0]; exact IntWalk.i64_in _ (by omega)
  have e2 : wrap64 ((L : Int) * (W : Int)) = ((L * W : Nat) : Int) := by rw [e0]; unfold wrap64; omega
  generalize hM : L * W = M at *
  have HM := Lib.hid hM
  clear h hd e0 hM
  go_enter Tryd.func50, Tryd.ntmps50
  go_wp2_with fail
  refine KW.out.mono ?_
  rintro e w1 ⟨rfl, rfl⟩
  go_wp2_with fail
  refine KN.out.mono ?_
  rintro e w1 (⟨bs, hbl, hpb, r, p, rfl, ri, b1, hr1, _⟩ | ⟨f, hf, rfl, rfl, hno⟩)
  · have HBL := Lib.hid hbl
    have HPB := Lib.hid hpb
    have R1 := Lib.hid (ri.below (mk_below w1 (.cells (madeCells #[.int .i64 0] L) 3)))
    have B1 := Lib.hid (b1.alloc b1.size (.cells (madeCells #[.int .i64 0] L) 3))
    have S1 := Lib.hid b1.size
    have LR := Lib.hid hr1
    have M1 := Lib.hid (laidRow_made w1 L)
    clear hbl hpb ri b1 hr1
    go_wp2_with fail
    clear hmk
    go_loopw [27] (ReadAt w n L r p w1.heap.size bs) (fun i _ => L - (intOf i).toNat)
    case atStart => exact HRB.out _ _ _ _ _ _ ⟨0, Nat.zero_le _, rfl, by rw [Nat.zero_mul]; exact R1.out, M1.out, fun j hj => absurd hj (by omega), B1.out⟩
    case round =>
      obtain ⟨k, hk, rfl, hr, hq, hall, hb⟩ := HRA.out _ _ _ _ _ _ hrel
      have HR := Lib.hid hr
      have HQ := Lib.hid hq
      have HA := Lib.hid hall
      have HB := Lib.hid hb
      have hls := length_syms5 bs W k
      clear hrel hr hq hall hb
      by_cases hlt : k < L
      · have t1 : (k : Int) < L := by omega
        have hkW := HSM.out k hlt
        by_cases hs : symAt bs W k < n
        · have K := KU.out wr r p bs (k * W) HR.out (by rw [HBL.out]; exact hkW) (by show ((symAt bs W k : Nat) : Int) < _; omega)
          have HS := Lib.hid hs
          have HSU := Lib.hid (syms5_succ bs W k)
          have K2 : Calls Tryd.prog 66 #[.pointer (some ⟨r, 0, none⟩), .int .i64 (n : Int)] wr fun e w' => e = .returned (.tuple #[.int .i64 ((symAt bs W k : Nat) : Int), .int .i64 0]) ∧ RIs w' r p bs (k * W + W) ∧ wr.grownBy w' (some r) := K
          generalize hsy : symAt bs W k = s at *
          have HK := Lib.hid K2
          have HSYM := Lib.hid hsy
          clear K K2 hs hsy
          go_wp2_with fail
          refine HK.out.mono ?_
          rintro e w2 ⟨rfl, r2, g2⟩
          have q2 : w2.heap[w1.heap.size]? = some (.cells (laidRow (syms5 bs W k) L).toArray 3 (0, 0)) := (g2.block _ (heap_lt HQ.out) (fun e => by injection e with e; exact block_ne HQ.out HR.out.blk (by decide) e)).trans HQ.out
          have c2 := laidRow_cell q2 (by rw [hls]; exact hlt)
          have f2 := frozen_in q2 k
          have s2 := heap_set q2 k (.int .i64 (s : Int))
          have s3 := laidRow_set (syms5 bs W k) L s (by rw [hls]; exact hlt)
          rw [hls] at c2 s3
          rw [s3, ← HSU.out] at s2
          have Q2 := Lib.hid s2
          have R2 := Lib.hid (show RIs (w2.setCell ⟨w1.heap.size, k, none⟩ (.int .i64 (s : Int))) r p bs ((k + 1) * W) from by
            rw [Nat.succ_mul]
            exact ⟨heap_far r2.blk (fun e => block_ne q2 r2.blk (by decide) e.symm) _, heap_far r2.row (fun e => block_ne q2 r2.row (by decide) e.symm) _, r2.le, r2.size⟩)
          have B2 := Lib.hid ((HB.out.trans (grown_below g2 HB.out.size LR.out)).setCell (p := ⟨w1.heap.size, k, none⟩) S1.out (.int .i64 (s : Int)))
          clear r2 g2 q2 s2 s3
          go_wp2_with fail
          refine ⟨HRB.out _ _ _ _ _ _ ⟨k + 1, by omega, by go_num, R2.out, Q2.out, fun j hj => ?_, B2.out⟩, by simp [intOf]; omega⟩
          rcases Nat.lt_or_ge j k with h1 | h1
          · exact HA.out j h1
          · obtain rfl : j = k := by omega
            rw [HSYM.out]; exact HS.out
        · have K := KV.out wr r p bs (k * W) HR.out (by rw [HBL.out]; exact hkW) (by show _ ≤ ((symAt bs W k : Nat) : Int); omega)
          have HS := Lib.hid hs
          have HK := Lib.hid K
          clear K hs
          go_wp2_with fail
          refine HK.out.mono ?_
          rintro e w2 ⟨rfl, g2⟩
          have q2 : w2.heap[w1.heap.size]? = some (.cells (laidRow (syms5 bs W k) L).toArray 3 (0, 0)) := (g2.block _ (heap_lt HQ.out) (fun e => by injection e with e; exact block_ne HQ.out HR.out.blk (by decide) e)).trans HQ.out
          have c2 := laidRow_cell q2 (by rw [hls]; exact hlt)
          have f2 := frozen_in q2 k
          rw [hls] at c2
          have B2 := Lib.hid ((HB.out.trans (grown_below g2 HB.out.size LR.out)).setCell (p := ⟨w1.heap.size, k, none⟩) S1.out (.int .i64 0))
          clear g2 q2
          go_wp2_with fail
          go_ret2
          refine ⟨B2.out, .inr ⟨rfl, fun ss h1 h2 h3 => HS.out ?_⟩⟩
          have h4 := HPK.out bs ss HBL.out h1 (by rw [HPB.out, h3])
          rw [h4, HAT.out ss k (by rw [h1]; exact hlt) (getD_lt h2 k (by rw [h1]; exact hlt))]
          exact getD_lt h2 k (by rw [h1]; exact hlt)
      · obtain rfl : k = L := by omega
        have t1 : ¬ (k : Int) < k := by omega
        have hq := HQ.out
        have hqa := laidRow_all (syms5 bs W k)
        rw [hls] at hqa
        rw [hqa] at hq
        have RD := Lib.hid (show Reads wr (some ⟨w1.heap.size, 0, none⟩) k (nts (syms5 bs W k)) by
          have := Reads.of_block hq
          rwa [length_nts, hls] at this)
        clear hq hqa
        go_wp2_with fail
        go_ret2
        refine ⟨HB.out, .inl ⟨syms5 bs W k, _, _, rfl, hls, fun s hs => ?_, RD.out, fun ss h1 h2 h3 => ?_⟩⟩
        · obtain ⟨j, hj, rfl⟩ := List.mem_map.1 hs
          exact HA.out j (List.mem_range.1 hj)
        · have h4 := HPK.out bs ss HBL.out h1 (by rw [HPB.out, h3])
          have h5 := HSY.out ss h2
          rw [h1] at h5
          rw [h4, h5]
  · have t1 : (f != 0) = true := by rw [bne_iff_ne]; exact hf
    have HN := Lib.hid hno
    clear hno hf
    go_wp2_with fail
    go_ret2
    exact ⟨Below.refl _ _, .inr ⟨rfl, fun ss h1 h2 h3 => HN.out (pbits n ss) (HLP.out ss h1) h3.symm⟩⟩
end Go.Proofs.YtjbfgajognnmiaaDoor

/- readCoded (layer 5): the symbols of coded bytes. -/
namespace Go.Proofs.YtjbfgajognnmiaaDoor
open Go.RowKit

theorem Tabs.setInt {w : World} {q N qs : Nat} {m : Where} {st : Nat → List Int} {cs : Array Value} (h : Tabs w q N m st) (hs : w.heap[qs]? = some (.cells cs 3 (0, 0))) (hne : ∀ c p, c < N → m c = some p → p.2.1 < qs) (k : Nat) (u : Value) : Tabs (w.setCell ⟨qs, k, none⟩ u) q N m st :=
  h.keepC (S := (· = qs)) (.of_set w _ _ rfl) (fun e => block_ne h.blk hs (by decide) e) (fun c p hc hp => ⟨fun e => block_ne (h.tab c p hc hp).blk hs (by decide) e, fun e => by have := hne c p hc hp; omega⟩)
theorem DIs.setInt {w : World} {B g qs : Nat} {pk : Value} {x : Iv} {b : List Nat} {cs : Array Value} (h : DIs w B g pk x b) (hs : w.heap[qs]? = some (.cells cs 3 (0, 0))) (k : Nat) (u : Value) : DIs (w.setCell ⟨qs, k, none⟩ u) B g pk x b := by
  have h2 : w.heap[g]? = _ := h.cell
  exact h.keep (S := (· = qs)) (.of_set w _ _ rfl) (fun e => block_ne h2 hs (by decide) e) (fun p hp e => own_ne h.row hs (by decide) (by rw [hp, e]))
theorem zip_snoc (cs out : List Nat) (k x s : Nat) (h : out.length = k) (hk : k < cs.length) (hx : cs.getD k 0 = x) : (cs.take (k + 1)).zip (out ++ [s]) = (cs.take k).zip out ++ [(x, s)] := by
  rw [take_getD cs k hk, hx, List.zip_append (by rw [List.length_take]; omega)]
  rfl

/-- What readCoded answers. -/
def CodedRead (w : World) (n L : Nat) (cs b : List Nat) (e : Ending) (w' : World) : Prop :=
  Below w.heap.size w w' ∧ ∃ out A c, e = .returned (.slice A L c) ∧ out.length = L ∧ (∀ s ∈ out, s < n) ∧ Reads w' A L (nts out) ∧ ∀ ss : List Nat, ss.length = L → (∀ s ∈ ss, s < n) → IsCode (rowIv n (cs.zip ss)) b → ss = out

structure DecAt5 (w wr : World) (n q N g qs L : Nat) (pk : Value) (m : Where) (cs b out : List Nat) : Prop where
  dec : DIs wr w.heap.size g pk (rowIv n ((cs.take out.length).zip out)) b
  tabs : Tabs wr q N m (stOf (st0 n) ((cs.take out.length).zip out))
  row : wr.heap[qs]? = some (.cells (laidRow out L).toArray 3 (0, 0))
  lt : ∀ s ∈ out, s < n
  bel : Below w.heap.size w wr
def DecLoop (w : World) (n q N g qs L : Nat) (pk : Value) (m : Where) (cs b : List Nat) (i : Value) (wr : World) : Prop :=
  ∃ k : Nat, k ≤ L ∧ i = .int .i64 (k : Int) ∧ ∃ out, out.length = k ∧ DecAt5 w wr n q N g qs L pk m cs b out

set_option maxHeartbeats 4000000 in
set_option maxRecDepth 100000 in
theorem readCoded_any (w : World) (A A' : Option Addr) (nb c c' n N L : Nat) (b cs : List Nat) (h : Reads w A nb (bts b)) (hd : Dig b) (hnb : nb ≤ 1000000) (h' : Reads w A' L (nts cs)) (h0 : 0 < n) (hn : n ≤ 256) (hN : N ≤ 64) (hL : L ≤ 65536) (hcs : ∀ c ∈ cs, c < N) :
    Calls Tryd.prog 51 #[.slice A nb c, .int .i64 (n : Int), .int .i64 (N : Int), .slice A' L c'] w (CodedRead w n L cs b) := by
  have HR := Lib.hid h
  have HD := Lib.hid hd
  have HR' := Lib.hid h'
  have HL' := Lib.hid h'.nlen
  have HC := Lib.hid hcs
  have KT := Lib.hid (newTables_any w n N h0 hn hN)
  have hmk := fun W => run_make_row' (P := Tryd.prog) 22 3 (.int .i64 0) 8 Tryd.underlying22 Tryd.infoInt rfl .i64 .i64 L (by omega) (by omega) W
  have HG := Lib.hid (fun (ps : List (Nat × Nat)) (hp : ∀ p ∈ ps, p.2 < n) => row_good h0 hn ps hp)
  have HO := Lib.hid (fun (ps : List (Nat × Nat)) (hp : ∀ p ∈ ps, p.2 < n) => (allOk_st0 n h0 hn).of ps hp)
  have HOK := Lib.hid (allOk_st0 n h0 hn)
  clear h hd h' hcs
  go_enter Tryd.func51, Tryd.ntmps51
  go_wp2_with fail
  refine KT.out.mono ?_
  rintro e w1 ⟨q, m, rfl, t1, l1, q1, b1⟩
  have T1 := Lib.hid t1
  have LD := Lib.hid l1
  have B1 := Lib.hid b1
  have KD := Lib.hid (newDec_any w1 w.heap.size A nb c b (HR.out.below b1) hnb HD.out b1.size)
  clear t1 l1 q1 b1
  go_wp2_with fail
  refine KD.out.mono ?_
  rintro e w2 ⟨g, pk, rfl, d2, b2, _, _⟩
  have bm := mk_below w2 (.cells (madeCells #[.int .i64 0] L) 3)
  have b12 := B1.out.trans (b2.mono B1.out.size)
  have NE := Lib.hid (show ∀ c p, c < N → m c = some p → p.2.1 < w2.heap.size from fun c p hc hp => by have := (T1.out.tab c p hc hp).lt'; have := b2.size; omega)
  have S2 := Lib.hid b12.size
  have F2 := Lib.hid (show DecAt5 w (w2.alloc (.cells (madeCells #[.int .i64 0] L) 3)) n q N g w2.heap.size L pk m cs b [] from
    ⟨d2.below bm, (T1.out.below b2).below bm, laidRow_made w2 L, fun s hs => (nomatch hs), b12.alloc b12.size _⟩)
  clear d2 b2 bm b12
  go_wp2_with fail
  clear hmk
  go_loopw [25] (DecLoop w n q N g w2.heap.size L pk m cs b) (fun i _ => L - (intOf i).toNat)
  case atStart => exact ⟨0, Nat.zero_le _, rfl, [], rfl, F2.out⟩
  case round =>
    obtain ⟨k, hk, rfl, out, hol, hat⟩ := hrel
    have F := Lib.hid hat
    have hpl : ∀ p ∈ (cs.take out.length).zip out, p.2 < n := zip_lt hat.lt
    have HPL := Lib.hid hpl
    have G := Lib.hid (HG.out _ hpl)
    have O := Lib.hid (HO.out _ hpl)
    have K3 := Lib.hid (show (rowIv n ((cs.take out.length).zip out)).k ≤ 1000000 by
      have h1 := row_k n ((cs.take out.length).zip out)
      rw [List.length_zip] at h1
      omega)
    clear hat hpl
    by_cases hlt : k < L
    · obtain ⟨ad', rfl, ck'⟩ := HR'.out.nat k hlt
      have d1 := (F.out.bel.cell (World.block_lt_of_cell? _ _ ck')).trans ck'
      have hcn := getD_lt HC.out k (by rw [HL'.out]; exact hlt)
      have HZ := Lib.hid (fun s => zip_snoc cs out k (cs.getD k 0) s hol (by rw [HL'.out]; exact hlt) rfl)
      generalize cs.getD k 0 = x at *
      obtain ⟨p, hp, hpq⟩ := LD.out x hcn
      have d2 := F.out.tabs.cell x hcn
      rw [hp] at d2
      have d3 : wr.cell? ⟨q, x, none⟩ = some (.pointer (some ⟨p.1, 0, none⟩)) := d2
      have P := Lib.hid (⟨hp, hpq⟩ : m x = some p ∧ w.heap.size ≤ p.2.1)
      have KE := Lib.hid (decode_ok wr w.heap.size g pk _ b F.out.dec G.out K3.out p.1 p.2.1 p.2.2 _ (F.out.tabs.tab x p hcn hp) (O.out x).1)
      have t1 : (k : Int) < L := by omega
      have t2 : (x : Int) < N := by omega
      have HOL := Lib.hid hol
      clear ck' d2 hp hpq hol
      go_wp2_with fail
      refine KE.out.mono ?_
      rintro e w3 ⟨s, hs, rfl, d3', c3⟩
      rw [(O.out x).2] at hs
      have h2 : wr.heap[g]? = _ := F.out.dec.cell
      have q3 : w3.heap[w2.heap.size]? = some (.cells (laidRow out L).toArray 3 (0, 0)) := (c3.far _ (heap_lt F.out.row) (fun e => block_ne F.out.row h2 (by decide) e)).trans F.out.row
      have T3 := F.out.tabs.dec F.out.dec c3
      have hc3 := laidRow_cell q3 (by rw [HOL.out]; exact hlt)
      have f3 := frozen_in q3 k
      have s3 := heap_set q3 k (.int .i64 (s : Int))
      have s4 := laidRow_set out L s (by rw [HOL.out]; exact hlt)
      rw [HOL.out] at hc3 s4
      rw [s4] at s3
      have B3 := Lib.hid ((F.out.bel.trans (c3.below F.out.bel.size (fun p hp => by rw [hp]; exact F.out.dec.low))).setCell (p := ⟨w2.heap.size, k, none⟩) S2.out (.int .i64 (s : Int)))
      have T4 := Lib.hid (T3.setInt q3 NE.out k (.int .i64 (s : Int)))
      have D4 := Lib.hid (d3'.setInt q3 k (.int .i64 (s : Int)))
      have Q4 := Lib.hid s3
      have c4 : (w3.setCell ⟨w2.heap.size, k, none⟩ (.int .i64 (s : Int))).cell? ⟨w2.heap.size, k, none⟩ = some (.int .i64 (s : Int)) := by
        rw [cell_in s3, List.getElem?_toArray]
        unfold laidRow
        rw [List.getElem?_append_left (by rw [length_nts, List.length_append, HOL.out]; simp)]
        unfold nts
        rw [List.getElem?_map, List.getElem?_append_right (by rw [HOL.out]; exact Nat.le_refl _), HOL.out, Nat.sub_self]
        rfl
      have KB := Lib.hid (bump_ok _ p.1 p.2.1 p.2.2 _ s (T4.out.tab x p hcn P.out.1) (O.out x).1 (by rw [(O.out x).2]; exact hs))
      clear d3' c3 h2 q3 T3 s3 s4
      go_wp2_with fail
      refine KB.out.mono ?_
      rintro e w5 ⟨rfl, t5, g5⟩
      have F5 := Lib.hid (show DecAt5 w w5 n q N g w2.heap.size L pk m cs b (out ++ [s]) from by
        have hz := HZ.out s
        have e1 : (out ++ [s]).length = k + 1 := by rw [List.length_append, HOL.out]; rfl
        refine ⟨?_, ?_, ?_, ?_, B3.out.trans (turned_below g5 P.out.2 B3.out.size)⟩
        · rw [e1, hz, row_snoc, ← HOL.out]
          exact D4.out.bump (T4.out.tab x p hcn P.out.1) g5
        · rw [e1, hz, stOf_snoc, ← HOL.out]
          exact T4.out.bump x s p hcn P.out.1 t5 g5
        · exact (g5.block _ (heap_lt Q4.out) (fun e => by injection e with e; have := NE.out x p hcn P.out.1; omega)).trans Q4.out
        · intro y hy
          rcases List.mem_append.1 hy with hy | hy
          · exact F.out.lt y hy
          · rw [List.mem_singleton.1 hy]; exact hs)
      have HL5 := Lib.hid (show (out ++ [s]).length = k + 1 by rw [List.length_append, HOL.out]; rfl)
      clear t5 g5
      go_wp2_with fail
      exact ⟨⟨k + 1, by omega, by go_num, _, HL5.out, F5.out⟩, by simp [intOf]; omega⟩
    · obtain rfl : k = L := by omega
      have t1 : ¬ (k : Int) < k := by omega
      have hq := F.out.row
      rw [← hol, laidRow_all] at hq
      have RD := Lib.hid (show Reads wr (some ⟨w2.heap.size, 0, none⟩) k (nts out) by
        have := Reads.of_block hq
        rwa [length_nts, hol] at this)
      have HOL := Lib.hid hol
      clear hq hol
      go_wp2_with fail
      go_ret
      refine ⟨F.out.bel, out, _, _, rfl, HOL.out, F.out.lt, RD.out, fun ss h1 h2 h3 => ?_⟩
      have h4 := F.out.dec.inside
      rw [HOL.out, List.take_of_length_le (by rw [HL'.out]; exact Nat.le_refl _)] at h4
      have h5 := isCode_inside (HG.out _ (zip_lt h2)) h3
      exact mads_inj HOK.out cs ss out (by rw [h1, HL'.out]) (by rw [HOL.out, HL'.out]) h2 F.out.lt HD.out firstIv h5 h4
end Go.Proofs.YtjbfgajognnmiaaDoor

/- Bytes as strings: string(b), and bytes.Equal (layer 5). -/
namespace Go.Proofs.YtjbfgajognnmiaaDoor
open Go.RowKit

/-- The text of bytes. -/
def bstr (l : List Nat) : ByteArray := ⟨(l.map UInt8.ofNat).toArray⟩
theorem size_bstr (l : List Nat) : (bstr l).size = l.length := by show (l.map UInt8.ofNat).toArray.size = _; simp
theorem run_bstr (w : World) (A : Option Addr) (n c : Nat) (l : List Nat) (h : Reads w A n (bts l)) : (convert 25 9 (.slice A n c)).run Tryd.prog w = .ok (.string (bstr l)) w := by
  rw [run_convert_bytes_string w 25 9 5 A n c Tryd.underlying25 Tryd.underlying5 Tryd.underlying9]
  cases A with
  | none =>
    have hn : n = 0 := by
      rcases Nat.eq_zero_or_pos n with h0 | h0
      · exact h0
      · obtain ⟨ad, he, _⟩ := h.2 h0; cases he
    have hl : l = [] := by have := h.1; rw [length_bts, hn] at this; exact List.eq_nil_of_length_eq_zero this
    subst hl
    simp [Conv.bytesToString]
    rfl
  | some ad =>
    have hl : (loadCells ad n).run Tryd.prog w = .ok ((l.map fun d : Nat => (d : Int)).map (Value.int .u8)).toArray w := by
      have := run_loadCells_list (P := Tryd.prog) w ad (bts l) (fun j v hj => by
        have hj2 : j < n := by have := (List.getElem?_eq_some_iff.1 hj).1; have := h.1; omega
        obtain ⟨ad', he, hc⟩ := h.2 (by omega)
        injection he with he
        subst he
        exact hc j v hj)
      rw [h.1] at this
      rw [this]
      simp [bts]
    rw [run_bytesToString w ad n c _ hl, foldl_push_bytes]
    simp [bstr, ByteArray.empty, ByteArray.emptyWithCapacity]
    rfl
theorem bstr_toList (l : List Nat) : (bstr l).toList = l.map UInt8.ofNat := by unfold bstr; rw [ByteArray.toList_mk]
theorem bstr_beq {a b : List Nat} (ha : ∀ d ∈ a, d < 256) (hb : ∀ d ∈ b, d < 256) : ((bstr a).toList == (bstr b).toList) = decide (a = b) := by
  rw [bstr_toList, bstr_toList]
  by_cases h : a = b
  · subst h; simp
  · have : a.map UInt8.ofNat ≠ b.map UInt8.ofNat := fun e => h (by
      have e2 : (a.map UInt8.ofNat).map UInt8.toNat = (b.map UInt8.ofNat).map UInt8.toNat := by rw [e]
      rw [List.map_map, List.map_map] at e2
      have key : ∀ l : List Nat, (∀ d ∈ l, d < 256) → l.map (UInt8.toNat ∘ UInt8.ofNat) = l := fun l hl => by
        conv => rhs; rw [← List.map_id l]
        refine List.map_congr_left fun d hd => ?_
        have := hl d hd
        show (UInt8.ofNat d).toNat = d
        rw [UInt8.toNat_ofNat']
        omega
      rwa [key a ha, key b hb] at e2)
    simp [h, this]

theorem bequal_any (w : World) (A A' : Option Addr) (n n' c c' : Nat) (a b : List Nat) (h : Reads w A n (bts a)) (h' : Reads w A' n' (bts b)) (ha : ∀ d ∈ a, d < 256) (hb : ∀ d ∈ b, d < 256) :
    Calls Tryd.prog 32 #[.slice A n c, .slice A' n' c'] w fun e w' => e = .returned (.bool (decide (a = b))) ∧ w = w' := by
  have r1 := run_bstr w A n c a h
  have r2 := run_bstr w A' n' c' b h'
  have e1 := bstr_beq ha hb
  clear h h' ha hb
  generalize bstr a = sa at *
  generalize bstr b = sb at *
  generalize decide (a = b) = r at *
  go_enter Tryd.func32, Tryd.ntmps32
  go_wp2
  go_ret
  exact ⟨rfl, rfl⟩
end Go.Proofs.YtjbfgajognnmiaaDoor

/- decode and Decode (layer 5). -/
namespace Go.Proofs.YtjbfgajognnmiaaDoor
open Go.RowKit

/-- What decode answers. -/
def DecIs (w : World) (n L : Nat) (cs b : List Nat) (e : Ending) (w' : World) : Prop :=
  Below w.heap.size w w' ∧
  ((∃ out A c, e = .returned (.tuple #[.slice A L c, .bool true]) ∧ out.length = L ∧ (∀ s ∈ out, s < n) ∧ Reads w' A L (nts out) ∧ ∀ ss : List Nat, ss.length = L → (∀ s ∈ ss, s < n) → BytesOf n cs ss b → ss = out)
  ∨ (e = .returned (.tuple #[.slice none 0 0, .bool false]) ∧ ∀ ss : List Nat, ss.length = L → (∀ s ∈ ss, s < n) → ¬ BytesOf n cs ss b))

set_option maxHeartbeats 4000000 in
set_option maxRecDepth 100000 in
theorem decode_none (w : World) (A : Option Addr) (c n N L : Nat) (v : Value) (cs : List Nat) :
    Calls Tryd.prog 31 #[.slice A 0 c, .int .i64 (n : Int), .int .i64 (N : Int), v] w (DecIs w n L cs []) := by
  go_enter Tryd.func31, Tryd.ntmps31
  go_wp2
  go_ret2
  exact ⟨Below.refl _ _, .inr ⟨rfl, fun ss _ _ h => by have := h.pos; simp at this⟩⟩

set_option maxHeartbeats 4000000 in
set_option maxRecDepth 100000 in
theorem decode_long (w : World) (A A' : Option Addr) (nb c c' n N L : Nat) (cs b : List Nat) (hb : b.length = nb) (h1 : 0 < nb) (hn : n ≤ 256) (hL : L ≤ 65536) (hlong : plainLen n L < nb) :
    Calls Tryd.prog 31 #[.slice A nb c, .int .i64 (n : Int), .int .i64 (N : Int), .slice A' L c'] w (DecIs w n L cs b) := by
  have KS := Lib.hid (plainSize_any w n L hn (by omega))
  have HX := Lib.hid (show ∀ ss : List Nat, ss.length = L → ¬ BytesOf n cs ss b from fun ss h1 h2 => by have := h2.le; rw [h1] at this; omega)
  generalize plainLen n L = pl at *
  have t0 : ((nb : Int) == 0) = false := by simp; omega
  have t1 : (pl : Int) < nb := by omega
  clear hb
  go_enter Tryd.func31, Tryd.ntmps31
  go_wp2_with fail
  refine KS.out.mono ?_
  rintro e w1 ⟨rfl, rfl⟩
  go_wp2
  go_ret2
  exact ⟨Below.refl _ _, .inr ⟨rfl, fun ss h1 _ h => HX.out ss h1 h⟩⟩

theorem Reads.tail {w : World} {ad : Addr} {n : Nat} {x : Value} {xs : List Value} (h : Reads w (some ad) (n + 1) (x :: xs)) : Reads w (some (ad.add 1)) n xs ∧ w.cell? (ad.add 0) = some x := by
  obtain ⟨ad', he, hc⟩ := h.2 (by omega)
  injection he with he
  subst he
  refine ⟨⟨by have := h.1; simpa using this, fun _ => ⟨_, rfl, fun j u hj => ?_⟩⟩, hc 0 x rfl⟩
  have := hc (j + 1) u (by simpa using hj)
  rwa [show ad.add (j + 1) = (ad.add 1).add j by rw [Addr.add_add, Nat.add_comm]] at this

set_option maxHeartbeats 4000000 in
set_option maxRecDepth 100000 in
theorem decode_some (w : World) (ad : Addr) (A' : Option Addr) (nb c c' n N L d : Nat) (b cs : List Nat) (h : Reads w (some ad) (nb + 1) (bts (d :: b))) (hd : Dig (d :: b)) (hc : nb + 1 ≤ c) (h' : Reads w A' L (nts cs)) (h0 : 0 < n) (hn : n ≤ 256) (hN : N ≤ 64) (hL : L ≤ 65536) (hcs : ∀ c ∈ cs, c < N) (hsh : nb + 1 ≤ plainLen n L) :
    Calls Tryd.prog 31 #[.slice (some ad) (nb + 1) c, .int .i64 (n : Int), .int .i64 (N : Int), .slice A' L c'] w (DecIs w n L cs (d :: b)) := by
  have KS := Lib.hid (plainSize_any w n L hn (by omega))
  have hpl : plainLen n L ≤ 1000000 := by
    have hW := wide_le (n : Int) (by omega)
    have : L * wide (n : Int) ≤ 65536 * 63 := Nat.mul_le_mul hL hW
    unfold plainLen
    omega
  obtain ⟨ht, hx⟩ := Reads.tail (x := .int .u8 (d : Int)) (xs := bts b) h
  have hsp := add_none hx
  have hsp2 := World.cell?_spot hx
  rw [hsp] at hx hsp2
  obtain ⟨g, o, spot⟩ := ad
  have hsp3 : spot = none := hsp2
  subst hsp3
  have t0 : ((nb : Int) + 1 == 0) = false := by simp; omega
  have t1 : ¬ (plainLen n L : Int) < (nb : Int) + 1 := by omega
  have HDB := Lib.hid (show Dig b from fun x hx => hd x (.tail _ hx))
  have HR' := Lib.hid h'
  have HC := Lib.hid hcs
  have hnbp : nb ≤ 1000000 := by omega
  by_cases hc1 : c = 1
  · subst hc1
    have hnb : nb = 0 := by omega
    subst hnb
    have HT := Lib.hid (show Reads w (some ⟨g, o, none⟩) 0 (bts b) from ⟨ht.1, fun h => absurd h (by omega)⟩)
    clear h hd h' hcs ht hsp hsp2 hpl
    have KP := Lib.hid (readPlain_any w (some ⟨g, o, none⟩) 0 0 n L b HT.out HDB.out h0 hn hL)
    have KC := Lib.hid (readCoded_any w (some ⟨g, o, none⟩) A' 0 0 c' n N L b cs HT.out HDB.out (by omega) HR'.out h0 hn hN hL HC.out)
    generalize plainLen n L = pl at *
    clear hsh
    by_cases hd0 : d = 0
    · subst hd0
      go_enter Tryd.func31, Tryd.ntmps31
      go_wp2_with fail
      refine KS.out.mono ?_
      rintro e w1 ⟨rfl, rfl⟩
      go_wp2_with fail
      refine KP.out.mono ?_
      rintro e w1 ⟨b1, ⟨out, A1, c1, rfl, o1, o2, o3, o4⟩ | ⟨rfl, o1⟩⟩
      · have B1 := Lib.hid b1
        have O := Lib.hid (show out.length = L ∧ (∀ s ∈ out, s < n) ∧ Reads w1 A1 L (nts out) ∧ ∀ ss : List Nat, ss.length = L → (∀ s ∈ ss, s < n) → b = pack (pbits n ss) → ss = out from ⟨o1, o2, o3, o4⟩)
        clear b1 o1 o2 o3 o4
        go_wp2
        go_ret2
        exact ⟨B1.out, .inl ⟨out, A1, c1, rfl, O.out.1, O.out.2.1, O.out.2.2.1, fun ss h1 h2 h3 => O.out.2.2.2 ss h1 h2 h3.plain⟩⟩
      · have B1 := Lib.hid b1
        have O := Lib.hid o1
        clear b1 o1
        go_wp2
        go_ret2
        exact ⟨B1.out, .inr ⟨rfl, fun ss h1 h2 h3 => O.out ss h1 h2 h3.plain⟩⟩
    · by_cases hd1 : d = 1
      · subst hd1
        go_enter Tryd.func31, Tryd.ntmps31
        go_wp2_with fail
        refine KS.out.mono ?_
        rintro e w1 ⟨rfl, rfl⟩
        go_wp2_with fail
        refine KC.out.mono ?_
        rintro e w1 ⟨b1, out, A1, c1, rfl, o1, o2, o3, o4⟩
        have B1 := Lib.hid b1
        have O := Lib.hid (show out.length = L ∧ (∀ s ∈ out, s < n) ∧ Reads w1 A1 L (nts out) ∧ ∀ ss : List Nat, ss.length = L → (∀ s ∈ ss, s < n) → IsCode (rowIv n (cs.zip ss)) b → ss = out from ⟨o1, o2, o3, o4⟩)
        clear b1 o1 o2 o3 o4
        go_wp2
        go_ret2
        exact ⟨B1.out, .inl ⟨out, A1, c1, rfl, O.out.1, O.out.2.1, O.out.2.2.1, fun ss h1 h2 h3 => O.out.2.2.2 ss h1 h2 h3.coded⟩⟩
      · have t3 : ((d : Int) == 0) = false := by simp; omega
        have t4 : ((d : Int) == 1) = false := by simp; omega
        have HO := Lib.hid (show ¬ (d = 0 ∨ d = 1) by omega)
        clear hd0 hd1
        go_enter Tryd.func31, Tryd.ntmps31
        go_wp2_with fail
        refine KS.out.mono ?_
        rintro e w1 ⟨rfl, rfl⟩
        go_wp2_with fail
        go_ret2
        exact ⟨Below.refl _ _, .inr ⟨rfl, fun ss h1 h2 h3 => HO.out h3.other⟩⟩
  · have HT := Lib.hid (show Reads w (some ⟨g, o + 1, none⟩) nb (bts b) from ht)
    clear h hd h' hcs ht hsp hsp2 hpl
    have KP := Lib.hid (readPlain_any w (some ⟨g, o + 1, none⟩) nb (c - 1) n L b HT.out HDB.out h0 hn hL)
    have KC := Lib.hid (readCoded_any w (some ⟨g, o + 1, none⟩) A' nb (c - 1) c' n N L b cs HT.out HDB.out (by omega) HR'.out h0 hn hN hL HC.out)
    generalize plainLen n L = pl at *
    clear hsh
    by_cases hd0 : d = 0
    · subst hd0
      go_enter Tryd.func31, Tryd.ntmps31
      go_wp2_with fail
      refine KS.out.mono ?_
      rintro e w1 ⟨rfl, rfl⟩
      go_wp2_with fail
      refine KP.out.mono ?_
      rintro e w1 ⟨b1, ⟨out, A1, c1, rfl, o1, o2, o3, o4⟩ | ⟨rfl, o1⟩⟩
      · have B1 := Lib.hid b1
        have O := Lib.hid (show out.length = L ∧ (∀ s ∈ out, s < n) ∧ Reads w1 A1 L (nts out) ∧ ∀ ss : List Nat, ss.length = L → (∀ s ∈ ss, s < n) → b = pack (pbits n ss) → ss = out from ⟨o1, o2, o3, o4⟩)
        clear b1 o1 o2 o3 o4
        go_wp2
        go_ret2
        exact ⟨B1.out, .inl ⟨out, A1, c1, rfl, O.out.1, O.out.2.1, O.out.2.2.1, fun ss h1 h2 h3 => O.out.2.2.2 ss h1 h2 h3.plain⟩⟩
      · have B1 := Lib.hid b1
        have O := Lib.hid o1
        clear b1 o1
        go_wp2
        go_ret2
        exact ⟨B1.out, .inr ⟨rfl, fun ss h1 h2 h3 => O.out ss h1 h2 h3.plain⟩⟩
    · by_cases hd1 : d = 1
      · subst hd1
        go_enter Tryd.func31, Tryd.ntmps31
        go_wp2_with fail
        refine KS.out.mono ?_
        rintro e w1 ⟨rfl, rfl⟩
        go_wp2_with fail
        refine KC.out.mono ?_
        rintro e w1 ⟨b1, out, A1, c1, rfl, o1, o2, o3, o4⟩
        have B1 := Lib.hid b1
        have O := Lib.hid (show out.length = L ∧ (∀ s ∈ out, s < n) ∧ Reads w1 A1 L (nts out) ∧ ∀ ss : List Nat, ss.length = L → (∀ s ∈ ss, s < n) → IsCode (rowIv n (cs.zip ss)) b → ss = out from ⟨o1, o2, o3, o4⟩)
        clear b1 o1 o2 o3 o4
        go_wp2
        go_ret2
        exact ⟨B1.out, .inl ⟨out, A1, c1, rfl, O.out.1, O.out.2.1, O.out.2.2.1, fun ss h1 h2 h3 => O.out.2.2.2 ss h1 h2 h3.coded⟩⟩
      · have t3 : ((d : Int) == 0) = false := by simp; omega
        have t4 : ((d : Int) == 1) = false := by simp; omega
        have HO := Lib.hid (show ¬ (d = 0 ∨ d = 1) by omega)
        clear hd0 hd1
        go_enter Tryd.func31, Tryd.ntmps31
        go_wp2_with fail
        refine KS.out.mono ?_
        rintro e w1 ⟨rfl, rfl⟩
        go_wp2_with fail
        go_ret2
        exact ⟨Below.refl _ _, .inr ⟨rfl, fun ss h1 h2 h3 => HO.out h3.other⟩⟩

theorem decode5_any (w : World) (A A' : Option Addr) (nb c c' n N L : Nat) (b cs : List Nat) (h : Reads w A nb (bts b)) (hd : Dig b) (hc : nb ≤ c) (h' : Reads w A' L (nts cs)) (h0 : 0 < n) (hn : n ≤ 256) (hN : N ≤ 64) (hL : L ≤ 65536) (hcs : ∀ c ∈ cs, c < N) :
    Calls Tryd.prog 31 #[.slice A nb c, .int .i64 (n : Int), .int .i64 (N : Int), .slice A' L c'] w (DecIs w n L cs b) := by
  have hl : b.length = nb := by have := h.1; rwa [length_bts] at this
  cases b with
  | nil =>
    obtain rfl : nb = 0 := hl.symm
    exact decode_none w A c n N L _ cs
  | cons d b =>
    obtain ⟨m, rfl⟩ : ∃ m, nb = m + 1 := ⟨b.length, hl.symm⟩
    by_cases hlong : plainLen n L < m + 1
    · exact decode_long w A A' (m + 1) c c' n N L cs (d :: b) hl (by omega) hn hL hlong
    · obtain ⟨ad, rfl, _⟩ := h.2 (by omega)
      exact decode_some w ad A' m c c' n N L d b cs h hd hc h' h0 hn hN hL hcs (by omega)

/-- What Decode answers where the contexts may be. -/
def Decoded5 (w : World) (n L : Nat) (cs b : List Nat) (e : Ending) (w' : World) : Prop :=
  Below w.heap.size w w' ∧
  ((∃ ss A c, e = .returned (.tuple #[.slice A L c, .int .i64 0]) ∧ ss.length = L ∧ (∀ s ∈ ss, s < n) ∧ Reads w' A L (nts ss) ∧ BytesOf n cs ss b)
  ∨ (e = .returned (.tuple #[.slice none 0 0, .int .i64 3]) ∧ ∀ ss : List Nat, ss.length = L → (∀ s ∈ ss, s < n) → ¬ BytesOf n cs ss b))

set_option maxHeartbeats 2000000 in
set_option maxRecDepth 100000 in
theorem mdec_ok (w : World) (A A' : Option Addr) (nb c c' n N L : Nat) (b cs : List Nat) (h : Reads w A nb (bts b)) (hd : Dig b) (hc : nb ≤ c) (h' : Reads w A' L (nts cs)) (h0 : 0 < n) (hn : n ≤ 256) (hN0 : 0 < N) (hN : N ≤ 64) (hL : L ≤ 65536) (hcs : ∀ c ∈ cs, c < N) :
    Calls Tryd.prog 16 #[.slice A nb c, .int .i64 (n : Int), .int .i64 (N : Int), .slice A' L c'] w (Decoded5 w n L cs b) := by
  have e1 : ∀ l : List Nat, nts l = ints (l.map Int.ofNat) := fun l => by simp [nts, ints]
  have e2 : below (N : Int) (cs.map Int.ofNat) = true := by
    refine List.all_eq_true.2 fun x hx => ?_
    obtain ⟨s, hs, rfl⟩ := List.mem_map.1 hx
    have := hcs s hs
    simp [okAt]
    omega
  have K1 := hasSym_any w (n : Int)
  have K2 := hasCtx_any w (N : Int)
  rw [show decide (1 ≤ (n : Int) ∧ (n : Int) ≤ 256) = true by simp; omega] at K1
  rw [show decide (1 ≤ (N : Int) ∧ (N : Int) ≤ 64) = true by simp; omega] at K2
  have K4 := allBelow_any w A' L c' (cs.map Int.ofNat) (N : Int) (by rw [← e1]; exact h') (by omega)
  rw [e2] at K4
  have H1 := Lib.hid K1
  have H2 := Lib.hid K2
  have H4 := Lib.hid K4
  have K5 := Lib.hid (fun w' (bb : Below w.heap.size w w') => decode5_any w' A A' nb c c' n N L b cs (h.below bb) hd hc (h'.below bb) h0 hn hN hL hcs)
  have K6 := Lib.hid (fun w' (bb : Below w.heap.size w w') A1 c1 ss (r1 : Reads w' A1 L (nts ss)) (hs : ∀ s ∈ ss, s < n) => encode5_any w' A1 A' L c1 c' n N ss cs r1 (h'.below bb) hL h0 hn hN hs hcs)
  have HD := Lib.hid hd
  have HR := Lib.hid h
  clear h h' hd hcs K1 K2 K4 e1 e2
  have t1 : ¬ (65536 : Int) < L := by omega
  go_enter Tryd.func16, Tryd.ntmps16
  go_wp2_with fail
  refine H1.out.mono ?_
  rintro e w1 ⟨rfl, rfl⟩
  go_wp2_with fail
  refine H2.out.mono ?_
  rintro e w1 ⟨rfl, rfl⟩
  go_wp2_with fail
  refine H4.out.mono ?_
  rintro e w1 ⟨rfl, b1⟩
  have B1 := Lib.hid b1
  clear b1
  go_wp2_with fail
  refine (K5.out w1 B1.out).mono ?_
  rintro e w2 ⟨b2, ⟨out, A2, c2, rfl, o1, o2, o3, o4⟩ | ⟨rfl, o1⟩⟩
  · have B2 := Lib.hid (B1.out.trans (b2.mono B1.out.size))
    have O := Lib.hid (show out.length = L ∧ (∀ s ∈ out, s < n) ∧ Reads w2 A2 L (nts out) ∧ ∀ ss : List Nat, ss.length = L → (∀ s ∈ ss, s < n) → BytesOf n cs ss b → ss = out from ⟨o1, o2, o3, o4⟩)
    clear b2 o1 o2 o3 o4
    go_wp2_with fail
    refine (K6.out w2 B2.out A2 c2 out O.out.2.2.1 O.out.2.1).mono ?_
    rintro e w3 ⟨bb, hbb, v, rfl, ow, b3⟩
    obtain ⟨A3, c3, rfl, _, r3⟩ := Reads.of_own ow
    have B3 := Lib.hid (B2.out.trans (b3.mono B2.out.size))
    have HB := Lib.hid hbb
    have R3 := Lib.hid (O.out.2.2.1.below b3)
    have K7 := bequal_any w3 A3 A bb.length nb c3 c bb b r3 (HR.out.below B3.out) hbb.dig HD.out
    clear ow b3 r3 hbb
    by_cases he : bb = b
    · rw [decide_eq_true he] at K7
      have H7 := Lib.hid K7
      have HE := Lib.hid he
      clear K7 he
      go_wp2_with fail
      refine H7.out.mono ?_
      rintro e w4 ⟨rfl, rfl⟩
      go_wp2
      go_ret2
      exact ⟨B3.out, .inl ⟨out, A2, c2, rfl, O.out.1, O.out.2.1, R3.out, by rw [← HE.out]; exact HB.out⟩⟩
    · rw [decide_eq_false he] at K7
      have H7 := Lib.hid K7
      have HE := Lib.hid he
      clear K7 he
      go_wp2_with fail
      refine H7.out.mono ?_
      rintro e w4 ⟨rfl, rfl⟩
      go_wp2
      go_ret2
      refine ⟨B3.out, .inr ⟨rfl, fun ss h1 h2 h3 => HE.out ?_⟩⟩
      have := O.out.2.2.2 ss h1 h2 h3
      subst this
      exact HB.out.one h3
  · have B2 := Lib.hid (B1.out.trans (b2.mono B1.out.size))
    have O := Lib.hid o1
    clear b2 o1
    go_wp2
    go_ret2
    exact ⟨B2.out, .inr ⟨rfl, O.out⟩⟩

set_option maxHeartbeats 2000000 in
set_option maxRecDepth 100000 in
theorem mdec_range (w : World) (sy cx : Int) (u v : Value) (h : ¬ (1 ≤ sy ∧ sy ≤ 256) ∨ ¬ (1 ≤ cx ∧ cx ≤ 64)) :
    Calls Tryd.prog 16 #[u, .int .i64 sy, .int .i64 cx, v] w (Refused w 2) := by
  have K1 := hasSym_any w sy
  have K2 := hasCtx_any w cx
  by_cases h1 : 1 ≤ sy ∧ sy ≤ 256
  · have h2 : ¬ (1 ≤ cx ∧ cx ≤ 64) := by omega
    rw [decide_eq_true h1] at K1
    rw [decide_eq_false h2] at K2
    have H1 := Lib.hid K1
    have H2 := Lib.hid K2
    clear h h1 h2 K1 K2
    go_enter Tryd.func16, Tryd.ntmps16
    go_wp2_with fail
    refine H1.out.mono ?_
    rintro e w1 ⟨rfl, rfl⟩
    go_wp2_with fail
    refine H2.out.mono ?_
    rintro e w1 ⟨rfl, rfl⟩
    go_wp2
    go_ret2
    exact ⟨rfl, Below.refl _ _⟩
  · rw [decide_eq_false h1] at K1
    have H1 := Lib.hid K1
    clear h h1 K1 K2
    go_enter Tryd.func16, Tryd.ntmps16
    go_wp2_with fail
    refine H1.out.mono ?_
    rintro e w1 ⟨rfl, rfl⟩
    go_wp2
    go_ret2
    exact ⟨rfl, Below.refl _ _⟩

set_option maxHeartbeats 2000000 in
set_option maxRecDepth 100000 in
theorem mdec_full (w : World) (A' : Option Addr) (L c' : Nat) (sy cx : Int) (u : Value) (h1 : 1 ≤ sy ∧ sy ≤ 256) (h2 : 1 ≤ cx ∧ cx ≤ 64) (hL : 65536 < L) :
    Calls Tryd.prog 16 #[u, .int .i64 sy, .int .i64 cx, .slice A' L c'] w (Refused w 7) := by
  have K1 := hasSym_any w sy
  have K2 := hasCtx_any w cx
  rw [decide_eq_true h1] at K1
  rw [decide_eq_true h2] at K2
  have H1 := Lib.hid K1
  have H2 := Lib.hid K2
  have t1 : (65536 : Int) < L := by omega
  clear h1 h2 K1 K2
  go_enter Tryd.func16, Tryd.ntmps16
  go_wp2_with fail
  refine H1.out.mono ?_
  rintro e w1 ⟨rfl, rfl⟩
  go_wp2_with fail
  refine H2.out.mono ?_
  rintro e w1 ⟨rfl, rfl⟩
  go_wp2
  go_ret2
  exact ⟨rfl, Below.refl _ _⟩

set_option maxHeartbeats 2000000 in
set_option maxRecDepth 100000 in
theorem mdec_ctx (w : World) (A' : Option Addr) (L c' : Nat) (sy cx : Int) (u : Value) (l : List Int) (h : Reads w A' L (ints l)) (h1 : 1 ≤ sy ∧ sy ≤ 256) (h2 : 1 ≤ cx ∧ cx ≤ 64) (hL : L ≤ 65536) (hno : below cx l = false) :
    Calls Tryd.prog 16 #[u, .int .i64 sy, .int .i64 cx, .slice A' L c'] w (Refused w 2) := by
  have K1 := hasSym_any w sy
  have K2 := hasCtx_any w cx
  rw [decide_eq_true h1] at K1
  rw [decide_eq_true h2] at K2
  have K3 := allBelow_any w A' L c' l cx h (by omega)
  rw [hno] at K3
  have H1 := Lib.hid K1
  have H2 := Lib.hid K2
  have H3 := Lib.hid K3
  have t1 : ¬ (65536 : Int) < L := by omega
  clear h h1 h2 K1 K2 K3 hno
  go_enter Tryd.func16, Tryd.ntmps16
  go_wp2_with fail
  refine H1.out.mono ?_
  rintro e w1 ⟨rfl, rfl⟩
  go_wp2_with fail
  refine H2.out.mono ?_
  rintro e w1 ⟨rfl, rfl⟩
  go_wp2_with fail
  refine H3.out.mono ?_
  rintro e w1 ⟨rfl, b1⟩
  have B1 := Lib.hid b1
  clear b1
  go_wp2
  go_ret2
  exact ⟨rfl, B1.out⟩

/-- Decode of any bytes. -/
def DecAny (w : World) (sy cx : Int) (b : List Nat) (l : List Int) (e : Ending) (w' : World) : Prop :=
  if ¬ (1 ≤ sy ∧ sy ≤ 256) ∨ ¬ (1 ≤ cx ∧ cx ≤ 64) then Refused w 2 e w' else if 65536 < l.length then Refused w 7 e w' else if below cx l then Decoded5 w sy.toNat l.length (nats l) b e w' else Refused w 2 e w'
theorem mdec_any (w : World) (A A' : Option Addr) (nb c L c' : Nat) (sy cx : Int) (b : List Nat) (l : List Int) (h : Reads w A nb (bts b)) (hd : Dig b) (hc : nb ≤ c) (h' : Reads w A' L (ints l)) :
    Calls Tryd.prog 16 #[.slice A nb c, .int .i64 sy, .int .i64 cx, .slice A' L c'] w (DecAny w sy cx b l) := by
  have hl := h'.len
  unfold DecAny
  by_cases hr : ¬ (1 ≤ sy ∧ sy ≤ 256) ∨ ¬ (1 ≤ cx ∧ cx ≤ 64)
  · refine (mdec_range w sy cx _ _ hr).mono ?_
    intro e w' hh
    rwa [if_pos hr]
  · by_cases hf : 65536 < l.length
    · refine (mdec_full w A' L c' sy cx _ (by omega) (by omega) (by omega)).mono ?_
      intro e w' hh
      rwa [if_neg hr, if_pos hf]
    · by_cases hb : below cx l = true
      · obtain ⟨n, rfl⟩ : ∃ n : Nat, sy = n := ⟨sy.toNat, by omega⟩
        obtain ⟨N, rfl⟩ : ∃ N : Nat, cx = N := ⟨cx.toNat, by omega⟩
        obtain ⟨e1, e2⟩ := below_nats hb
        rw [e1] at h'
        refine (mdec_ok w A A' nb c c' n N L b (nats l) h hd hc h' (by omega) (by omega) (by omega) (by omega) (by omega) e2).mono ?_
        intro e w' hh
        rw [if_neg hr, if_neg hf, if_pos hb, hl]
        exact hh
      · refine (mdec_ctx w A' L c' sy cx _ l h' (by omega) (by omega) (by omega) (by simpa using hb)).mono ?_
        intro e w' hh
        rwa [if_neg hr, if_neg hf, if_neg hb]
end Go.Proofs.YtjbfgajognnmiaaDoor
