/- CoderBack: of any steps (at most 60, of at most 20 counts): what was encoded is decoded, symbol by symbol, by the same tables; then all is done; with a byte 0 more it is not, and one byte less decodes to something else. Its listed tables of the library are not read. No condition. -/
import Derived.Test.YtbkjfblmdilchaaDoorCSide
import Derived.Test.YtbkjfblmdilchaaDoorCArgs
import Derived.Test.YtbkjfblmdilchaaDoorCards
import Derived.Test.YtbkjfblmdilchaaDoorTie
import Derived.LaidMore
import Derived.Lay
import Derived.SevenTiedAt
import Derived.Stop.Joined
namespace Go.Proofs.YtbkjfblmdilchaaDoor.coderBack
open Go.ChangeShapes Go.WideShapes Go.ChangeAt Go.RowKit

def xk (l : List (List Int × Int)) (k : Nat) : Iv := runIv firstIv (nats (l.take k))
theorem nats_take (l : List (List Int × Int)) (k : Nat) : nats (l.take k) = (nats l).take k := by simp [nats, List.map_take]
theorem xk_all (l : List (List Int × Int)) (k : Nat) (h : l.length ≤ k) : xk l k = runIv firstIv (nats l) := by unfold xk; rw [List.take_of_length_le h]
/-- On the way to an interval in which the bytes lie, each symbol is the one that came. -/
theorem way {l : List (List Int × Int)} (hr : AllRight l) {b : List Nat} (hb : Dig b) (hi : Inside (runIv firstIv (nats l)) b) (k : Nat) (c : List Int) (sn : Nat) (hp : l[k]? = some (c, (sn : Int))) (s : Nat) (hs : s < c.length) (h : Inside (come (xk l k) c s) b) : s = sn := by
  have h1 : (nats l)[k]? = some (c, sn) := by simp [nats, hp]
  refine way_one hb (nats l) hr.right hi k (c, sn) h1 s hs ?_
  rw [← nats_take]
  exact h
/-- A nought more does not move the number. -/
theorem scale_zero_more (b : List Nat) (n : Nat) : scale (b ++ [0]) n = scale b n := by
  induction n with
  | zero => rw [scale_zero, scale_zero]
  | succ n ih =>
    rw [scale_succ, scale_succ, ih]
    congr 1
    rcases Nat.lt_trichotomy n b.length with h | h | h
    · simp [List.getElem?_append_left h]
    · subst h
      simp
    · simp [List.getElem?_eq_none (by omega : b.length ≤ n), List.getElem?_eq_none (by simp; omega : (b ++ [0]).length ≤ n)]
theorem inside_more {x : Iv} {b : List Nat} : Inside x (b ++ [0]) ↔ Inside x b := by unfold Inside; rw [scale_zero_more]
/-- One nought more is not the code. -/
theorem not_code_more {x : Iv} {b : List Nat} (h : IsCode x b) : ¬ IsCode x (b ++ [0]) := by
  intro h2
  have := isCode_one h h2
  have h3 := congrArg List.length this
  simp at h3
theorem append_dig {b : List Nat} (hb : Dig b) (d : Nat) (hd : d < 256) : Dig (b ++ [d]) := dig_append hb (fun x hx => by simp at hx; omega)

/-- A decoder on the way. -/
structure De (w : World) (l : List (List Int × Int)) (b : List Nat) (g : Nat) (pk : Value) (k : Nat) (wr : World) : Prop where
  dec : DIs wr w.heap.size g pk (xk l k) b
  bel : Below w.heap.size w wr
def BackAt (w : World) (l : List (List Int × Int)) (b bm : List Nat) (m n : Nat) (B : Nat) (U : Value) (g g2 : Nat) (pk pk2 : Value) (i : Value) (wr : World) : Prop :=
  ∃ k : Nat, k ≤ n ∧ i = .int .i64 (k : Int) ∧ De w l b g pk k wr ∧ (m = 0 → De w l bm g2 pk2 k wr) ∧ wr.ownsRow B 5 1 U b.length (bts b)
def LessAt (w : World) (l : List (List Int × Int)) (b : List Nat) (n g : Nat) (pk : Value) (i : Value) (wr : World) : Prop :=
  ∃ k : Nat, k ≤ n ∧ i = .int .i64 (k : Int) ∧ De w l b g pk k wr

theorem De.next {w wr w' : World} {l : List (List Int × Int)} {b : List Nat} {g : Nat} {pk : Value} {k : Nat} {c : List Int} {sn : Nat} (h : De w l b g pk k wr) (hp : l[k]? = some (c, (sn : Int))) (hd : DIs w' w.heap.size g pk (come (xk l k) c sn) b) (hc : Below w.heap.size wr w') : De w l b g pk (k + 1) w' := by
  refine ⟨?_, h.bel.trans hc⟩
  have := run_succ hp
  rw [show ((sn : Int)).toNat = sn by omega] at this
  unfold xk
  rw [this]
  exact hd
theorem De.other {w wr w' : World} {l : List (List Int × Int)} {b b2 : List Nat} {g g2 : Nat} {pk pk2 : Value} {k : Nat} {x : Iv} (h : De w l b g pk k wr) (h2 : DIs wr w.heap.size g2 pk2 x b2) (hne : g ≠ g2) (hc : Chg (· = g2) wr w') : De w l b g pk k w' :=
  ⟨h.dec.keep hc hne (fun q hq e => by
    have h3 : wr.heap[g2]? = _ := h2.cell
    exact own_ne h.dec.row h3 (by decide) (by rw [hq, e])), h.bel.trans (hc.below h.bel.size (fun p hp => by rw [hp]; exact h2.low))⟩
theorem De.below {w wr w' : World} {l : List (List Int × Int)} {b : List Nat} {g : Nat} {pk : Value} {k : Nat} (h : De w l b g pk k wr) (hb : Below wr.heap.size wr w') : De w l b g pk k w' := ⟨h.dec.below hb, h.bel.trans (hb.mono h.bel.size)⟩
theorem xk_good {l : List (List Int × Int)} (h : AllRight l) (k : Nat) : (xk l k).Good := (h.take k).good
theorem xk_k (l : List (List Int × Int)) (k n : Nat) (hl : l.length = n) (hn : n ≤ 60) : (xk l k).k ≤ 180 := by
  have := run_first_k (l.take k) 60 (by have := List.length_take_le' k l; omega)
  exact this

set_option maxHeartbeats 9600000 in
set_option maxRecDepth 100000 in
theorem walk0 (A : Option Addr) (n c : Nat) (l : List (List Int × Int)) (w : World) (h : Steps w A n l) :
    Calls Tryd.prog 5 #[.slice A n c, .int .u8 0] w fun e w' => e = .returned (.bool true) ∧ Below w.heap.size w w' := by
  obtain ⟨i0, hi, hz0, hz1, hz2⟩ := info_parts Tryd.infoU8
  have HI := Lib.hid hi
  have HZ := Lib.hid (And.intro hz0 (And.intro hz1 hz2))
  have HS := Lib.hid h
  clear h hi hz0 hz1 hz2
  go_enter Tryd.func5, Tryd.ntmps5
  go_wp2_with fail
  refine (awake_true w).mono ?_
  rintro e w1 ⟨rfl, b1⟩
  have B1 := Lib.hid b1
  clear b1
  go_wp2_with fail
  refine (great_any w1 A n c l (HS.out.below B1.out)).mono ?_
  rintro e w2 ⟨r, rfl, h2, b2⟩
  have B2 := Lib.hid (B1.out.trans (b2.mono B1.out.size))
  cases r with
  | true =>
    clear h2 b2
    go_wp2
    go_ret
    exact ⟨rfl, B2.out⟩
  | false =>
    obtain ⟨hn, hall⟩ := h2 rfl
    have HA := Lib.hid hall
    clear h2 b2 hall
    go_wp2_with fail
    refine (code_ok w2 A n c l (HS.out.below B2.out) HA.out hn).mono ?_
    rintro e w3 ⟨b, u, rfl, ic, ow, b3⟩
    have hlen := isCode_len (xk_good HA.out n) (by rw [xk_all l n (by rw [HS.out.1]; exact Nat.le_refl _)]; exact ic)
    have hxk := xk_k l n n HS.out.1 hn
    have hl2 : b.length ≤ 181 := by omega
    have B3 := Lib.hid (B2.out.trans (b3.mono B2.out.size))
    have O3 := Lib.hid ow
    obtain ⟨A3, c3, hu, hA3, r3⟩ := Reads.of_own ow
    subst hu
    have IC := Lib.hid (⟨ic, isCode_dig ic, isCode_inside HA.out.good ic⟩ : IsCode (runIv firstIv (nats l)) b ∧ Dig b ∧ Inside (runIv firstIv (nats l)) b)
    have R3 := Lib.hid (⟨r3, hA3, own_info ow⟩ : Reads w3 A3 b.length (bts b) ∧ (A3 = none → c3 = 0) ∧ ((Value.slice A3 b.length c3 = .slice none 0 0 ∧ b.length = 0) ∨ ∃ q cc, Value.slice A3 b.length c3 = .slice (some ⟨q, 0, none⟩) b.length cc ∧ b.length ≤ cc))
    clear ic ow b3 hlen hxk hA3 r3
    go_wp2_with fail
    refine (newDec_any w3 w.heap.size A3 b.length c3 b R3.out.1 (by omega) IC.out.2.1 B3.out.size).mono ?_
    rintro e w4 ⟨g, pk, rfl, d4, b4, _, _⟩
    have D4 := Lib.hid (show De w l b g pk 0 w4 from ⟨d4, B3.out.trans (b4.mono B3.out.size)⟩)
    have R4 := Lib.hid (R3.out.1.below b4)
    have O4 := Lib.hid (own_keep (S := fun _ => False) O3.out (.of_below b4) (fun _ _ => id))
    clear d4 b4
    have N5 := Lib.hid (empty_bytes w4)
    have a5 := alloc_below w4 (.cells #[] 5)
    have R5 := Lib.hid (R4.out.below a5)
    have D5 := Lib.hid (D4.out.below a5)
    clear a5
    go_wp2_with (at_builtin; refine wpList_append_reads rfl (.tmp 30) (.tmp 31) 39 rfl w4.heap.size 5 i0 (.int .u8 0) 1 Tryd.underlying39 HI.out HZ.out rfl (.slice (some ⟨w4.heap.size, 0, none⟩) 0 0) 0 [] rfl N5.out A3 b.length c3 (bts b) rfl R5.out R3.out.2.1 (bts_one b) ?b1 ?b2 ?b3 ?_)
    case b1 => unfold maxLen; omega
    case b2 => omega
    case b3 => simp
    intro v6 w6 hown hgr
    have g6 := own_grown_below (alloc_below w4 (.cells #[] 5)) hgr (by simp) (fun p hp => by simp [Value.ownBlock] at hp; omega)
    have D6 := Lib.hid (D4.out.below g6)
    have R6 := Lib.hid (⟨hown, R4.out.below g6⟩ : w6.ownsRow w4.heap.size 5 1 v6 b.length (bts b) ∧ Reads w6 A3 b.length (bts b))
    have G6 := Lib.hid g6.size
    have GB6 := Lib.hid (g6.trans ((alloc_below w6 (.cells #[.int .u8 0] 5)).mono g6.size))
    have HO := Lib.hid (hown.alloc (.cells #[.int .u8 0] 5))
    clear hown hgr g6 N5 R5 D5
    go_wp2_with (at_builtin; refine wpList_append_lies _ rfl (.tmp 32) (.tmp 34) 39 rfl w4.heap.size 5 i0 (.int .u8 0) 1 1 Tryd.underlying39 HI.out HZ.out.1 HZ.out.2.1 HZ.out.2.2 rfl (by decide) v6 b.length (bts b) rfl HO.out ⟨w6.heap.size, 0, none⟩ 1 1 [.int .u8 0] rfl rfl (cell_one_new _ _ _) ?c2 (by decide) ?b4 ?b5 ?b6 (w6.heap.size + 1) ?b7 ?_)
    case c2 => intro u hu; simp at hu; subst hu; rfl
    case b4 => unfold maxLen; omega
    case b5 => omega
    case b6 => have := G6.out; simp; omega
    case b7 => simp
    intro q7 cap7 w7 hown hgr hq7 hlt7
    have g7 : Below w4.heap.size w4 w7 := own_grown_below GB6.out hgr (by have := G6.out; simp; omega) (fun p hp => (own_lt R6.out.1 p hp).1)
    have D7 := Lib.hid (D4.out.below g7)
    have O7 := Lib.hid (own_keep (S := fun _ => False) O4.out (.of_below g7) (fun _ _ => id))
    have eb : bts b ++ [.int .u8 0] = bts (b ++ [0]) := by rw [bts_append]; rfl
    rw [eb] at hown
    obtain ⟨A7, c7, hv7, _, r7⟩ := Reads.of_own hown
    injection hv7 with hA7 _ hc7
    subst hA7 hc7
    have RR := Lib.hid r7
    clear hown hgr hq7 hlt7 g7 eb r7 HO
    go_wp2_with fail
    refine (newDec_any w7 w.heap.size (some ⟨q7, 0, none⟩) (b.length + 1) cap7 (b ++ [0]) RR.out (by omega) (append_dig IC.out.2.1 0 (by decide)) D7.out.bel.size).mono ?_
    rintro e w8 ⟨g2, pk2, rfl, d8, b8, hg8, _⟩
    have D8 := Lib.hid (show De w l b g pk 0 w8 ∧ De w l (b ++ [0]) g2 pk2 0 w8 ∧ g ≠ g2 from ⟨D7.out.below b8, ⟨d8, D7.out.bel.trans (b8.mono D7.out.bel.size)⟩, fun e => by have := D7.out.dec.lt; omega⟩)
    have O8 := Lib.hid (own_keep (S := fun _ => False) O7.out (.of_below b8) (fun _ _ => id))
    clear d8 b8 hg8
    go_wp2_with fail
    go_loopw [9] (BackAt w l b (b ++ [0]) 0 n w2.heap.size (.slice A3 b.length c3) g g2 pk pk2) (fun i _ => n - (intOf i).toNat)
    case atStart => exact ⟨0, Nat.zero_le _, rfl, D8.out.1, fun _ => D8.out.2.1, O8.out⟩
    case round =>
      obtain ⟨k, hk, rfl, hd, hd2, hr⟩ := hrel
      have HO := Lib.hid hr
      by_cases hlt : k < n
      · obtain ⟨bb, off, rfl⟩ := HS.out.ad (by omega)
        obtain ⟨p, Ai, ni, ci, hp, c0, c1, hrd⟩ := HS.out.at k hlt
        have hbl : bb < w.heap.size := World.block_lt_of_cell? w _ c0
        obtain ⟨cl, s⟩ := p
        obtain ⟨⟨ok, s0, s1⟩, _⟩ := HA.out _ (List.mem_of_getElem? hp)
        obtain ⟨sn, rfl⟩ : ∃ sn : Nat, s = (sn : Int) := ⟨s.toNat, by have : 0 ≤ s := s0; omega⟩
        have H := Lib.hid (⟨hd, hd2, hp, c0, c1, hrd, ok⟩ : De w l b g pk k wr ∧ ((0 : Nat) = 0 → De w l (b ++ [0]) g2 pk2 k wr) ∧ l[k]? = some (cl, (sn : Int)) ∧ w.cell? ⟨bb, off + k * 2, none⟩ = some (.slice Ai ni ci) ∧ w.cell? ⟨bb, off + k * 2 + 1, none⟩ = some (.int .i64 (sn : Int)) ∧ Reads w Ai ni (ints cl) ∧ Ok cl)
        have d0 : wr.cell? ⟨bb, off + k * 2, none⟩ = some (.slice Ai ni ci) := (hd.bel.cell hbl).trans c0
        have t1 : (k : Int) < n := by omega
        have KM := Lib.hid (made_ok wr Ai ni ci cl (hrd.below hd.bel) ok)
        clear hd hd2 hp c0 c1 hrd ok s0 s1 hr
        go_wp2_with fail
        refine KM.out.mono ?_
        rintro e w9 ⟨gt, q, cap, rfl, t9, b9, _, _⟩
        have D9 := Lib.hid (⟨H.out.1.below b9, fun _ => (H.out.2.1 (by trivial)).below b9⟩ : De w l b g pk k w9 ∧ ((0 : Nat) = 0 → De w l (b ++ [0]) g2 pk2 k w9))
        have O9 := Lib.hid (own_keep (S := fun _ => False) HO.out (.of_below b9) (fun _ _ => id))
        have KD := Lib.hid (decode_ok w9 w.heap.size g pk (xk l k) b D9.out.1.dec (xk_good HA.out k) (by have := xk_k l k n HS.out.1 hn; omega) gt q cap cl t9 H.out.2.2.2.2.2.2)
        clear t9 b9
        go_wp2_with fail
        refine KD.out.mono ?_
        rintro e w10 ⟨s, hs, rfl, d10, c10⟩
        obtain rfl := way HA.out IC.out.2.1 IC.out.2.2 k cl sn H.out.2.2.1 s hs d10.inside
        have b10 := c10.below (B := w.heap.size) D9.out.1.bel.size (fun p hp => by rw [hp]; exact D9.out.1.dec.low)
        have D10 := Lib.hid (⟨D9.out.1.next H.out.2.2.1 d10 b10, fun _ => (D9.out.2 (by trivial)).other D9.out.1.dec (Ne.symm D8.out.2.2) c10⟩ : De w l b g pk (k + 1) w10 ∧ ((0 : Nat) = 0 → De w l (b ++ [0]) g2 pk2 k w10))
        have O10 := Lib.hid (own_keep O9.out c10 (fun p hp e => own_ne O9.out (show w9.heap[g]? = _ from D9.out.1.dec.cell) (by decide) (by rw [hp, e])))
        have e1 : w10.cell? ⟨bb, off + k * 2 + 1, none⟩ = some (.int .i64 (s : Int)) := (D10.out.1.bel.cell hbl).trans H.out.2.2.2.2.1
        have t2 : ((s : Int) != (s : Int)) = false := by simp
        have t3 : ((0 : Int) != 0) = false := by decide
        clear hs d10 c10 b10
        have e0 : w10.cell? ⟨bb, off + k * 2, none⟩ = some (.slice Ai ni ci) := (D10.out.1.bel.cell hbl).trans H.out.2.2.2.1
        have KM2 := Lib.hid (made_ok w10 Ai ni ci cl (H.out.2.2.2.2.2.1.below D10.out.1.bel) H.out.2.2.2.2.2.2)
        go_wp2_with fail
        refine KM2.out.mono ?_
        rintro e w11 ⟨gt2, q2, cap2, rfl, t11, b11, _, _⟩
        have D11 := Lib.hid (⟨D10.out.1.below b11, (D10.out.2 (by trivial)).below b11⟩ : De w l b g pk (k + 1) w11 ∧ De w l (b ++ [0]) g2 pk2 k w11)
        have O11 := Lib.hid (own_keep (S := fun _ => False) O10.out (.of_below b11) (fun _ _ => id))
        have KD2 := Lib.hid (decode_ok w11 w.heap.size g2 pk2 (xk l k) (b ++ [0]) D11.out.2.dec (xk_good HA.out k) (by have := xk_k l k n HS.out.1 hn; omega) gt2 q2 cap2 cl t11 H.out.2.2.2.2.2.2)
        clear t11 b11 e0 e1
        go_wp2_with fail
        refine KD2.out.mono ?_
        rintro e w12 ⟨s2, hs2, rfl, d12, c12⟩
        obtain rfl := way HA.out IC.out.2.1 IC.out.2.2 k cl s H.out.2.2.1 s2 hs2 (inside_more.1 d12.inside)
        have b12 := c12.below (B := w.heap.size) D11.out.2.bel.size (fun p hp => by rw [hp]; exact D11.out.2.dec.low)
        have D12 := Lib.hid (⟨D11.out.1.other D11.out.2.dec D8.out.2.2 c12, D11.out.2.next H.out.2.2.1 d12 b12⟩ : De w l b g pk (k + 1) w12 ∧ De w l (b ++ [0]) g2 pk2 (k + 1) w12)
        have O12 := Lib.hid (own_keep O11.out c12 (fun p hp e => own_ne O11.out (show w11.heap[g2]? = _ from D11.out.2.dec.cell) (by decide) (by rw [hp, e])))
        clear hs2 d12 c12 b12
        go_wp2_with fail
        exact ⟨⟨k + 1, by omega, by go_num, D12.out.1, fun _ => D12.out.2, O12.out⟩, by simp [intOf]; omega⟩
      · obtain rfl : k = n := by omega
        have t1 : ¬ (k : Int) < k := by omega
        have hX := xk_all l k (by rw [HS.out.1]; exact Nat.le_refl _)
        have HD := Lib.hid (⟨hd, hd2, hX⟩ : De w l b g pk k wr ∧ ((0 : Nat) = 0 → De w l (b ++ [0]) g2 pk2 k wr) ∧ xk l k = runIv firstIv (nats l))
        have hdone := (done_iff (xk_good HA.out k) IC.out.2.1 hd.dec.inside).2 (by rw [hX]; exact IC.out.1)
        have hkk := xk_k l k k HS.out.1 hn
        have KD := Lib.hid (done_any wr w.heap.size g pk (xk l k) b hd.dec (xk_good HA.out k) (by omega) (by omega))
        rw [hdone] at KD
        clear hd hd2 hX hdone hr
        have hd2 := HD.out.2.1 (by trivial)
        have hnot : doneOf (xk l k) (b ++ [0]) = false := by
          cases hq : doneOf (xk l k) (b ++ [0])
          · rfl
          · exact absurd ((done_iff (xk_good HA.out k) (append_dig IC.out.2.1 0 (by decide)) hd2.dec.inside).1 hq) (not_code_more (by rw [HD.out.2.2]; exact IC.out.1))
        have KD2 := Lib.hid (fun w' (b' : Reading wr w') => done_any w' w.heap.size g2 pk2 (xk l k) (b ++ [0]) (hd2.dec.read b') (xk_good HA.out k) (by omega) (by rw [List.length_append]; have : [0].length = 1 := rfl; omega))
        rw [hnot] at KD2
        clear hd2 hnot
        go_wp2_with fail
        refine KD.out.mono ?_
        rintro e w9 ⟨rfl, b9⟩
        have B9 := Lib.hid b9
        clear b9
        go_wp2_with fail
        refine (KD2.out w9 B9.out).mono ?_
        rintro e w10 ⟨rfl, b10⟩
        have B10 := Lib.hid (B9.out.trans b10)
        clear b10
        have D10 := Lib.hid (show Below w.heap.size w w10 from HD.out.1.bel.trans B10.out.below)
        have O10 := Lib.hid (own_keep (S := fun _ => False) HO.out (.of_read B10.out) (fun _ _ => id))
        by_cases hb0 : b.length = 0
        · rw [hb0]
          have t5 : (((0 : Nat) : Int) == 0) = true := by decide
          go_wp2
          go_ret
          exact ⟨rfl, D10.out⟩
        · obtain ⟨nb, hnb⟩ : ∃ nb, b.length = nb + 1 := ⟨b.length - 1, by omega⟩
          obtain ⟨q', cap', hqv, hcap⟩ : ∃ q cc, Value.slice A3 b.length c3 = .slice (some ⟨q, 0, none⟩) b.length cc ∧ b.length ≤ cc := by
            rcases R3.out.2.2 with h1 | h1
            · exact absurd h1.2 hb0
            · exact h1
          injection hqv with hq1 _ hq3
          subst hq1 hq3
          have ot := own_trim (m := nb) O10.out (by omega)
          obtain ⟨A11, c11, hv11, _, r11⟩ := Reads.of_own ot
          injection hv11 with hA11 _ hc11
          subst hA11 hc11
          have R11 := Lib.hid r11
          have hdl : b.take nb = b.dropLast := by rw [List.dropLast_eq_take, hnb, Nat.add_sub_cancel]
          have hDig : Dig (b.take nb) := dig_take IC.out.2.1 nb
          have hll : (b.take nb).length = nb := by rw [List.length_take]; omega
          have LESS := Lib.hid (show ¬ Inside (runIv firstIv (nats l)) (b.take nb) from isCode_least IC.out.1 (by omega))
          rw [hnb]
          have e5 : IntKind.i64.wrap (nb : Int) = (nb : Int) := IntWalk.i64_in _ (by omega)
          have hnb2 : nb ≤ 181 := by omega
          have t6 : nb < c3 := by omega
          have t7 : (((nb + 1 : Nat) : Int) == 0) = false := by simp; omega
          have t8 : (((nb : Int) + 1) == 0) = false := by simp; omega
          generalize hbt : b.take nb = bt at *
          clear hnb hb0 hcap ot r11 hbt hdl
          go_wp2_with fail
          refine (newDec_any w10 w.heap.size (some ⟨q', 0, none⟩) nb c3 bt R11.out (by omega) hDig D10.out.size).mono ?_
          rintro e w11 ⟨g3, pk3, rfl, d11, b11, _, _⟩
          have L11 := Lib.hid (show De w l bt g3 pk3 0 w11 from ⟨d11, D10.out.trans (b11.mono D10.out.size)⟩)
          clear d11 b11
          go_wp2_with fail
          go_loopw [14] (LessAt w l bt k g3 pk3) (fun i _ => k - (intOf i).toNat)
          case atStart => exact ⟨0, Nat.zero_le _, rfl, L11.out⟩
          case round =>
            obtain ⟨j, hj, rfl, hd⟩ := hrel
            by_cases hlt2 : j < k
            · obtain ⟨bb, off, rfl⟩ := HS.out.ad (by omega)
              obtain ⟨p, Ai, ni, ci, hp, c0, c1, hrd⟩ := HS.out.at j hlt2
              have hbl : bb < w.heap.size := World.block_lt_of_cell? w _ c0
              obtain ⟨cl, s⟩ := p
              obtain ⟨⟨ok, s0, s1⟩, _⟩ := HA.out _ (List.mem_of_getElem? hp)
              obtain ⟨sn, rfl⟩ : ∃ sn : Nat, s = (sn : Int) := ⟨s.toNat, by have : 0 ≤ s := s0; omega⟩
              have H := Lib.hid (⟨hd, hp, c1, ok⟩ : De w l bt g3 pk3 j wr ∧ l[j]? = some (cl, (sn : Int)) ∧ w.cell? ⟨bb, off + j * 2 + 1, none⟩ = some (.int .i64 (sn : Int)) ∧ Ok cl)
              have d0 : wr.cell? ⟨bb, off + j * 2, none⟩ = some (.slice Ai ni ci) := (hd.bel.cell hbl).trans c0
              have t9 : (j : Int) < k := by omega
              have KM := Lib.hid (made_ok wr Ai ni ci cl (hrd.below hd.bel) ok)
              clear hd hp c0 c1 hrd ok s0 s1
              go_wp2_with fail
              refine KM.out.mono ?_
              rintro e w12 ⟨gt, q, cap, rfl, t12, b12, _, _⟩
              have D12 := Lib.hid (H.out.1.below b12)
              have KD3 := Lib.hid (decode_ok w12 w.heap.size g3 pk3 (xk l j) bt D12.out.dec (xk_good HA.out j) (by have := xk_k l j k HS.out.1 hn; omega) gt q cap cl t12 H.out.2.2.2)
              clear t12 b12 d0
              go_wp2_with fail
              refine KD3.out.mono ?_
              rintro e w13 ⟨s, hs, rfl, d13, c13⟩
              have b13 := c13.below (B := w.heap.size) D12.out.bel.size (fun p hp => by rw [hp]; exact D12.out.dec.low)
              have B13 := Lib.hid (D12.out.bel.trans b13)
              have e13 : w13.cell? ⟨bb, off + j * 2 + 1, none⟩ = some (.int .i64 (sn : Int)) := (B13.out.cell hbl).trans H.out.2.2.1
              by_cases hss : s = sn
              · subst hss
                have D13 := Lib.hid (D12.out.next H.out.2.1 d13 b13)
                have u1 : ((s : Int) != (s : Int)) = false := by simp
                clear hs d13 c13 b13
                go_wp2_with fail
                exact ⟨⟨j + 1, by omega, by go_num, D13.out⟩, by simp [intOf]; omega⟩
              · have u1 : ((s : Int) != (sn : Int)) = true := by simp; omega
                clear hs d13 c13 b13
                go_wp2
                go_ret
                exact ⟨rfl, B13.out⟩
            · exfalso
              obtain rfl : j = k := by omega
              have h1 := hd.dec.inside
              rw [HD.out.2.2] at h1
              exact LESS.out h1

set_option maxHeartbeats 9600000 in
set_option maxRecDepth 100000 in
theorem walk1 (A : Option Addr) (n c : Nat) (l : List (List Int × Int)) (m : Nat) (w : World) (h : Steps w A n l) (hm : m < 256) (hm0 : m ≠ 0) :
    Calls Tryd.prog 5 #[.slice A n c, .int .u8 (m : Int)] w fun e w' => e = .returned (.bool true) ∧ Below w.heap.size w w' := by
  obtain ⟨i0, hi, hz0, hz1, hz2⟩ := info_parts Tryd.infoU8
  have HI := Lib.hid hi
  have HZ := Lib.hid (And.intro hz0 (And.intro hz1 hz2))
  have HS := Lib.hid h
  clear h hi hz0 hz1 hz2
  go_enter Tryd.func5, Tryd.ntmps5
  go_wp2_with fail
  refine (awake_true w).mono ?_
  rintro e w1 ⟨rfl, b1⟩
  have B1 := Lib.hid b1
  clear b1
  go_wp2_with fail
  refine (great_any w1 A n c l (HS.out.below B1.out)).mono ?_
  rintro e w2 ⟨r, rfl, h2, b2⟩
  have B2 := Lib.hid (B1.out.trans (b2.mono B1.out.size))
  cases r with
  | true =>
    clear h2 b2
    go_wp2
    go_ret
    exact ⟨rfl, B2.out⟩
  | false =>
    obtain ⟨hn, hall⟩ := h2 rfl
    have HA := Lib.hid hall
    clear h2 b2 hall
    go_wp2_with fail
    refine (code_ok w2 A n c l (HS.out.below B2.out) HA.out hn).mono ?_
    rintro e w3 ⟨b, u, rfl, ic, ow, b3⟩
    have hlen := isCode_len (xk_good HA.out n) (by rw [xk_all l n (by rw [HS.out.1]; exact Nat.le_refl _)]; exact ic)
    have hxk := xk_k l n n HS.out.1 hn
    have hl2 : b.length ≤ 181 := by omega
    have B3 := Lib.hid (B2.out.trans (b3.mono B2.out.size))
    have O3 := Lib.hid ow
    obtain ⟨A3, c3, hu, hA3, r3⟩ := Reads.of_own ow
    subst hu
    have IC := Lib.hid (⟨ic, isCode_dig ic, isCode_inside HA.out.good ic⟩ : IsCode (runIv firstIv (nats l)) b ∧ Dig b ∧ Inside (runIv firstIv (nats l)) b)
    have R3 := Lib.hid (⟨r3, hA3, own_info ow⟩ : Reads w3 A3 b.length (bts b) ∧ (A3 = none → c3 = 0) ∧ ((Value.slice A3 b.length c3 = .slice none 0 0 ∧ b.length = 0) ∨ ∃ q cc, Value.slice A3 b.length c3 = .slice (some ⟨q, 0, none⟩) b.length cc ∧ b.length ≤ cc))
    clear ic ow b3 hlen hxk hA3 r3
    go_wp2_with fail
    refine (newDec_any w3 w.heap.size A3 b.length c3 b R3.out.1 (by omega) IC.out.2.1 B3.out.size).mono ?_
    rintro e w4 ⟨g, pk, rfl, d4, b4, _, _⟩
    have D4 := Lib.hid (show De w l b g pk 0 w4 from ⟨d4, B3.out.trans (b4.mono B3.out.size)⟩)
    have R4 := Lib.hid (R3.out.1.below b4)
    have O4 := Lib.hid (own_keep (S := fun _ => False) O3.out (.of_below b4) (fun _ _ => id))
    clear d4 b4
    have N5 := Lib.hid (empty_bytes w4)
    have a5 := alloc_below w4 (.cells #[] 5)
    have R5 := Lib.hid (R4.out.below a5)
    have D5 := Lib.hid (D4.out.below a5)
    clear a5
    go_wp2_with (at_builtin; refine wpList_append_reads rfl (.tmp 30) (.tmp 31) 39 rfl w4.heap.size 5 i0 (.int .u8 0) 1 Tryd.underlying39 HI.out HZ.out rfl (.slice (some ⟨w4.heap.size, 0, none⟩) 0 0) 0 [] rfl N5.out A3 b.length c3 (bts b) rfl R5.out R3.out.2.1 (bts_one b) ?b1 ?b2 ?b3 ?_)
    case b1 => unfold maxLen; omega
    case b2 => omega
    case b3 => simp
    intro v6 w6 hown hgr
    have g6 := own_grown_below (alloc_below w4 (.cells #[] 5)) hgr (by simp) (fun p hp => by simp [Value.ownBlock] at hp; omega)
    have D6 := Lib.hid (D4.out.below g6)
    have R6 := Lib.hid (⟨hown, R4.out.below g6⟩ : w6.ownsRow w4.heap.size 5 1 v6 b.length (bts b) ∧ Reads w6 A3 b.length (bts b))
    have G6 := Lib.hid g6.size
    have GB6 := Lib.hid (g6.trans ((alloc_below w6 (.cells #[.int .u8 (m : Int)] 5)).mono g6.size))
    have HO := Lib.hid (hown.alloc (.cells #[.int .u8 (m : Int)] 5))
    clear hown hgr g6 N5 R5 D5
    go_wp2_with (at_builtin; refine wpList_append_lies _ rfl (.tmp 32) (.tmp 34) 39 rfl w4.heap.size 5 i0 (.int .u8 0) 1 1 Tryd.underlying39 HI.out HZ.out.1 HZ.out.2.1 HZ.out.2.2 rfl (by decide) v6 b.length (bts b) rfl HO.out ⟨w6.heap.size, 0, none⟩ 1 1 [.int .u8 (m : Int)] rfl rfl (cell_one_new _ _ _) ?c2 (by decide) ?b4 ?b5 ?b6 (w6.heap.size + 1) ?b7 ?_)
    case c2 => intro u hu; simp at hu; subst hu; rfl
    case b4 => unfold maxLen; omega
    case b5 => omega
    case b6 => have := G6.out; simp; omega
    case b7 => simp
    intro q7 cap7 w7 hown hgr hq7 hlt7
    have g7 : Below w4.heap.size w4 w7 := own_grown_below GB6.out hgr (by have := G6.out; simp; omega) (fun p hp => (own_lt R6.out.1 p hp).1)
    have D7 := Lib.hid (D4.out.below g7)
    have O7 := Lib.hid (own_keep (S := fun _ => False) O4.out (.of_below g7) (fun _ _ => id))
    have eb : bts b ++ [.int .u8 (m : Int)] = bts (b ++ [m]) := by rw [bts_append]; rfl
    rw [eb] at hown
    obtain ⟨A7, c7, hv7, _, r7⟩ := Reads.of_own hown
    injection hv7 with hA7 _ hc7
    subst hA7 hc7
    have RR := Lib.hid r7
    clear hown hgr hq7 hlt7 g7 eb r7 HO
    go_wp2_with fail
    refine (newDec_any w7 w.heap.size (some ⟨q7, 0, none⟩) (b.length + 1) cap7 (b ++ [m]) RR.out (by omega) (append_dig IC.out.2.1 m hm) D7.out.bel.size).mono ?_
    rintro e w8 ⟨g2, pk2, rfl, d8, b8, hg8, _⟩
    have D8 := Lib.hid (show De w l b g pk 0 w8 ∧ De w l (b ++ [m]) g2 pk2 0 w8 ∧ g ≠ g2 from ⟨D7.out.below b8, ⟨d8, D7.out.bel.trans (b8.mono D7.out.bel.size)⟩, fun e => by have := D7.out.dec.lt; omega⟩)
    have O8 := Lib.hid (own_keep (S := fun _ => False) O7.out (.of_below b8) (fun _ _ => id))
    clear d8 b8 hg8
    go_wp2_with fail
    go_loopw [9] (BackAt w l b (b ++ [m]) m n w2.heap.size (.slice A3 b.length c3) g g2 pk pk2) (fun i _ => n - (intOf i).toNat)
    case atStart => exact ⟨0, Nat.zero_le _, rfl, D8.out.1, fun _ => D8.out.2.1, O8.out⟩
    case round =>
      obtain ⟨k, hk, rfl, hd, hd2, hr⟩ := hrel
      have HO := Lib.hid hr
      by_cases hlt : k < n
      · obtain ⟨bb, off, rfl⟩ := HS.out.ad (by omega)
        obtain ⟨p, Ai, ni, ci, hp, c0, c1, hrd⟩ := HS.out.at k hlt
        have hbl : bb < w.heap.size := World.block_lt_of_cell? w _ c0
        obtain ⟨cl, s⟩ := p
        obtain ⟨⟨ok, s0, s1⟩, _⟩ := HA.out _ (List.mem_of_getElem? hp)
        obtain ⟨sn, rfl⟩ : ∃ sn : Nat, s = (sn : Int) := ⟨s.toNat, by have : 0 ≤ s := s0; omega⟩
        have H := Lib.hid (⟨hd, hd2, hp, c0, c1, hrd, ok⟩ : De w l b g pk k wr ∧ (m = 0 → De w l (b ++ [m]) g2 pk2 k wr) ∧ l[k]? = some (cl, (sn : Int)) ∧ w.cell? ⟨bb, off + k * 2, none⟩ = some (.slice Ai ni ci) ∧ w.cell? ⟨bb, off + k * 2 + 1, none⟩ = some (.int .i64 (sn : Int)) ∧ Reads w Ai ni (ints cl) ∧ Ok cl)
        have d0 : wr.cell? ⟨bb, off + k * 2, none⟩ = some (.slice Ai ni ci) := (hd.bel.cell hbl).trans c0
        have t1 : (k : Int) < n := by omega
        have KM := Lib.hid (made_ok wr Ai ni ci cl (hrd.below hd.bel) ok)
        clear hd hd2 hp c0 c1 hrd ok s0 s1 hr
        go_wp2_with fail
        refine KM.out.mono ?_
        rintro e w9 ⟨gt, q, cap, rfl, t9, b9, _, _⟩
        have D9 := Lib.hid (⟨H.out.1.below b9, fun h0 => (H.out.2.1 h0).below b9⟩ : De w l b g pk k w9 ∧ (m = 0 → De w l (b ++ [m]) g2 pk2 k w9))
        have O9 := Lib.hid (own_keep (S := fun _ => False) HO.out (.of_below b9) (fun _ _ => id))
        have KD := Lib.hid (decode_ok w9 w.heap.size g pk (xk l k) b D9.out.1.dec (xk_good HA.out k) (by have := xk_k l k n HS.out.1 hn; omega) gt q cap cl t9 H.out.2.2.2.2.2.2)
        clear t9 b9
        go_wp2_with fail
        refine KD.out.mono ?_
        rintro e w10 ⟨s, hs, rfl, d10, c10⟩
        obtain rfl := way HA.out IC.out.2.1 IC.out.2.2 k cl sn H.out.2.2.1 s hs d10.inside
        have b10 := c10.below (B := w.heap.size) D9.out.1.bel.size (fun p hp => by rw [hp]; exact D9.out.1.dec.low)
        have D10 := Lib.hid (⟨D9.out.1.next H.out.2.2.1 d10 b10, fun h0 => (D9.out.2 h0).other D9.out.1.dec (Ne.symm D8.out.2.2) c10⟩ : De w l b g pk (k + 1) w10 ∧ (m = 0 → De w l (b ++ [m]) g2 pk2 k w10))
        have O10 := Lib.hid (own_keep O9.out c10 (fun p hp e => own_ne O9.out (show w9.heap[g]? = _ from D9.out.1.dec.cell) (by decide) (by rw [hp, e])))
        have e1 : w10.cell? ⟨bb, off + k * 2 + 1, none⟩ = some (.int .i64 (s : Int)) := (D10.out.1.bel.cell hbl).trans H.out.2.2.2.2.1
        have t2 : ((s : Int) != (s : Int)) = false := by simp
        have t3 : ((0 : Int) != 0) = false := by decide
        clear hs d10 c10 b10
        have t4 : ((m : Int) == 0) = false := by simp; omega
        go_wp2_with fail
        exact ⟨⟨k + 1, by omega, by go_num, D10.out.1, fun h0 => absurd h0 hm0, O10.out⟩, by simp [intOf]; omega⟩
      · obtain rfl : k = n := by omega
        have t1 : ¬ (k : Int) < k := by omega
        have hX := xk_all l k (by rw [HS.out.1]; exact Nat.le_refl _)
        have HD := Lib.hid (⟨hd, hd2, hX⟩ : De w l b g pk k wr ∧ (m = 0 → De w l (b ++ [m]) g2 pk2 k wr) ∧ xk l k = runIv firstIv (nats l))
        have hdone := (done_iff (xk_good HA.out k) IC.out.2.1 hd.dec.inside).2 (by rw [hX]; exact IC.out.1)
        have hkk := xk_k l k k HS.out.1 hn
        have KD := Lib.hid (done_any wr w.heap.size g pk (xk l k) b hd.dec (xk_good HA.out k) (by omega) (by omega))
        rw [hdone] at KD
        clear hd hd2 hX hdone hr
        have t4 : ((m : Int) == 0) = false := by simp; omega
        go_wp2_with fail
        refine KD.out.mono ?_
        rintro e w10 ⟨rfl, b10⟩
        have B10 := Lib.hid b10
        clear b10
        have D10 := Lib.hid (show Below w.heap.size w w10 from HD.out.1.bel.trans B10.out.below)
        have O10 := Lib.hid (own_keep (S := fun _ => False) HO.out (.of_read B10.out) (fun _ _ => id))
        by_cases hb0 : b.length = 0
        · rw [hb0]
          have t5 : (((0 : Nat) : Int) == 0) = true := by decide
          go_wp2
          go_ret
          exact ⟨rfl, D10.out⟩
        · obtain ⟨nb, hnb⟩ : ∃ nb, b.length = nb + 1 := ⟨b.length - 1, by omega⟩
          obtain ⟨q', cap', hqv, hcap⟩ : ∃ q cc, Value.slice A3 b.length c3 = .slice (some ⟨q, 0, none⟩) b.length cc ∧ b.length ≤ cc := by
            rcases R3.out.2.2 with h1 | h1
            · exact absurd h1.2 hb0
            · exact h1
          injection hqv with hq1 _ hq3
          subst hq1 hq3
          have ot := own_trim (m := nb) O10.out (by omega)
          obtain ⟨A11, c11, hv11, _, r11⟩ := Reads.of_own ot
          injection hv11 with hA11 _ hc11
          subst hA11 hc11
          have R11 := Lib.hid r11
          have hdl : b.take nb = b.dropLast := by rw [List.dropLast_eq_take, hnb, Nat.add_sub_cancel]
          have hDig : Dig (b.take nb) := dig_take IC.out.2.1 nb
          have hll : (b.take nb).length = nb := by rw [List.length_take]; omega
          have LESS := Lib.hid (show ¬ Inside (runIv firstIv (nats l)) (b.take nb) from isCode_least IC.out.1 (by omega))
          rw [hnb]
          have e5 : IntKind.i64.wrap (nb : Int) = (nb : Int) := IntWalk.i64_in _ (by omega)
          have hnb2 : nb ≤ 181 := by omega
          have t6 : nb < c3 := by omega
          have t7 : (((nb + 1 : Nat) : Int) == 0) = false := by simp; omega
          have t8 : (((nb : Int) + 1) == 0) = false := by simp; omega
          generalize hbt : b.take nb = bt at *
          clear hnb hb0 hcap ot r11 hbt hdl
          go_wp2_with fail
          refine (newDec_any w10 w.heap.size (some ⟨q', 0, none⟩) nb c3 bt R11.out (by omega) hDig D10.out.size).mono ?_
          rintro e w11 ⟨g3, pk3, rfl, d11, b11, _, _⟩
          have L11 := Lib.hid (show De w l bt g3 pk3 0 w11 from ⟨d11, D10.out.trans (b11.mono D10.out.size)⟩)
          clear d11 b11
          go_wp2_with fail
          go_loopw [14] (LessAt w l bt k g3 pk3) (fun i _ => k - (intOf i).toNat)
          case atStart => exact ⟨0, Nat.zero_le _, rfl, L11.out⟩
          case round =>
            obtain ⟨j, hj, rfl, hd⟩ := hrel
            by_cases hlt2 : j < k
            · obtain ⟨bb, off, rfl⟩ := HS.out.ad (by omega)
              obtain ⟨p, Ai, ni, ci, hp, c0, c1, hrd⟩ := HS.out.at j hlt2
              have hbl : bb < w.heap.size := World.block_lt_of_cell? w _ c0
              obtain ⟨cl, s⟩ := p
              obtain ⟨⟨ok, s0, s1⟩, _⟩ := HA.out _ (List.mem_of_getElem? hp)
              obtain ⟨sn, rfl⟩ : ∃ sn : Nat, s = (sn : Int) := ⟨s.toNat, by have : 0 ≤ s := s0; omega⟩
              have H := Lib.hid (⟨hd, hp, c1, ok⟩ : De w l bt g3 pk3 j wr ∧ l[j]? = some (cl, (sn : Int)) ∧ w.cell? ⟨bb, off + j * 2 + 1, none⟩ = some (.int .i64 (sn : Int)) ∧ Ok cl)
              have d0 : wr.cell? ⟨bb, off + j * 2, none⟩ = some (.slice Ai ni ci) := (hd.bel.cell hbl).trans c0
              have t9 : (j : Int) < k := by omega
              have KM := Lib.hid (made_ok wr Ai ni ci cl (hrd.below hd.bel) ok)
              clear hd hp c0 c1 hrd ok s0 s1
              go_wp2_with fail
              refine KM.out.mono ?_
              rintro e w12 ⟨gt, q, cap, rfl, t12, b12, _, _⟩
              have D12 := Lib.hid (H.out.1.below b12)
              have KD3 := Lib.hid (decode_ok w12 w.heap.size g3 pk3 (xk l j) bt D12.out.dec (xk_good HA.out j) (by have := xk_k l j k HS.out.1 hn; omega) gt q cap cl t12 H.out.2.2.2)
              clear t12 b12 d0
              go_wp2_with fail
              refine KD3.out.mono ?_
              rintro e w13 ⟨s, hs, rfl, d13, c13⟩
              have b13 := c13.below (B := w.heap.size) D12.out.bel.size (fun p hp => by rw [hp]; exact D12.out.dec.low)
              have B13 := Lib.hid (D12.out.bel.trans b13)
              have e13 : w13.cell? ⟨bb, off + j * 2 + 1, none⟩ = some (.int .i64 (sn : Int)) := (B13.out.cell hbl).trans H.out.2.2.1
              by_cases hss : s = sn
              · subst hss
                have D13 := Lib.hid (D12.out.next H.out.2.1 d13 b13)
                have u1 : ((s : Int) != (s : Int)) = false := by simp
                clear hs d13 c13 b13
                go_wp2_with fail
                exact ⟨⟨j + 1, by omega, by go_num, D13.out⟩, by simp [intOf]; omega⟩
              · have u1 : ((s : Int) != (sn : Int)) = true := by simp; omega
                clear hs d13 c13 b13
                go_wp2
                go_ret
                exact ⟨rfl, B13.out⟩
            · exfalso
              obtain rfl : j = k := by omega
              have h1 := hd.dec.inside
              rw [HD.out.2.2] at h1
              exact LESS.out h1

theorem walk (A : Option Addr) (n c : Nat) (l : List (List Int × Int)) (a : Int) (w : World) (h : Steps w A n l) (ha0 : 0 ≤ a) (ha1 : a ≤ 255) :
    Calls Tryd.prog 5 #[.slice A n c, .int .u8 a] w fun e w' => e = .returned (.bool true) ∧ Below w.heap.size w w' := by
  obtain ⟨m, rfl⟩ := Int.eq_ofNat_of_zero_le ha0
  by_cases hm0 : m = 0
  · subst hm0
    exact walk0 A n c l w h
  · exact walk1 A n c l m w h (by omega) hm0


set_option maxRecDepth 100000 in
theorem lifted (os : Os) (started : os.Started) (H : Type) (enc : TypeId × Value → H) :
    ReturnsInHanded {} Tryd.checked os 5 .any (fun w args => (Rows.coderBackSpec.pre enc Tryd.prog Tryd.f5 Rows.coderBackRow.domain false w args ∧ laidMetH Tryd.prog Rows.coderBackRow.laid w) ∧ sizedMet enc Tryd.prog Tryd.f5 (OpenSpec.ofChange Rows.coderBackSpec) false w args)
      (Rows.coderBackSpec.post enc Tryd.prog Tryd.f5 false true false false) := by
  refine returnsInHanded_of_change_and (C := Tryd.checked) (X := fun w _ => laidMetH Tryd.prog Rows.coderBackRow.laid w) (fun _ _ _ hh h => h.of_heap hh) own_knob started (by kernel_rfl) Tryd.func5
    (ChangeSpec.witness_shaped (enc := enc) (C := Tryd.checked) (os := os) (X := fun w _ => laidMetH Tryd.prog Rows.coderBackRow.laid w) false (World.laidAll Tryd.prog os Rows.coderBackRow.laid) #[.slice none 0 0, .int .u8 0] 8 (World.laidAll_os _ _ _)
      (World.shaped_of_ZipB (by kernel_rfl) (by kernel_rfl)) (by kernel_rfl) (by kernel_rfl) (by kernel_rfl)
      (by rw [MakeChecks.laidMetH_plain _ _ _ (by kernel_rfl)]; exact laidMet_laidAll _ (by kernel_rfl) (by kernel_rfl))) ?_
  intro W base args ds gs before hval0 hW hc _ _ _
  have hval : ∀ (j : Nat) t v, Tryd.f5.params[j]? = some t → args[j]? = some v → Value.okWide Tryd.prog W .any base t v := hval0
  have hW' := hW
  obtain ⟨p, q, hA0, hV, rfl, _, _⟩ := hW
  have hA : DataW.TrodAll enc Tryd.prog W 0 (fun _ => true) true Tryd.f5.params.toList args.toList ds p := hA0
  rw [Tryd.params5] at hA hval
  obtain ⟨v0, vs0, d0, ds0, p0, q0, hargs, rfl, rfl, h0, r0⟩ := trodAll_cons hA
  obtain ⟨v1, vs1, d1, ds1, p1, q1, rfl, rfl, rfl, h1, r1⟩ := trodAll_cons r0
  obtain ⟨rfl, rfl, rfl⟩ := trodAll_nil r1
  obtain rfl : args = #[v0, v1] := by cases args; simp_all
  obtain ⟨rfl, rfl⟩ := trodVars_none hV
  have lt0 : ∀ x ∈ p0, x.block < W.heap.size := by obtain ⟨m, hm⟩ := h0; exact DataW.trod_lt m _ _ _ hm
  obtain ⟨a0, len0, cap0, rfl⟩ := okWide_slice Tryd.underlying22 (hval 0 22 v0 rfl rfl)
  obtain ⟨xs0, hr0⟩ := arg_steps h0
  obtain ⟨a1, rfl, rfl, rfl, w1⟩ := open_int Tryd.underlying5 (hval 1 5 v1 rfl rfl) h1
  have bd1 := bounds_u8 w1
  clear hA0 hval0
  refine (walk a0 len0 cap0 xs0 a1 W hr0 (by omega) (by omega)).mono fun e W' ⟨he, bel⟩ => ?_
  subst he
  exact ⟨_, rfl, _, _, _, [], _, [], hW', trodAll_mk1 (shut_bool Tryd.underlying4 _), (trodAll_cons_mk (Below.trod laid_out (by kernel_rfl) (of_decide_eq_true (by kernel_rfl)) h0 bel lt0) (trodAll_cons_mk (shut_int Tryd.underlying5 w1) trodAll_mk0)), rfl, bel.frame _, fun h => by cases h⟩

theorem over : Rows.CoderBackSaid :=
  OpenClaim.holds_of_wide 5 Tryd.f5 rfl rfl rfl rfl rfl rfl rfl ⟨rfl, rfl, rfl, rfl, rfl⟩ rfl rfl rfl rfl rfl (by kernel_rfl) Tryd.func5 (by kernel_rfl)
    (of_decide_eq_true (by kernel_rfl)) (by unfold Func.isWrapper; first | (rw [if_pos (by decide +kernel)]; kernel_rfl) | (rw [if_neg (by decide +kernel)]; exact ⟨rfl, rfl⟩))
    (fun os started H enc _ => lifted os started H enc)

theorem plain (f : FuncId) (fn : Func) (hf : Tryd.pinned.checked.prog.funcNamed "gypsum/gypsumlaw04.CoderBack" = some f) (hfn : Tryd.pinned.checked.prog.funcs[f]? = some fn) :
    false = Tryd.pinned.checked.prog.looks [] ∧ ∀ (j : Nat) t, fn.params[j]? = some t → Tryd.pinned.checked.prog.wantsStandIn t = false := by
  obtain rfl : f = 5 := Option.some.inj ((show Tryd.prog.funcNamed "gypsum/gypsumlaw04.CoderBack" = some 5 by kernel_rfl).symm.trans hf) |>.symm
  obtain rfl : fn = Tryd.f5 := (Option.some.inj (Tryd.func5.symm.trans hfn)).symm
  refine ⟨by kernel_rfl, fun j t ht => ?_⟩
  rw [Tryd.params5] at ht
  have hm : t ∈ [22, 5] := by simpa using Array.mem_of_getElem? ht
  have hall : ([22, 5].all fun u => !Tryd.prog.wantsStandIn u) = true := by kernel_rfl
  exact (show Tryd.prog.wantsStandIn t = false by simpa using List.all_eq_true.1 hall t hm)

theorem proved : Rows.CoderBackCardSaid :=
  Claim7.holds_tied_plain_at .later [] _ _ _ _ over (fun _ h => by cases h) (by kernel_rfl) (fun _ h => by cases h) coderBack_row_tie rfl ⟨rfl, rfl⟩ (by kernel_rfl) rfl plain (by kernel_rfl)
end Go.Proofs.YtbkjfblmdilchaaDoor.coderBack
