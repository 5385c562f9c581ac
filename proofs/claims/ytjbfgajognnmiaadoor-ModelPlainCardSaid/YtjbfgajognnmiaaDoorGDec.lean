/- Texts laid one behind the other: CFin, CDec, CDecode, CBeside, Tabs. -/
import Derived.Test.YtjbfgajognnmiaaDoorGCoder
import Derived.Test.YtjbfgajognnmiaaDoorGIv
import Derived.Deep.LoopGhost
import Derived.Deep.RegionLaw
import Derived.Lib.MinMax
import Derived.Test.YtjbfgajognnmiaaDoorCEnc

/- Finish of layer 4: the code of the interval, in a row of its own. -/
namespace Go.Proofs.YtjbfgajognnmiaaDoor
open Go.RowKit

def CodeIs (w : World) (x : Iv) (e : Ending) (w' : World) : Prop := ∃ (b : List Nat) (v : Value), e = .returned v ∧ IsCode x b ∧ w'.ownsRow w.heap.size 5 1 v b.length (bts b) ∧ Below w.heap.size w w'

theorem own_trim {w : World} {B n q cap m : Nat} {l : List Nat} (h : w.ownsRow B 5 1 (.slice (some ⟨q, 0, none⟩) n cap) n (bts l)) (hm : m ≤ n) : w.ownsRow B 5 1 (.slice (some ⟨q, 0, none⟩) m cap) m (bts (l.take m)) := by
  have hl : l.length = n := by have := h.1; rw [length_bts] at this; omega
  rcases h.2 with ⟨h1, _⟩ | ⟨q', cap', cur, h1, hq, hh, hc, hx, hs, ht⟩
  · cases h1
  · injection h1 with h1 _ h3
    injection h1 with h1
    injection h1 with h1
    subst h1 h3
    refine ⟨by rw [length_bts, List.length_take]; omega, .inr ⟨q, cap, cur, rfl, hq, hh, by omega, hx, hs, ?_⟩⟩
    rw [show bts (l.take m) = (bts l).take m by simp [bts, List.map_take], ← ht, List.take_take]
    congr 1
    omega
theorem own_addr {w : World} {B n cap : Nat} {ad : Addr} {l : List Value} (h : w.ownsRow B 5 1 (.slice (some ad) n cap) n l) : ∃ q, ad = ⟨q, 0, none⟩ ∧ n ≤ cap := by
  rcases h.2 with ⟨h1, _⟩ | ⟨q', cap', cur, h1, hq, hh, hc, _⟩
  · cases h1
  · injection h1 with h1 _ h3
    injection h1 with h1
    subst h1 h3
    exact ⟨q', rfl, hc⟩
theorem own_info {w : World} {B n : Nat} {v : Value} {l : List Value} (h : w.ownsRow B 5 1 v n l) : (v = .slice none 0 0 ∧ n = 0) ∨ ∃ q c, v = .slice (some ⟨q, 0, none⟩) n c ∧ n ≤ c := by
  rcases h.2 with h1 | ⟨q, c, cur, h1, hq, hh, hc, _⟩
  · exact .inl h1
  · exact .inr ⟨q, c, h1, hc⟩

set_option maxHeartbeats 3200000 in
set_option maxRecDepth 100000 in
theorem finish_any (w : World) (B g : Nat) (v : Value) (x : Iv) (h : EIs w B g v x) (hx : x.Good) (hk : x.k ≤ 1000000) :
    Calls Tryd.prog 30 #[.pointer (some ⟨g, 0, none⟩)] w (CodeIs w x) := by
  obtain ⟨i0, hi, hz0, hz1, hz2⟩ := info_parts Tryd.infoU8
  obtain ⟨A, c, hv, hA, hR⟩ := Reads.of_own h.row
  subst hv
  have c0 : w.cell? ⟨g, 0, none⟩ = some (.slice A x.k c) := by rw [cell_in h.sp]; rfl
  have KC := Lib.hid (cloneB_any w A x.k c (ahd x) hR (by omega))
  have xlo := hx.lo
  have xhi := hx.hi
  have xtop := hx.top
  rw [pow4] at xtop
  have H := Lib.hid h
  have HX := Lib.hid hx
  have hd : evenIv x ↔ (((x.L % 4294967296 : Nat) : Int) = 0 ∨ 4294967296 < ((x.L % 4294967296 : Nat) : Int) + (x.R : Int)) := by unfold evenIv; omega
  have KE := Lib.hid (fun w' (b : Below w.heap.size w w') => even_any w' g 66 (.slice A x.k c) _ _ [] (h.sp.below b) (by omega) (by omega) (by omega) (by omega))
  rw [wid_cast x.R (by omega) xhi] at KE
  have hde : decide (((x.L % 4294967296 : Nat) : Int) = 0 ∨ 4294967296 < ((x.L % 4294967296 : Nat) : Int) + (x.R : Int)) = decide (evenIv x) := decide_eq_decide.2 hd.symm
  rw [hde] at KE
  have HT := Lib.hid (⟨xlo, xhi, xtop⟩ : 16777216 ≤ x.R ∧ x.R ≤ 4294967296 ∧ x.L + x.R ≤ 256 ^ x.k * 4294967296)
  obtain ⟨lo, hlo⟩ : ∃ lo : Int, lo = ((x.L % 4294967296 : Nat) : Int) := ⟨_, rfl⟩
  have S := Lib.hid (fun w' (b : Below w.heap.size w w') => show w'.cell? ⟨g, 1, none⟩ = some (.int .u32 lo) by rw [hlo]; exact (h.sp.below b).lo)
  have bl : 0 ≤ lo ∧ lo < 4294967296 := by omega
  have HLO := Lib.hid hlo
  clear h hx hde hd hR hA xlo xhi xtop hlo
  by_cases he : evenIv x
  · rw [decide_eq_true he] at KE
    obtain ⟨V, v1, v2, v3⟩ := even_mult he HX.out
    have HV := Lib.hid (⟨v1, v2, v3⟩ : x.L ≤ V * 4294967296 ∧ V * 4294967296 < x.L + x.R ∧ V = if x.L % 4294967296 = 0 then x.L / 4294967296 else x.L / 4294967296 + 1)
    have hVk : V < 256 ^ x.k := by
      have h3 : V * 4294967296 < 256 ^ x.k * 4294967296 := Nat.lt_of_lt_of_le v2 HT.out.2.2
      exact Nat.lt_of_mul_lt_mul_right h3
    have HVK := Lib.hid hVk
    clear he v1 v2 v3 hVk
    -- what trimming leaves
    have FIN := Lib.hid (show ∀ (w2 : World) (q cap m : Nat), w2.ownsRow w.heap.size 5 1 (.slice (some ⟨q, 0, none⟩) x.k cap) x.k (bts (digs x.k V)) → Trims (digs x.k V) m → Below w.heap.size w w2 → CodeIs w x (.returned (.slice (some ⟨q, 0, none⟩) m cap)) w2 from by
      intro w2 q cap m ho ht hb
      have hl := ht.1
      rw [length_digs] at hl
      refine ⟨_, _, rfl, even_code HX.out V m HV.out.1 HV.out.2.1 hl (fun j h1 h2 => ht.2.1 j h1 (by rw [length_digs]; exact h2)) ht.2.2, ?_, hb⟩
      rw [List.length_take, length_digs, Nat.min_eq_left hl]
      exact own_trim ho hl)
    by_cases hl0 : lo = 0
    · subst hl0
      have hVL : V = x.L / 4294967296 := by
        have := HV.out.2.2
        rw [if_pos (by have := HLO.out; omega)] at this
        exact this
      have HVL := Lib.hid hVL
      clear hVL bl
      go_enter Tryd.func30, Tryd.ntmps30
      go_wp2_with fail
      refine KC.out.mono ?_
      rintro e w1 ⟨u, rfl, o1, b1⟩
      have k1 := S.out w1 b1
      rcases own_info o1 with ⟨rfl, hk0⟩ | ⟨q, cap, rfl, hcap⟩
      · have N := Lib.hid (⟨hk0, o1, b1⟩ : x.k = 0 ∧ w1.ownsRow w.heap.size 5 1 (.slice none 0 0) x.k (bts (ahd x)) ∧ Below w.heap.size w w1)
        clear o1 b1 hk0
        go_wp2_with fail
        refine (KE.out w1 N.out.2.2).mono ?_
        rintro e w2 ⟨rfl, b2⟩
        have k2 : w2.cell? ⟨g, 1, none⟩ = some (.int .u32 0) := S.out w2 (N.out.2.2.trans b2.below)
        have B2 := Lib.hid b2
        clear b2
        go_wp2_with fail
        refine (trim_nil w2).mono ?_
        rintro e w3 ⟨rfl, b3⟩
        have B3 := Lib.hid b3
        clear b3
        go_wp2
        go_ret
        have hb := (N.out.2.2.trans B2.out.below).trans B3.out.below
        refine ⟨[], _, rfl, ?_, World.ownsRow_nil _ _ _ _, hb⟩
        have := even_code HX.out V 0 HV.out.1 HV.out.2.1 (Nat.zero_le _) (fun j h1 h2 => by have := N.out.1; omega) (.inl rfl)
        simpa using this
      · have N := Lib.hid (⟨hcap, o1, b1⟩ : x.k ≤ cap ∧ w1.ownsRow w.heap.size 5 1 (.slice (some ⟨q, 0, none⟩) x.k cap) x.k (bts (ahd x)) ∧ Below w.heap.size w w1)
        clear o1 b1 hcap
        go_wp2_with fail
        refine (KE.out w1 N.out.2.2).mono ?_
        rintro e w2 ⟨rfl, b2⟩
        have k2 : w2.cell? ⟨g, 1, none⟩ = some (.int .u32 0) := S.out w2 (N.out.2.2.trans b2.below)
        have O2 := Lib.hid (own_keep (S := fun _ => False) N.out.2.1 (.of_read b2) (fun _ _ => id))
        have B2 := Lib.hid (N.out.2.2.trans b2.below)
        clear b2
        obtain ⟨A2, c2, hv2, _, R2⟩ := Reads.of_own O2.out
        injection hv2 with hA2 _ hc2
        subst hA2 hc2
        have HR2 := Lib.hid R2
        clear R2
        go_wp2_with fail
        refine (trim_any w2 ⟨q, 0, none⟩ x.k cap (ahd x) HR2.out hk N.out.1 (dig_ahd x)).mono ?_
        rintro e w3 ⟨m, rfl, t3, b3⟩
        have T3 := Lib.hid (⟨t3, b3⟩ : Trims (ahd x) m ∧ Reading w2 w3)
        clear t3 b3
        go_wp2
        go_ret
        have hah : ahd x = digs x.k V := by rw [HVL.out]; rfl
        have t3 := T3.out.1
        rw [hah] at t3
        refine FIN.out w3 q cap m ?_ t3 (B2.out.trans T3.out.2.below)
        rw [← hah]
        exact own_keep (S := fun _ => False) O2.out (.of_read T3.out.2) (fun _ _ => id)
    · have hVL : V = x.L / 4294967296 + 1 := by
        have := HV.out.2.2
        rw [if_neg (by have := HLO.out; omega)] at this
        exact this
      have hk0 : 0 < x.k := by
        rcases Nat.eq_zero_or_pos x.k with h0 | h0
        · have h1 := HVK.out
          rw [h0] at h1
          omega
        · exact h0
      have hva : val (ahd x) = x.L / 4294967296 := val_digs _ _ (by have := HVK.out; omega)
      have HVL := Lib.hid (⟨hVL, hva⟩ : V = x.L / 4294967296 + 1 ∧ val (ahd x) = x.L / 4294967296)
      have HK0 := Lib.hid hk0
      have t1 : (lo != 0) = true := by simp [hl0]
      clear hVL hva hk0
      go_enter Tryd.func30, Tryd.ntmps30
      go_wp2_with fail
      refine KC.out.mono ?_
      rintro e w1 ⟨u, rfl, o1, b1⟩
      have k1 := S.out w1 b1
      obtain ⟨q, cap, rest, rfl, r1, hcap, hcm, hcl, hq⟩ := own_block o1 HK0.out
      have N := Lib.hid (⟨⟨hcap, hcm, hcl, hq⟩, r1, b1⟩ : (x.k ≤ cap ∧ cap ≤ maxLen ∧ (bts (ahd x) ++ rest).length = cap ∧ w.heap.size ≤ q) ∧ BRow w1 q (ahd x) rest ∧ Below w.heap.size w w1)
      clear o1 b1 r1 hcap hcm hcl hq
      go_wp2_with fail
      refine (KE.out w1 N.out.2.2).mono ?_
      rintro e w2 ⟨rfl, b2⟩
      have k2 := S.out w2 (N.out.2.2.trans b2.below)
      have R2 := Lib.hid (show BRow w2 q (ahd x) rest by unfold BRow; rw [b2.heap]; exact N.out.2.1)
      have B2 := Lib.hid (N.out.2.2.trans b2.below)
      clear b2
      go_wp2_with fail
      refine (carry_any w2 q x.k cap (ahd x) rest R2.out (length_ahd x) (dig_ahd x) (by have := HVL.out; have := HVK.out; omega) hk).mono ?_
      rintro e w3 ⟨rfl, r3, b3⟩
      rw [HVL.out.2, ← HVL.out.1] at r3
      have O3 := Lib.hid (own_of_block (B := w.heap.size) r3 (length_digs _ _) N.out.1.1 N.out.1.2.1 (by
        have := N.out.1.2.2.1
        rw [List.length_append, length_bts] at this ⊢
        rw [length_ahd] at this
        rw [length_digs]; exact this) N.out.1.2.2.2)
      have B3 := Lib.hid (B2.out.trans (b3.below B2.out.size (fun b e => by rw [e]; exact N.out.1.2.2.2)))
      clear r3 b3
      obtain ⟨A2, c2, hv2, _, R3⟩ := Reads.of_own O3.out
      injection hv2 with hA2 _ hc2
      subst hA2 hc2
      have HR3 := Lib.hid R3
      clear R3
      go_wp2_with fail
      refine (trim_any w3 ⟨q, 0, none⟩ x.k cap (digs x.k V) HR3.out hk N.out.1.1 (dig_digs _ _)).mono ?_
      rintro e w4 ⟨m, rfl, t4, b4⟩
      have T4 := Lib.hid (⟨t4, b4⟩ : Trims (digs x.k V) m ∧ Reading w3 w4)
      clear t4 b4
      go_wp2
      go_ret
      exact FIN.out w4 q cap m (own_keep (S := fun _ => False) O3.out (.of_read T4.out.2) (fun _ _ => id)) T4.out.1 (B3.out.trans T4.out.2.below)
  · rw [decide_eq_false he] at KE
    have OC := Lib.hid (odd_code HX.out he)
    have hb1 : lo + 16777216 ≤ 4294967296 := by
      have h1 := HLO.out
      have h2 := HT.out
      unfold evenIv at he
      omega
    have HE := Lib.hid he
    clear he
    have m1 : IntKind.u64.wrap (lo + 16777216) = lo + 16777216 := IntWalk.u64_in _ (by omega)
    have m2 : IntKind.u64.wrap (lo + 16777215) = lo + 16777215 := IntWalk.u64_in _ (by omega)
    have m3 : IntKind.u8.wrap ((lo + 16777215) / 16777216) = (lo + 16777215) / 16777216 := IntWalk.u8_in _ (by omega)
    have m4 : lo + 16777216 - 1 = lo + 16777215 := by omega
    go_enter Tryd.func30, Tryd.ntmps30
    go_wp2_with fail
    refine KC.out.mono ?_
    rintro e w1 ⟨u, rfl, o1, b1⟩
    have O1 := Lib.hid (⟨o1, b1⟩ : w1.ownsRow w.heap.size 5 1 u x.k (bts (ahd x)) ∧ Below w.heap.size w w1)
    have k1 := S.out w1 b1
    clear o1 b1
    go_wp2_with fail
    refine (KE.out w1 O1.out.2).mono ?_
    rintro e w2 ⟨rfl, b2⟩
    have k2 := S.out w2 (O1.out.2.trans b2.below)
    have O2 := Lib.hid (own_keep (S := fun _ => False) O1.out.1 (.of_read b2) (fun _ _ => id))
    have B2 := Lib.hid (O1.out.2.trans b2.below)
    have HO := Lib.hid (O2.out.alloc (.cells #[.int .u8 ((lo + 16777215) / 16777216)] 5))
    have G2 := Lib.hid (show w.heap.size ≤ w2.heap.size from B2.out.size)
    clear b2
    go_wp2_with (at_builtin; refine wpList_append_lies _ rfl (.tmp 16) (.tmp 27) 25 rfl w.heap.size 5 i0 (.int .u8 0) 1 1 Tryd.underlying25 hi hz0 hz1 hz2 rfl (by decide) u x.k (bts (ahd x)) rfl HO.out ⟨w2.heap.size, 0, none⟩ 1 1 [.int .u8 ((lo + 16777215) / 16777216)] rfl rfl (cell_one_new _ _ _) ?c2 (by decide) ?b1 ?b2 ?b3 (w2.heap.size + 1) ?b4 ?_)
    case c2 => intro u hu; simp at hu; subst hu; rfl
    case b1 => unfold maxLen; omega
    case b2 => omega
    case b3 => have := G2.out; simp; omega
    case b4 => simp
    intro q cap w3 hown hgr hq hlt
    have B3 := Lib.hid (show Below w.heap.size w w3 from own_grown_below (B2.out.alloc B2.out.size _) hgr (by have := G2.out; simp; omega) (fun p hp => (own_lt O2.out p hp).1))
    have O3 := Lib.hid hown
    clear hown hgr hq hlt
    go_wp2
    go_ret
    refine ⟨_, _, rfl, OC.out, ?_, B3.out⟩
    have e1 : bts (digs x.k (x.L / 4294967296) ++ [(x.L % 4294967296 + 16777215) / 16777216]) = bts (ahd x) ++ [.int .u8 ((lo + 16777215) / 16777216)] := by
      rw [bts_append]
      have e2 : (((x.L % 4294967296 + 16777215) / 16777216 : Nat) : Int) = (lo + 16777215) / 16777216 := by rw [HLO.out]; omega
      show _ ++ [Value.int .u8 (((x.L % 4294967296 + 16777215) / 16777216 : Nat) : Int)] = _
      rw [e2]; rfl
    rw [e1, List.length_append, length_digs]
    exact O3.out
theorem finish_nil (w : World) : Calls Tryd.prog 30 #[.pointer none] w fun e w' => e = .returned (.slice none 0 0) ∧ Reading w w' := by
  go_enter Tryd.func30, Tryd.ntmps30
  go_wp2
  go_ret
  exact ⟨rfl, Reading.refl w⟩
end Go.Proofs.YtjbfgajognnmiaaDoor

/- A decoder: NewDecoder and Done; those of none. -/
namespace Go.Proofs.YtjbfgajognnmiaaDoor
open Go.RowKit

/-- A decoder of the bytes b, behind the interval x. -/
structure DIs (w : World) (B g : Nat) (pk : Value) (x : Iv) (b : List Nat) : Prop where
  cell : DCell w g pk ((x.L % 4294967296 : Nat) : Int) ((x.R % 4294967296 : Nat) : Int) x.k (scale b (4 + x.k) - x.L)
  row : w.ownsRow B 5 1 pk b.length (bts b)
  low : B ≤ g
  dig : Dig b
  inside : Inside x b

section
variable {S : Nat → Prop} {w w' : World} {B g : Nat} {pk : Value} {x : Iv} {b : List Nat}
theorem DIs.lt (h : DIs w B g pk x b) : g < w.heap.size := SIs.lt h.cell
theorem DIs.far (h : DIs w B g pk x b) : pk.ownBlock ≠ some g := own_far h.row h.cell (by decide)
theorem DIs.keep (h : DIs w B g pk x b) (hc : Chg S w w') (hg : ¬ S g) (hs : ∀ q, pk.ownBlock = some q → ¬ S q) : DIs w' B g pk x b :=
  ⟨SIs.keep h.cell hc hg, own_keep h.row hc hs, h.low, h.dig, h.inside⟩
theorem DIs.below (h : DIs w B g pk x b) (hb : Below w.heap.size w w') : DIs w' B g pk x b := h.keep (S := fun _ => False) (.of_below hb) id (fun _ _ => id)
theorem DIs.read (h : DIs w B g pk x b) (hb : Reading w w') : DIs w' B g pk x b := h.below hb.below
end

def MadeDec (w : World) (B : Nat) (b : List Nat) (e : Ending) (w' : World) : Prop :=
  ∃ g pk, e = .returned (.pointer (some ⟨g, 0, none⟩)) ∧ DIs w' B g pk firstIv b ∧ Below w.heap.size w w' ∧ w.heap.size ≤ g ∧ ∀ q, pk.ownBlock = some q → w.heap.size ≤ q

def NewAtD (w : World) (B g : Nat) (pk : Value) (b : List Nat) (i : Value) (wr : World) : Prop :=
  ∃ j : Nat, j ≤ 4 ∧ i = .int .i64 (j : Int) ∧ DCell wr g pk 0 0 0 (scale b j) ∧ wr.ownsRow B 5 1 pk b.length (bts b) ∧ Chg (· = g) w wr

theorem scale_lt {b : List Nat} (hb : Dig b) (j : Nat) : scale b j < 256 ^ j := by
  have := val_lt (widen b j) (dig_widen hb j)
  rwa [length_widen] at this
theorem inside_firstIv {b : List Nat} (hb : Dig b) : Inside firstIv b := ⟨Nat.zero_le _, by have := scale_lt hb 4; exact Nat.lt_of_lt_of_le this (by decide)⟩

set_option maxHeartbeats 1600000 in
set_option maxRecDepth 100000 in
theorem newDec_any (w : World) (B : Nat) (A : Option Addr) (n c : Nat) (b : List Nat) (h : Reads w A n (bts b)) (hn : n ≤ 1000000) (hb : Dig b) (hB : B ≤ w.heap.size) :
    Calls Tryd.prog 67 #[.slice A n c] w (MadeDec w B b) := by
  have hl : b.length = n := by have := h.1; rwa [length_bts] at this
  have KC := Lib.hid (cloneB_any w A n c b h (by omega))
  have HB := Lib.hid (⟨hb, hB, hl⟩ : Dig b ∧ B ≤ w.heap.size ∧ b.length = n)
  clear h hb hB hl
  go_enter Tryd.func67, Tryd.ntmps67
  go_wp2_with fail
  refine KC.out.mono ?_
  rintro e w1 ⟨pk, rfl, o1, b1⟩
  have O1 := Lib.hid (⟨o1, b1⟩ : w1.ownsRow w.heap.size 5 1 pk n (bts b) ∧ Below w.heap.size w w1)
  obtain ⟨A1, c1, rfl, _, _⟩ := Reads.of_own o1
  clear o1 b1
  go_wp2_with fail
  generalize hpk : Value.slice A1 n c1 = pk at *
  have HPK := Lib.hid hpk
  clear hpk
  have N0 := Lib.hid (show NewAtD (w1.alloc (.cells #[pk, .int .u32 0, .int .u32 0, .int .i64 0, .int .u64 0] 116)) w.heap.size w1.heap.size pk b (.int .i64 0) (w1.alloc (.cells #[pk, .int .u32 0, .int .u32 0, .int .i64 0, .int .u64 0] 116)) by
    refine ⟨0, by omega, rfl, ?_, ?_, Chg.refl _ _⟩
    · rw [scale_zero]
      exact (Array.getElem?_push_size : (w1.heap.push _)[w1.heap.size]? = some _)
    · rw [HB.out.2.2]
      exact O1.out.1.alloc _)
  go_loopw [9] (NewAtD (w1.alloc (.cells #[pk, .int .u32 0, .int .u32 0, .int .i64 0, .int .u64 0] 116)) w.heap.size w1.heap.size pk b) (fun i _ => 4 - (intOf i).toNat)
  case atStart => exact N0.out
  case round =>
    obtain ⟨j, hj, rfl, hc, ho, hg⟩ := hrel
    have R := Lib.hid (⟨hc, ho, hg⟩ : DCell wr w1.heap.size pk 0 0 0 (scale b j) ∧ wr.ownsRow w.heap.size 5 1 pk b.length (bts b) ∧ Chg (· = w1.heap.size) (w1.alloc (.cells #[pk, .int .u32 0, .int .u32 0, .int .i64 0, .int .u64 0] 116)) wr)
    clear hc ho hg
    by_cases hlt : j < 4
    · have t1 : (j : Int) < 4 := by omega
      have KT := Lib.hid (take_any wr w.heap.size w1.heap.size pk 0 0 0 (scale b j) b j R.out.1 R.out.2.1 HB.out.1 (by
        have h1 := scale_lt HB.out.1 j
        have h2 : 256 ^ j ≤ 256 ^ 4 := Nat.pow_le_pow_right (by omega) (by omega)
        exact Nat.lt_of_lt_of_le h1 h2))
      rw [← scale_succ] at KT
      go_wp2_with fail
      refine KT.out.mono ?_
      rintro e w3 ⟨rfl, h3, b3⟩
      have T3 := Lib.hid (⟨h3, b3⟩ : DCell w3 w1.heap.size pk 0 0 0 (scale b (j + 1)) ∧ Chg (· = w1.heap.size) wr w3)
      clear h3 b3
      go_wp2_with fail
      refine ⟨⟨j + 1, by omega, by go_num, T3.out.1, own_keep R.out.2.1 T3.out.2 (fun p hp e => own_far R.out.2.1 R.out.1 (by decide) (by rw [hp, e])), R.out.2.2.trans T3.out.2⟩, by simp [intOf]; omega⟩
    · obtain rfl : j = 4 := by omega
      go_wp2
      go_ret
      have hA : w1.heap.size ≥ w.heap.size := O1.out.2.size
      refine ⟨_, pk, rfl, ⟨R.out.1, ?_, by have := HB.out; omega, HB.out.1, inside_firstIv HB.out.1⟩, ?_, hA, fun q hq => (own_lt R.out.2.1 q hq).1⟩
      · have ho := R.out.2.1
        refine ⟨ho.1, ?_⟩
        rcases ho.2 with h1 | ⟨p, cap, cur, h1, hp, hh, h3⟩
        · exact .inl h1
        · exact .inr ⟨p, cap, cur, h1, by have := HB.out.2.1; omega, hh, h3⟩
      · refine (O1.out.2.alloc hA _).trans (R.out.2.2.below (by simp; omega) (fun q hq => by rw [hq]; exact hA))

theorem decode_nil (w : World) (t : Value) : Calls Tryd.prog 68 #[.pointer none, t] w fun e w' => e = .returned (.tuple #[.int .i64 0, .int .i64 1]) ∧ Reading w w' := by
  go_enter Tryd.func68, Tryd.ntmps68
  go_wp2
  go_ret2
  exact ⟨rfl, Reading.refl w⟩
theorem decode_notab (w : World) (p : Addr) : Calls Tryd.prog 68 #[.pointer (some p), .pointer none] w fun e w' => e = .returned (.tuple #[.int .i64 0, .int .i64 1]) ∧ Reading w w' := by
  have K := Lib.hid (symbols_nil w)
  go_enter Tryd.func68, Tryd.ntmps68
  go_wp2_with fail
  refine K.out.mono ?_
  rintro e w1 ⟨rfl, b1⟩
  have B1 := Lib.hid b1
  clear b1
  go_wp2
  go_ret2
  exact ⟨rfl, B1.out⟩
end Go.Proofs.YtjbfgajognnmiaaDoor

/- Decode of layer 4: the symbol in whose part the number of the bytes lies. -/
namespace Go.Proofs.YtjbfgajognnmiaaDoor
open Go.RowKit

/-- The number that Find is asked for. -/
def ask (x : Iv) (c : List Int) (ab : Nat) : Nat := min (ab / (x.R / tot c)) (tot c - 1)
theorem ask_lt {c : List Int} (ok : Ok c) (x : Iv) (ab : Nat) : ask x c ab < tot c := by
  have := tot_bd ok
  unfold ask; omega
/-- Its symbol's part has the number of the bytes. -/
theorem ask_inside {x : Iv} (hx : x.Good) {c : List Int} (ok : Ok c) {b : List Nat} (hb : Dig b) (hi : Inside x b) (s : Nat) (hs : s < c.length) (h1 : lowN c s ≤ ask x c (scale b (4 + x.k) - x.L)) (h2 : ask x c (scale b (4 + x.k) - x.L) < lowN c (s + 1)) :
    Inside (come x c s) b ∧ stp x c s ≤ scale b (4 + x.k) - x.L := by
  have hn := tot_bd ok
  have hp : 256 ≤ x.R / tot c := by
    rw [Nat.le_div_iff_mul_le hn.1]
    have := hx.lo
    omega
  obtain ⟨i1, i2⟩ := hi
  have hst : stp x c s ≤ scale b (4 + x.k) - x.L := by
    unfold stp
    have h3 : lowN c s ≤ (scale b (4 + x.k) - x.L) / (x.R / tot c) := Nat.le_trans h1 (Nat.min_le_left _ _)
    exact (Nat.le_div_iff_mul_le (by omega)).1 h3
  refine ⟨?_, hst⟩
  rw [inside_come hb]
  have hh := part_hi (x := x) ok s
  refine ⟨?_, ?_⟩
  · show x.L + lowN c s * (x.R / tot c) ≤ scale b (4 + x.k)
    unfold stp at hst
    omega
  · rw [hh]
    show scale b (4 + x.k) < _
    by_cases hl : s + 1 = c.length
    · rw [if_pos hl]; exact i2
    · rw [if_neg hl]
      have h3 : lowN c (s + 1) < tot c := by
        have e1 := lowN_succ ok (s + 1)
        have e2 := cntN_pos ok (s + 1) (by omega)
        have e3 := lowN_le ok (s + 1 + 1)
        omega
      have h4 : (scale b (4 + x.k) - x.L) / (x.R / tot c) < lowN c (s + 1) := by
        unfold ask at h2
        omega
      have h5 := (Nat.div_lt_iff_lt_mul (by omega)).1 h4
      omega
theorem ask_sym {x : Iv} {c : List Int} (ok : Ok c) (ab : Nat) : ∃ s, s < c.length ∧ low c s ≤ ((ask x c ab : Nat) : Int) ∧ ((ask x c ab : Nat) : Int) < low c (s + 1) ∧ lowN c s ≤ ask x c ab ∧ ask x c ab < lowN c (s + 1) := by
  have h0 := ask_lt ok x ab
  have h1 := tot_cast ok
  obtain ⟨s, hs, h2, h3⟩ := sym_exists c ((ask x c ab : Nat) : Int) (by omega) c.length (by rw [low_all c c.length (Nat.le_refl _)]; omega)
  have h4 := low_cast ok s
  have h5 := low_cast ok (s + 1)
  exact ⟨s, hs, h2, h3, by omega, by omega⟩

/-- What a call of Decode leaves. -/
def Decoded (w : World) (B g : Nat) (pk : Value) (x : Iv) (c : List Int) (b : List Nat) (e : Ending) (w' : World) : Prop :=
  ∃ s, s < c.length ∧ e = .returned (.tuple #[.int .i64 (s : Int), .int .i64 0]) ∧ DIs w' B g pk (come x c s) b ∧ Chg (· = g) w w'

/-- A round's head. -/
def DecAt (w : World) (B g : Nat) (pk : Value) (z : Iv) (b : List Nat) (gk : Nat) (wr : World) : Prop :=
  ∃ y, norm gk y = z ∧ y.R ≤ 4294967296 ∧ 0 < y.R ∧ 16777216 ≤ y.R * 256 ^ gk ∧ y.k + gk ≤ 1000003 ∧ DIs wr B g pk y b ∧ Chg (· = g) w wr

theorem inside_up {x : Iv} {b : List Nat} (hb : Dig b) (h : Inside x b) : Inside (up x) b := (inside_step hb x.k x.L x.R).2 h

set_option maxHeartbeats 4000000 in
set_option maxRecDepth 100000 in
theorem decode_ok (w : World) (B g : Nat) (pk : Value) (x : Iv) (b : List Nat) (h : DIs w B g pk x b) (hx : x.Good) (hk : x.k ≤ 1000000) (gt q cap : Nat) (c : List Int) (ht : TIs w gt q cap c) (ok : Ok c) :
    Calls Tryd.prog 68 #[.pointer (some ⟨g, 0, none⟩), .pointer (some ⟨gt, 0, none⟩)] w (Decoded w B g pk x c b) := by
  have hgt : gt ≠ g := fun e => by
    have h1 := ht.blk
    have h2 : SIs w g 116 pk _ _ _ := h.cell
    rw [e, h2] at h1
    injection h1 with h1
    injection h1 with _ h1
    exact absurd h1 (by decide)
  have hqg : q ≠ g := fun e => by
    obtain ⟨r, h1⟩ := ht.row
    have h2 : SIs w g 116 pk _ _ _ := h.cell
    rw [e, h2] at h1
    injection h1 with h1
    injection h1 with _ h1
    exact absurd h1 (by decide)
  obtain ⟨s, hs, s1, s2, s3, s4⟩ := ask_sym (x := x) ok (scale b (4 + x.k) - x.L)
  obtain ⟨si, ss⟩ := ask_inside hx ok h.dig h.inside s hs s3 s4
  have hn := tot_bd ok
  have KS := Lib.hid (symbols_any w gt q cap c ht)
  have KP := Lib.hid (fun w' (b' : Reading w w') => part_any w' g 116 pk _ _ _ (SIs.read h.cell b') (by omega) (by omega) gt q cap c (ht.read b') ok)
  have e1 : (x.R : Int) / c.sum = ((x.R / tot c : Nat) : Int) := by rw [Int.natCast_ediv, tot_cast ok]
  rw [wid_cast x.R (by have := hx.lo; omega) hx.hi, e1] at KP
  have KT := Lib.hid (fun w' (b' : Reading w w') => total_any w' gt q cap c (ht.read b') ok.pos ok.few)
  rw [← tot_cast ok] at KT
  have KF := Lib.hid (fun w' (b' : Reading w w') => find_ok w' gt q cap c _ s (ht.read b') ok hs s1 s2)
  have KN := Lib.hid (fun w' (b' : Below w.heap.size w w') => narrow_iv w' g 116 pk x _ (SIs.below h.cell b') (by have := hx.lo; omega) hx.hi gt q cap c (ht.below b') ok s hs)
  have hp : 0 < x.R / tot c := by
    have := (Nat.le_div_iff_mul_le (x := 1) (y := x.R) hn.1).2 (by have := hx.lo; omega)
    omega
  have hab : scale b (4 + x.k) - x.L < 4294967296 := by have := h.inside.1; have := h.inside.2; have := hx.hi; omega
  have hpR : x.R / tot c ≤ 4294967296 := by have := Nat.div_le_self x.R (tot c); have := hx.hi; omega
  have c4 := h.cell.ab
  have H := Lib.hid h
  have HX := Lib.hid hx
  have OK := Lib.hid ok
  have HS := Lib.hid (⟨hs, si, ss⟩ : s < c.length ∧ Inside (come x c s) b ∧ stp x c s ≤ scale b (4 + x.k) - x.L)
  have n1 := ok.pos
  have n2 := ok.few
  have hask : ask x c (scale b (4 + x.k) - x.L) = min ((scale b (4 + x.k) - x.L) / (x.R / tot c)) (tot c - 1) := rfl
  clear h hx ht ok hs si ss s1 s2 s3 s4 e1
  generalize hA : ask x c (scale b (4 + x.k) - x.L) = a at *
  generalize hAB : scale b (4 + x.k) - x.L = ab at *
  generalize hP : x.R / tot c = p at *
  generalize hT : tot c = tt at *
  generalize hN : c.length = n at *
  have E := Lib.hid (⟨hA, hAB, hP, hT, hN⟩ : ask x c ab = a ∧ scale b (4 + x.k) - x.L = ab ∧ x.R / tt = p ∧ tot c = tt ∧ c.length = n)
  clear hA hAB hP hT hN
  have t1 : ((n : Int) == 0) = false := by simp; omega
  obtain ⟨pI, hpI⟩ : ∃ pI : Int, pI = (p : Int) := ⟨_, rfl⟩
  obtain ⟨tI, htI⟩ : ∃ tI : Int, tI = (tt : Int) := ⟨_, rfl⟩
  obtain ⟨aI, haI⟩ : ∃ aI : Int, aI = (a : Int) := ⟨_, rfl⟩
  obtain ⟨bI, hbI⟩ : ∃ bI : Int, bI = (ab : Int) := ⟨_, rfl⟩
  rw [← hpI] at KP
  rw [← htI] at KT
  rw [← haI] at KF
  rw [← hbI] at c4
  have q1 : 0 < pI := by omega
  have q2 : pI ≠ 0 := by omega
  have q3 : (pI == 0) = false := by simp [q2]
  have q4 : 0 ≤ bI ∧ bI < 4294967296 := by omega
  have q5 : 0 < tI ∧ tI ≤ 65536 := by omega
  have q6 : 0 ≤ bI / pI := Int.ediv_nonneg (by omega) (by omega)
  have q7 : bI / pI ≤ bI := Int.ediv_le_self _ (by omega)
  have m4 : bI.tdiv pI = bI / pI := Int.tdiv_eq_ediv_of_nonneg (by omega)
  have m5 : IntKind.u64.wrap (bI / pI) = bI / pI := IntWalk.u64_in _ (by omega)
  have m1 : IntKind.u64.wrap (tI - 1) = tI - 1 := IntWalk.u64_in _ (by omega)
  have m2 : IntKind.i64.wrap (tI - 1) = tI - 1 := IntWalk.i64_in _ (by omega)
  have m6 : min (bI / pI) (tI - 1) = aI := by
    rw [haI, hask, hbI, hpI, htI, ← Int.natCast_ediv]
    omega
  have m7 : 0 ≤ aI ∧ aI ≤ 65536 := by omega
  have m8 : IntKind.i64.wrap aI = aI := IntWalk.i64_in _ (by omega)
  have EI := Lib.hid (⟨hpI, htI, haI, hbI⟩ : pI = (p : Int) ∧ tI = (tt : Int) ∧ aI = (a : Int) ∧ bI = (ab : Int))
  have HAB := Lib.hid hab
  clear hpI htI haI hbI hask hab hp hpR hn
  go_enter Tryd.func68, Tryd.ntmps68
  go_wp2_with fail
  refine KS.out.mono ?_
  rintro e w1 ⟨rfl, b1⟩
  have d4 : w1.cell? ⟨g, 4, none⟩ = some (.int .u64 bI) := by obtain ⟨m0, rfl⟩ := b1; exact c4
  have KP2 := Lib.hid (fun m => KP.out (w1.drewN m) (b1.trans ⟨m, rfl⟩))
  have KT2 := Lib.hid (fun m => KT.out (w1.drewN m) (b1.trans ⟨m, rfl⟩))
  have B1 := Lib.hid b1
  clear b1 KP KT
  go_wp2_with fail
  go_quiet (first | (go_at_call 57; exact Calls.quiet_of (KP2.out _)) | (go_at_call 45; exact Calls.quiet_of (KT2.out _)))
  have B2 := Lib.hid (B1.out.trans ⟨nq, rfl⟩ : Reading w (w1.drewN nq))
  generalize w1.drewN nq = w2 at *
  clear KP2 KT2 d4
  go_wp2_with fail
  refine (KF.out w2 B2.out).mono ?_
  rintro e w3 ⟨rfl, b3⟩
  have B3 := Lib.hid (show Below w.heap.size w w3 from B2.out.below.trans (b3.mono (by rw [B2.out.heap]; exact Nat.le_refl _)))
  clear b3
  have D3 := Lib.hid (H.out.below B3.out)
  have d4 : w3.cell? ⟨g, 4, none⟩ = some (.int .u64 bI) := by
    have := D3.out.cell.ab
    rw [E.out.2.1, ← EI.out.2.2.2] at this
    exact this
  obtain ⟨stI, hstI⟩ : ∃ stI : Int, stI = ((stp x c s : Nat) : Int) := ⟨_, rfl⟩
  have KN2 := Lib.hid (fun X (r : Reading w3 X) => KN.out X (B3.out.trans (r.below)))
  rw [← hstI] at KN2
  have q8 : 0 ≤ stI ∧ stI ≤ bI := by
    have h1 := HS.out.2.2
    have h2 := EI.out.2.2.2
    have h3 := E.out.2.1
    omega
  have m11 : IntKind.u64.wrap stI = stI := IntWalk.u64_in _ (by omega)
  have m9 : IntKind.u64.wrap (bI - stI) = bI - stI := IntWalk.u64_in _ (by omega)
  have HST := Lib.hid hstI
  clear hstI KN KF
  go_wp2_with fail
  go_region_law (first
    | (go_simp; go_at_call 40; refine (KN2.out _ ⟨_, rfl⟩).mono ?_; rintro e w4 ⟨rfl, h4, b4⟩; have k4 : w4.cell? ⟨g, 4, none⟩ = some (.int .u64 bI) := (by rw [cell_in h4, EI.out.2.2.2, ← E.out.2.1]; rfl); have f4 := frozen_in h4 4; have H4 := Lib.hid h4; have C4 := Lib.hid b4; clear h4 b4))
  all_goals
    have L5 := Lib.hid (show DecAt w B g pk (come x c s) b 3 (w4.setCell ⟨g, 4, none⟩ (.int .u64 (bI - stI))) by
      have hsl : s < c.length := by rw [E.out.2.2.2.2]; exact HS.out.1
      have yR := part_R HX.out OK.out s hsl
      have hin := HS.out.2.1
      rw [inside_come H.out.dig] at hin
      have xH := HX.out.hi
      have e5 : scale b (4 + (cut x c s).k) - (cut x c s).L = ab - stp x c s := by
        rw [cut_L, cut_k]
        have := E.out.2.1
        omega
      have hcell : DCell w4 g pk (((cut x c s).L % 4294967296 : Nat) : Int) (((cut x c s).R % 4294967296 : Nat) : Int) (cut x c s).k ab := by
        exact H4.out
      have h6 := DCell.setAb hcell (ab - stp x c s) (bI - stI) (by have h1 := HST.out; have h2 := EI.out.2.2.2; have h3 := HS.out.2.2; have h4 := E.out.2.1; omega)
      have hC : Chg (· = g) w (w4.setCell ⟨g, 4, none⟩ (.int .u64 (bI - stI))) := ((((Chg.refl _ w).trans (.of_below B3.out)).read ⟨1, rfl⟩).trans C4.out).set _ _ (by exact rfl)
      refine ⟨cut x c s, rfl, by show (cut x c s).R ≤ _; exact Nat.le_trans yR.2 xH, by show 0 < (cut x c s).R; exact Nat.lt_of_lt_of_le (by decide) yR.1, ?_, by rw [cut_k]; omega, ⟨by rw [e5]; exact h6, ?_, H.out.low, H.out.dig, hin⟩, hC⟩
      · have h7 : 256 ≤ (cut x c s).R := yR.1
        show 16777216 ≤ (cut x c s).R * 256 ^ 3
        omega
      · exact own_keep H.out.row hC (fun p' hp' e' => H.out.far (by rw [hp', e'])))
    generalize w4.setCell ⟨g, 4, none⟩ (.int .u64 (bI - stI)) = w5 at *
    clear k4 f4
    go_wp2_with fail
    go_loopg [] 3 (DecAt w B g pk (come x c s) b)
    case atStart => exact L5.out
    case round =>
      obtain ⟨z, hz, zH, zP, zL, zk, ze, zc⟩ := hrel
      have KSm := Lib.hid (small_any wr g 116 pk _ _ _ ze.cell (by omega) (by omega))
      rw [wid_cast z.R zP zH] at KSm
      have Z := Lib.hid (⟨hz, zL, zk, ze, zc⟩ : norm gk z = come x c s ∧ 16777216 ≤ z.R * 256 ^ gk ∧ z.k + gk ≤ 1000003 ∧ DIs wr B g pk z b ∧ Chg (· = g) w wr)
      clear hz zL zk ze zc
      go_wp2_with fail
      refine KSm.out.mono ?_
      rintro e w6 ⟨rfl, b6⟩
      have B6 := Lib.hid b6
      clear b6
      by_cases hr : z.R < 16777216
      · have d2 : decide ((z.R : Int) < 16777216) = true := by simp; omega
        rw [d2]
        obtain ⟨t, ht⟩ : ∃ t, gk = t + 1 := ⟨gk - 1, by
          rcases Nat.eq_zero_or_pos gk with h0 | h0
          · have := Z.out.2.1
            rw [h0] at this
            omega
          · omega⟩
        subst ht
        have hzk : z.k ≤ 1000003 := by have := Z.out.2.2.1; omega
        have E6 := Lib.hid (Z.out.2.2.2.1.read B6.out)
        have KG := Lib.hid (grow_any w6 g 116 pk _ _ _ E6.out.cell (by omega) (by omega) (by omega) (by omega))
        have HR := Lib.hid hr
        clear hr d2 zH zP
        go_wp2_with fail
        refine KG.out.mono ?_
        rintro e w7 ⟨rfl, h7, b7⟩
        have g7 : DCell w7 g pk ((z.L * 256 % 4294967296 : Nat) : Int) ((z.R * 256 % 4294967296 : Nat) : Int) z.k (scale b (4 + z.k) - z.L) := by
          have e1 : ((z.L % 4294967296 : Nat) : Int) * 256 % 4294967296 = ((z.L * 256 % 4294967296 : Nat) : Int) := by omega
          have e2 : ((z.R % 4294967296 : Nat) : Int) * 256 = ((z.R * 256 % 4294967296 : Nat) : Int) := by have := HR.out; omega
          rw [e1, e2] at h7
          exact h7
        have k3 := g7.k
        have D7 := Lib.hid g7
        have C7 := Lib.hid b7
        have O7 := Lib.hid (own_keep E6.out.row b7 (fun p' hp' e' => E6.out.far (by rw [hp', e'])))
        have hab7 : scale b (4 + z.k) - z.L < 4294967296 := by have h1 := E6.out.inside.1; have h2 := E6.out.inside.2; have := HR.out; omega
        have KK := Lib.hid (take_any w7 B g pk _ _ z.k _ b (4 + z.k) D7.out O7.out E6.out.dig hab7)
        have e9 : ((4 + z.k : Nat) : Int) = 4 + (z.k : Int) := by omega
        rw [e9] at KK
        have m10 : IntKind.i64.wrap (4 + (z.k : Int)) = 4 + (z.k : Int) := IntWalk.i64_in _ (by omega)
        clear h7 b7 g7 hab7 e9
        go_wp2_with fail
        refine KK.out.mono ?_
        rintro e w8 ⟨rfl, h8, b8⟩
        have k8 := h8.k
        have f8 := frozen_in h8 3
        have D8 := Lib.hid h8
        have C8 := Lib.hid b8
        clear h8 b8
        go_wp2_with fail
        go_roundg t
        case measure => omega
        case rel =>
          obtain ⟨hz, zL, zk, ze, zc⟩ := Z.out
          have hr := HR.out
          have hC : Chg (· = g) w (w8.setCell ⟨g, 3, none⟩ (.int .i64 ((z.k : Int) + 1))) := (((zc.read B6.out).trans C7.out).trans C8.out).set _ _ (by exact rfl)
          have e5 : scale b (4 + (up z).k) - (up z).L = (scale b (4 + z.k) - z.L) * 256 + b.getD (4 + z.k) 0 := by
            show scale b (4 + (z.k + 1)) - z.L * 256 = _
            rw [← Nat.add_assoc, scale_succ]
            have := E6.out.inside.1
            omega
          refine ⟨up z, by rw [← norm_small t z hr]; exact hz, ?_, ?_, ?_, ?_, ⟨?_, ?_, ze.low, ze.dig, inside_up ze.dig ze.inside⟩, hC⟩
          · show z.R * 256 ≤ 4294967296
            omega
          · show 0 < z.R * 256
            have := Nat.pos_of_mul_pos_right (Nat.lt_of_lt_of_le (by decide : 0 < 16777216) zL)
            omega
          · show 16777216 ≤ z.R * 256 * 256 ^ t
            rw [Nat.mul_assoc, Nat.mul_comm 256, ← Nat.pow_succ]
            exact zL
          · show z.k + 1 + t ≤ 1000003
            omega
          · rw [e5]
            exact DCell.setK D8.out (z.k + 1) _ (by omega)
          · exact own_keep (own_keep O7.out C8.out (fun p' hp' e' => ze.far (by rw [hp', e']))) (Chg.of_set (S := (· = g)) w8 ⟨g, 3, none⟩ _ rfl) (fun p' hp' e' => ze.far (by rw [hp', e']))
      · have d2 : decide ((z.R : Int) < 16777216) = false := by simp; omega
        rw [d2]
        have HR := Lib.hid hr
        clear hr d2
        go_wp2
        go_ret2
        obtain ⟨hz, zL, zk, ze, zc⟩ := Z.out
        refine ⟨s, by rw [E.out.2.2.2.2]; exact HS.out.1, rfl, ?_, zc.read B6.out⟩
        rw [← hz, norm_big gk z (by have := HR.out; omega)]
        exact ze.read B6.out
end Go.Proofs.YtjbfgajognnmiaaDoor

/- Tables, encoders and decoders side by side (as CSide has it, without layer 4's law and reference): for the layers above. -/
namespace Go.Proofs.YtjbfgajognnmiaaDoor
open Go.RowKit

theorem alloc_below (w : World) (o : Obj) : Below w.heap.size w (w.alloc o) := ⟨rfl, rfl, rfl, by simp, fun b hb => Below.heap_alloc _ _ _ hb⟩
theorem reads_one (w : World) (d : Nat) : Reads (w.alloc (.cells #[.int .u8 (d : Int)] 5)) (some ⟨w.heap.size, 0, none⟩) 1 (bts [d]) :=
  Reads.of_block (t := 5) (xs := [.int .u8 (d : Int)]) (Array.getElem?_push_size : (w.heap.push _)[w.heap.size]? = some _)
theorem block_ne {w : World} {a b : Nat} {ca cb : Array Value} {s t : TypeId} (ha : w.heap[a]? = some (.cells ca s (0, 0))) (hb : w.heap[b]? = some (.cells cb t (0, 0))) (h : s ≠ t) : a ≠ b := by
  intro e
  subst e
  rw [ha] at hb
  injection hb with hb
  injection hb with _ hb
  exact h hb
section
variable {S : Nat → Prop} {w w' : World} {B g gt q cap : Nat} {v pk : Value} {x : Iv} {b : List Nat} {c : List Int}
theorem own_ne {n p : Nat} {xs : List Value} {cp : Array Value} {t : TypeId} (h : w.ownsRow B 5 1 v n xs) (hp : w.heap[p]? = some (.cells cp t (0, 0))) (ht : t ≠ 5) : v.ownBlock ≠ some p := by
  intro e
  obtain ⟨_, _, cur, hc⟩ := own_lt h p e
  exact block_ne hp hc ht rfl
theorem TIs.keepC (h : TIs w gt q cap c) (hc : Chg S w w') (h1 : ¬ S gt) (h2 : ¬ S q) : TIs w' gt q cap c := h.keep (hc.far gt h.lt h1) (hc.far q h.lt' h2)
theorem TIs.enc (h : TIs w gt q cap c) (he : EIs w B g v x) (hc : Chg (ESet g v) w w') : TIs w' gt q cap c := by
  obtain ⟨r, hr⟩ := h.row
  refine h.keepC hc ?_ ?_
  · rintro (e | e)
    · exact block_ne h.blk he.sp (by decide) e
    · exact own_ne he.row h.blk (by decide) e
  · rintro (e | e)
    · exact block_ne hr he.sp (by decide) e
    · exact own_ne he.row hr (by decide) e
theorem TIs.dec (h : TIs w gt q cap c) (hd : DIs w B g pk x b) (hc : Chg (· = g) w w') : TIs w' gt q cap c := by
  obtain ⟨r, hr⟩ := h.row
  have h2 : w.heap[g]? = _ := hd.cell
  exact h.keepC hc (fun e => block_ne h.blk h2 (by decide) e) (fun e => block_ne hr h2 (by decide) e)
theorem EIs.bump (h : EIs w B g v x) (ht : TIs w gt q cap c) (hc : w.grownBy w' (some q)) : EIs w' B g v x := by
  obtain ⟨r, hr⟩ := ht.row
  refine h.keep (S := (· = q)) (.of_grown hc (fun p hp => by injection hp with hp; exact hp.symm)) (fun e => block_ne h.sp hr (by decide) e) (fun p hp e => own_ne h.row hr (by decide) (by rw [hp, e]))
theorem DIs.bump (h : DIs w B g pk x b) (ht : TIs w gt q cap c) (hc : w.grownBy w' (some q)) : DIs w' B g pk x b := by
  obtain ⟨r, hr⟩ := ht.row
  have h2 : w.heap[g]? = _ := h.cell
  exact h.keep (S := (· = q)) (.of_grown hc (fun p hp => by injection hp with hp; exact hp.symm)) (fun e => block_ne h2 hr (by decide) e) (fun p hp e => own_ne h.row hr (by decide) (by rw [hp, e]))
theorem TIs.bumped2 {gu qu cu : Nat} {cc : List Int} (h : TIs w gu qu cu cc) (ht : TIs w gt q cap c) (hne : qu ≠ q) (hc : w.grownBy w' (some q)) : TIs w' gu qu cu cc := by
  obtain ⟨r, hr⟩ := ht.row
  exact h.keepC (S := (· = q)) (.of_grown hc (fun p hp => by injection hp with hp; exact hp.symm)) (fun e => block_ne h.blk hr (by decide) e) hne
end

def Apt (v v' : Value) : Prop := ∀ q, v.ownBlock = some q → v'.ownBlock = some q → False
theorem Apt.symm {v v' : Value} (h : Apt v v') : Apt v' v := fun q h1 h2 => h q h2 h1
/-- Two encoders: one goes on, the other one stays as it is. -/
theorem EIs.beside {w w' : World} {B g1 g2 : Nat} {v1 v2 : Value} {x1 x2 y : Iv} (h1 : EIs w B g1 v1 x1) (h2 : EIs w B g2 v2 x2) (hne : g1 ≠ g2) (ha : Apt v1 v2) (h : Went w B g1 v1 y w') :
    ∃ v1', EIs w' B g1 v1' y ∧ EIs w' B g2 v2 x2 ∧ Apt v1' v2 := by
  obtain ⟨v1', e1, c1, m1⟩ := h
  refine ⟨v1', e1, h2.keep c1 ?_ ?_, ?_⟩
  · rintro (e | e)
    · exact hne e.symm
    · exact own_ne h1.row h2.sp (by decide) e
  · rintro q hq (e | e)
    · exact own_ne h2.row h1.sp (by decide) (by rw [hq, e])
    · exact ha q e hq
  · intro q hq hq2
    rcases m1 q hq with h3 | h3
    · exact ha q h3 hq2
    · have := (own_lt h2.row q hq2).2.1
      omega

end Go.Proofs.YtjbfgajognnmiaaDoor

/- Tables in a list that is indexed by contexts, some of which may not be there yet (for layer 5). -/
namespace Go.Proofs.YtjbfgajognnmiaaDoor
open Go.RowKit

/-- Where the table of a context lies, if there is one: its block, that of its sums, their room. -/
abbrev Where := Nat → Option (Nat × Nat × Nat)
def ptrOf : Option (Nat × Nat × Nat) → Value
  | none => .pointer none
  | some p => .pointer (some ⟨p.1, 0, none⟩)
def ptrs (m : Where) (N : Nat) : List Value := (List.range N).map fun c => ptrOf (m c)
theorem length_ptrs (m : Where) (N : Nat) : (ptrs m N).length = N := by simp [ptrs]
theorem ptrs_at (m : Where) (N c : Nat) (h : c < N) : (ptrs m N)[c]? = some (ptrOf (m c)) := by simp [ptrs, h]
def Where.set (m : Where) (c : Nat) (p : Nat × Nat × Nat) : Where := fun d => if d = c then some p else m d
theorem ptrs_set (m : Where) (N c : Nat) (p : Nat × Nat × Nat) : (ptrs m N).set c (.pointer (some ⟨p.1, 0, none⟩)) = ptrs (m.set c p) N := by
  apply List.ext_getElem?
  intro d
  rw [List.getElem?_set]
  by_cases hd : d < N
  · rw [ptrs_at _ _ _ hd, ptrs_at _ _ _ hd]
    by_cases hc : c = d
    · subst hc
      rw [if_pos rfl, if_pos (by rw [length_ptrs]; exact hd)]
      simp [Where.set, ptrOf]
    · rw [if_neg hc]
      simp [Where.set, Ne.symm hc]
  · have h1 : ∀ m : Where, (ptrs m N)[d]? = none := fun m => List.getElem?_eq_none (by rw [length_ptrs]; omega)
    rw [h1, h1]
    split
    · rw [if_neg (by rw [length_ptrs]; omega)]
    · rfl

/-- The list lies in block q; each table that is there has its counts; no two share their sums. -/
structure Tabs (w : World) (q N : Nat) (m : Where) (st : Nat → List Int) : Prop where
  blk : w.heap[q]? = some (.cells (ptrs m N).toArray 51 (0, 0))
  tab : ∀ c p, c < N → m c = some p → TIs w p.1 p.2.1 p.2.2 (st c)
  one : ∀ c d p r, c < N → d < N → m c = some p → m d = some r → p.2.1 = r.2.1 → c = d

section
variable {S : Nat → Prop} {w w' : World} {B q N g : Nat} {m : Where} {st : Nat → List Int} {v pk : Value} {x : Iv} {b : List Nat}
theorem Tabs.lt (h : Tabs w q N m st) : q < w.heap.size := heap_lt h.blk
theorem Tabs.cell (h : Tabs w q N m st) (c : Nat) (hc : c < N) : w.cell? ⟨q, c, none⟩ = some (ptrOf (m c)) := by
  rw [cell_in h.blk, List.getElem?_toArray, ptrs_at _ _ _ hc]
theorem Tabs.keepC (h : Tabs w q N m st) (hc : Chg S w w') (h1 : ¬ S q) (h2 : ∀ c p, c < N → m c = some p → ¬ S p.1 ∧ ¬ S p.2.1) : Tabs w' q N m st :=
  ⟨(hc.far q h.lt h1).trans h.blk, fun c p hcn hp => (h.tab c p hcn hp).keepC hc (h2 c p hcn hp).1 (h2 c p hcn hp).2, h.one⟩
theorem Tabs.below (h : Tabs w q N m st) (hb : Below w.heap.size w w') : Tabs w' q N m st := h.keepC (S := fun _ => False) (.of_below hb) id (fun _ _ _ _ => ⟨id, id⟩)
theorem Tabs.read (h : Tabs w q N m st) (hb : Reading w w') : Tabs w' q N m st := h.below hb.below
theorem Tabs.enc (h : Tabs w q N m st) (he : EIs w B g v x) (hc : Chg (ESet g v) w w') : Tabs w' q N m st := by
  refine ⟨(hc.far q h.lt ?_).trans h.blk, fun c p hcn hp => (h.tab c p hcn hp).enc he hc, h.one⟩
  rintro (e | e)
  · exact block_ne h.blk he.sp (by decide) e
  · exact own_ne he.row h.blk (by decide) e
theorem Tabs.dec (h : Tabs w q N m st) (hd : DIs w B g pk x b) (hc : Chg (· = g) w w') : Tabs w' q N m st := by
  have h2 : w.heap[g]? = _ := hd.cell
  exact ⟨(hc.far q h.lt (fun e => block_ne h.blk h2 (by decide) e)).trans h.blk, fun c p hcn hp => (h.tab c p hcn hp).dec hd hc, h.one⟩
/-- A table is bumped. -/
theorem Tabs.bump (h : Tabs w q N m st) (c s : Nat) (p : Nat × Nat × Nat) (hc : c < N) (hp : m c = some p) (ht : TIs w' p.1 p.2.1 p.2.2 (bumped (st c) s)) (hg : w.grownBy w' (some p.2.1)) : Tabs w' q N m (turn st c s) := by
  have hT := h.tab c p hc hp
  obtain ⟨r, hr⟩ := hT.row
  refine ⟨(hg.block q h.lt (fun e => by injection e with e; exact block_ne h.blk hr (by decide) e)).trans h.blk, fun d r' hd hr' => ?_, h.one⟩
  by_cases hdc : d = c
  · subst hdc
    rw [hp] at hr'
    injection hr' with hr'
    subst hr'
    have : turn st d s d = bumped (st d) s := by unfold turn; rw [if_pos rfl]
    rw [this]
    exact ht
  · have : turn st c s d = st d := by unfold turn; rw [if_neg hdc]
    rw [this]
    exact (h.tab d r' hd hr').bumped2 hT (fun e => hdc (h.one d c r' p hd hc hr' hp e)) hg
/-- A table is made, and laid into the list. -/
theorem Tabs.laid (h : Tabs w q N m st) (c : Nat) (p : Nat × Nat × Nat) (hc : c < N) (hb : Below w.heap.size w w') (ht : TIs w' p.1 p.2.1 p.2.2 (st c)) (hq : w.heap.size ≤ p.2.1) :
    Tabs (w'.setCell ⟨q, c, none⟩ (.pointer (some ⟨p.1, 0, none⟩))) q N (m.set c p) st ∧ Chg (· = q) w' (w'.setCell ⟨q, c, none⟩ (.pointer (some ⟨p.1, 0, none⟩))) := by
  have h1 := h.below hb
  have hch : Chg (· = q) w' (w'.setCell ⟨q, c, none⟩ (.pointer (some ⟨p.1, 0, none⟩))) := .of_set w' _ _ rfl
  have hset : ∀ d r, d < N → (m.set c p) d = some r → (d = c ∧ r = p) ∨ (d ≠ c ∧ m d = some r) := fun d r _ hr => by
    unfold Where.set at hr
    split at hr
    · injection hr with hr
      exact .inl ⟨by assumption, hr.symm⟩
    · exact .inr ⟨by assumption, hr⟩
  refine ⟨⟨?_, fun d r hd hr => ?_, fun d d' r r' hd hd' hr hr' e => ?_⟩, hch⟩
  · rw [heap_set h1.blk, List.setIfInBounds_toArray, ptrs_set]
  · have key : ∀ {g' q' cap' : Nat} {cc : List Int}, TIs w' g' q' cap' cc → TIs (w'.setCell ⟨q, c, none⟩ (.pointer (some ⟨p.1, 0, none⟩))) g' q' cap' cc := fun {g' q' cap' cc} hh => by
      obtain ⟨rr, hrr⟩ := hh.row
      exact hh.keepC hch (fun e => block_ne hh.blk h1.blk (by decide) e) (fun e => block_ne hrr h1.blk (by decide) e)
    rcases hset d r hd hr with ⟨rfl, rfl⟩ | ⟨_, hr⟩
    · exact key ht
    · exact key (h1.tab d r hd hr)
  · rcases hset d r hd hr with ⟨hd1, hr1⟩ | ⟨_, hr1⟩
    · rcases hset d' r' hd' hr' with ⟨hd2, _⟩ | ⟨_, hr2⟩
      · rw [hd1, hd2]
      · have := (h.tab d' r' hd' hr2).lt'
        rw [hr1] at e
        omega
    · rcases hset d' r' hd' hr' with ⟨_, hr2⟩ | ⟨_, hr2⟩
      · have := (h.tab d r hd hr1).lt'
        rw [hr2] at e
        omega
      · exact h.one d d' r r' hd hd' hr1 hr2 e
theorem EIs.tabs (he : EIs w B g v x) (h : Tabs w q N m st) (hc : Chg (· = q) w w') : EIs w' B g v x :=
  he.keep hc (fun e => block_ne he.sp h.blk (by decide) e) (fun p hp e => own_ne he.row h.blk (by decide) (by rw [hp, e]))
theorem DIs.tabs (hd : DIs w B g pk x b) (h : Tabs w q N m st) (hc : Chg (· = q) w w') : DIs w' B g pk x b := by
  have h2 : w.heap[g]? = _ := hd.cell
  exact hd.keep hc (fun e => block_ne h2 h.blk (by decide) e) (fun p hp e => own_ne hd.row h.blk (by decide) (by rw [hp, e]))
end
end Go.Proofs.YtjbfgajognnmiaaDoor
