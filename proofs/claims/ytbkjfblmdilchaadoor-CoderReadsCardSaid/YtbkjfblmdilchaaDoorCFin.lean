/- Finish of layer 4: the code of the interval, in a row of its own. -/
import Derived.Test.YtbkjfblmdilchaaDoorCBytes
import Derived.Test.YtbkjfblmdilchaaDoorIvCode
namespace Go.Proofs.YtbkjfblmdilchaaDoor
open Go.RowKit

def CodeIs (w : World) (x : Iv) (e : Ending) (w' : World) : Prop := ∃ (b : List Nat) (v : Value), e = .returned v ∧ IsCode x b ∧ w'.ownsRow w.heap.size 5 1 v b.length (bts b) ∧ Below w.heap.size w w'

theorem own_trim {w : World} {B n q cap m : Nat} {l : List Nat} (h : w.ownsRow B 5 1 (.slice (some ⟨q, 0, none⟩) n cap) n (bts l)) (hm : m ≤ n) : w.ownsRow B 5 1 (.slice (some ⟨q, 0, none⟩) m cap) m (bts (l.take m)) := by
  have hl : l.length = n := by have := h.1; rw [length_bts] at this; omega
  rcases h.2 with ⟨h1, _⟩ | ⟨q', cap', cur, h1, hq, hh, hc, hx, hs, ht⟩
  · cases h1
  · injection h1 with h1 _ h3
    injection h1 with h1
    injection h1 with h1
    subst h1 h3
    refine ⟨by rw [length_bts, List.length_take]; omega, .inr ⟨q, cap, cur, rfl, hq, hh, by omega, hx, hs, ?_⟩⟩
    rw [show bts (l.take m) = (bts l).take m by simp [bts, List.map_take], ← ht, List.take_take]
    congr 1
    omega
theorem own_addr {w : World} {B n cap : Nat} {ad : Addr} {l : List Value} (h : w.ownsRow B 5 1 (.slice (some ad) n cap) n l) : ∃ q, ad = ⟨q, 0, none⟩ ∧ n ≤ cap := by
  rcases h.2 with ⟨h1, _⟩ | ⟨q', cap', cur, h1, hq, hh, hc, _⟩
  · cases h1
  · injection h1 with h1 _ h3
    injection h1 with h1
    subst h1 h3
    exact ⟨q', rfl, hc⟩
theorem own_info {w : World} {B n : Nat} {v : Value} {l : List Value} (h : w.ownsRow B 5 1 v n l) : (v = .slice none 0 0 ∧ n = 0) ∨ ∃ q c, v = .slice (some ⟨q, 0, none⟩) n c ∧ n ≤ c := by
  rcases h.2 with h1 | ⟨q, c, cur, h1, hq, hh, hc, _⟩
  · exact .inl h1
  · exact .inr ⟨q, c, h1, hc⟩

set_option maxHeartbeats 3200000 in
set_option maxRecDepth 100000 in
theorem finish_any (w : World) (B g : Nat) (v : Value) (x : Iv) (h : EIs w B g v x) (hx : x.Good) (hk : x.k ≤ 1000000) :
    Calls Tryd.prog 18 #[.pointer (some ⟨g, 0, none⟩)] w (CodeIs w x) := by
  obtain ⟨i0, hi, hz0, hz1, hz2⟩ := info_parts Tryd.infoU8
  obtain ⟨A, c, hv, hA, hR⟩ := Reads.of_own h.row
  subst hv
  have c0 : w.cell? ⟨g, 0, none⟩ = some (.slice A x.k c) := by rw [cell_in h.sp]; rfl
  have KC := Lib.hid (cloneB_any w A x.k c (ahd x) hR (by omega))
  have xlo := hx.lo
  have xhi := hx.hi
  have xtop := hx.top
  rw [pow4] at xtop
  have H := Lib.hid h
  have HX := Lib.hid hx
  have hd : evenIv x ↔ (((x.L % 4294967296 : Nat) : Int) = 0 ∨ 4294967296 < ((x.L % 4294967296 : Nat) : Int) + (x.R : Int)) := by unfold evenIv; omega
  have KE := Lib.hid (fun w' (b : Below w.heap.size w w') => even_any w' g 62 (.slice A x.k c) _ _ [] (h.sp.below b) (by omega) (by omega) (by omega) (by omega))
  rw [wid_cast x.R (by omega) xhi] at KE
  have hde : decide (((x.L % 4294967296 : Nat) : Int) = 0 ∨ 4294967296 < ((x.L % 4294967296 : Nat) : Int) + (x.R : Int)) = decide (evenIv x) := decide_eq_decide.2 hd.symm
  rw [hde] at KE
  have HT := Lib.hid (⟨xlo, xhi, xtop⟩ : 16777216 ≤ x.R ∧ x.R ≤ 4294967296 ∧ x.L + x.R ≤ 256 ^ x.k * 4294967296)
  obtain ⟨lo, hlo⟩ : ∃ lo : Int, lo = ((x.L % 4294967296 : Nat) : Int) := ⟨_, rfl⟩
  have S := Lib.hid (fun w' (b : Below w.heap.size w w') => show w'.cell? ⟨g, 1, none⟩ = some (.int .u32 lo) by rw [hlo]; exact (h.sp.below b).lo)
  have bl : 0 ≤ lo ∧ lo < 4294967296 := by omega
  have HLO := Lib.hid hlo
  clear h hx hde hd hR hA xlo xhi xtop hlo
  by_cases he : evenIv x
  · rw [decide_eq_true he] at KE
    obtain ⟨V, v1, v2, v3⟩ := even_mult he HX.out
    have HV := Lib.hid (⟨v1, v2, v3⟩ : x.L ≤ V * 4294967296 ∧ V * 4294967296 < x.L + x.R ∧ V = if x.L % 4294967296 = 0 then x.L / 4294967296 else x.L / 4294967296 + 1)
    have hVk : V < 256 ^ x.k := by
      have h3 : V * 4294967296 < 256 ^ x.k * 4294967296 := Nat.lt_of_lt_of_le v2 HT.out.2.2
      exact Nat.lt_of_mul_lt_mul_right h3
    have HVK := Lib.hid hVk
    clear he v1 v2 v3 hVk
    -- what trimming leaves
    have FIN := Lib.hid (show ∀ (w2 : World) (q cap m : Nat), w2.ownsRow w.heap.size 5 1 (.slice (some ⟨q, 0, none⟩) x.k cap) x.k (bts (digs x.k V)) → Trims (digs x.k V) m → Below w.heap.size w w2 → CodeIs w x (.returned (.slice (some ⟨q, 0, none⟩) m cap)) w2 from by
      intro w2 q cap m ho ht hb
      have hl := ht.1
      rw [length_digs] at hl
      refine ⟨_, _, rfl, even_code HX.out V m HV.out.1 HV.out.2.1 hl (fun j h1 h2 => ht.2.1 j h1 (by rw [length_digs]; exact h2)) ht.2.2, ?_, hb⟩
      rw [List.length_take, length_digs, Nat.min_eq_left hl]
      exact own_trim ho hl)
    by_cases hl0 : lo = 0
    · subst hl0
      have hVL : V = x.L / 4294967296 := by
        have := HV.out.2.2
        rw [if_pos (by have := HLO.out; omega)] at this
        exact this
      have HVL := Lib.hid hVL
      clear hVL bl
      go_enter Tryd.func18, Tryd.ntmps18
      go_wp2_with fail
      refine KC.out.mono ?_
      rintro e w1 ⟨u, rfl, o1, b1⟩
      have k1 := S.out w1 b1
      rcases own_info o1 with ⟨rfl, hk0⟩ | ⟨q, cap, rfl, hcap⟩
      · have N := Lib.hid (⟨hk0, o1, b1⟩ : x.k = 0 ∧ w1.ownsRow w.heap.size 5 1 (.slice none 0 0) x.k (bts (ahd x)) ∧ Below w.heap.size w w1)
        clear o1 b1 hk0
        go_wp2_with fail
        refine (KE.out w1 N.out.2.2).mono ?_
        rintro e w2 ⟨rfl, b2⟩
        have k2 : w2.cell? ⟨g, 1, none⟩ = some (.int .u32 0) := S.out w2 (N.out.2.2.trans b2.below)
        have B2 := Lib.hid b2
        clear b2
        go_wp2_with fail
        refine (trim_nil w2).mono ?_
        rintro e w3 ⟨rfl, b3⟩
        have B3 := Lib.hid b3
        clear b3
        go_wp2
        go_ret
        have hb := (N.out.2.2.trans B2.out.below).trans B3.out.below
        refine ⟨[], _, rfl, ?_, World.ownsRow_nil _ _ _ _, hb⟩
        have := even_code HX.out V 0 HV.out.1 HV.out.2.1 (Nat.zero_le _) (fun j h1 h2 => by have := N.out.1; omega) (.inl rfl)
        simpa using this
      · have N := Lib.hid (⟨hcap, o1, b1⟩ : x.k ≤ cap ∧ w1.ownsRow w.heap.size 5 1 (.slice (some ⟨q, 0, none⟩) x.k cap) x.k (bts (ahd x)) ∧ Below w.heap.size w w1)
        clear o1 b1 hcap
        go_wp2_with fail
        refine (KE.out w1 N.out.2.2).mono ?_
        rintro e w2 ⟨rfl, b2⟩
        have k2 : w2.cell? ⟨g, 1, none⟩ = some (.int .u32 0) := S.out w2 (N.out.2.2.trans b2.below)
        have O2 := Lib.hid (own_keep (S := fun _ => False) N.out.2.1 (.of_read b2) (fun _ _ => id))
        have B2 := Lib.hid (N.out.2.2.trans b2.below)
        clear b2
        obtain ⟨A2, c2, hv2, _, R2⟩ := Reads.of_own O2.out
        injection hv2 with hA2 _ hc2
        subst hA2 hc2
        have HR2 := Lib.hid R2
        clear R2
        go_wp2_with fail
        refine (trim_any w2 ⟨q, 0, none⟩ x.k cap (ahd x) HR2.out hk N.out.1 (dig_ahd x)).mono ?_
        rintro e w3 ⟨m, rfl, t3, b3⟩
        have T3 := Lib.hid (⟨t3, b3⟩ : Trims (ahd x) m ∧ Reading w2 w3)
        clear t3 b3
        go_wp2
        go_ret
        have hah : ahd x = digs x.k V := by rw [HVL.out]; rfl
        have t3 := T3.out.1
        rw [hah] at t3
        refine FIN.out w3 q cap m ?_ t3 (B2.out.trans T3.out.2.below)
        rw [← hah]
        exact own_keep (S := fun _ => False) O2.out (.of_read T3.out.2) (fun _ _ => id)
    · have hVL : V = x.L / 4294967296 + 1 := by
        have := HV.out.2.2
        rw [if_neg (by have := HLO.out; omega)] at this
        exact this
      have hk0 : 0 < x.k := by
        rcases Nat.eq_zero_or_pos x.k with h0 | h0
        · have h1 := HVK.out
          rw [h0] at h1
          omega
        · exact h0
      have hva : val (ahd x) = x.L / 4294967296 := val_digs _ _ (by have := HVK.out; omega)
      have HVL := Lib.hid (⟨hVL, hva⟩ : V = x.L / 4294967296 + 1 ∧ val (ahd x) = x.L / 4294967296)
      have HK0 := Lib.hid hk0
      have t1 : (lo != 0) = true := by simp [hl0]
      clear hVL hva hk0
      go_enter Tryd.func18, Tryd.ntmps18
      go_wp2_with fail
      refine KC.out.mono ?_
      rintro e w1 ⟨u, rfl, o1, b1⟩
      have k1 := S.out w1 b1
      obtain ⟨q, cap, rest, rfl, r1, hcap, hcm, hcl, hq⟩ := own_block o1 HK0.out
      have N := Lib.hid (⟨⟨hcap, hcm, hcl, hq⟩, r1, b1⟩ : (x.k ≤ cap ∧ cap ≤ maxLen ∧ (bts (ahd x) ++ rest).length = cap ∧ w.heap.size ≤ q) ∧ BRow w1 q (ahd x) rest ∧ Below w.heap.size w w1)
      clear o1 b1 r1 hcap hcm hcl hq
      go_wp2_with fail
      refine (KE.out w1 N.out.2.2).mono ?_
      rintro e w2 ⟨rfl, b2⟩
      have k2 := S.out w2 (N.out.2.2.trans b2.below)
      have R2 := Lib.hid (show BRow w2 q (ahd x) rest by unfold BRow; rw [b2.heap]; exact N.out.2.1)
      have B2 := Lib.hid (N.out.2.2.trans b2.below)
      clear b2
      go_wp2_with fail
      refine (carry_any w2 q x.k cap (ahd x) rest R2.out (length_ahd x) (dig_ahd x) (by have := HVL.out; have := HVK.out; omega) hk).mono ?_
      rintro e w3 ⟨rfl, r3, b3⟩
      rw [HVL.out.2, ← HVL.out.1] at r3
      have O3 := Lib.hid (own_of_block (B := w.heap.size) r3 (length_digs _ _) N.out.1.1 N.out.1.2.1 (by
        have := N.out.1.2.2.1
        rw [List.length_append, length_bts] at this ⊢
        rw [length_ahd] at this
        rw [length_digs]; exact this) N.out.1.2.2.2)
      have B3 := Lib.hid (B2.out.trans (b3.below B2.out.size (fun b e => by rw [e]; exact N.out.1.2.2.2)))
      clear r3 b3
      obtain ⟨A2, c2, hv2, _, R3⟩ := Reads.of_own O3.out
      injection hv2 with hA2 _ hc2
      subst hA2 hc2
      have HR3 := Lib.hid R3
      clear R3
      go_wp2_with fail
      refine (trim_any w3 ⟨q, 0, none⟩ x.k cap (digs x.k V) HR3.out hk N.out.1.1 (dig_digs _ _)).mono ?_
      rintro e w4 ⟨m, rfl, t4, b4⟩
      have T4 := Lib.hid (⟨t4, b4⟩ : Trims (digs x.k V) m ∧ Reading w3 w4)
      clear t4 b4
      go_wp2
      go_ret
      exact FIN.out w4 q cap m (own_keep (S := fun _ => False) O3.out (.of_read T4.out.2) (fun _ _ => id)) T4.out.1 (B3.out.trans T4.out.2.below)
  · rw [decide_eq_false he] at KE
    have OC := Lib.hid (odd_code HX.out he)
    have hb1 : lo + 16777216 ≤ 4294967296 := by
      have h1 := HLO.out
      have h2 := HT.out
      unfold evenIv at he
      omega
    have HE := Lib.hid he
    clear he
    have m1 : IntKind.u64.wrap (lo + 16777216) = lo + 16777216 := IntWalk.u64_in _ (by omega)
    have m2 : IntKind.u64.wrap (lo + 16777215) = lo + 16777215 := IntWalk.u64_in _ (by omega)
    have m3 : IntKind.u8.wrap ((lo + 16777215) / 16777216) = (lo + 16777215) / 16777216 := IntWalk.u8_in _ (by omega)
    have m4 : lo + 16777216 - 1 = lo + 16777215 := by omega
    go_enter Tryd.func18, Tryd.ntmps18
    go_wp2_with fail
    refine KC.out.mono ?_
    rintro e w1 ⟨u, rfl, o1, b1⟩
    have O1 := Lib.hid (⟨o1, b1⟩ : w1.ownsRow w.heap.size 5 1 u x.k (bts (ahd x)) ∧ Below w.heap.size w w1)
    have k1 := S.out w1 b1
    clear o1 b1
    go_wp2_with fail
    refine (KE.out w1 O1.out.2).mono ?_
    rintro e w2 ⟨rfl, b2⟩
    have k2 := S.out w2 (O1.out.2.trans b2.below)
    have O2 := Lib.hid (own_keep (S := fun _ => False) O1.out.1 (.of_read b2) (fun _ _ => id))
    have B2 := Lib.hid (O1.out.2.trans b2.below)
    have HO := Lib.hid (O2.out.alloc (.cells #[.int .u8 ((lo + 16777215) / 16777216)] 5))
    have G2 := Lib.hid (show w.heap.size ≤ w2.heap.size from B2.out.size)
    clear b2
    go_wp2_with (at_builtin; refine wpList_append_lies _ rfl (.tmp 16) (.tmp 27) 39 rfl w.heap.size 5 i0 (.int .u8 0) 1 1 Tryd.underlying39 hi hz0 hz1 hz2 rfl (by decide) u x.k (bts (ahd x)) rfl HO.out ⟨w2.heap.size, 0, none⟩ 1 1 [.int .u8 ((lo + 16777215) / 16777216)] rfl rfl (cell_one_new _ _ _) ?c2 (by decide) ?b1 ?b2 ?b3 (w2.heap.size + 1) ?b4 ?_)
    case c2 => intro u hu; simp at hu; subst hu; rfl
    case b1 => unfold maxLen; omega
    case b2 => omega
    case b3 => have := G2.out; simp; omega
    case b4 => simp
    intro q cap w3 hown hgr hq hlt
    have B3 := Lib.hid (show Below w.heap.size w w3 from own_grown_below (B2.out.alloc B2.out.size _) hgr (by have := G2.out; simp; omega) (fun p hp => (own_lt O2.out p hp).1))
    have O3 := Lib.hid hown
    clear hown hgr hq hlt
    go_wp2
    go_ret
    refine ⟨_, _, rfl, OC.out, ?_, B3.out⟩
    have e1 : bts (digs x.k (x.L / 4294967296) ++ [(x.L % 4294967296 + 16777215) / 16777216]) = bts (ahd x) ++ [.int .u8 ((lo + 16777215) / 16777216)] := by
      rw [bts_append]
      have e2 : (((x.L % 4294967296 + 16777215) / 16777216 : Nat) : Int) = (lo + 16777215) / 16777216 := by rw [HLO.out]; omega
      show _ ++ [Value.int .u8 (((x.L % 4294967296 + 16777215) / 16777216 : Nat) : Int)] = _
      rw [e2]; rfl
    rw [e1, List.length_append, length_digs]
    exact O3.out
theorem finish_nil (w : World) : Calls Tryd.prog 18 #[.pointer none] w fun e w' => e = .returned (.slice none 0 0) ∧ Reading w w' := by
  go_enter Tryd.func18, Tryd.ntmps18
  go_wp2
  go_ret
  exact ⟨rfl, Reading.refl w⟩
end Go.Proofs.YtbkjfblmdilchaaDoor
