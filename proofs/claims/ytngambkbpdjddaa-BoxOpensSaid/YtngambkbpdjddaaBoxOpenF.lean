/- Open (layer 7). -/
import Derived.Test.YtngambkbpdjddaaBoxOpen
namespace Go.Proofs.Ytngambkbpdjddaa
open Go.RowKit

/-- What bytes are opened as: k parts. -/
def Opens (l : List Nat) (k : Nat) (P : Nat → PartV) : Prop :=
  (First l k ∧ P = partV l (seg l 10 (9 * k + 4)) (18 + 9 * k)) ∨ ((∀ k', ¬ First l k') ∧ Second l k ∧ P = partV l (seg l (l.length - 14 - 9 * k) (9 * k + 4)) ((l.length : Int) - 18 - 9 * k - toffs (seg l (l.length - 14 - 9 * k) (9 * k + 4)) k))
def NoHead (l : List Nat) : Prop := (∀ k, ¬ First l k) ∧ ∀ k, ¬ Second l k
theorem Opens.one {l : List Nat} {k k' : Nat} {P P' : Nat → PartV} (h : Opens l k P) (h' : Opens l k' P') : k = k' ∧ P = P' := by
  rcases h with ⟨h1, h2⟩ | ⟨h1, h2, h3⟩ <;> rcases h' with ⟨k1, k2⟩ | ⟨k1, k2, k3⟩
  · have := h1.one k1
    subst this
    exact ⟨rfl, by rw [h2, k2]⟩
  · exact absurd h1 (k1 _)
  · exact absurd k1 (h1 _)
  · have := h2.one k2
    subst this
    exact ⟨rfl, by rw [h3, k3]⟩
theorem Opens.no {l : List Nat} {k : Nat} {P : Nat → PartV} (h : Opens l k P) (h' : NoHead l) : False := by
  rcases h with ⟨h1, _⟩ | ⟨_, h2, _⟩
  · exact h'.1 _ h1
  · exact h'.2 _ h2
theorem Opens.le {l : List Nat} {k : Nat} {P : Nat → PartV} (h : Opens l k P) : 14 + 9 * k ≤ l.length ∧ k < 65536 := by
  rcases h with ⟨h1, _⟩ | ⟨_, h2, _⟩
  · exact ⟨h1.1, h1.2.1⟩
  · exact ⟨h2.1, h2.2.1⟩
def OpenTold (w : World) (l : List Nat) (e : Ending) (w' : World) : Prop :=
  (∃ k P q, Opens l k P ∧ e = .returned (.tuple #[.slice (some ⟨q, 0, none⟩) k k, .int .i64 0]) ∧ PartsIs w' w.heap.size q k k P ∧ w.heap.size ≤ q ∧ Below w.heap.size w w')
  ∨ (NoHead l ∧ e = .returned (.tuple #[.slice none 0 0, .int .i64 3]) ∧ Below w.heap.size w w')
theorem parts_base {w : World} {B B' q k j : Nat} {P : Nat → PartV} (h : PartsIs w B q k j P) (hB : B' ≤ B) : PartsIs w B' q k j P := by
  obtain ⟨C, h1, h2, h3⟩ := h
  refine ⟨C, h1, h2, fun i hi => ?_⟩
  obtain ⟨v, c0, c1, c2, c3, ho⟩ := h3 i hi
  exact ⟨v, c0, c1, c2, c3, own_base ho hB⟩

set_option maxHeartbeats 3200000 in
set_option maxRecDepth 100000 in
theorem bopen_any (w : World) (A : Option Addr) (n c : Nat) (l : List Nat) (h : Reads w A n (bts l)) (hd : Dig l) (hc : n ≤ c) (hn : n ≤ 1000000) :
    Calls Try.prog 16 #[.slice A n c] w (OpenTold w l) := by
  have hl := h.lenB
  have t1 : ¬ (4194304 : Int) < n := by omega
  have K1 := Lib.hid (fromS_any w A n c)
  have K2 := Lib.hid (fun w' (b : Below w.heap.size w w') bx hx => readHeadS w' bx A n c l (h.below b) hd hc hn hx)
  have K3 := Lib.hid (fun w' => fromE_any w' A n c)
  have K4 := Lib.hid (fun w' (b : Below w.heap.size w w') bx hx => readHeadE w' bx A n c l (h.below b) hd hc hn hx)
  have K5 := Lib.hid (fun w' (b : Below w.heap.size w w') q k t F hr ht hk hF hF2 => bparts_any w' A n c l q k t F (h.below b) hd hc hn hr ht hk hF hF2)
  have HD := Lib.hid hd
  have HL := Lib.hid hl
  clear h hd hl
  go_enter Try.func16, Try.ntmps16
  go_wp2_with fail
  refine K1.out.mono ?_
  rintro e w1 ⟨bx, rfl, hx, b1⟩
  have K2' := Lib.hid (K2.out w1 b1 bx hx)
  have B1 := Lib.hid b1
  clear b1 hx
  go_wp2_with fail
  refine K2'.out.mono ?_
  rintro e w2 (⟨k, q, hH, rfl, hR, hq, b2⟩ | ⟨hno, rfl, b2⟩)
  · have hF := (headS_iff l k).1 hH
    have hk6 := hF.2.1
    have hk9 := hF.1
    have hll := HL.out
    have K5' := Lib.hid (K5.out w2 (up2 B1.out b2) q k (seg l 10 (9 * k + 4)) (18 + 9 * (k : Int)) hR (dig_seg HD.out _ _) hk6 (by omega) (by omega))
    have HF := Lib.hid hF
    have B2 := Lib.hid (up2 B1.out b2)
    have KH := Lib.hid (fun w' => hsize_any w' k (by omega))
    clear hH hR hF b2
    have t2 : ((14 + 9 * k : Nat) : Int) + 4 = 18 + 9 * (k : Int) := by omega
    obtain ⟨M, hM⟩ : ∃ M, 14 + 9 * k = M := ⟨_, rfl⟩
    rw [hM] at KH t2
    obtain ⟨F, hFF⟩ : ∃ F : Int, 18 + 9 * (k : Int) = F := ⟨_, rfl⟩
    rw [hFF] at K5' t2
    have HFF := Lib.hid hFF
    have bM : M ≤ 1000000 := by omega
    clear hM hFF
    go_wp2_with fail
    refine (KH.out _).mono ?_
    rintro e w3 ⟨rfl, rfl⟩
    go_wp2_with fail
    refine K5'.out.mono ?_
    rintro e w4 ⟨q4, rfl, p4, hq4, b4⟩
    have Z := Lib.hid (And.intro (parts_base p4 B2.out.size) (And.intro (Nat.le_trans B2.out.size hq4) (up2 B2.out b4)))
    clear p4 hq4 b4
    go_wp2
    go_ret2
    exact .inl ⟨k, _, q4, .inl ⟨HF.out, by rw [HFF.out]⟩, rfl, Z.out.1, Z.out.2.1, Z.out.2.2⟩
  · have HNO := Lib.hid (fun k (hk : First l k) => hno k ((headS_iff l k).2 hk))
    have B2 := Lib.hid (up2 B1.out b2)
    clear hno b2
    go_wp2_with fail
    refine (K3.out _).mono ?_
    rintro e w3 ⟨bx, rfl, hx, b3⟩
    have K4' := Lib.hid (K4.out w3 (up2 B2.out b3) bx hx)
    have B3 := Lib.hid (up2 B2.out b3)
    clear b3 hx
    go_wp2_with fail
    refine K4'.out.mono ?_
    rintro e w4 (⟨k, q, hH, rfl, hR, hq, b4⟩ | ⟨hno, rfl, b4⟩)
    · have hll := HL.out
      have hS : Second l k := (headE_iff l k).1 (by rw [hll]; exact hH)
      have hk6 := hS.2.1
      have hk9 := hS.1
      rw [show psE n 10 (9 * k + 4) = l.length - 14 - 9 * k by unfold psE; omega] at hR
      have hts := dig_seg HD.out (l.length - 14 - 9 * k) (9 * k + 4)
      have B4 := Lib.hid (up2 B3.out b4)
      have KZ := Lib.hid (dataSize_any w4 q k _ hR hts hk6)
      have htl := toffs_le hts k
      obtain ⟨t, ht⟩ : ∃ t, seg l (l.length - 14 - 9 * k) (9 * k + 4) = t := ⟨_, rfl⟩
      rw [ht] at hR hts KZ htl
      obtain ⟨a, ha⟩ : ∃ a, toffs t k = a := ⟨_, rfl⟩
      rw [ha] at KZ htl
      obtain ⟨F, hFF⟩ : ∃ F : Int, (l.length : Int) - 18 - 9 * (k : Int) - a = F := ⟨_, rfl⟩
      have bF : -400000000000000000 ≤ F ∧ F ≤ 400000000000000000 := by omega
      have HR := Lib.hid (And.intro hR hts)
      have HS := Lib.hid (And.intro hS (And.intro ht (And.intro ha hFF)))
      have KH := Lib.hid (fun w' => hsize_any w' k (by omega))
      have t2 : (n : Int) - ((14 + 9 * k : Nat) : Int) - 4 - (a : Int) = F := by omega
      obtain ⟨M, hM⟩ : ∃ M, 14 + 9 * k = M := ⟨_, rfl⟩
      rw [hM] at KH t2
      have bM : M ≤ n := by omega
      clear hH hR hts b4 ht ha hFF hM hS hll
      go_wp2_with fail
      refine (KH.out _).mono ?_
      rintro e w5 ⟨rfl, rfl⟩
      go_wp2_with fail
      refine KZ.out.mono ?_
      rintro e w5 ⟨rfl, b5⟩
      have B5 := Lib.hid (up2 B4.out b5)
      have K5' := Lib.hid (K5.out w5 B5.out q k t F (HR.out.1.below b5) HR.out.2 hk6 (by omega) (by omega))
      clear b5
      go_wp2_with fail
      refine K5'.out.mono ?_
      rintro e w6 ⟨q6, rfl, p6, hq6, b6⟩
      have Z := Lib.hid (And.intro (parts_base p6 B5.out.size) (And.intro (Nat.le_trans B5.out.size hq6) (up2 B5.out b6)))
      clear p6 hq6 b6
      go_wp2
      go_ret2
      exact .inl ⟨k, _, q6, .inr ⟨fun k' hk' => HNO.out k' hk', HS.out.1, by rw [HS.out.2.1, HS.out.2.2.1, HS.out.2.2.2]⟩, rfl, Z.out.1, Z.out.2.1, Z.out.2.2⟩
    · have HN2 := Lib.hid (fun k (hk : Second l k) => hno k (by have := (headE_iff l k).2 hk; rwa [HL.out] at this))
      have B4 := Lib.hid (up2 B3.out b4)
      clear hno b4
      go_wp2
      go_ret2
      exact .inr ⟨⟨fun k hk => HNO.out k hk, fun k hk => HN2.out k hk⟩, rfl, B4.out⟩
end Go.Proofs.Ytngambkbpdjddaa
