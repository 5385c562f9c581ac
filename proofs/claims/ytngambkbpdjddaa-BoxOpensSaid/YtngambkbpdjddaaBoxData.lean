/- The data that a row tells of (layer 7): bytes.Clone, dataAt, dataSize. -/
import Derived.Test.YtngambkbpdjddaaBoxHdr
namespace Go.Proofs.Ytngambkbpdjddaa
open Go.RowKit

set_option maxHeartbeats 800000 in
set_option maxRecDepth 100000 in
theorem bclone_any (w : World) (A : Option Addr) (n c : Nat) (l : List Nat) (h : Reads w A n (bts l)) (hn : n ≤ 140737488351232) :
    Calls Try.prog 56 #[.slice A n c] w (OwnB w n l) := by
  have hq := eqlB_nil w A n c
  rcases A with _ | ad
  · have hn0 : n = 0 := by
      rcases Nat.eq_zero_or_pos n with h0 | h0
      · exact h0
      · obtain ⟨ad, he, _⟩ := h.2 h0; cases he
    subst hn0
    have hl : bts l = [] := List.eq_nil_of_length_eq_zero h.1
    have HL := Lib.hid hl
    clear h hl
    simp only [Option.isNone_none] at hq
    go_enter Try.func56, Try.ntmps56
    go_wp2
    go_ret
    refine ⟨_, rfl, ?_, Below.refl _ _⟩
    rw [HL.out]
    exact World.ownsRow_nil _ _ _ _
  · obtain ⟨i0, hi, hz0, hz1, hz2⟩ := info_parts Try.infoU8
    have HI := Lib.hid hi
    have HZ := Lib.hid (And.intro hz0 (And.intro hz1 hz2))
    have N1 := Lib.hid (empty_bytes w)
    have B1 := Lib.hid ((Below.refl w.heap.size w).alloc (Nat.le_refl _) (.cells #[] 5))
    have HR := Lib.hid (h.below ((Below.refl w.heap.size w).alloc (Nat.le_refl _) (.cells #[] 5)))
    clear h hi hz0 hz1 hz2
    simp only [Option.isNone_some] at hq
    go_enter Try.func56, Try.ntmps56
    go_wp2_with (at_builtin; refine wpList_append_reads rfl (.tmp 5) (.tmp 6) 25 rfl w.heap.size 5 i0 (.int .u8 0) 1 Try.underlying25 HI.out HZ.out rfl (.slice (some ⟨w.heap.size, 0, none⟩) 0 0) 0 [] rfl N1.out (some ad) n c (bts l) rfl HR.out (fun e => (nomatch e)) (bts_one l) ?b1 ?b2 ?b3 ?_)
    case b1 => unfold maxLen; omega
    case b2 => omega
    case b3 => simp
    intro v' w2 hown hgr
    have O := Lib.hid (show w2.ownsRow w.heap.size 5 1 v' n (bts l) by simpa using hown)
    have B2 := Lib.hid (own_grown_below B1.out hgr B1.out.size (fun k hk => by simp [Value.ownBlock] at hk; omega))
    clear hown hgr
    go_wp2
    go_ret
    exact ⟨v', rfl, O.out, B2.out⟩

/-- Do len bytes lie there, from F on, whose sum is s? -/
def Whole (l : List Nat) (F : Int) (len s : Nat) : Prop := 0 ≤ F ∧ F + len ≤ l.length ∧ crcSum (seg l F.toNat len) = s
instance (l : List Nat) (F : Int) (len s : Nat) : Decidable (Whole l F len s) := by unfold Whole; infer_instance
def DataTold (w : World) (l : List Nat) (F : Int) (len s : Nat) (e : Ending) (w' : World) : Prop :=
  (Whole l F len s ∧ ∃ v, e = .returned (.tuple #[v, .bool true]) ∧ w'.ownsRow w.heap.size 5 1 v len (bts (seg l F.toNat len)) ∧ Below w.heap.size w w')
  ∨ (¬ Whole l F len s ∧ e = .returned (.tuple #[.slice none 0 0, .bool false]) ∧ Below w.heap.size w w')

set_option maxHeartbeats 1600000 in
set_option maxRecDepth 100000 in
theorem dataAt_any (w : World) (A : Option Addr) (n c : Nat) (l : List Nat) (F : Int) (V0 : Value) (L S : Int) (len s : Nat) (hL : L = len) (hS : S = s) (h : Reads w A n (bts l)) (hd : Dig l) (hc : n ≤ c) (hn : n ≤ 1000000) (hF : -1000000000000000000 ≤ F) (hF2 : F ≤ 1000000000000000000) (hl : len < 4294967296) :
    Calls Try.prog 49 #[.slice A n c, .int .i64 F, .agg #[V0, .int .i64 L, .int .u32 S]] w (DataTold w l F len s) := by
  have hln := h.lenB
  by_cases h0 : F < 0
  · have HN := Lib.hid (show ¬ Whole l F len s from fun k => by have := k.1; omega)
    have B1 := Lib.hid (mk_below w (.cells #[V0, .int .i64 L, .int .u32 S] 82))
    clear h hd hL hS
    go_enter Try.func49, Try.ntmps49
    go_wp2
    go_ret2
    exact .inr ⟨HN.out, rfl, B1.out⟩
  by_cases h1 : (n : Int) < F + L
  · have HN := Lib.hid (show ¬ Whole l F len s from fun k => by have := k.2.1; omega)
    have B1 := Lib.hid (mk_below w (.cells #[V0, .int .i64 L, .int .u32 S] 82))
    have t1 : decide (F < 0) = false := by simp; omega
    have bl : 0 ≤ L ∧ L < 4294967296 := by omega
    clear h hd hL hS
    go_enter Try.func49, Try.ntmps49
    go_wp2
    go_ret2
    exact .inr ⟨HN.out, rfl, B1.out⟩
  obtain ⟨p, hp⟩ : ∃ p : Nat, F = p := ⟨F.toNat, by omega⟩
  have hr := fun W => run_cut A n c p len F (F + L) hp (by omega) (by omega) W
  have B1 := mk_below w (.cells #[V0, .int .i64 L, .int .u32 S] 82)
  have X1 : (w.alloc (.cells #[V0, .int .i64 L, .int .u32 S] 82)).heap[w.heap.size]? = some (.cells #[V0, .int .i64 L, .int .u32 S] 82 (0, 0)) := heap_alloc_last w _
  have x2 : (w.alloc (.cells #[V0, .int .i64 L, .int .u32 S] 82)).cell? ⟨w.heap.size, 2, none⟩ = some (.int .u32 S) := by rw [cell_in X1]; rfl
  have hcut := h.cut hc p len (by omega)
  have KC := Lib.hid (fun w' (b : Below w.heap.size w w') => csum_any w' (cutA A c p) len (c - p) (seg l p len) (hcut.below b) (dig_seg hd _ _) (by omega))
  have KB := Lib.hid (fun w' (b : Below w.heap.size w w') => bclone_any w' (cutA A c p) len (c - p) (seg l p len) (hcut.below b) (by omega))
  have HW := Lib.hid (show Whole l F len s ↔ crcSum (seg l p len) = s from ⟨fun k => by have := k.2.2; rwa [show F.toNat = p by omega] at this, fun k => ⟨by omega, by omega, by rw [show F.toNat = p by omega]; exact k⟩⟩)
  have HPP := Lib.hid (show F.toNat = p by omega)
  generalize hsg : seg l p len = sg at *
  have HSG := Lib.hid hsg
  clear hsg
  generalize crcSum sg = sc at *
  generalize cutA A c p = Ac at *
  generalize c - p = cp at *
  have t1 : decide (F < 0) = false := by simp; omega
  have t2 : ¬ (n : Int) < F + L := h1
  have bl : 0 ≤ L ∧ L < 4294967296 := by omega
  have hS' := Lib.hid hS
  clear h hd hcut hL hp hS
  go_enter Try.func49, Try.ntmps49
  go_wp2_with fail
  generalize w.alloc (.cells #[V0, .int .i64 L, .int .u32 S] 82) = w1 at *
  have c1d := upd B1
  have d2 : w1.drew.cell? ⟨w.heap.size, 2, none⟩ = some (.int .u32 S) := x2
  have hq : w.heap.size < w1.drew.heap.size := heap_lt X1
  clear X1 x2
  go_region_held3 (fun w' => w'.cell? ⟨w.heap.size, 2, none⟩ = some (.int .u32 S))
    (first | exact d3 | exact d2 | fail)
    (first
      | (go_at_call 19; refine (KC.out _ c1d).mono ?_; rintro e w2 ⟨rfl, b2⟩; have d3 := (b2.cell (p := ⟨w.heap.size, 2, none⟩) hq).trans d2; have c3 := up2 c1d b2; clear b2)
      | fail)
  have C3 := Lib.hid c3
  clear c3 d3 d2 hq c1d B1
  by_cases hw : sc = s
  · have HH := Lib.hid (HW.out.2 hw)
    have t3 : (((sc : Nat) : Int) != S) = false := by rw [hS'.out, hw]; simp
    have K2 := Lib.hid (KB.out w2 C3.out)
    clear hw
    go_wp2_with fail
    refine K2.out.mono ?_
    rintro e w3 ⟨v, rfl, o3, b3⟩
    have Z := Lib.hid (And.intro (own_base o3 C3.out.size) (up2 C3.out b3))
    clear o3 b3
    go_wp2
    go_ret2
    exact .inl ⟨HH.out, v, rfl, by rw [HPP.out, HSG.out]; exact Z.out.1, Z.out.2⟩
  · have HH := Lib.hid (fun k => hw (HW.out.1 k))
    have t3 : (((sc : Nat) : Int) != S) = true := by rw [hS'.out, bne_iff_ne]; omega
    clear hw
    go_wp2
    go_ret2
    exact .inr ⟨HH.out, rfl, C3.out⟩

/-- The lengths of the rows ahead of row i, together. -/
def toffs (t : List Nat) : Nat → Nat
  | 0 => 0
  | i + 1 => toffs t i + val (seg t (9 * i + 1) 4)
theorem val_seg_lt {t : List Nat} (h : Dig t) (p : Nat) : val (seg t p 4) < 4294967296 := by
  have h1 := val_lt (seg t p 4) (dig_seg h _ _)
  have h2 : (seg t p 4).length ≤ 4 := by simp [seg]; omega
  exact Nat.lt_of_lt_of_le h1 (Nat.le_trans (Nat.pow_le_pow_right (by omega) h2) (by decide))
theorem toffs_le {t : List Nat} (h : Dig t) (i : Nat) : toffs t i ≤ i * 4294967296 := by
  induction i with
  | zero => exact Nat.le_refl _
  | succ i ih =>
    have := val_seg_lt h (9 * i + 1)
    rw [toffs]
    omega

def SizeAt (w : World) (k : Nat) (t : List Nat) (s i : Value) (wr : World) : Prop :=
  ∃ j : Nat, j ≤ k ∧ i = .int .i64 (j : Int) ∧ s = .int .i64 ((toffs t j : Nat) : Int) ∧ Below w.heap.size w wr
set_option maxHeartbeats 1600000 in
set_option maxRecDepth 100000 in
theorem dataSize_any (w : World) (q k : Nat) (t : List Nat) (h : RowsIs w q k k t) (hd : Dig t) (hk : k < 65536) :
    Calls Try.prog 32 #[.slice (some ⟨q, 0, none⟩) k k] w fun e w' => e = .returned (.int .i64 ((toffs t k : Nat) : Int)) ∧ Below w.heap.size w w' := by
  have HR := Lib.hid h
  have HD := Lib.hid hd
  clear h hd
  go_enter Try.func32, Try.ntmps32
  go_wp2_with fail
  go_loopw [3, 8] (SizeAt w k t) (fun _ i _ => k - (intOf i).toNat)
  case atStart => exact ⟨0, Nat.zero_le _, rfl, rfl, Below.refl _ _⟩
  case round =>
    obtain ⟨j, hj, rfl, rfl, hb⟩ := hrel
    by_cases hlt : j < k
    · obtain ⟨c0, c1, c2⟩ := (HR.out.below hb).cells j hlt
      have ht := toffs_le HD.out j
      have hv := val_seg_lt HD.out (9 * j + 1)
      have hs : toffs t (j + 1) = toffs t j + val (seg t (9 * j + 1) 4) := rfl
      generalize t.getD (9 * j) 0 = x0 at *
      generalize val (seg t (9 * j + 1) 4) = x1 at *
      generalize leNum (seg t (9 * j + 5) 4) = x2 at *
      generalize toffs t j = a at *
      have HS := Lib.hid hs
      have HB := Lib.hid hb
      have b1 : (j : Int) < k := by omega
      clear hs hb
      go_wp2_with fail
      exact ⟨⟨j + 1, by omega, by go_num, by rw [HS.out]; go_num, up1 HB.out _⟩, by simp [intOf]; omega⟩
    · obtain rfl : j = k := by omega
      have b1 : ¬ (j : Int) < j := by omega
      have HB := Lib.hid hb
      clear hb
      generalize ha : toffs t j = a at *
      have HA := Lib.hid ha
      clear ha
      go_wp2
      go_ret
      exact ⟨by rw [HA.out]; exact rfl, HB.out⟩
end Go.Proofs.Ytngambkbpdjddaa
