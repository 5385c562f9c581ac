/- Rows of bytes of the library: slices.Clone and bytes.TrimRight by the byte 0. -/
import Derived.Test.YtbkjfblmdilchaaDoorCEncIs
namespace Go.Proofs.YtbkjfblmdilchaaDoor
open Go.RowKit

theorem empty_bytes (w : World) : (w.alloc (.cells #[] 5)).ownsRow w.heap.size 5 1 (.slice (some ⟨w.heap.size, 0, none⟩) 0 0) 0 [] :=
  World.ownsRow_made w #[] 0 (Nat.le_refl _) (by unfold maxLen; omega) (by simp)
theorem own_grown_below {w w1 w2 : World} {B : Nat} {v : Value} (hb : Below B w w1) (hg : w1.grownBy w2 v.ownBlock) (hB : B ≤ w1.heap.size) (hv : ∀ k, v.ownBlock = some k → B ≤ k) : Below B w w2 :=
  hb.trans ⟨hg.os, hg.tape, hg.output, hg.size, fun j hj => hg.block j (by omega) (fun e => by have := hv j e.symm; omega)⟩
theorem eqlB_nilIn (d : Nat) (w : World) (a : Option Addr) (n c : Nat) : (Op.equalIn (d + 1) 39 (.slice a n c) (.slice none 0 0)).run Tryd.prog w = .ok a.isNone w := by
  cases a <;> simp [Op.equalIn, run_underlying Tryd.underlying39]
theorem eqlB_nil (w : World) (a : Option Addr) (n c : Nat) : (binOp .eql 39 (.slice a n c) (.slice none 0 0)).run Tryd.prog w = .ok (.bool a.isNone) w := by
  have h : (Op.equal 39 (.slice a n c) (.slice none 0 0)).run Tryd.prog w = .ok a.isNone w := eqlB_nilIn 9999 w a n c
  simp [binOp, h]

/-- A row of its own with these bytes. -/
def OwnB (w : World) (n : Nat) (l : List Nat) (e : Ending) (w' : World) : Prop := ∃ v, e = .returned v ∧ w'.ownsRow w.heap.size 5 1 v n (bts l) ∧ Below w.heap.size w w'

set_option maxHeartbeats 800000 in
set_option maxRecDepth 100000 in
theorem cloneB_any (w : World) (A : Option Addr) (n c : Nat) (l : List Nat) (h : Reads w A n (bts l)) (hn : n ≤ 140737488351232) :
    Calls Tryd.prog 35 #[.slice A n c] w (OwnB w n l) := by
  have hq := eqlB_nil w A n c
  rcases A with _ | ad
  · have hn0 : n = 0 := by
      rcases Nat.eq_zero_or_pos n with h0 | h0
      · exact h0
      · obtain ⟨ad, he, _⟩ := h.2 h0; cases he
    subst hn0
    have hl : bts l = [] := List.eq_nil_of_length_eq_zero h.1
    have HL := Lib.hid hl
    clear h hl
    simp only [Option.isNone_none] at hq
    go_enter Tryd.func35, Tryd.ntmps35
    go_wp2
    go_ret
    refine ⟨_, rfl, ?_, Below.refl _ _⟩
    rw [HL.out]
    exact World.ownsRow_nil _ _ _ _
  · obtain ⟨i0, hi, hz0, hz1, hz2⟩ := info_parts Tryd.infoU8
    have HI := Lib.hid hi
    have HZ := Lib.hid (And.intro hz0 (And.intro hz1 hz2))
    have N1 := Lib.hid (empty_bytes w)
    have B1 := Lib.hid ((Below.refl w.heap.size w).alloc (Nat.le_refl _) (.cells #[] 5))
    have HR := Lib.hid (h.below ((Below.refl w.heap.size w).alloc (Nat.le_refl _) (.cells #[] 5)))
    clear h hi hz0 hz1 hz2
    simp only [Option.isNone_some] at hq
    go_enter Tryd.func35, Tryd.ntmps35
    go_wp2_with (at_builtin; refine wpList_append_reads rfl (.tmp 5) (.tmp 6) 39 rfl w.heap.size 5 i0 (.int .u8 0) 1 Tryd.underlying39 HI.out HZ.out rfl (.slice (some ⟨w.heap.size, 0, none⟩) 0 0) 0 [] rfl N1.out (some ad) n c (bts l) rfl HR.out (fun e => (nomatch e)) (bts_one l) ?b1 ?b2 ?b3 ?_)
    case b1 => unfold maxLen; omega
    case b2 => omega
    case b3 => simp
    intro v' w2 hown hgr
    have O := Lib.hid (show w2.ownsRow w.heap.size 5 1 v' n (bts l) by simpa using hown)
    have B2 := Lib.hid (own_grown_below B1.out hgr B1.out.size (fun k hk => by simp [Value.ownBlock] at hk; omega))
    clear hown hgr
    go_wp2
    go_ret
    exact ⟨v', rfl, O.out, B2.out⟩

/-- l up to m, and only noughts behind it. -/
def Trims (l : List Nat) (m : Nat) : Prop := m ≤ l.length ∧ (∀ j, m ≤ j → j < l.length → l.getD j 0 = 0) ∧ (m = 0 ∨ l.getD (m - 1) 0 ≠ 0)
def TrimAt (w : World) (ad : Addr) (c : Nat) (l : List Nat) (s : Value) (wr : World) : Prop := ∃ m : Nat, s = .slice (some ad) m c ∧ m ≤ l.length ∧ (∀ j, m ≤ j → j < l.length → l.getD j 0 = 0) ∧ Reading w wr
def Trimmed (w : World) (ad : Addr) (c : Nat) (l : List Nat) (e : Ending) (w' : World) : Prop := ∃ m : Nat, e = .returned (.slice (some ad) m c) ∧ Trims l m ∧ Reading w w'

set_option maxHeartbeats 1600000 in
set_option maxRecDepth 100000 in
theorem trimByte_any (w : World) (ad : Addr) (n c : Nat) (l : List Nat) (h : Reads w (some ad) n (bts l)) (hn : n ≤ 1000000) (hc : n ≤ c) (hd : Dig l) :
    Calls Tryd.prog 49 #[.slice (some ad) n c, .int .u8 0] w (Trimmed w ad c l) := by
  have hl : l.length = n := by have := h.1; rwa [length_bts] at this
  have HR := Lib.hid h
  have HD := Lib.hid hd
  have HL := Lib.hid hl
  clear h hd hl
  go_enter Tryd.func49, Tryd.ntmps49
  go_wp2_with fail
  go_loopw [0] (TrimAt w ad c l) (fun s _ => match s with | .slice _ m _ => m | _ => 0)
  case atStart => exact ⟨n, rfl, by rw [HL.out]; exact Nat.le_refl _, fun j h1 h2 => by have := HL.out; omega, Reading.refl w⟩
  case round =>
    obtain ⟨m, rfl, hm, hz, hr⟩ := hrel
    have hml := HL.out
    rcases m with _ | m
    · have Z := Lib.hid (⟨hz, hr⟩ : (∀ j, 0 ≤ j → j < l.length → l.getD j 0 = 0) ∧ Reading w wr)
      clear hz hr hm hml
      go_wp2
      go_ret
      exact ⟨0, rfl, ⟨Nat.zero_le _, Z.out.1, .inl rfl⟩, Z.out.2⟩
    · have ck : wr.cell? (ad.add m) = some (.int .u8 ((l.getD m 0 : Nat) : Int)) := by
        obtain ⟨ad', e, hc'⟩ := (HR.out.read hr).2 (by omega)
        injection e with e
        subst e
        exact hc' m _ (bts_at l m (by omega))
      have bd := dig_at HD.out m
      have Z := Lib.hid (⟨hm, hz, hr⟩ : m + 1 ≤ l.length ∧ (∀ j, m + 1 ≤ j → j < l.length → l.getD j 0 = 0) ∧ Reading w wr)
      have hmc : m < c := by omega
      have hmn : m < 1000000 := by omega
      clear hz hr hm hml
      generalize hdd : l.getD m 0 = d at *
      have HDD := Lib.hid hdd
      clear hdd
      have e1 : IntKind.i64.wrap (m : Int) = (m : Int) := IntWalk.i64_in _ (by omega)
      have e3 : (m : Int) < (m : Int) + 1 := by omega
      have e4 : (0 : Int) < (m : Int) + 1 := by omega
      have e5 : decide ((0 : Int) < (m : Int) + 1) = true := by simp
      by_cases h0 : d = 0
      · subst h0
        go_wp2_with fail
        refine ⟨⟨m, rfl, by have := Z.out.1; omega, fun j h1 h2 => ?_, Z.out.2.2⟩, Nat.lt_succ_self m⟩
        rcases Nat.eq_or_lt_of_le h1 with h3 | h3
        · rw [← h3]; exact HDD.out
        · exact Z.out.2.1 j h3 h2
      · have t1 : ((d : Int) == 0) = false := by simp; omega
        go_wp2
        go_ret
        exact ⟨m + 1, rfl, ⟨Z.out.1, Z.out.2.1, .inr (by rw [Nat.add_sub_cancel, HDD.out]; exact h0)⟩, Z.out.2.2⟩

set_option maxHeartbeats 1600000 in
set_option maxRecDepth 100000 in
theorem trim_any (w : World) (ad : Addr) (n c : Nat) (l : List Nat) (h : Reads w (some ad) n (bts l)) (hn : n ≤ 1000000) (hc : n ≤ c) (hd : Dig l) :
    Calls Tryd.prog 37 #[.slice (some ad) n c, .string ⟨#[0]⟩] w (Trimmed w ad c l) := by
  have hl : l.length = n := by have := h.1; rwa [length_bts] at this
  have K := Lib.hid (trimByte_any w ad n c l h hn hc hd)
  by_cases h0 : n = 0
  · subst h0
    have HL := Lib.hid hl
    clear h hd hl hc
    go_enter Tryd.func37, Tryd.ntmps37
    go_wp2
    go_ret
    exact ⟨0, rfl, ⟨Nat.zero_le _, fun j _ h2 => by have := HL.out; omega, .inl rfl⟩, Reading.refl w⟩
  · have t1 : ((n : Int) == 0) = false := by simp; omega
    clear h hd hl hc
    go_enter Tryd.func37, Tryd.ntmps37
    go_wp2_with fail
    refine K.out.mono ?_
    rintro e w1 ⟨m, rfl, h1, b1⟩
    have H1 := Lib.hid (⟨h1, b1⟩ : Trims l m ∧ Reading w w1)
    clear h1 b1
    go_wp2
    go_ret
    exact ⟨m, rfl, H1.out.1, H1.out.2⟩
theorem trim_nil (w : World) : Calls Tryd.prog 37 #[.slice none 0 0, .string ⟨#[0]⟩] w fun e w' => e = .returned (.slice none 0 0) ∧ Reading w w' := by
  go_enter Tryd.func37, Tryd.ntmps37
  go_wp2
  go_ret
  exact ⟨rfl, Reading.refl w⟩
end Go.Proofs.YtbkjfblmdilchaaDoor
