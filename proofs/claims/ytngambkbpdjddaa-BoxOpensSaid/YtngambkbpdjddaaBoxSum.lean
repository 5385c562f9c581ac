/- Sums behind bytes (layer 7): appendSum, sealed, fixedPart. -/
import Derived.Test.YtngambkbpdjddaaBoxFits
import Derived.Test.YtngambkbpdjddaaOwnB
import Derived.Lib.SlBytesConst
namespace Go.Proofs.Ytngambkbpdjddaa
open Go.RowKit

/-- A row v of its own has grown to l: only its own block may have been turned. -/
def Grew (w : World) (B : Nat) (v : Value) (n : Nat) (l : List Nat) (e : Ending) (w' : World) : Prop :=
  ∃ v', e = .returned v' ∧ w'.ownsRow B 5 1 v' n (bts l) ∧ Chg (fun b => v.ownBlock = some b) w w'
theorem Grew.below {w w' : World} {B m : Nat} {v : Value} {xs : List Value} (hB : B ≤ w.heap.size) (ho : w.ownsRow B 5 1 v m xs) (h : Chg (fun b => v.ownBlock = some b) w w') : Below B w w' :=
  h.below hB fun b hb => (own_lt ho b hb).1
theorem chg_grown {w w1 w2 : World} {v : Value} (h : Below w.heap.size w w1) (k : w1.grownBy w2 v.ownBlock) : Chg (fun b => v.ownBlock = some b) w w2 :=
  (Chg.of_below h).trans (Chg.of_grown k fun _ e => e)

set_option maxHeartbeats 800000 in
set_option maxRecDepth 100000 in
theorem asum_by (w : World) (B n c : Nat) (A : Option Addr) (l low : List Nat) (S D0 D1 D2 D3 : Int) (_ : 0 ≤ S) (_ : S < 4294967296) (e0 : IntKind.u8.wrap S = D0) (e1 : IntKind.u8.wrap (S / 256) = D1) (e2 : IntKind.u8.wrap (S / 65536) = D2) (e3 : IntKind.u8.wrap (S / 16777216) = D3)
    (hlow : Hid (bts low = [.int .u8 D0, .int .u8 D1, .int .u8 D2, .int .u8 D3])) (how : Hid (w.ownsRow B 5 1 (.slice A n c) n (bts l))) (hB : Hid (B ≤ w.heap.size)) (hn : n ≤ 100000000) :
    Calls Try.prog 40 #[.slice A n c, .int .u32 S] w (Grew w B (.slice A n c) (n + 4) (l ++ low)) := by
  obtain ⟨i0, hi, hz0, hz1, hz2⟩ := info_parts Try.infoU8
  have HI := Lib.hid hi
  have HZ := Lib.hid (And.intro hz0 (And.intro hz1 hz2))
  have B1 := Lib.hid (mk_below w (.cells #[.int .u8 D0, .int .u8 D1, .int .u8 D2, .int .u8 D3] 5))
  have O1 := Lib.hid (how.out.alloc (.cells #[.int .u8 D0, .int .u8 D1, .int .u8 D2, .int .u8 D3] 5))
  have R1 := Lib.hid (show Reads (w.alloc (.cells #[.int .u8 D0, .int .u8 D1, .int .u8 D2, .int .u8 D3] 5)) (some ⟨w.heap.size, 0, none⟩) 4 (bts low) by
    rw [hlow.out]
    exact Reads.of_block (xs := [.int .u8 D0, .int .u8 D1, .int .u8 D2, .int .u8 D3]) (heap_alloc_new _ _))
  clear hi hz0 hz1 hz2 hlow
  go_enter Try.func40, Try.ntmps40
  go_wp2_with (at_builtin; refine wpList_append_reads rfl (.tmp 5) (.tmp 17) 25 rfl B 5 i0 (.int .u8 0) 1 Try.underlying25 HI.out HZ.out rfl (.slice A n c) n (bts l) rfl O1.out (some ⟨w.heap.size, 0, none⟩) 4 4 (bts low) rfl R1.out (fun e => (nomatch e)) (bts_one low) ?b1 ?b2 ?b3 ?_)
  case b1 => unfold maxLen; omega
  case b2 => omega
  case b3 => exact Nat.le_trans hB.out B1.out.size
  intro v' w2 hown hgr
  have O := Lib.hid (show w2.ownsRow B 5 1 v' (n + 4) (bts (l ++ low)) by rw [bts_append]; exact hown)
  have B2 := Lib.hid (chg_grown B1.out hgr)
  clear hown hgr
  go_wp2
  go_ret
  exact ⟨v', rfl, O.out, B2.out⟩

theorem byte_wrap (x : Nat) : IntKind.u8.wrap (x : Int) = ((x % 256 : Nat) : Int) := by rw [IntKind.wrap_u8]; omega
/-- appendSum: a row of its own, and the bytes of a sum behind it. -/
theorem asum_any (w : World) (B n : Nat) (v : Value) (l : List Nat) (s : Nat) (how : w.ownsRow B 5 1 v n (bts l)) (hB : B ≤ w.heap.size) (hs : s < 4294967296) (hn : n ≤ 100000000) :
    Calls Try.prog 40 #[v, .int .u32 (s : Int)] w (Grew w B v (n + 4) (l ++ low4 s)) := by
  obtain ⟨A, c, rfl, _, _⟩ := Reads.of_own how
  refine asum_by w B n c A l (low4 s) s _ _ _ _ (by omega) (by omega) (byte_wrap s) ?_ ?_ ?_ (Lib.hid rfl) (Lib.hid how) (Lib.hid hB) hn
  · rw [show (s : Int) / 256 = ((s / 256 : Nat) : Int) by omega]; exact byte_wrap _
  · rw [show (s : Int) / 65536 = ((s / 65536 : Nat) : Int) by omega]; exact byte_wrap _
  · rw [show (s : Int) / 16777216 = ((s / 16777216 : Nat) : Int) by omega]; exact byte_wrap _

set_option maxHeartbeats 800000 in
set_option maxRecDepth 100000 in
/-- sealed: a row of its own, and its own sum behind it. -/
theorem sealed_any (w : World) (B n : Nat) (v : Value) (l : List Nat) (how : w.ownsRow B 5 1 v n (bts l)) (hd : Dig l) (hB : B ≤ w.heap.size) (hn : n ≤ 1000000) :
    Calls Try.prog 38 #[v] w (Grew w B v (n + 4) (guard l)) := by
  obtain ⟨A, c, rfl, _, hr⟩ := Reads.of_own how
  have K1 := Lib.hid (csum_any w A n c l hr hd hn)
  have K2 := Lib.hid (fun w' (hb : Below w.heap.size w w') => asum_any w' B n (.slice A n c) l (crcSum l) (own_keep (S := fun _ => False) how (.of_below hb) (fun _ _ => id)) (Nat.le_trans hB hb.size) (crcSum_lt l) (by omega))
  clear how hr hd
  generalize hs : crcSum l = s at *
  have HS := Lib.hid hs
  clear hs
  go_enter Try.func38, Try.ntmps38
  go_wp2_with fail
  refine K1.out.mono ?_
  rintro e w1 ⟨rfl, b1⟩
  have B1 := Lib.hid b1
  clear b1
  go_wp2_with fail
  refine (K2.out w1 B1.out).mono ?_
  rintro e w2 ⟨v', rfl, o2, c2⟩
  have Z := Lib.hid (And.intro o2 c2)
  clear o2 c2
  go_wp2
  go_ret
  exact ⟨v', rfl, by rw [guard, HS.out]; exact Z.out.1, (Chg.of_below B1.out).trans Z.out.2⟩

theorem digs_two (n : Nat) : digs 2 n = [n / 256 % 256, n % 256] := rfl
theorem digs_four (n : Nat) : digs 4 n = [n / 16777216 % 256, n / 65536 % 256, n / 256 % 256, n % 256] := by
  show [n / 256 / 256 / 256 % 256, n / 256 / 256 % 256, n / 256 % 256, n % 256] = _
  rw [show n / 256 / 256 / 256 = n / 16777216 by omega, show n / 256 / 256 = n / 65536 by omega]

/-- A row of bytes of a call's own, made new. -/
theorem OwnB.grew {w w1 w2 : World} {n : Nat} {l : List Nat} {v v' : Value} (hb : Below w.heap.size w w1) (ho : ∀ b, v.ownBlock = some b → w.heap.size ≤ b) (h1 : w2.ownsRow w.heap.size 5 1 v' n (bts l)) (h2 : Chg (fun b => v.ownBlock = some b) w1 w2) : OwnB w n l (.returned v') w2 :=
  ⟨v', rfl, h1, hb.trans (h2.below hb.size ho)⟩

set_option maxHeartbeats 800000 in
set_option maxRecDepth 100000 in
theorem bfixed_by (w : World) (n : Nat) (D0 D1 : Int) (_ : n ≤ 65535) (e0 : IntKind.u8.wrap ((n : Int) / 256) = D0) (e1 : IntKind.u8.wrap (n : Int) = D1) (hlow : Hid (bts (digs 2 n) = [.int .u8 D0, .int .u8 D1])) :
    Calls Try.prog 22 #[.int .i64 (n : Int)] w (OwnB w 10 (fixedPart n)) := by
  obtain ⟨i0, hi, hz0, hz1, hz2⟩ := info_parts Try.infoU8
  have HI := Lib.hid hi
  have HZ := Lib.hid (And.intro hz0 (And.intro hz1 hz2))
  obtain ⟨w1, hw1⟩ : ∃ w1, w1 = w.alloc (.cells #[.int .u8 71, .int .u8 89, .int .u8 80, .int .u8 83] 5 (4, 5)) := ⟨_, rfl⟩
  have B0 := mk_below w (.cells #[.int .u8 71, .int .u8 89, .int .u8 80, .int .u8 83] 5 (4, 5))
  have O0 : Reads w1 (some ⟨w.heap.size, 0, none⟩) 4 (bts magic) := by
    rw [hw1]
    exact Reads.of_marked (xs := bts magic) (heap_alloc_last _ _)
  rw [← hw1] at B0
  have hs1 : w1.heap.size = w.heap.size + 1 := by rw [hw1]; simp
  have O1 := Lib.hid (O0.below (mk_below w1 (.cells #[.int .u8 D0, .int .u8 D1] 5)))
  have B1 := Lib.hid (up1 B0 (.cells #[.int .u8 D0, .int .u8 D1] 5))
  have R1 := Lib.hid (show Reads (w1.alloc (.cells #[.int .u8 D0, .int .u8 D1] 5)) (some ⟨w.heap.size + 1, 0, none⟩) 2 (bts (digs 2 n)) by
    rw [hlow.out, ← hs1]
    exact Reads.of_block (xs := [.int .u8 D0, .int .u8 D1]) (heap_alloc_new _ _))
  rw [hw1] at O1 B1 R1
  clear hi hz0 hz1 hz2 hlow B0 O0 hw1 hs1
  have kc := fun (w : World) (C : Array Value) (n c : Nat) => Lib.run_convert_bytes_const (P := Try.prog) w 25 5 C n c Try.underlying25 Try.underlying5
  go_enter Try.func22, Try.ntmps22
  go_wp2_with (at_builtin; refine wpList_append_grows _ rfl (.tmp 4) (.tmp 10) 25 rfl 5 i0 (.int .u8 0) 1 1 Try.underlying25 HI.out HZ.out.1 HZ.out.2.1 HZ.out.2.2 rfl (by decide) (some ⟨w.heap.size, 0, none⟩) 4 4 (bts magic) rfl (fun e => (nomatch e)) rfl ?c1 ⟨w.heap.size + 1, 0, none⟩ 2 2 (bts (digs 2 n)) rfl rfl ?c2 (bts_one _) (by decide) (by decide) (by decide) ?_)
  case c1 =>
    intro b e j u hj
    obtain ⟨ad, he, hc⟩ := O1.out.2 (by omega)
    rw [he] at e
    injection e with e
    subst e
    exact hc j u hj
  case c2 =>
    intro j u hj
    obtain ⟨ad, he, hc⟩ := R1.out.2 (by omega)
    injection he with he
    subst he
    exact hc j u hj
  intro v' w2 hown hgr
  have O := Lib.hid (show w2.ownsRow w.heap.size 5 1 v' 6 (bts (magic ++ digs 2 n)) by rw [bts_append]; exact own_base hown (by omega))
  have B2 := Lib.hid (show Below w.heap.size w w2 from B1.out.trans ⟨hgr.os, hgr.tape, hgr.output, hgr.size, fun j hj => hgr.block j (Nat.lt_of_lt_of_le hj B1.out.size) (fun e => (nomatch e))⟩)
  have KS := Lib.hid (sealed_any w2 w.heap.size 6 v' (magic ++ digs 2 n) O.out (dig_append dig_magic (dig_digs 2 n)) B2.out.size (by omega))
  clear hown hgr
  go_wp2_with fail
  refine KS.out.mono ?_
  rintro e w3 ⟨u, rfl, o3, c3⟩
  have Z := Lib.hid (OwnB.grew B2.out (fun b hb => (own_lt O.out b hb).1) o3 c3)
  clear o3 c3
  go_wp2
  go_ret
  exact Z.out
theorem bfixed_any (w : World) (n : Nat) (hn : n ≤ 65535) : Calls Try.prog 22 #[.int .i64 (n : Int)] w (OwnB w 10 (fixedPart n)) :=
  bfixed_by w n _ _ hn (by rw [show (n : Int) / 256 = ((n / 256 : Nat) : Int) by omega]; exact byte_wrap _) (byte_wrap n) (Lib.hid rfl)
end Go.Proofs.Ytngambkbpdjddaa
