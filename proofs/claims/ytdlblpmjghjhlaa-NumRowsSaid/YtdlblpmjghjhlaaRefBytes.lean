/- The document's Bytes: a text of bits as bytes. -/
import Derived.Test.YtdlblpmjghjhlaaRefBits
import Derived.Test.YtdlblpmjghjhlaaPushed
namespace Go.Proofs.Ytdlblpmjghjhlaa
open Go.RowKit

/-- The bits of byte k of a text, as many as there are. -/
def chunk (bs : List Bool) (k : Nat) : List Bool := (bs.drop (8 * k)).take 8
theorem length_chunk (bs : List Bool) (k : Nat) : (chunk bs k).length = min 8 (bs.length - 8 * k) := by simp [chunk]
theorem chunk_pad (bs : List Bool) (k : Nat) : num (chunk bs k ++ List.replicate (8 - (chunk bs k).length) false) = byteAt bs k := by
  unfold byteAt
  congr 1
  apply List.ext_getElem
  · rw [List.length_append, List.length_replicate, length_chunk]; simp; omega
  · intro i h1 h2
    have hi : i < 8 := by simpa using h2
    rw [List.getElem_map, List.getElem_range]
    by_cases h : i < (chunk bs k).length
    · rw [List.getElem_append_left h]
      rw [length_chunk] at h
      have : 8 * k + i < bs.length := by omega
      simp [chunk, List.getElem?_eq_getElem this]
    · rw [List.getElem_append_right (by omega)]
      rw [length_chunk] at h
      rw [List.getElem_replicate, getD_over bs _ (by omega)]
theorem pad_step (c : List Bool) (t : Nat) : c ++ List.replicate (t + 1) false = (c ++ List.replicate t false) ++ [false] := by
  rw [List.replicate_succ', List.append_assoc]
theorem empty_row (w : World) (B : Nat) (hB : B ≤ w.heap.size) : (w.alloc (.cells #[] 5)).ownsRow B 5 1 (.slice (some ⟨w.heap.size, 0, none⟩) 0 0) 0 [] :=
  ⟨rfl, .inr ⟨w.heap.size, 0, #[], rfl, hB, heap_alloc_new _ _, Nat.le_refl _, Nat.zero_le _, rfl, rfl⟩⟩
theorem reads_row {w : World} {base : Nat} {e : TypeId} {v : Value} {n : Nat} {xs : List Value} (h : w.ownsRow base e 1 v n xs) : ∃ A c, v = .slice A n c ∧ Reads w A n xs := by
  have hl : xs.length = n := by have := h.1; omega
  rcases h.2 with ⟨h1, h2⟩ | ⟨q, cap, cur, rfl, _⟩
  · exact ⟨none, 0, by rw [h1, h2], hl, fun hn => absurd hn (by omega)⟩
  · exact ⟨_, _, rfl, hl, fun _ => ⟨_, rfl, h.cells rfl⟩⟩
theorem take_pack (bs : List Bool) (k : Nat) (hk : k < (bs.length + 7) / 8) : u8s ((pack bs).take (k + 1)) = u8s ((pack bs).take k) ++ [.int .u8 (byteAt bs k : Nat)] := by
  have hp : k < (pack bs).length := by rw [length_pack]; exact hk
  rw [List.take_succ_eq_append_getElem hp, u8s_snoc]
  have := getD_pack bs k hk
  rw [List.getElem?_eq_getElem hp] at this
  injection this with this
  rw [this]

/-- A slice of bytes has been made that reads as the byte form of bs. -/
def Told (w : World) (bs : List Bool) (e : Ending) (w' : World) : Prop :=
  ∃ A c, e = .returned (.slice A (pack bs).length c) ∧ Reads w' A (pack bs).length (u8s (pack bs)) ∧ Below w.heap.size w w'

def BytesAt (w : World) (bs : List Bool) (s v : Value) (wr : World) : Prop :=
  ∃ k : Nat, k ≤ (bs.length + 7) / 8 ∧ s = .string (str (bs.drop (8 * k))) ∧ wr.ownsRow w.heap.size 5 1 v k (u8s ((pack bs).take k)) ∧ Below w.heap.size w wr
def PadAt (c : List Bool) (p : Value) : Prop := ∃ t : Nat, c.length + t ≤ 8 ∧ p = .string (str (c ++ List.replicate t false))
def lenOf : Value → Nat
  | .string s => s.size
  | _ => 0

set_option maxHeartbeats 1600000 in
set_option maxRecDepth 100000 in
theorem rbytes_any (w : World) (bs : List Bool) (hb : bs.length ≤ 900) :
    Calls Try.prog 37 #[.string (str bs)] w (Told w bs) := by
  obtain ⟨i0, hi, hz0, hz1, hz2⟩ := info_parts Try.info5
  have HI := Lib.hid hi
  have HZ := Lib.hid (And.intro hz0 (And.intro hz1 hz2))
  clear hi hz0 hz1 hz2
  go_enter Try.func37, Try.ntmps37
  go_wp2_with fail
  go_loopw [0, 3] (BytesAt w bs) (fun s _ _ => lenOf s)
  case atStart => exact ⟨0, Nat.zero_le _, rfl, empty_row w w.heap.size (Nat.le_refl _), (Below.refl _ _).alloc (Nat.le_refl _) _⟩
  case round =>
    obtain ⟨k, hk, rfl, how, hbel⟩ := hrel
    have HO := Lib.hid how
    have HB := Lib.hid hbel
    clear how hbel
    have hsz := size_str (bs.drop (8 * k))
    rw [List.length_drop] at hsz
    have HM := Lib.hid (show lenOf (.string (str (bs.drop (8 * k)))) = bs.length - 8 * k from hsz)
    by_cases h0 : bs.length ≤ 8 * k
    · have hs0 : (str (bs.drop (8 * k))).size = 0 := by omega
      have HE := Lib.hid (show wr.ownsRow w.heap.size 5 1 u3 (pack bs).length (u8s (pack bs)) by
        have := HO.out
        have hkk : k = (pack bs).length := by rw [length_pack]; omega
        rwa [List.take_of_length_le (by omega), hkk] at this)
      clear hsz
      go_wp2_with fail
      go_ret
      obtain ⟨A, c, rfl, hr⟩ := reads_row HE.out
      exact ⟨A, c, rfl, hr, HB.out⟩
    · have HN := Lib.hid (show lenOf (.string (str (bs.drop (8 * (k + 1))))) = bs.length - 8 * (k + 1) by
        show (str _).size = _
        rw [size_str, List.length_drop])
      by_cases hbig : 8 * k + 8 < bs.length
      · have hh := str_head wr (bs.drop (8 * k)) 8 (by rw [List.length_drop]; omega)
        rw [show (bs.drop (8 * k)).take 8 = chunk bs k from rfl] at hh
        have hcs : (str (chunk bs k)).size = 8 := by rw [size_str, length_chunk]; omega
        have htl := str_tail wr (bs.drop (8 * k)) 8 (by rw [List.length_drop]; omega)
        rw [List.drop_drop, show 8 * k + 8 = 8 * (k + 1) by omega] at htl
        have hss : 8 < (str (bs.drop (8 * k))).size := by omega
        have E1 := Lib.hid (show (str (bs.drop (8 * k))).extract 0 8 = str (chunk bs k) by rw [str_slice]; rfl)
        have E2 := Lib.hid (show (str (bs.drop (8 * k))).extract (min 8 (bs.length - 8 * k)) (bs.length - 8 * k) = str (bs.drop (8 * (k + 1))) by
          rw [str_slice, List.take_of_length_le (by rw [List.length_drop]; omega), List.drop_drop]
          congr 2; omega)
        clear hh htl hcs
        go_wp2_with fail
        rw [E1.out, E2.out]
        go_loop [4] (PadAt (chunk bs k)) (fun p => 8 - lenOf p)
        case atStart => exact ⟨0, by rw [length_chunk]; omega, by simp⟩
        case round =>
          obtain ⟨t, ht, rfl⟩ := hrel
          have hps := size_str (chunk bs k ++ List.replicate t false)
          rw [List.length_append, List.length_replicate] at hps
          obtain ⟨cl, hcl⟩ : ∃ cl, (chunk bs k).length = cl := ⟨_, rfl⟩
          rw [hcl] at hps ht
          have HC := Lib.hid hcl
          clear hcl
          have HPS := Lib.hid hps
          by_cases h8 : cl + t < 8
          · have ha := str_add Try.prog wr (chunk bs k ++ List.replicate t false) [false] (by rw [List.length_append, List.length_replicate, HC.out]; omega) (by simp)
            rw [← pad_step, ← str_nought] at ha
            have HP2 := Lib.hid (show lenOf (.string (str (chunk bs k ++ List.replicate (t + 1) false))) = cl + (t + 1) by
              show (str _).size = _
              rw [size_str, List.length_append, List.length_replicate, HC.out])
            go_wp2_with fail
            refine ⟨⟨t + 1, by rw [HC.out]; omega, rfl⟩, ?_⟩
            have h1 : lenOf (.string (str (chunk bs k ++ List.replicate t false))) = _ := HPS.out
            have h2 := HP2.out
            omega
          · have HT := Lib.hid (show num (chunk bs k ++ List.replicate t false) = byteAt bs k by
              rw [← chunk_pad bs k, HC.out]; congr 3; omega)
            have HLn := Lib.hid (show (chunk bs k ++ List.replicate t false).length ≤ 64 by rw [List.length_append, List.length_replicate, HC.out]; omega)
            have hbt := byteAt_lt bs k
            generalize hby : byteAt bs k = by8 at *
            have HBY := Lib.hid hby
            clear hby
            go_wp2_with fail
            refine (value_any wr (chunk bs k ++ List.replicate t false) HLn.out).mono ?_
            rintro e w1 ⟨rfl, rfl⟩
            rw [HT.out]
            clear hsz hps
            go_wp2_with (at_builtin; refine wpList_append_lies _ rfl (.tmp 24) (.tmp 28) 25 rfl w.heap.size 5 i0 (.int .u8 0) 1 1 Try.underlying25 HI.out HZ.out.1 HZ.out.2.1 HZ.out.2.2 rfl (by decide) u3 k (u8s ((pack bs).take k)) rfl (HO.out.alloc _) ⟨wr.heap.size, 0, none⟩ 1 1 [.int .u8 (by8 : Int)] rfl rfl (cell_one_new _ _ _) ?c2 (by decide) ?b1 ?b2 ?b3 (wr.heap.size + 1) ?b4 ?_)
            case c2 => intro u hu; rw [List.mem_singleton.1 hu]; rfl
            case b1 => unfold maxLen; omega
            case b2 => omega
            case b3 => have := HB.out.size; simp; omega
            case b4 => simp
            intro q cap w1 hown hgr hq hlt1
            have O1 := Lib.hid (show w1.ownsRow w.heap.size 5 1 (.slice (some ⟨q, 0, none⟩) (k + 1) cap) (k + 1) (u8s ((pack bs).take (k + 1))) by
              rw [take_pack bs k (by omega), HBY.out]; exact hown)
            have B1 := Lib.hid ((HB.out.alloc HB.out.size (.cells #[.int .u8 (by8 : Int)] 5)).grown hgr (by have := HB.out.size; simp; omega) (fun j e => (HO.out.lt j e).1))
            clear hown hgr hq hlt1
            go_wp2_with fail
            refine ⟨⟨k + 1, by omega, rfl, O1.out, B1.out⟩, ?_⟩
            have h1 := HM.out
            have h2 := HN.out
            omega
      · have hce : chunk bs k = bs.drop (8 * k) := by unfold chunk; rw [List.take_of_length_le (by rw [List.length_drop]; omega)]
        have hnx : bs.drop (8 * (k + 1)) = [] := List.drop_eq_nil_of_le (by omega)
        have E2 := Lib.hid (show ByteArray.empty = str (bs.drop (8 * (k + 1))) by rw [hnx]; rfl)
        have hcl := length_chunk bs k
        have HCL := Lib.hid hcl
        have hcs := size_str (chunk bs k)
        rw [← hce] at hsz HM ⊢
        have HCS := Lib.hid hcs
        clear hce hnx hcs hcl
        go_wp2_with fail
        rw [E2.out]
        go_loop [4] (PadAt (chunk bs k)) (fun p => 8 - lenOf p)
        case atStart => exact ⟨0, by rw [length_chunk]; omega, by simp⟩
        case round =>
          obtain ⟨t, ht, rfl⟩ := hrel
          have hps := size_str (chunk bs k ++ List.replicate t false)
          rw [List.length_append, List.length_replicate] at hps
          obtain ⟨cl, hcl⟩ : ∃ cl, (chunk bs k).length = cl := ⟨_, rfl⟩
          rw [hcl] at hps ht
          have HC := Lib.hid hcl
          clear hcl
          have HPS := Lib.hid hps
          by_cases h8 : cl + t < 8
          · have ha := str_add Try.prog wr (chunk bs k ++ List.replicate t false) [false] (by rw [List.length_append, List.length_replicate, HC.out]; omega) (by simp)
            rw [← pad_step, ← str_nought] at ha
            have HP2 := Lib.hid (show lenOf (.string (str (chunk bs k ++ List.replicate (t + 1) false))) = cl + (t + 1) by
              show (str _).size = _
              rw [size_str, List.length_append, List.length_replicate, HC.out])
            go_wp2_with fail
            refine ⟨⟨t + 1, by rw [HC.out]; omega, rfl⟩, ?_⟩
            have h1 : lenOf (.string (str (chunk bs k ++ List.replicate t false))) = _ := HPS.out
            have h2 := HP2.out
            omega
          · have HT := Lib.hid (show num (chunk bs k ++ List.replicate t false) = byteAt bs k by
              rw [← chunk_pad bs k, HC.out]; congr 3; omega)
            have HLn := Lib.hid (show (chunk bs k ++ List.replicate t false).length ≤ 64 by rw [List.length_append, List.length_replicate, HC.out]; omega)
            have hbt := byteAt_lt bs k
            generalize hby : byteAt bs k = by8 at *
            have HBY := Lib.hid hby
            clear hby
            go_wp2_with fail
            refine (value_any wr (chunk bs k ++ List.replicate t false) HLn.out).mono ?_
            rintro e w1 ⟨rfl, rfl⟩
            rw [HT.out]
            clear hsz hps
            go_wp2_with (at_builtin; refine wpList_append_lies _ rfl (.tmp 24) (.tmp 28) 25 rfl w.heap.size 5 i0 (.int .u8 0) 1 1 Try.underlying25 HI.out HZ.out.1 HZ.out.2.1 HZ.out.2.2 rfl (by decide) u3 k (u8s ((pack bs).take k)) rfl (HO.out.alloc _) ⟨wr.heap.size, 0, none⟩ 1 1 [.int .u8 (by8 : Int)] rfl rfl (cell_one_new _ _ _) ?c2 (by decide) ?b1 ?b2 ?b3 (wr.heap.size + 1) ?b4 ?_)
            case c2 => intro u hu; rw [List.mem_singleton.1 hu]; rfl
            case b1 => unfold maxLen; omega
            case b2 => omega
            case b3 => have := HB.out.size; simp; omega
            case b4 => simp
            intro q cap w1 hown hgr hq hlt1
            have O1 := Lib.hid (show w1.ownsRow w.heap.size 5 1 (.slice (some ⟨q, 0, none⟩) (k + 1) cap) (k + 1) (u8s ((pack bs).take (k + 1))) by
              rw [take_pack bs k (by omega), HBY.out]; exact hown)
            have B1 := Lib.hid ((HB.out.alloc HB.out.size (.cells #[.int .u8 (by8 : Int)] 5)).grown hgr (by have := HB.out.size; simp; omega) (fun j e => (HO.out.lt j e).1))
            clear hown hgr hq hlt1
            go_wp2_with fail
            refine ⟨⟨k + 1, by omega, rfl, O1.out, B1.out⟩, ?_⟩
            have h1 := HM.out
            have h2 := HN.out
            omega
end Go.Proofs.Ytdlblpmjghjhlaa
