/- Bytes as strings: string(b). -/
import Derived.Test.YtngambkbpdjddaaBts
import Derived.Laws.BytesArg
namespace Go.Proofs.Ytngambkbpdjddaa
open Go.RowKit

/-- The text of bytes. -/
def bstr (l : List Nat) : ByteArray := ⟨(l.map UInt8.ofNat).toArray⟩
theorem size_bstr (l : List Nat) : (bstr l).size = l.length := by show (l.map UInt8.ofNat).toArray.size = _; simp
theorem run_bstr (w : World) (A : Option Addr) (n c : Nat) (l : List Nat) (h : Reads w A n (bts l)) : (convert 25 9 (.slice A n c)).run Try.prog w = .ok (.string (bstr l)) w := by
  rw [run_convert_bytes_string w 25 9 5 A n c Try.underlying25 Try.underlying5 Try.underlying9]
  cases A with
  | none =>
    have hn : n = 0 := by
      rcases Nat.eq_zero_or_pos n with h0 | h0
      · exact h0
      · obtain ⟨ad, he, _⟩ := h.2 h0; cases he
    have hl : l = [] := by have := h.1; rw [length_bts, hn] at this; exact List.eq_nil_of_length_eq_zero this
    subst hl
    simp [Conv.bytesToString]
    rfl
  | some ad =>
    have hl : (loadCells ad n).run Try.prog w = .ok ((l.map fun d : Nat => (d : Int)).map (Value.int .u8)).toArray w := by
      have := run_loadCells_list (P := Try.prog) w ad (bts l) (fun j v hj => by
        have hj2 : j < n := by have := (List.getElem?_eq_some_iff.1 hj).1; have := h.1; omega
        obtain ⟨ad', he, hc⟩ := h.2 (by omega)
        injection he with he
        subst he
        exact hc j v hj)
      rw [h.1] at this
      rw [this]
      simp [bts]
    rw [run_bytesToString w ad n c _ hl, foldl_push_bytes]
    simp [bstr, ByteArray.empty, ByteArray.emptyWithCapacity]
    rfl
theorem bstr_toList (l : List Nat) : (bstr l).toList = l.map UInt8.ofNat := by unfold bstr; rw [ByteArray.toList_mk]
theorem bstr_beq {a b : List Nat} (ha : ∀ d ∈ a, d < 256) (hb : ∀ d ∈ b, d < 256) : ((bstr a).toList == (bstr b).toList) = decide (a = b) := by
  rw [bstr_toList, bstr_toList]
  by_cases h : a = b
  · subst h; simp
  · have : a.map UInt8.ofNat ≠ b.map UInt8.ofNat := fun e => h (by
      have e2 : (a.map UInt8.ofNat).map UInt8.toNat = (b.map UInt8.ofNat).map UInt8.toNat := by rw [e]
      rw [List.map_map, List.map_map] at e2
      have key : ∀ l : List Nat, (∀ d ∈ l, d < 256) → l.map (UInt8.toNat ∘ UInt8.ofNat) = l := fun l hl => by
        conv => rhs; rw [← List.map_id l]
        refine List.map_congr_left fun d hd => ?_
        have := hl d hd
        show (UInt8.ofNat d).toNat = d
        rw [UInt8.toNat_ofNat']
        omega
      rwa [key a ha, key b hb] at e2)
    simp [h, this]
end Go.Proofs.Ytngambkbpdjddaa
