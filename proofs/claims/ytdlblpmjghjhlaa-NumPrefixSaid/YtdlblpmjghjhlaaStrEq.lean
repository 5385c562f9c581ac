/- Texts of bits, compared. -/
import Derived.Test.YtdlblpmjghjhlaaStr
namespace Go.Proofs.Ytdlblpmjghjhlaa
open Go.RowKit

theorem str_toList (bs : List Bool) : (str bs).toList = bs.map ch := by unfold str; rw [ByteArray.toList_mk]
theorem str_some (bs : List Bool) (h : 1 ≤ bs.length) : (str bs).toList.isEmpty = false := by
  rw [str_toList]
  cases bs with
  | nil => simp at h
  | cons a l => rfl
theorem str_beq (a b : List Bool) : ((str a).toList == (str b).toList) = decide (a = b) := by
  rw [str_toList, str_toList]
  by_cases h : a = b
  · subst h; simp
  · have : a.map ch ≠ b.map ch := fun e => h ((List.map_inj_right (fun x y e => ch_inj x y e)).1 e)
    simp [h, this]
end Go.Proofs.Ytdlblpmjghjhlaa
