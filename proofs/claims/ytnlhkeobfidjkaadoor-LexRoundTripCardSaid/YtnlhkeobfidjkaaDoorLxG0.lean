/-
  Texts that are empty or not.
-/
import Derived.Test.YtnlhkeobfidjkaaDoorLxW
namespace Go.Proofs.YtnlhkeobfidjkaaDoor
open Go Go.RowKit
theorem neOf {s : ByteArray} (h : ¬ s.size = 0) : s.data.toList ≠ [] := by
  intro e
  have : s.data.toList.length = 0 := by rw [e]; rfl
  exact h this
theorem emptyOf {s : ByteArray} (h : ¬ s.size = 0) : s.toList.isEmpty = false := by
  rw [ByteArray.toList_eq]
  cases hd : s.data.toList with
  | nil => exact absurd hd (neOf h)
  | cons a r => rfl
end Go.Proofs.YtnlhkeobfidjkaaDoor
