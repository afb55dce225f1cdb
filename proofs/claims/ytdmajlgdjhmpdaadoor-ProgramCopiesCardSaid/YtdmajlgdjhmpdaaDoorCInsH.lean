/-
  The contracts of the functions that name operations and orders, of the program and of the specification.
-/
import Derived.Test.YtdmajlgdjhmpdaaDoorCInsG
namespace Go.Proofs.YtdmajlgdjhmpdaaDoor
open Go.RowKit

theorem mnAt {m : Nat} (hm : m < 22) : (mnTab.drop 1)[m]'(by simpa [mnTab] using hm) = mn (m + 1) := by
  unfold mn
  rw [List.getD_eq_getElem?_getD, List.getElem?_eq_getElem (show m + 1 < mnTab.length by simp [mnTab]; omega)]
  simp
theorem mnOfAt (m : Nat) (hm : m < 22) : mnOf ((m : Int) + 1) = mn (m + 1) := by
  unfold mnOf
  rw [if_pos (by simp [opOk]; omega)]
  congr 1
theorem mnOfNo {o : Int} (h : opOk o = false) : mnOf o = ⟨#[]⟩ := by unfold mnOf; rw [h]; rfl
theorem orOfAt (m : Nat) (hm : m < 3) : ornOf (m : Int) = orn m := by
  unfold ornOf
  rw [if_pos (by simp [orOk]; omega)]
  congr 1
theorem orOfNo {o : Int} (h : orOk o = false) : ornOf o = ⟨#[]⟩ := by unfold ornOf; rw [h]; rfl

end Go.Proofs.YtdmajlgdjhmpdaaDoor
