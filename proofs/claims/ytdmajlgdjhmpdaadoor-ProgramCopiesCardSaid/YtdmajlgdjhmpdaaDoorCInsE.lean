/-
  The contract of the statements' own examples (awake): they hold, where the tables are laid.
-/
import Derived.Test.YtdmajlgdjhmpdaaDoorCInsQ
import Derived.Test.YtdmajlgdjhmpdaaDoorCInsH
import Derived.Test.YtdmajlgdjhmpdaaDoorCInts
namespace Go.Proofs.YtdmajlgdjhmpdaaDoor
open Go Go.RowKit

/-- The tables of the operations and of the names of the functions are laid. -/
structure Laid7 (w : World) : Prop where
  ins : InsT w
  nm : Nm w
theorem Laid7.below {W X : World} {B : Nat} (h : Laid7 W) (hb : Below B W X) (hB : W.heap.size ≤ B := by exact Nat.le_refl _) : Laid7 X := ⟨h.ins.below hb hB, h.nm.below hb hB⟩
theorem in64 {x : Int} (h : -9223372036854775808 ≤ x ∧ x ≤ 9223372036854775807) : In64 x := h
abbrev exCas : I8 := ⟨12, 1, 5, 4, 0, 0, 0, 2⟩
abbrev exCopy : I8 := ⟨2, 0, 1, 0, 0, 0, 0, 0⟩
abbrev exCalc : I8 := ⟨3, 1, 2, 8, 0, 0, 1, 0⟩
abbrev exJump : I8 := ⟨4, 1, 0, 0, 0, 3, 0, 0⟩
abbrev exConst : I8 := ⟨1, 0, 0, 0, 0, 2147483648, 0, 0⟩
theorem wfCas : exCas.Wf := by refine ⟨?_, ?_, ?_, ?_, ?_, ?_, ?_, ?_⟩ <;> exact in64 (by decide)
theorem wfCopy : exCopy.Wf := by refine ⟨?_, ?_, ?_, ?_, ?_, ?_, ?_, ?_⟩ <;> exact in64 (by decide)
theorem wfCalc : exCalc.Wf := by refine ⟨?_, ?_, ?_, ?_, ?_, ?_, ?_, ?_⟩ <;> exact in64 (by decide)
theorem wfJump : exJump.Wf := by refine ⟨?_, ?_, ?_, ?_, ?_, ?_, ?_, ?_⟩ <;> exact in64 (by decide)
theorem wfConst : exConst.Wf := by refine ⟨?_, ?_, ?_, ?_, ?_, ?_, ?_, ?_⟩ <;> exact in64 (by decide)
end Go.Proofs.YtdmajlgdjhmpdaaDoor
