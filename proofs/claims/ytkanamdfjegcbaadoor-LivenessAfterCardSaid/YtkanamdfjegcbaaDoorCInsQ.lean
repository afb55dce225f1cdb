/-
  The contract of the statements' own examples (awake): they hold, where the tables are laid.
-/
import Derived.Test.YtkanamdfjegcbaaDoorCG3
import Derived.Test.YtkanamdfjegcbaaDoorCInsF
import Derived.Test.YtkanamdfjegcbaaDoorCR
namespace Go.Proofs.YtkanamdfjegcbaaDoor
open Go Go.RowKit

/-- The tables of the operations and of the names of the functions are laid. -/
structure Laid7 (w : World) : Prop where
  ins : InsT w
  nm : Nm w
theorem Laid7.below {W X : World} {B : Nat} (h : Laid7 W) (hb : Below B W X) (hB : W.heap.size ≤ B := by exact Nat.le_refl _) : Laid7 X := ⟨h.ins.below hb hB, h.nm.below hb hB⟩
end Go.Proofs.YtkanamdfjegcbaaDoor
