/-
  The contract of the specification's Check: the first error of an instruction.
-/
import Derived.Test.YtdmajlgdjhmpdaaDoorCInsG1
import Derived.Test.YtdmajlgdjhmpdaaDoorCInsG2
namespace Go.Proofs.YtdmajlgdjhmpdaaDoor
open Go.RowKit

theorem uvecAll : ∀ k, k < 23 → 1 ≤ k → uvec k ∈ [[true, false, false, false, true, false, false], [true, true, false, false, false, false, false], [true, true, true, false, false, true, false], [false, false, false, false, true, false, false], [false, true, false, false, true, false, false], [false, true, false, false, false, false, false], [false, false, false, false, false, false, false], [true, false, false, true, false, false, true], [false, true, false, true, false, false, true], [true, true, false, true, false, false, true], [true, true, true, true, false, false, true], [true, true, false, true, false, true, true], [false, false, false, true, false, false, false], [true, false, false, true, false, false, false], [false, false, false, true, true, false, false], [true, true, false, true, false, false, false]] := by decide
end Go.Proofs.YtdmajlgdjhmpdaaDoor
