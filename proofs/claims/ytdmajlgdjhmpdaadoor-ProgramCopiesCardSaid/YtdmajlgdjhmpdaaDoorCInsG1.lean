/-
  The specification's Check at the first half of the kinds of operations (by the fields that they use).
-/
import Derived.Test.YtdmajlgdjhmpdaaDoorCInsG
namespace Go.Proofs.YtdmajlgdjhmpdaaDoor
open Go.RowKit

end Go.Proofs.YtdmajlgdjhmpdaaDoor
