/-
  The contracts of the reference's functions Has, insert and Make on sets of integers.
-/
import Derived.Test.YtdmajlgdjhmpdaaDoorCInts
import Derived.Test.YtdmajlgdjhmpdaaDoorCSetMath
import Derived.Test.YtdmajlgdjhmpdaaDoorCOwnI
namespace Go.Proofs.YtdmajlgdjhmpdaaDoor
open Go.RowKit

theorem mkEmpty : mk [] = [] := rfl

end Go.Proofs.YtdmajlgdjhmpdaaDoor
