/-
  The contracts of the reference's functions Has, insert and Make on sets of integers.
-/
import Derived.Test.YtncpnkincdjgfaaDoorInts
import Derived.Test.YtncpnkincdjgfaaDoorSetMath
import Derived.Test.YtncpnkincdjgfaaDoorOwnI
namespace Go.Proofs.YtncpnkincdjgfaaDoor
open Go.RowKit

theorem mkEmpty : mk [] = [] := rfl

end Go.Proofs.YtncpnkincdjgfaaDoor
