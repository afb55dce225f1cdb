/-
  The contracts of compareFirst and merge: merging two sorted slices.
-/
import Derived.Test.YtnckpjcfgeajbaaGreatDoorPgM
import Derived.Test.YtnckpjcfgeajbaaGreatDoorOwnI
import Derived.Test.YtnckpjcfgeajbaaGreatDoorChg
namespace Go.Proofs.YtnckpjcfgeajbaaGreatDoor
open Go.RowKit

def lenOf : Value → Nat | .slice _ n _ => n | _ => 0

end Go.Proofs.YtnckpjcfgeajbaaGreatDoor
