/-
  The contracts of Valid, CheckConfig and Size, the program's and the specification's.
-/
import Derived.Test.YtnckpjcfgeajbaaGreatDoorPgY
namespace Go.Proofs.YtnckpjcfgeajbaaGreatDoor
open Go Go.RowKit

/-- The number of instructions. -/
def Prg.size (p : Prg) : Nat := (p.funcs.map fun f => f.2.length).sum
end Go.Proofs.YtnckpjcfgeajbaaGreatDoor
