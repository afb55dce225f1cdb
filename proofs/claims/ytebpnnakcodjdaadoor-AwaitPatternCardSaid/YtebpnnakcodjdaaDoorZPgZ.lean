/-
  The contracts of Valid, CheckConfig and Size, the program's and the specification's.
-/
import Derived.Test.YtebpnnakcodjdaaDoorZPgY
namespace Go.Proofs.YtebpnnakcodjdaaDoor
open Go Go.RowKit

def Prg.okB (p : Prg) : Bool := decide (p.chk.1 = 0)
/-- The number of instructions. -/
def Prg.size (p : Prg) : Nat := (p.funcs.map fun f => f.2.length).sum
end Go.Proofs.YtebpnnakcodjdaaDoor
