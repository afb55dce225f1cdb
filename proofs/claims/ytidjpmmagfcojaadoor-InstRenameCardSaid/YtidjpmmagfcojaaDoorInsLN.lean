/-
  The laws InstNames and InstClasses return true for every operation, order and string, where the tables are laid; nothing that was in memory changes.
-/
import Derived.Test.YtidjpmmagfcojaaDoorInsE
namespace Go.Proofs.YtidjpmmagfcojaaDoor
open Go Go.RowKit

def LawOk7 (w : World) (e : Ending) (w' : World) : Prop := e = .returned (.bool true) ∧ Below w.heap.size w w'
end Go.Proofs.YtidjpmmagfcojaaDoor
