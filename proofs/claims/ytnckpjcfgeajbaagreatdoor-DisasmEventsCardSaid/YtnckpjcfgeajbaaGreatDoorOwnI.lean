/-
  Words for rows of integers that the call itself owns, at this program's numbers of the types: such a row, append onto it, what a call that makes one gives.
-/
import Derived.Test.YtnckpjcfgeajbaaGreatDoorSl
import Derived.Test.YtnckpjcfgeajbaaGreatDoorProg
import Derived.KernelRfl
import Derived.OwnWalk
namespace Go.Proofs.YtnckpjcfgeajbaaGreatDoor
open Go.RowKit

theorem stepA {a b c : World} {o : Obj} (h : Below a.heap.size a b) (k : Below a.heap.size (b.alloc o) c) : Below a.heap.size a c := (h.alloc h.size o).trans k
end Go.Proofs.YtnckpjcfgeajbaaGreatDoor
