/-
  The contracts of the program's functions that make sets of integers: setOf (through the library's Sort and Compact) and Make.
-/
import Derived.Test.YtebpnnakcodjdaaDoorZPure
import Derived.Test.YtebpnnakcodjdaaDoorZOwn
namespace Go.Proofs.YtebpnnakcodjdaaDoor
open Go.RowKit

end Go.Proofs.YtebpnnakcodjdaaDoor

namespace Go.Proofs.YtebpnnakcodjdaaDoor
open Go.RowKit

def lenOf : Value → Nat | .slice _ n _ => n | _ => 0

theorem OwnI.drewN {w : World} {base : Nat} {v : Value} {l : List Int} (h : OwnI w base v l) (n : Nat) : OwnI (w.drewN n) base v l := h

end Go.Proofs.YtebpnnakcodjdaaDoor
