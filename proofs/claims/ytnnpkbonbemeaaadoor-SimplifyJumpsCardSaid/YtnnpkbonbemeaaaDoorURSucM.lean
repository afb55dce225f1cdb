/-
  Words for the successors of a relation: rows of integers of the call's own, in a row of slices, no two in one block; what such a row of slices reads as.
-/
import Derived.Test.YtnnpkbonbemeaaaDoorURow
import Derived.Test.YtnnpkbonbemeaaaDoorURelDist
import Derived.Maps.OwnOps
import Derived.Maps.Views
import Derived.Test.YtnnpkbonbemeaaaDoorUMk
import Derived.Test.YtnnpkbonbemeaaaDoorUOwn
import Derived.Deep.RegionHeld3
namespace Go.Proofs.YtnnpkbonbemeaaaDoor
open Go.RowKit Go.Maps

/-- The numbers that follow i, as they stand in the list. -/
def sl (l : Prs) (i : Nat) : List Int := l.filterMap fun p => if p.1 = (i : Int) then some p.2 else none
section
variable {w w' : World} {A : Option Addr} {c n : Nat} {C : Nat → List Int}
end
end Go.Proofs.YtnnpkbonbemeaaaDoor
