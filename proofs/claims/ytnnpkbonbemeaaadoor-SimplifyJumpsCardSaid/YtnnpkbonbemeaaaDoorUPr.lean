/-
  Words for slices of pairs of numbers: such a slice reads as a list of pairs, nil let in; one that the call itself made; relations as values.
-/
import Derived.Test.YtnnpkbonbemeaaaDoorUOwn
import Derived.Test.YtnnpkbonbemeaaaDoorURelMath
import Derived.Test.YtnnpkbonbemeaaaDoorProg
import Derived.KernelRfl
namespace Go.Proofs.YtnnpkbonbemeaaaDoor
open Go.RowKit

/-- The cells of a list of pairs. -/
def ct : Prs → List Value
  | [] => []
  | t :: l => .int .i64 t.1 :: .int .i64 t.2 :: ct l
section
variable {w w' : World} {A : Option Addr} {c : Nat} {l : Prs}
end

section
variable {w w' : World} {base : Nat} {v : Value} {l : Prs}
end
end Go.Proofs.YtnnpkbonbemeaaaDoor
