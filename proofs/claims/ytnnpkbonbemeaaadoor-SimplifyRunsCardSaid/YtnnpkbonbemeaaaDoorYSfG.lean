/-
  The three steps again and again, pure: they come to an end.
-/
import Derived.Test.YtnnpkbonbemeaaaDoorYSa
namespace Go.Proofs.YtnnpkbonbemeaaaDoor

/-- A round: fold, thread, prune. -/
noncomputable def st (C : List I8) : List I8 := prL (thL (fdL C))
/-- Can folding turn it? -/
def fb (i : I8) : Bool := decide (i.op = 2 ∨ i.op = 3 ∨ i.op = 5 ∨ i.op = 6)
end Go.Proofs.YtnnpkbonbemeaaaDoor
