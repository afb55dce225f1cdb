/-
  Words for relations in memory: which pairs a list holds, a relation's own block, results that are relations.
-/
import Derived.Test.YtnnpkbonbemeaaaDoorYOwn
import Derived.Test.YtnnpkbonbemeaaaDoorProg
import Derived.KernelRfl
import Derived.Deep.QuietTactic
import Derived.BigQuiet
import Derived.Outline
import Derived.LoopTactic
import Derived.WalkKit
import Derived.Lib.Hide
import Derived.Maps.OwnOps
import Derived.Maps.Views
namespace Go.Proofs.YtnnpkbonbemeaaaDoor
open Go.RowKit

theorem Chg.setCell (w : World) (p : Addr) (v : Value) : Chg w (w.setCell p v) (fun g => g ≠ p.block) :=
  ⟨rfl, rfl, rfl, by simp, fun k _ hk => heap_setCell_other w p k v hk⟩
end Go.Proofs.YtnnpkbonbemeaaaDoor

namespace Go.Proofs.YtnnpkbonbemeaaaDoor
open Go.RowKit

/-- The row of Booleans of E. -/
def bl (n : Nat) (E : Nat → Bool) : List Bool := (List.range n).map E
section
variable {w w' : World} {g n : Nat} {E : Nat → Bool}
end
end Go.Proofs.YtnnpkbonbemeaaaDoor
