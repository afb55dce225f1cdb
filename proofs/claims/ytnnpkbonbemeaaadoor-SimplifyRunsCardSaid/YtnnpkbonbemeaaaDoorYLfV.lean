/-
  What lies in memory while a table of live registers grows; the measure of its growth.
-/
import Derived.Test.YtnnpkbonbemeaaaDoorYCt
import Derived.Test.YtnnpkbonbemeaaaDoorYCfV
import Derived.Test.YtnnpkbonbemeaaaDoorYCc
import Derived.Test.YtnnpkbonbemeaaaDoorYInE
import Derived.Test.YtnnpkbonbemeaaaDoorYOp
import Derived.Test.YtnnpkbonbemeaaaDoorYOwn
import Derived.Test.YtnnpkbonbemeaaaDoorProg
import Derived.Test.YtnnpkbonbemeaaaDoorRows
import Derived.Deep.QuietTactic
import Derived.BigQuiet
import Derived.Outline
import Derived.LoopTactic
import Derived.Test.YtnnpkbonbemeaaaDoorYPure
import Derived.ArgAppend
import Derived.Test.YtnnpkbonbemeaaaDoorYCd
import Derived.Lib.AppendZeros
import Derived.Test.YtnnpkbonbemeaaaDoorYCb
import Derived.Test.YtnnpkbonbemeaaaDoorYRangeC
namespace Go.Proofs.YtnnpkbonbemeaaaDoor
open Go Go.RowKit Go.Shelf

theorem cellsOf {X : World} {base n : Nat} {g : Nat} {vs : List Value} {T : TypeId} {m : Nat} (h : X.ownsRow base T 1 (.slice (some ⟨g, 0, none⟩) n m) n vs) : ∃ o, X.heap[g]? = some o ∧ o.isCells = true := by
  rcases h.2 with ⟨h2, _⟩ | ⟨g', cap, cur, e, _, hg, _⟩
  · simp at h2
  · injection e with e
    injection e with e
    injection e with e
    subst e
    exact ⟨_, hg, rfl⟩
section
variable {C : List I8} {ex : Bool} {n : Nat} {w X Y : World} {A : Option Addr} {c : Nat} {T : Nat → Int → Bool}
end
end Go.Proofs.YtnnpkbonbemeaaaDoor
