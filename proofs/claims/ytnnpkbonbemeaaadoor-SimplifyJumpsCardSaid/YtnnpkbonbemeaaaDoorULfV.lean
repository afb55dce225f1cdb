/-
  What lies in memory while a table of live registers grows; the measure of its growth.
-/
import Derived.Test.YtnnpkbonbemeaaaDoorUCt
import Derived.Test.YtnnpkbonbemeaaaDoorUCfX
import Derived.Test.YtnnpkbonbemeaaaDoorUCc
import Derived.Test.YtnnpkbonbemeaaaDoorUInE
import Derived.Test.YtnnpkbonbemeaaaDoorUOp
import Derived.Test.YtnnpkbonbemeaaaDoorURMk
import Derived.Test.YtnnpkbonbemeaaaDoorUOwn
import Derived.Test.YtnnpkbonbemeaaaDoorProg
import Derived.Test.YtnnpkbonbemeaaaDoorRows
import Derived.Deep.QuietTactic
import Derived.BigQuiet
import Derived.Outline
import Derived.LoopTactic
import Derived.ArgAppend
import Derived.Test.YtnnpkbonbemeaaaDoorUCd
import Derived.Lib.AppendZeros
import Derived.Test.YtnnpkbonbemeaaaDoorUCb
import Derived.Test.YtnnpkbonbemeaaaDoorURangeC
namespace Go.Proofs.YtnnpkbonbemeaaaDoor
open Go Go.RowKit Go.Shelf

theorem cellsOf {X : World} {base n : Nat} {g : Nat} {vs : List Value} {T : TypeId} {m : Nat} (h : X.ownsRow base T 1 (.slice (some ⟨g, 0, none⟩) n m) n vs) : ∃ o, X.heap[g]? = some o ∧ o.isCells = true := by
  rcases h.2 with ⟨h2, _⟩ | ⟨g', cap, cur, e, _, hg, _⟩
  · simp at h2
  · injection e with e
    injection e with e
    injection e with e
    subst e
    exact ⟨_, hg, rfl⟩
section
variable {C : List I8} {ex : Bool} {n : Nat} {w X Y : World} {A : Option Addr} {c : Nat} {T : Nat → Int → Bool}
end
end Go.Proofs.YtnnpkbonbemeaaaDoor
