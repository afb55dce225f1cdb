/-
  The specification's Leaders.
-/
import Derived.Test.YtnnpkbonbemeaaaDoorUCt
import Derived.Test.YtnnpkbonbemeaaaDoorURow
import Derived.Test.YtnnpkbonbemeaaaDoorUCfH
namespace Go.Proofs.YtnnpkbonbemeaaaDoor
open Go Go.RowKit Go.Shelf

theorem infoBool9 : (Tryd.prog.info? 4).map (fun i => (i.zero, i.size, i.bytes)) = some (some (.bool false), 1, 1) := by kernel_rfl
end Go.Proofs.YtnnpkbonbemeaaaDoor
