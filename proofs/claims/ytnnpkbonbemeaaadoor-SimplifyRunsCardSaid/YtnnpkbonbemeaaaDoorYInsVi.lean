/-
  The contract of Visible.
-/
import Derived.Test.YtnnpkbonbemeaaaDoorYInT
namespace Go.Proofs.YtnnpkbonbemeaaaDoor
open Go Go.RowKit

def visL (o : Int) : Bool := decide (8 ≤ o ∧ o ≤ 22)
theorem rVisL (o : Int) (w : World) :
    Calls Tryd.prog 82 #[.int .i64 o] w fun e w' => e = .returned (.bool (visL o)) ∧ w = w' := by
  go_enter Tryd.func82, Tryd.ntmps82
  go_wp2
  all_goals go_ret
  all_goals exact ⟨retB (by simp [visL] at *; try omega), rfl⟩
end Go.Proofs.YtnnpkbonbemeaaaDoor
