/-
  The contracts of the number functions: value.truth, value.Wrap and the specification's truth and Wrap return the value of their argument.
-/
import Derived.Test.YtebpnnakcodjdaaDoorRows
import Derived.WalkKit
import Derived.WalkSpells
import Derived.WalkLawsBesides
import Derived.Lib.Hide
import Derived.Test.YtebpnnakcodjdaaDoorZPlain
namespace Go.Proofs.YtebpnnakcodjdaaDoor
open Go.RowKit (wrap32 wrap64)

theorem rTruth (b : Bool) (w : World) :
    Calls Tryd.prog 38 #[.bool b] w fun e w' => e = .returned (.int .i64 (if b then 1 else 0)) ∧ w = w' := by
  cases b
  · go_enter Tryd.func38, Tryd.ntmps38
    go_wp2
    go_ret
    exact ⟨rfl, rfl⟩
  · go_enter Tryd.func38, Tryd.ntmps38
    go_wp2
    go_ret
    exact ⟨rfl, rfl⟩

theorem vWrap (a : Int) (w : World) :
    Calls Tryd.prog 79 #[.int .i64 a] w fun e w' => e = .returned (.int .i64 (wrap32 a)) ∧ w = w' := by
  go_enter Tryd.func79, Tryd.ntmps79
  go_wp2
  go_ret
  exact ⟨retInt (w64w32 a), rfl⟩

theorem rWrap (a : Int) (w : World) :
    Calls Tryd.prog 7 #[.int .i64 a] w fun e w' => e = .returned (.int .i64 (wrap32 a)) ∧ w = w' := by
  go_enter Tryd.func7, Tryd.ntmps7
  go_wp2
  all_goals go_ret
  · exact ⟨retInt (wrapA a (by assumption) (by assumption)), rfl⟩
  · exact ⟨retInt (wrapB a (by assumption) (by assumption)), rfl⟩
  · exact ⟨retInt (wrapC a (by assumption) (by assumption)), rfl⟩
  · exact ⟨retInt (wrapD a (by assumption) (by assumption)), rfl⟩
end Go.Proofs.YtebpnnakcodjdaaDoor
