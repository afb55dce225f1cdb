/-
  The contracts of the number functions: value.truth, value.Wrap and the specification's truth and Wrap return the value of their argument.
-/
import Derived.Test.YtlkachcidjkhhaaDoorRows
import Derived.WalkKit
import Derived.WalkSpells
import Derived.WalkLawsBesides
import Derived.Lib.Hide
import Derived.Test.YtlkachcidjkhhaaDoorPlain
namespace Go.Proofs.YtlkachcidjkhhaaDoor
open Go.RowKit (wrap32 wrap64)

theorem vTruth (b : Bool) (w : World) :
    Calls Tryd.prog 23 #[.bool b] w fun e w' => e = .returned (.int .i64 (if b then 1 else 0)) ∧ w = w' := by
  cases b
  · go_enter Tryd.func23, Tryd.ntmps23
    go_wp2
    go_ret
    exact ⟨rfl, rfl⟩
  · go_enter Tryd.func23, Tryd.ntmps23
    go_wp2
    go_ret
    exact ⟨rfl, rfl⟩

theorem rTruth (b : Bool) (w : World) :
    Calls Tryd.prog 25 #[.bool b] w fun e w' => e = .returned (.int .i64 (if b then 1 else 0)) ∧ w = w' := by
  cases b
  · go_enter Tryd.func25, Tryd.ntmps25
    go_wp2
    go_ret
    exact ⟨rfl, rfl⟩
  · go_enter Tryd.func25, Tryd.ntmps25
    go_wp2
    go_ret
    exact ⟨rfl, rfl⟩

theorem vWrap (a : Int) (w : World) :
    Calls Tryd.prog 11 #[.int .i64 a] w fun e w' => e = .returned (.int .i64 (wrap32 a)) ∧ w = w' := by
  go_enter Tryd.func11, Tryd.ntmps11
  go_wp2
  go_ret
  exact ⟨retInt (w64w32 a), rfl⟩

theorem rWrap (a : Int) (w : World) :
    Calls Tryd.prog 12 #[.int .i64 a] w fun e w' => e = .returned (.int .i64 (wrap32 a)) ∧ w = w' := by
  go_enter Tryd.func12, Tryd.ntmps12
  go_wp2
  all_goals go_ret
  · exact ⟨retInt (wrapA a (by assumption) (by assumption)), rfl⟩
  · exact ⟨retInt (wrapB a (by assumption) (by assumption)), rfl⟩
  · exact ⟨retInt (wrapC a (by assumption) (by assumption)), rfl⟩
  · exact ⟨retInt (wrapD a (by assumption) (by assumption)), rfl⟩
end Go.Proofs.YtlkachcidjkhhaaDoor
