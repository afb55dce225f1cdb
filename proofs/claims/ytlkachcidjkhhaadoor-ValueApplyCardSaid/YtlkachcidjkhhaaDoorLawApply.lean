/-
  The law ValueApply returns true for every function and every two integers, where the library's variable ErrRange holds an error; nothing that was in memory changes.
-/
import Derived.Test.YtlkachcidjkhhaaDoorRef
import Derived.Test.YtlkachcidjkhhaaDoorExample
import Derived.Deep.QuietTactic
import Derived.BigQuiet
namespace Go.Proofs.YtlkachcidjkhhaaDoor
open Go.RowKit

set_option maxHeartbeats 1000000 in
theorem lawApply (f a b : Int) (w : World) (hw : Ev w) :
    Calls Tryd.prog 3 #[.int .i64 f, .int .i64 a, .int .i64 b] w fun e w' => e = .returned (.bool true) ∧ Below w.heap.size w w' := by
  go_enter Tryd.func3, Tryd.ntmps3
  go_wp2_with fail
  refine (vApply _ _ _ _).mono ?_
  rintro e w' ⟨rfl, rfl⟩
  go_wp2_with fail
  refine (rApply _ _ _ _).mono ?_
  rintro e w1 ⟨rfl, b1⟩
  have v1 := hw.stays b1
  go_wp2_with fail
  refine (vWrap _ _).mono ?_
  rintro e w' ⟨rfl, rfl⟩
  go_wp2_with fail
  refine (rWrap _ _).mono ?_
  rintro e w' ⟨rfl, rfl⟩
  go_wp2_with fail
  refine (exOk _ v1).mono ?_
  rintro e w2 ⟨rfl, b2, v2⟩
  go_wp2
  go_ret
  exact ⟨rfl, b1.trans (b2.mono b1.size)⟩
end Go.Proofs.YtlkachcidjkhhaaDoor
