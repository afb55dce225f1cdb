/-
  The contracts of inst.Defines, and of the specification's Uses and Defines.
-/
import Derived.Test.YtnckpjcfgeajbaaGreatDoorInsU
import Derived.Test.YtnckpjcfgeajbaaGreatDoorInsG3
import Derived.Test.YtnckpjcfgeajbaaGreatDoorSl
import Derived.Test.YtnckpjcfgeajbaaGreatDoorProg
import Derived.Test.YtnckpjcfgeajbaaGreatDoorRows
import Derived.Deep.QuietTactic
import Derived.BigQuiet
import Derived.Outline
import Derived.LoopTactic
import Derived.Test.YtnckpjcfgeajbaaGreatDoorPgM
import Derived.Test.YtnckpjcfgeajbaaGreatDoorOwnI
namespace Go.Proofs.YtnckpjcfgeajbaaGreatDoor
open Go Go.RowKit

theorem rCheckA (op a b c obj n fn ord r : Int) (hr : (I8.mk8 op a b c obj n fn ord).chk = r) (w : World) :
    Calls Tryz.prog 64 #[.agg #[.int .i64 op, .int .i64 a, .int .i64 b, .int .i64 c, .int .i64 obj, .int .i64 n, .int .i64 fn, .int .i64 ord]] w fun e w' => e = .returned (.int .i64 r) ∧ Below w.heap.size w w' := rCheck _ r hr w
end Go.Proofs.YtnckpjcfgeajbaaGreatDoor
