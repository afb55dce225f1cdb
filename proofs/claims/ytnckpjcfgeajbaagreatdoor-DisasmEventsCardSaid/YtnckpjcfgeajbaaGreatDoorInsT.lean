/-
  Instructions as values and the table of the operations in memory: what an argument of the type Inst is, what the listed variables give.
-/
import Derived.Test.YtnckpjcfgeajbaaGreatDoorPgM
import Derived.Test.YtnckpjcfgeajbaaGreatDoorOwnI
import Derived.Test.YtnckpjcfgeajbaaGreatDoorTie
import Derived.ProofKit
import Derived.LaidMore
import Derived.OpenShut
import Derived.Lib.LaidTab
import Derived.Lib.SmallJoins
import Derived.Below
import Derived.ChangeSame
import Derived.ChangeMaps5
namespace Go.Proofs.YtnckpjcfgeajbaaGreatDoor
open Go Go.ChangeShapes Go.WideShapes Go.ChangeAt Go.WideMaps Go.WideElems Go.RowKit

def I8.val (i : I8) : Value := .agg #[.int .i64 i.op, .int .i64 i.a, .int .i64 i.b, .int .i64 i.c, .int .i64 i.obj, .int .i64 i.n, .int .i64 i.fn, .int .i64 i.ord]
def In64 (x : Int) : Prop := -9223372036854775808 ≤ x ∧ x ≤ 9223372036854775807
structure I8.Wf (i : I8) : Prop where
  op : In64 i.op
  a : In64 i.a
  b : In64 i.b
  c : In64 i.c
  obj : In64 i.obj
  n : In64 i.n
  fn : In64 i.fn
  ord : In64 i.ord

section
variable {H : Type} {enc : TypeId × Value → H} {P : Program} {w : World} {base : Nat} {sp : Nat → Bool} {held : Bool} {fuel : Nat}
end

/-- The table of the operations is laid: name and fields of operation k. -/
structure InsT (w : World) : Prop where
  nm : ∀ k, k < 23 → w.cell? ⟨2, k * 8, none⟩ = some (.string (mn k))
  us : ∀ k f, k < 23 → f < 7 → w.cell? ⟨2, k * 8 + 1 + f, none⟩ = some (.bool (us k f))
/-- The table of the names of the orders is laid. -/
def OrT (w : World) : Prop := ∀ k, k < 3 → w.cell? ⟨4, k, none⟩ = some (.string (orn k))
end Go.Proofs.YtnckpjcfgeajbaaGreatDoor
