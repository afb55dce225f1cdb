/-
  The contracts of the small functions that the checks of instructions call: the names of the functions (value.Name and the specification's), value.Wrap, and the tests of an operation, a register, an order, and the contents of the fields.
-/
import Derived.Test.YtiaendggmamnkaaGreatDoorEPu
import Derived.Test.YtiaendggmamnkaaGreatDoorEOw
import Derived.Test.YtiaendggmamnkaaGreatDoorTie
import Derived.ProofKit
import Derived.LaidMore
import Derived.OpenShut
import Derived.Lib.LaidTab
import Derived.Lib.SmallJoins
import Derived.Below
import Derived.ChangeSame
import Derived.ChangeMaps5
import Derived.Test.YtiaendggmamnkaaGreatDoorRows
import Derived.WalkKit
import Derived.WalkSpells
import Derived.WalkLawsBesides
import Derived.Lib.Hide
import Derived.Lib.Strings
namespace Go.Proofs.YtiaendggmamnkaaGreatDoor
open Go.RowKit

/-- The names, by number; number 0 has the empty one. -/
def nmTab : List ByteArray := [⟨#[]⟩, ⟨#[97, 100, 100]⟩, ⟨#[115, 117, 98]⟩, ⟨#[109, 117, 108]⟩, ⟨#[97, 110, 100]⟩, ⟨#[111, 114]⟩, ⟨#[120, 111, 114]⟩, ⟨#[101, 113]⟩, ⟨#[110, 101]⟩, ⟨#[108, 116]⟩, ⟨#[108, 101]⟩]
def nm (k : Nat) : ByteArray := nmTab.getD k ⟨#[]⟩
end Go.Proofs.YtiaendggmamnkaaGreatDoor

namespace Go.Proofs.YtiaendggmamnkaaGreatDoor
open Go.RowKit

def lenOf : Value → Nat | .slice _ n _ => n | _ => 0

end Go.Proofs.YtiaendggmamnkaaGreatDoor
