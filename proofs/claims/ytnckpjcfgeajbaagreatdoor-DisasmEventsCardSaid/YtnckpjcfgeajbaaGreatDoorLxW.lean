/-
  Words for slices of tokens: such a slice reads as a list of tokens, nil let in; one that the call itself made; append of one token.
-/
import Derived.Test.YtnckpjcfgeajbaaGreatDoorChg
import Derived.Test.YtnckpjcfgeajbaaGreatDoorBlk
import Derived.Test.YtnckpjcfgeajbaaGreatDoorLexM
import Derived.Test.YtnckpjcfgeajbaaGreatDoorPgM
import Derived.Test.YtnckpjcfgeajbaaGreatDoorProg
import Derived.KernelRfl
import Derived.Maps.AppendAt
import Derived.Lib.Hide
namespace Go.Proofs.YtnckpjcfgeajbaaGreatDoor
open Go Go.RowKit

section
variable {w w' : World} {A : Option Addr} {c : Nat} {l : List Tok}
end
section
variable {w w' : World} {base : Nat} {v : Value} {l : List Tok}
end
theorem ownChgK {w w' : World} {F : Nat → Prop} {base : Nat} {e : TypeId} {s : Nat} {v : Value} {n : Nat} {xs : List Value} (h : w.ownsRow base e s v n xs) (hc : Chg w w' F) (hF : ∀ g, v.ownBlock = some g → F g) : w'.ownsRow base e s v n xs := by
  refine ⟨h.1, ?_⟩
  rcases h.2 with h2 | ⟨g, cap, cur, rfl, hb, hg, r⟩
  · exact .inl h2
  · exact .inr ⟨g, cap, cur, rfl, hb, (hc.block g (World.ownsRow.lt h g rfl).2 (hF g rfl)).trans hg, r⟩
end Go.Proofs.YtnckpjcfgeajbaaGreatDoor
