/-
  The specification's Clone: a copy in new memory.
-/
import Derived.Test.YtebpnnakcodjdaaDoorZPgCm
import Derived.OrdersHeld
import Derived.Deep.RegionHeld
import Derived.Lib.Hide
import Derived.BigQuiet
namespace Go.Proofs.YtebpnnakcodjdaaDoor
open Go Go.RowKit

theorem GoodCp.bel {α : Type} {k : Nat} {E : World → Nat → Nat → α → Prop} {e : TypeId} {l : List α} {n : Nat} {w w' : World} {v : Value} (h : GoodCp k E e l n w v w') : Below w.heap.size w w' := by
  obtain ⟨_, _, _, _, _, hb⟩ := h
  exact hb
/-! ### The functions, one by one -/
end Go.Proofs.YtebpnnakcodjdaaDoor
