/-
  The law ProgramCopies returns true for every two programs, where the tables are laid.
-/
import Derived.Test.YtebpnnakcodjdaaDoorZPgCa
import Derived.Test.YtebpnnakcodjdaaDoorZPgCr
import Derived.Test.YtebpnnakcodjdaaDoorZPgX5
import Derived.Test.YtebpnnakcodjdaaDoorZPkC
import Derived.BigQuiet
namespace Go.Proofs.YtebpnnakcodjdaaDoor
open Go Go.RowKit

theorem shortOf {p : Prg} (h : p.small = true) : ∀ f ∈ p.funcs, f.2.length ≤ 100 := by
  unfold Prg.small Prg.short at h
  rw [Bool.and_eq_true] at h
  intro f hf
  have := List.all_eq_true.1 h.2 f hf
  simpa using this
end Go.Proofs.YtebpnnakcodjdaaDoor
