/-
  The law ProgramCopies returns true for every two programs, where the tables are laid.
-/
import Derived.Test.YtkanamdfjegcbaaDoorOPgCa
import Derived.Test.YtkanamdfjegcbaaDoorOPgCr
import Derived.Test.YtkanamdfjegcbaaDoorOPgX5
import Derived.Test.YtkanamdfjegcbaaDoorOPkC
import Derived.BigQuiet
namespace Go.Proofs.YtkanamdfjegcbaaDoor
open Go Go.RowKit

theorem sumLe (l : List Nat) (h : ∀ x ∈ l, x ≤ 100) : l.sum ≤ 100 * l.length := by
  induction l with
  | nil => exact Nat.le_refl _
  | cons x l ih =>
    have h1 := h x (by simp)
    have h2 := ih fun y hy => h y (by simp [hy])
    rw [List.sum_cons, List.length_cons]
    omega
theorem shortOf {p : Prg} (h : p.small = true) : ∀ f ∈ p.funcs, f.2.length ≤ 100 := by
  unfold Prg.small Prg.short at h
  rw [Bool.and_eq_true] at h
  intro f hf
  have := List.all_eq_true.1 h.2 f hf
  simpa using this
theorem sizeOf8 {p : Prg} (h : p.small = true) : p.size ≤ 1000000 := by
  have h1 := fewOf h
  unfold Prg.size
  have := sumLe (p.funcs.map fun f => f.2.length) (fun x hx => by
    obtain ⟨f, hf, rfl⟩ := List.mem_map.1 hx
    exact shortOf h f hf)
  rw [List.length_map] at this
  omega
end Go.Proofs.YtkanamdfjegcbaaDoor
