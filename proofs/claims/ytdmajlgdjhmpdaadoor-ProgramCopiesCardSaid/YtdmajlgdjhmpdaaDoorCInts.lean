/-
  The contract of the reference's comparison of two slices of integers: it tells whether they hold the same elements.
-/
import Derived.Test.YtdmajlgdjhmpdaaDoorCChg
import Derived.Test.YtdmajlgdjhmpdaaDoorProg
import Derived.Test.YtdmajlgdjhmpdaaDoorRows
import Derived.Deep.QuietTactic
import Derived.BigQuiet
import Derived.Outline
import Derived.LoopTactic
namespace Go.Proofs.YtdmajlgdjhmpdaaDoor
open Go.RowKit

/-- Are the two lists equal? -/
def eqB (l m : List Int) : Bool := decide (l = m)
theorem eqB_yes {l m : List Int} (h : l = m) : eqB l m = true := by simp [eqB, h]
theorem eqB_len {l m : List Int} (h : l.length ≠ m.length) : eqB l m = false := by
  simp only [eqB, decide_eq_false_iff_not]
  intro e; rw [e] at h; exact h rfl
theorem eqB_at {l m : List Int} {k : Nat} (h1 : k < l.length) (h2 : k < m.length) (h : l[k] ≠ m[k]) : eqB l m = false := by
  simp only [eqB, decide_eq_false_iff_not]
  intro e; subst e; exact h rfl
theorem eqB_all {l m : List Int} {k : Nat} (hl : l.length = m.length) (hk : k = l.length) (h : l.take k = m.take k) : eqB l m = true := by
  subst hk
  rw [List.take_of_length_le (Nat.le_refl _), List.take_of_length_le (by omega)] at h
  exact eqB_yes h
theorem takeEqSucc {l m : List Int} {k : Nat} (h1 : k < l.length) (h2 : k < m.length) (h : l.take k = m.take k) (e : l[k] = m[k]) : l.take (k + 1) = m.take (k + 1) := by
  rw [List.take_succ_eq_append_getElem h1, List.take_succ_eq_append_getElem h2, h, e]

end Go.Proofs.YtdmajlgdjhmpdaaDoor
