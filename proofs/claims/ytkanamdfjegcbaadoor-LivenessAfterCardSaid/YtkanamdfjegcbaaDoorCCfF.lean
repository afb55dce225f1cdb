/-
  The contracts of Next and Leaders.
-/
import Derived.Test.YtkanamdfjegcbaaDoorCCfK
import Derived.Maps.RangeWalk
import Derived.Lib.AppendZeros
namespace Go.Proofs.YtkanamdfjegcbaaDoor
open Go Go.RowKit Go.Shelf

/-- The call gives a list and an error. -/
def GivesE9 (l : List Int) (k : Int) (w : World) (e : Ending) (w' : World) : Prop := ∃ A c, e = .returned (.tuple #[.slice A l.length c, .int .i64 k]) ∧ Rd w' A c l ∧ Below w.heap.size w w'
/-- What Next gives: the error and the successors. -/
def nxE (C : List I8) (x : Int) : Int := if cfE C ≠ 0 then cfE C else if x < 0 ∨ (C.length : Int) ≤ x then 2 else 0
def nxR (C : List I8) (x : Int) : List Int := if nxE C x = 0 then scS C x.toNat else []
theorem cdV0 {C : List I8} {A : Option Addr} {n c : Nat} (h : cfE C = 0) : cdV C A n c = .slice A n c := by unfold cdV; rw [if_pos h]
theorem cdV1 {C : List I8} {A : Option Addr} {n c : Nat} (h : cfE C ≠ 0) : cdV C A n c = .slice none 0 0 := by unfold cdV; rw [if_neg h]
theorem scSLen {C : List I8} {k : Nat} : (scS C k).length ≤ 2 := by
  unfold scS
  have := lenMk ((sc C k).map Int.ofNat)
  rw [List.length_map] at this
  exact Nat.le_trans this scLen
end Go.Proofs.YtkanamdfjegcbaaDoor
