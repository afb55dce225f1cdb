/-
  Plain facts about the result functions: the ring of values, their order and their bits, without any program.
-/
import Derived.Test.YtebpnnakcodjdaaDoorZApply
namespace Go.Proofs.YtebpnnakcodjdaaDoor
open Go.RowKit (wrap32 wrap64)

/-- The number whose binary digits are the 32 bits of the value of an integer. -/
def U (a : Int) : Nat := (a % 4294967296).toNat
theorem U_lt (a : Int) : U a < 2 ^ 32 := by unfold U; omega
theorem ofIntU (a : Int) : (BitVec.ofInt 32 (wrap32 a)).toNat = U a := by
  rw [BitVec.toNat_ofInt]; unfold U; simp only [wrap32]; omega
theorem opI4 (a b : Int) : opI 4 a b = wrap32 ((U a &&& U b : Nat) : Int) := by
  show IntKind.i32.wrap ((BitVec.ofInt 32 (wrap32 a) &&& BitVec.ofInt 32 (wrap32 b)).toNat : Int) = _
  rw [IntWalk.i32_left, BitVec.toNat_and, ofIntU, ofIntU]
theorem opI5 (a b : Int) : opI 5 a b = wrap32 ((U a ||| U b : Nat) : Int) := by
  show IntKind.i32.wrap ((BitVec.ofInt 32 (wrap32 a) ||| BitVec.ofInt 32 (wrap32 b)).toNat : Int) = _
  rw [IntWalk.i32_left, BitVec.toNat_or, ofIntU, ofIntU]
theorem opI6 (a b : Int) : opI 6 a b = wrap32 ((U a ^^^ U b : Nat) : Int) := by
  show IntKind.i32.wrap ((BitVec.ofInt 32 (wrap32 a) ^^^ BitVec.ofInt 32 (wrap32 b)).toNat : Int) = _
  rw [IntWalk.i32_left, BitVec.toNat_xor, ofIntU, ofIntU]

end Go.Proofs.YtebpnnakcodjdaaDoor
