/-
  Plain facts about the result functions: the ring of values, their order and their bits, without any program.
-/
import Derived.Test.YtnlhkeobfidjkaaDoorApply
namespace Go.Proofs.YtnlhkeobfidjkaaDoor
open Go.RowKit (wrap32 wrap64)

theorem opI1 (a b : Int) : opI 1 a b = wrap32 (a + b) := rfl
theorem opI2 (a b : Int) : opI 2 a b = wrap32 (a - b) := rfl
theorem opI3 (a b : Int) : opI 3 a b = wrap32 (a * b) := rfl
theorem wrap32AddL (a b : Int) : wrap32 (wrap32 a + b) = wrap32 (a + b) := by simp only [wrap32]; omega
theorem wrap32AddR (a b : Int) : wrap32 (a + wrap32 b) = wrap32 (a + b) := by simp only [wrap32]; omega
theorem wrap32SubL (a b : Int) : wrap32 (wrap32 a - b) = wrap32 (a - b) := by simp only [wrap32]; omega
theorem wrap32MulL (a b : Int) : wrap32 (wrap32 a * b) = wrap32 (a * b) := by
  rw [← wrap32Mul (wrap32 a) b, wrap32Twice, wrap32Mul]
theorem wrap32MulR (a b : Int) : wrap32 (a * wrap32 b) = wrap32 (a * b) := by
  rw [← wrap32Mul a (wrap32 b), wrap32Twice, wrap32Mul]

theorem ringAddComm (a b : Int) : opI 1 b a = opI 1 a b := by rw [opI1, opI1, Int.add_comm]
theorem ringMulComm (a b : Int) : opI 3 b a = opI 3 a b := by rw [opI3, opI3, Int.mul_comm]
theorem ringAddAssoc (a b c : Int) : opI 1 (opI 1 a b) c = opI 1 a (opI 1 b c) := by
  simp only [opI1, wrap32AddL, wrap32AddR, Int.add_assoc]
theorem ringMulAssoc (a b c : Int) : opI 3 (opI 3 a b) c = opI 3 a (opI 3 b c) := by
  simp only [opI3, wrap32MulL, wrap32MulR, Int.mul_assoc]
theorem ringDist (a b c : Int) : opI 3 (opI 1 a b) c = opI 1 (opI 3 a c) (opI 3 b c) := by
  simp only [opI3, opI1, wrap32MulL, wrap32AddL, wrap32AddR, Int.add_mul]
theorem ringZero (a : Int) : opI 1 a 0 = wrap32 a := by rw [opI1, Int.add_zero]
theorem ringOne (a : Int) : opI 3 a 1 = wrap32 a := by rw [opI3, Int.mul_one]
theorem ringSub (a b : Int) : opI 2 (opI 1 a b) b = wrap32 a := by
  rw [opI2, opI1, wrap32SubL, Int.add_sub_cancel]
theorem ringWrapAdd (a b : Int) : opI 1 (wrap32 a) b = opI 1 a b := by rw [opI1, opI1, wrap32AddL]
theorem ringWrapMul (a b : Int) : opI 3 (wrap32 a) b = opI 3 a b := by rw [opI3, opI3, wrap32MulL]
theorem wrap32Lo (a : Int) : -2147483648 ≤ wrap32 a := by simp only [wrap32]; omega
theorem wrap32Hi (a : Int) : wrap32 a ≤ 2147483647 := by simp only [wrap32]; omega

/-- The number whose binary digits are the 32 bits of the value of an integer. -/
def U (a : Int) : Nat := (a % 4294967296).toNat
theorem U_lt (a : Int) : U a < 2 ^ 32 := by unfold U; omega
theorem U_wrap (a : Int) : U (wrap32 a) = U a := by unfold U; simp only [wrap32]; omega
theorem U_cast (n : Nat) (h : n < 2 ^ 32) : U (n : Int) = n := by unfold U; omega
theorem wrap32_U (a : Int) : wrap32 (U a : Int) = wrap32 a := by unfold U; simp only [wrap32]; omega
theorem ofIntU (a : Int) : (BitVec.ofInt 32 (wrap32 a)).toNat = U a := by
  rw [BitVec.toNat_ofInt]; unfold U; simp only [wrap32]; omega
theorem opI4 (a b : Int) : opI 4 a b = wrap32 ((U a &&& U b : Nat) : Int) := by
  show IntKind.i32.wrap ((BitVec.ofInt 32 (wrap32 a) &&& BitVec.ofInt 32 (wrap32 b)).toNat : Int) = _
  rw [IntWalk.i32_left, BitVec.toNat_and, ofIntU, ofIntU]
theorem opI5 (a b : Int) : opI 5 a b = wrap32 ((U a ||| U b : Nat) : Int) := by
  show IntKind.i32.wrap ((BitVec.ofInt 32 (wrap32 a) ||| BitVec.ofInt 32 (wrap32 b)).toNat : Int) = _
  rw [IntWalk.i32_left, BitVec.toNat_or, ofIntU, ofIntU]
theorem opI6 (a b : Int) : opI 6 a b = wrap32 ((U a ^^^ U b : Nat) : Int) := by
  show IntKind.i32.wrap ((BitVec.ofInt 32 (wrap32 a) ^^^ BitVec.ofInt 32 (wrap32 b)).toNat : Int) = _
  rw [IntWalk.i32_left, BitVec.toNat_xor, ofIntU, ofIntU]

theorem xorTwice (a b : Int) : opI 6 (opI 6 a b) b = wrap32 a := by
  rw [opI6, opI6, U_wrap, U_cast _ (Nat.xor_lt_two_pow (U_lt a) (U_lt b)), Nat.xor_assoc, Nat.xor_self, Nat.xor_zero, wrap32_U]

theorem andPlusOr (n : Nat) : ∀ x y : Nat, x < 2 ^ n → y < 2 ^ n → (x &&& y) + (x ||| y) = x + y := by
  induction n with
  | zero => intro x y hx hy; obtain rfl : x = 0 := by omega
            obtain rfl : y = 0 := by omega
            rfl
  | succ n ih =>
    intro x y hx hy
    have h := ih (x / 2) (y / 2) (by omega) (by omega)
    have h1 : (x &&& y) / 2 = x / 2 &&& y / 2 := Nat.and_div_two
    have h2 : (x ||| y) / 2 = x / 2 ||| y / 2 := Nat.or_div_two
    have h3 : (x &&& y) % 2 + (x ||| y) % 2 = x % 2 + y % 2 := by
      have a1 := @Nat.and_mod_two_eq_one x y
      have a2 := @Nat.or_mod_two_eq_one x y
      omega
    omega
theorem andOrSum (a b : Int) : opI 1 (opI 4 a b) (opI 5 a b) = opI 1 a b := by
  rw [opI1, opI4, opI5, wrap32Add, ← Int.natCast_add, andPlusOr 32 _ _ (U_lt a) (U_lt b), Int.natCast_add, opI1, ← wrap32Add, wrap32_U, wrap32_U, wrap32Add]

theorem lessYes (a b : Int) (h : wrap32 a < wrap32 b) : opI 9 a b = 1 ∧ opI 9 b a = 0 ∧ opI 7 a b = 0 ∧ opI 10 a b = 1 ∧ opI 8 a b = 1 := by
  have h2 : ¬ wrap32 b < wrap32 a := by omega
  have h3 : ¬ wrap32 a = wrap32 b := by omega
  have h4 : wrap32 a ≤ wrap32 b := by omega
  simp [opI, h, h2, h3, h4]
theorem lessEq (a b : Int) (h : wrap32 a = wrap32 b) : opI 9 a b = 0 ∧ opI 9 b a = 0 ∧ opI 7 a b = 1 ∧ opI 10 a b = 1 ∧ opI 8 a b = 0 := by
  simp [opI, h]
theorem lessNo (a b : Int) (h : wrap32 b < wrap32 a) : opI 9 a b = 0 ∧ opI 9 b a = 1 ∧ opI 7 a b = 0 ∧ opI 10 a b = 0 ∧ opI 8 a b = 1 := by
  have h2 : ¬ wrap32 a < wrap32 b := by omega
  have h3 : ¬ wrap32 a = wrap32 b := by omega
  have h4 : ¬ wrap32 a ≤ wrap32 b := by omega
  simp [opI, h, h2, h3, h4]
end Go.Proofs.YtnlhkeobfidjkaaDoor
