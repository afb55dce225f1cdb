/-
  The contracts of value.Apply and of the law's apply: the result is the function of the arguments' values that 'opI' names, and the error is 'opE'.
-/
import Derived.Test.YtebpnnakcodjdaaDoorZNums
namespace Go.Proofs.YtebpnnakcodjdaaDoor
open Go.RowKit (wrap32 wrap64)

/-- The result of a function at two integers. -/
def opI (f a b : Int) : Int :=
  if f = 1 then wrap32 (a + b) else
  if f = 2 then wrap32 (a - b) else
  if f = 3 then wrap32 (a * b) else
  if f = 4 then bits .and .i32 (wrap32 a) (wrap32 b) else
  if f = 5 then bits .or .i32 (wrap32 a) (wrap32 b) else
  if f = 6 then bits .xor .i32 (wrap32 a) (wrap32 b) else
  if f = 7 then (if wrap32 a = wrap32 b then 1 else 0) else
  if f = 8 then (if wrap32 a = wrap32 b then 0 else 1) else
  if f = 9 then (if wrap32 a < wrap32 b then 1 else 0) else
  if f = 10 then (if wrap32 a ≤ wrap32 b then 1 else 0) else 0
/-- Its error. -/
def opE (f : Int) : Int := if 1 ≤ f ∧ f ≤ 10 then 0 else 8

theorem op1 (f a b : Int) (h : (f == 1) = true) : wrap64 (wrap32 (wrap32 a + wrap32 b)) = opI f a b ∧ 0 = opE f := by
  obtain rfl : f = 1 := by simpa using h
  exact ⟨by rw [wrap32Add, w64w32]; rfl, rfl⟩
theorem op2 (f a b : Int) (h : (f == 2) = true) : wrap64 (wrap32 (wrap32 a - wrap32 b)) = opI f a b ∧ 0 = opE f := by
  obtain rfl : f = 2 := by simpa using h
  exact ⟨by rw [wrap32Sub, w64w32]; rfl, rfl⟩
theorem op3 (f a b : Int) (h : (f == 3) = true) : wrap64 (wrap32 (wrap32 a * wrap32 b)) = opI f a b ∧ 0 = opE f := by
  obtain rfl : f = 3 := by simpa using h
  exact ⟨by rw [wrap32Mul, w64w32]; rfl, rfl⟩
theorem op7 (f a b : Int) (h : (f == 7) = true) (c : wrap32 a = wrap32 b) : (1 : Int) = opI f a b ∧ 0 = opE f := by
  obtain rfl : f = 7 := by simpa using h
  exact ⟨by simp [opI, c], rfl⟩
theorem op7n (f a b : Int) (h : (f == 7) = true) (c : ¬ wrap32 a = wrap32 b) : (0 : Int) = opI f a b ∧ 0 = opE f := by
  obtain rfl : f = 7 := by simpa using h
  exact ⟨by simp [opI, c], rfl⟩
theorem op8 (f a b : Int) (h : (f == 8) = true) (c : wrap32 a = wrap32 b) : (0 : Int) = opI f a b ∧ 0 = opE f := by
  obtain rfl : f = 8 := by simpa using h
  exact ⟨by simp [opI, c], rfl⟩
theorem op8n (f a b : Int) (h : (f == 8) = true) (c : ¬ wrap32 a = wrap32 b) : (1 : Int) = opI f a b ∧ 0 = opE f := by
  obtain rfl : f = 8 := by simpa using h
  exact ⟨by simp [opI, c], rfl⟩
theorem op9 (f a b : Int) (h : (f == 9) = true) (c : wrap32 a < wrap32 b) : (1 : Int) = opI f a b ∧ 0 = opE f := by
  obtain rfl : f = 9 := by simpa using h
  exact ⟨by simp [opI, c], rfl⟩
theorem op9n (f a b : Int) (h : (f == 9) = true) (c : wrap32 b ≤ wrap32 a) : (0 : Int) = opI f a b ∧ 0 = opE f := by
  obtain rfl : f = 9 := by simpa using h
  have c' : ¬ wrap32 a < wrap32 b := by omega
  exact ⟨by simp [opI, c'], rfl⟩
theorem op10 (f a b : Int) (h : (f == 10) = true) (c : wrap32 a ≤ wrap32 b) : (1 : Int) = opI f a b ∧ 0 = opE f := by
  obtain rfl : f = 10 := by simpa using h
  exact ⟨by simp [opI, c], rfl⟩
theorem op10n (f a b : Int) (h : (f == 10) = true) (c : wrap32 b < wrap32 a) : (0 : Int) = opI f a b ∧ 0 = opE f := by
  obtain rfl : f = 10 := by simpa using h
  have c' : ¬ wrap32 a ≤ wrap32 b := by omega
  exact ⟨by simp [opI, c'], rfl⟩
theorem opNo (f a b : Int) (h1 : (f == 1) = false) (h2 : (f == 2) = false) (h3 : (f == 3) = false) (h4 : (f == 4) = false) (h5 : (f == 5) = false) (h6 : (f == 6) = false) (h7 : (f == 7) = false) (h8 : (f == 8) = false) (h9 : (f == 9) = false) (h10 : (f == 10) = false) :
    (0 : Int) = opI f a b ∧ 8 = opE f := by
  simp only [beq_eq_false_iff_ne] at h1 h2 h3 h4 h5 h6 h7 h8 h9 h10
  refine ⟨by simp only [opI, if_neg h1, if_neg h2, if_neg h3, if_neg h4, if_neg h5, if_neg h6, if_neg h7, if_neg h8, if_neg h9, if_neg h10], ?_⟩
  rw [opE, if_neg (by omega)]

end Go.Proofs.YtebpnnakcodjdaaDoor
