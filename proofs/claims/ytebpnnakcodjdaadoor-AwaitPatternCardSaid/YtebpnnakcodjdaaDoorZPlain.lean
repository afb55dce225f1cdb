/-
  Plain facts about integers: the value of an integer, its remainder and its bits, without any program.
-/
import Derived.IntWalk
import Derived.RowKit
import Derived.WalkKit
namespace Go.Proofs.YtebpnnakcodjdaaDoor
open Go.RowKit (wrap32 wrap64)

theorem retInt {k : IntKind} {a b : Int} (h : a = b) : Ending.returned (.int k a) = .returned (.int k b) := by rw [h]

theorem w64w32 (a : Int) : wrap64 (wrap32 a) = wrap32 a := by
  simp only [wrap64, wrap32]; omega

theorem tmodCases (a : Int) : (0 ≤ a ∧ a.tmod 4294967296 = a % 4294967296) ∨ (a < 0 ∧ a.tmod 4294967296 = -((-a) % 4294967296)) := by
  by_cases h : 0 ≤ a
  · exact Or.inl ⟨h, Int.tmod_eq_emod_of_nonneg h⟩
  · refine Or.inr ⟨by omega, ?_⟩
    have h1 : (-a).tmod 4294967296 = (-a) % 4294967296 := Int.tmod_eq_emod_of_nonneg (by omega)
    rw [Int.neg_tmod] at h1
    omega

theorem wrapA (a : Int) (h : a.tmod 4294967296 < 0) (g : 2147483647 < wrap64 (a.tmod 4294967296 + 4294967296)) : wrap64 (wrap64 (a.tmod 4294967296 + 4294967296) - 4294967296) = wrap32 a := by
  rcases tmodCases a with ⟨h0, e⟩ | ⟨h0, e⟩ <;> rw [e] at h g ⊢ <;> simp only [wrap64, wrap32] at g ⊢ <;> omega
theorem wrapB (a : Int) (h : a.tmod 4294967296 < 0) (g : wrap64 (a.tmod 4294967296 + 4294967296) ≤ 2147483647) : wrap64 (a.tmod 4294967296 + 4294967296) = wrap32 a := by
  rcases tmodCases a with ⟨h0, e⟩ | ⟨h0, e⟩ <;> rw [e] at h g ⊢ <;> simp only [wrap64, wrap32] at g ⊢ <;> omega
theorem wrapC (a : Int) (h : 0 ≤ a.tmod 4294967296) (g : 2147483647 < a.tmod 4294967296) : wrap64 (a.tmod 4294967296 - 4294967296) = wrap32 a := by
  rcases tmodCases a with ⟨h0, e⟩ | ⟨h0, e⟩ <;> rw [e] at h g ⊢ <;> simp only [wrap64, wrap32] <;> omega
theorem wrapD (a : Int) (h : 0 ≤ a.tmod 4294967296) (g : a.tmod 4294967296 ≤ 2147483647) : a.tmod 4294967296 = wrap32 a := by
  rcases tmodCases a with ⟨h0, e⟩ | ⟨h0, e⟩ <;> rw [e] at h g ⊢ <;> simp only [wrap32] <;> omega

theorem ret2 {k l : IntKind} {a b c d : Int} (h : a = b) (g : c = d) : Ending.returned (.tuple #[.int k a, .int l c]) = .returned (.tuple #[.int k b, .int l d]) := by rw [h, g]

theorem wrap32Of (a : Int) : ∃ k : Int, wrap32 a = a + 4294967296 * k := ⟨-((a + 2147483648) / 4294967296), by simp only [wrap32]; omega⟩
theorem wrap32More (a k : Int) : wrap32 (a + 4294967296 * k) = wrap32 a := by simp only [wrap32]; omega
theorem wrap32Add (a b : Int) : wrap32 (wrap32 a + wrap32 b) = wrap32 (a + b) := by simp only [wrap32]; omega
theorem wrap32Sub (a b : Int) : wrap32 (wrap32 a - wrap32 b) = wrap32 (a - b) := by simp only [wrap32]; omega
theorem wrap32Mul (a b : Int) : wrap32 (wrap32 a * wrap32 b) = wrap32 (a * b) := by
  obtain ⟨k, hk⟩ := wrap32Of a
  obtain ⟨l, hl⟩ := wrap32Of b
  rw [hk, hl, ← wrap32More (a * b) (k * b + a * l + 4294967296 * (k * l))]
  congr 1
  simp only [Int.add_mul, Int.mul_add, Int.mul_assoc, Int.mul_left_comm a 4294967296 l, Int.mul_left_comm k 4294967296 l]
  omega
end Go.Proofs.YtebpnnakcodjdaaDoor
