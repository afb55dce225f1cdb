/-
  Plain facts about integers: the value of an integer, its remainder and its bits, without any program.
-/
import Derived.IntWalk
import Derived.RowKit
import Derived.WalkKit
import Derived.Test.YtnnpkbonbemeaaaDoorRows
import Derived.WalkSpells
import Derived.WalkLawsBesides
import Derived.Lib.Hide
namespace Go.Proofs.YtnnpkbonbemeaaaDoor
open Go.RowKit (wrap32 wrap64)

theorem retInt {k : IntKind} {a b : Int} (h : a = b) : Ending.returned (.int k a) = .returned (.int k b) := by rw [h]

theorem w64w32 (a : Int) : wrap64 (wrap32 a) = wrap32 a := by
  simp only [wrap64, wrap32]; omega

theorem tmodCases (a : Int) : (0 ≤ a ∧ a.tmod 4294967296 = a % 4294967296) ∨ (a < 0 ∧ a.tmod 4294967296 = -((-a) % 4294967296)) := by
  by_cases h : 0 ≤ a
  · exact Or.inl ⟨h, Int.tmod_eq_emod_of_nonneg h⟩
  · refine Or.inr ⟨by omega, ?_⟩
    have h1 : (-a).tmod 4294967296 = (-a) % 4294967296 := Int.tmod_eq_emod_of_nonneg (by omega)
    rw [Int.neg_tmod] at h1
    omega

theorem wrapA (a : Int) (h : a.tmod 4294967296 < 0) (g : 2147483647 < wrap64 (a.tmod 4294967296 + 4294967296)) : wrap64 (wrap64 (a.tmod 4294967296 + 4294967296) - 4294967296) = wrap32 a := by
  rcases tmodCases a with ⟨h0, e⟩ | ⟨h0, e⟩ <;> rw [e] at h g ⊢ <;> simp only [wrap64, wrap32] at g ⊢ <;> omega
theorem wrapB (a : Int) (h : a.tmod 4294967296 < 0) (g : wrap64 (a.tmod 4294967296 + 4294967296) ≤ 2147483647) : wrap64 (a.tmod 4294967296 + 4294967296) = wrap32 a := by
  rcases tmodCases a with ⟨h0, e⟩ | ⟨h0, e⟩ <;> rw [e] at h g ⊢ <;> simp only [wrap64, wrap32] at g ⊢ <;> omega
theorem wrapC (a : Int) (h : 0 ≤ a.tmod 4294967296) (g : 2147483647 < a.tmod 4294967296) : wrap64 (a.tmod 4294967296 - 4294967296) = wrap32 a := by
  rcases tmodCases a with ⟨h0, e⟩ | ⟨h0, e⟩ <;> rw [e] at h g ⊢ <;> simp only [wrap64, wrap32] <;> omega
theorem wrapD (a : Int) (h : 0 ≤ a.tmod 4294967296) (g : a.tmod 4294967296 ≤ 2147483647) : a.tmod 4294967296 = wrap32 a := by
  rcases tmodCases a with ⟨h0, e⟩ | ⟨h0, e⟩ <;> rw [e] at h g ⊢ <;> simp only [wrap32] <;> omega

theorem ret2 {k l : IntKind} {a b c d : Int} (h : a = b) (g : c = d) : Ending.returned (.tuple #[.int k a, .int l c]) = .returned (.tuple #[.int k b, .int l d]) := by rw [h, g]

theorem wrap32Of (a : Int) : ∃ k : Int, wrap32 a = a + 4294967296 * k := ⟨-((a + 2147483648) / 4294967296), by simp only [wrap32]; omega⟩
theorem wrap32More (a k : Int) : wrap32 (a + 4294967296 * k) = wrap32 a := by simp only [wrap32]; omega
theorem wrap32Add (a b : Int) : wrap32 (wrap32 a + wrap32 b) = wrap32 (a + b) := by simp only [wrap32]; omega
theorem wrap32Sub (a b : Int) : wrap32 (wrap32 a - wrap32 b) = wrap32 (a - b) := by simp only [wrap32]; omega
theorem wrap32Mul (a b : Int) : wrap32 (wrap32 a * wrap32 b) = wrap32 (a * b) := by
  obtain ⟨k, hk⟩ := wrap32Of a
  obtain ⟨l, hl⟩ := wrap32Of b
  rw [hk, hl, ← wrap32More (a * b) (k * b + a * l + 4294967296 * (k * l))]
  congr 1
  simp only [Int.add_mul, Int.mul_add, Int.mul_assoc, Int.mul_left_comm a 4294967296 l, Int.mul_left_comm k 4294967296 l]
  omega
theorem wrap32Twice (a : Int) : wrap32 (wrap32 a) = wrap32 a := by simp only [wrap32]; omega
theorem bitsWrap (o : BinOp) (x y : Int) : wrap32 (bits o .i32 x y) = bits o .i32 x y := by
  unfold bits
  split <;> first | (rw [IntWalk.i32_left]; exact wrap32Twice _) | rfl | skip
end Go.Proofs.YtnnpkbonbemeaaaDoor

namespace Go.Proofs.YtnnpkbonbemeaaaDoor
open Go.RowKit (wrap32 wrap64)

theorem vTruth (b : Bool) (w : World) :
    Calls Tryd.prog 110 #[.bool b] w fun e w' => e = .returned (.int .i64 (if b then 1 else 0)) ∧ w = w' := by
  cases b
  · go_enter Tryd.func110, Tryd.ntmps110
    go_wp2
    go_ret
    exact ⟨rfl, rfl⟩
  · go_enter Tryd.func110, Tryd.ntmps110
    go_wp2
    go_ret
    exact ⟨rfl, rfl⟩

theorem rTruth (b : Bool) (w : World) :
    Calls Tryd.prog 67 #[.bool b] w fun e w' => e = .returned (.int .i64 (if b then 1 else 0)) ∧ w = w' := by
  cases b
  · go_enter Tryd.func67, Tryd.ntmps67
    go_wp2
    go_ret
    exact ⟨rfl, rfl⟩
  · go_enter Tryd.func67, Tryd.ntmps67
    go_wp2
    go_ret
    exact ⟨rfl, rfl⟩

theorem vWrap (a : Int) (w : World) :
    Calls Tryd.prog 131 #[.int .i64 a] w fun e w' => e = .returned (.int .i64 (wrap32 a)) ∧ w = w' := by
  go_enter Tryd.func131, Tryd.ntmps131
  go_wp2
  go_ret
  exact ⟨retInt (w64w32 a), rfl⟩

theorem rWrap (a : Int) (w : World) :
    Calls Tryd.prog 11 #[.int .i64 a] w fun e w' => e = .returned (.int .i64 (wrap32 a)) ∧ w = w' := by
  go_enter Tryd.func11, Tryd.ntmps11
  go_wp2
  all_goals go_ret
  · exact ⟨retInt (wrapA a (by assumption) (by assumption)), rfl⟩
  · exact ⟨retInt (wrapB a (by assumption) (by assumption)), rfl⟩
  · exact ⟨retInt (wrapC a (by assumption) (by assumption)), rfl⟩
  · exact ⟨retInt (wrapD a (by assumption) (by assumption)), rfl⟩
end Go.Proofs.YtnnpkbonbemeaaaDoor

namespace Go.Proofs.YtnnpkbonbemeaaaDoor
open Go.RowKit (wrap32 wrap64)

/-- The result of a function at two integers. -/
def opI (f a b : Int) : Int :=
  if f = 1 then wrap32 (a + b) else
  if f = 2 then wrap32 (a - b) else
  if f = 3 then wrap32 (a * b) else
  if f = 4 then bits .and .i32 (wrap32 a) (wrap32 b) else
  if f = 5 then bits .or .i32 (wrap32 a) (wrap32 b) else
  if f = 6 then bits .xor .i32 (wrap32 a) (wrap32 b) else
  if f = 7 then (if wrap32 a = wrap32 b then 1 else 0) else
  if f = 8 then (if wrap32 a = wrap32 b then 0 else 1) else
  if f = 9 then (if wrap32 a < wrap32 b then 1 else 0) else
  if f = 10 then (if wrap32 a ≤ wrap32 b then 1 else 0) else 0
/-- Its error. -/
def opE (f : Int) : Int := if 1 ≤ f ∧ f ≤ 10 then 0 else 8

theorem opW (f a b : Int) : wrap64 (opI f a b) = opI f a b := by
  unfold opI
  repeat (split; (first | exact w64w32 _ | (rw [← bitsWrap]; exact w64w32 _) | (split <;> (simp only [wrap64]; omega))))
  simp only [wrap64]; omega

theorem op1 (f a b : Int) (h : (f == 1) = true) : wrap64 (wrap32 (wrap32 a + wrap32 b)) = opI f a b ∧ 0 = opE f := by
  obtain rfl : f = 1 := by simpa using h
  exact ⟨by rw [wrap32Add, w64w32]; rfl, rfl⟩
theorem op2 (f a b : Int) (h : (f == 2) = true) : wrap64 (wrap32 (wrap32 a - wrap32 b)) = opI f a b ∧ 0 = opE f := by
  obtain rfl : f = 2 := by simpa using h
  exact ⟨by rw [wrap32Sub, w64w32]; rfl, rfl⟩
theorem op3 (f a b : Int) (h : (f == 3) = true) : wrap64 (wrap32 (wrap32 a * wrap32 b)) = opI f a b ∧ 0 = opE f := by
  obtain rfl : f = 3 := by simpa using h
  exact ⟨by rw [wrap32Mul, w64w32]; rfl, rfl⟩
theorem op4 (f a b : Int) (h : (f == 4) = true) : wrap64 (bits .and .i32 (wrap32 a) (wrap32 b)) = opI f a b ∧ 0 = opE f := by
  obtain rfl : f = 4 := by simpa using h
  exact ⟨opW 4 a b, rfl⟩
theorem op5 (f a b : Int) (h : (f == 5) = true) : wrap64 (bits .or .i32 (wrap32 a) (wrap32 b)) = opI f a b ∧ 0 = opE f := by
  obtain rfl : f = 5 := by simpa using h
  exact ⟨opW 5 a b, rfl⟩
theorem op6 (f a b : Int) (h : (f == 6) = true) : wrap64 (bits .xor .i32 (wrap32 a) (wrap32 b)) = opI f a b ∧ 0 = opE f := by
  obtain rfl : f = 6 := by simpa using h
  exact ⟨opW 6 a b, rfl⟩

theorem op7 (f a b : Int) (h : (f == 7) = true) (c : wrap32 a = wrap32 b) : (1 : Int) = opI f a b ∧ 0 = opE f := by
  obtain rfl : f = 7 := by simpa using h
  exact ⟨by simp [opI, c], rfl⟩
theorem op7n (f a b : Int) (h : (f == 7) = true) (c : ¬ wrap32 a = wrap32 b) : (0 : Int) = opI f a b ∧ 0 = opE f := by
  obtain rfl : f = 7 := by simpa using h
  exact ⟨by simp [opI, c], rfl⟩
theorem op8 (f a b : Int) (h : (f == 8) = true) (c : wrap32 a = wrap32 b) : (0 : Int) = opI f a b ∧ 0 = opE f := by
  obtain rfl : f = 8 := by simpa using h
  exact ⟨by simp [opI, c], rfl⟩
theorem op8n (f a b : Int) (h : (f == 8) = true) (c : ¬ wrap32 a = wrap32 b) : (1 : Int) = opI f a b ∧ 0 = opE f := by
  obtain rfl : f = 8 := by simpa using h
  exact ⟨by simp [opI, c], rfl⟩
theorem op9 (f a b : Int) (h : (f == 9) = true) (c : wrap32 a < wrap32 b) : (1 : Int) = opI f a b ∧ 0 = opE f := by
  obtain rfl : f = 9 := by simpa using h
  exact ⟨by simp [opI, c], rfl⟩
theorem op9n (f a b : Int) (h : (f == 9) = true) (c : wrap32 b ≤ wrap32 a) : (0 : Int) = opI f a b ∧ 0 = opE f := by
  obtain rfl : f = 9 := by simpa using h
  have c' : ¬ wrap32 a < wrap32 b := by omega
  exact ⟨by simp [opI, c'], rfl⟩
theorem op10 (f a b : Int) (h : (f == 10) = true) (c : wrap32 a ≤ wrap32 b) : (1 : Int) = opI f a b ∧ 0 = opE f := by
  obtain rfl : f = 10 := by simpa using h
  exact ⟨by simp [opI, c], rfl⟩
theorem op10n (f a b : Int) (h : (f == 10) = true) (c : wrap32 b < wrap32 a) : (0 : Int) = opI f a b ∧ 0 = opE f := by
  obtain rfl : f = 10 := by simpa using h
  have c' : ¬ wrap32 a ≤ wrap32 b := by omega
  exact ⟨by simp [opI, c'], rfl⟩
theorem opNo (f a b : Int) (h1 : (f == 1) = false) (h2 : (f == 2) = false) (h3 : (f == 3) = false) (h4 : (f == 4) = false) (h5 : (f == 5) = false) (h6 : (f == 6) = false) (h7 : (f == 7) = false) (h8 : (f == 8) = false) (h9 : (f == 9) = false) (h10 : (f == 10) = false) :
    (0 : Int) = opI f a b ∧ 8 = opE f := by
  simp only [beq_eq_false_iff_ne] at h1 h2 h3 h4 h5 h6 h7 h8 h9 h10
  refine ⟨by simp only [opI, if_neg h1, if_neg h2, if_neg h3, if_neg h4, if_neg h5, if_neg h6, if_neg h7, if_neg h8, if_neg h9, if_neg h10], ?_⟩
  rw [opE, if_neg (by omega)]

set_option maxHeartbeats 1000000 in
theorem vApply (f a b : Int) (w : World) :
    Calls Tryd.prog 72 #[.int .i64 f, .int .i64 a, .int .i64 b] w fun e w' => e = .returned (.tuple #[.int .i64 (opI f a b), .int .i64 (opE f)]) ∧ w = w' := by
  go_enter Tryd.func72, Tryd.ntmps72
  go_wp2_with (go_at_call 110; refine (vTruth _ _).mono ?_; rintro e w' ⟨rfl, rfl⟩)
  all_goals go_ret2
  · exact ⟨ret2 (op1 f a b (by assumption)).1 (op1 f a b (by assumption)).2, rfl⟩
  · exact ⟨ret2 (op2 f a b (by assumption)).1 (op2 f a b (by assumption)).2, rfl⟩
  · exact ⟨ret2 (op3 f a b (by assumption)).1 (op3 f a b (by assumption)).2, rfl⟩
  · exact ⟨ret2 (op4 f a b (by assumption)).1 (op4 f a b (by assumption)).2, rfl⟩
  · exact ⟨ret2 (op5 f a b (by assumption)).1 (op5 f a b (by assumption)).2, rfl⟩
  · exact ⟨ret2 (op6 f a b (by assumption)).1 (op6 f a b (by assumption)).2, rfl⟩
  · exact ⟨ret2 (op7 f a b (by assumption) (by assumption)).1 (op7 f a b (by assumption) (by assumption)).2, rfl⟩
  · exact ⟨ret2 (op7n f a b (by assumption) (by assumption)).1 (op7n f a b (by assumption) (by assumption)).2, rfl⟩
  · exact ⟨ret2 (op8 f a b (by assumption) (by assumption)).1 (op8 f a b (by assumption) (by assumption)).2, rfl⟩
  · exact ⟨ret2 (op8n f a b (by assumption) (by assumption)).1 (op8n f a b (by assumption) (by assumption)).2, rfl⟩
  · exact ⟨ret2 (op9 f a b (by assumption) (by assumption)).1 (op9 f a b (by assumption) (by assumption)).2, rfl⟩
  · exact ⟨ret2 (op9n f a b (by assumption) (by assumption)).1 (op9n f a b (by assumption) (by assumption)).2, rfl⟩
  · exact ⟨ret2 (op10 f a b (by assumption) (by assumption)).1 (op10 f a b (by assumption) (by assumption)).2, rfl⟩
  · exact ⟨ret2 (op10n f a b (by assumption) (by assumption)).1 (op10n f a b (by assumption) (by assumption)).2, rfl⟩
  · have h := opNo f a b (by assumption) (by assumption) (by assumption) (by assumption) (by assumption) (by assumption) (by assumption) (by assumption) (by assumption) (by assumption)
    exact ⟨ret2 h.1 h.2, rfl⟩

end Go.Proofs.YtnnpkbonbemeaaaDoor

namespace Go.Proofs.YtnnpkbonbemeaaaDoor
open Go.RowKit (wrap32 wrap64)

/-- The number whose binary digits are the 32 bits of the value of an integer. -/
def U (a : Int) : Nat := (a % 4294967296).toNat
theorem U_lt (a : Int) : U a < 2 ^ 32 := by unfold U; omega
theorem ofIntU (a : Int) : (BitVec.ofInt 32 (wrap32 a)).toNat = U a := by
  rw [BitVec.toNat_ofInt]; unfold U; simp only [wrap32]; omega
theorem opI4 (a b : Int) : opI 4 a b = wrap32 ((U a &&& U b : Nat) : Int) := by
  show IntKind.i32.wrap ((BitVec.ofInt 32 (wrap32 a) &&& BitVec.ofInt 32 (wrap32 b)).toNat : Int) = _
  rw [IntWalk.i32_left, BitVec.toNat_and, ofIntU, ofIntU]
theorem opI5 (a b : Int) : opI 5 a b = wrap32 ((U a ||| U b : Nat) : Int) := by
  show IntKind.i32.wrap ((BitVec.ofInt 32 (wrap32 a) ||| BitVec.ofInt 32 (wrap32 b)).toNat : Int) = _
  rw [IntWalk.i32_left, BitVec.toNat_or, ofIntU, ofIntU]
theorem opI6 (a b : Int) : opI 6 a b = wrap32 ((U a ^^^ U b : Nat) : Int) := by
  show IntKind.i32.wrap ((BitVec.ofInt 32 (wrap32 a) ^^^ BitVec.ofInt 32 (wrap32 b)).toNat : Int) = _
  rw [IntWalk.i32_left, BitVec.toNat_xor, ofIntU, ofIntU]

end Go.Proofs.YtnnpkbonbemeaaaDoor
