/-
  Plain facts about integers: the value of an integer, its remainder and its bits, without any program.
-/
import Derived.IntWalk
import Derived.RowKit
import Derived.WalkKit
import Derived.Test.YtpkagpobobmnfaaGreatDoorRows
import Derived.WalkSpells
import Derived.WalkLawsBesides
import Derived.Lib.Hide
namespace Go.Proofs.YtpkagpobobmnfaaGreatDoor
open Go.RowKit (wrap32 wrap64)

theorem retInt {k : IntKind} {a b : Int} (h : a = b) : Ending.returned (.int k a) = .returned (.int k b) := by rw [h]

theorem w64w32 (a : Int) : wrap64 (wrap32 a) = wrap32 a := by
  simp only [wrap64, wrap32]; omega

theorem tmodCases (a : Int) : (0 ≤ a ∧ a.tmod 4294967296 = a % 4294967296) ∨ (a < 0 ∧ a.tmod 4294967296 = -((-a) % 4294967296)) := by
  by_cases h : 0 ≤ a
  · exact Or.inl ⟨h, Int.tmod_eq_emod_of_nonneg h⟩
  · refine Or.inr ⟨by omega, ?_⟩
    have h1 : (-a).tmod 4294967296 = (-a) % 4294967296 := Int.tmod_eq_emod_of_nonneg (by omega)
    rw [Int.neg_tmod] at h1
    omega

theorem wrapA (a : Int) (h : a.tmod 4294967296 < 0) (g : 2147483647 < wrap64 (a.tmod 4294967296 + 4294967296)) : wrap64 (wrap64 (a.tmod 4294967296 + 4294967296) - 4294967296) = wrap32 a := by
  rcases tmodCases a with ⟨h0, e⟩ | ⟨h0, e⟩ <;> rw [e] at h g ⊢ <;> simp only [wrap64, wrap32] at g ⊢ <;> omega
theorem wrapB (a : Int) (h : a.tmod 4294967296 < 0) (g : wrap64 (a.tmod 4294967296 + 4294967296) ≤ 2147483647) : wrap64 (a.tmod 4294967296 + 4294967296) = wrap32 a := by
  rcases tmodCases a with ⟨h0, e⟩ | ⟨h0, e⟩ <;> rw [e] at h g ⊢ <;> simp only [wrap64, wrap32] at g ⊢ <;> omega
theorem wrapC (a : Int) (h : 0 ≤ a.tmod 4294967296) (g : 2147483647 < a.tmod 4294967296) : wrap64 (a.tmod 4294967296 - 4294967296) = wrap32 a := by
  rcases tmodCases a with ⟨h0, e⟩ | ⟨h0, e⟩ <;> rw [e] at h g ⊢ <;> simp only [wrap64, wrap32] <;> omega
theorem wrapD (a : Int) (h : 0 ≤ a.tmod 4294967296) (g : a.tmod 4294967296 ≤ 2147483647) : a.tmod 4294967296 = wrap32 a := by
  rcases tmodCases a with ⟨h0, e⟩ | ⟨h0, e⟩ <;> rw [e] at h g ⊢ <;> simp only [wrap32] <;> omega

theorem ret2 {k l : IntKind} {a b c d : Int} (h : a = b) (g : c = d) : Ending.returned (.tuple #[.int k a, .int l c]) = .returned (.tuple #[.int k b, .int l d]) := by rw [h, g]

theorem wrap32Of (a : Int) : ∃ k : Int, wrap32 a = a + 4294967296 * k := ⟨-((a + 2147483648) / 4294967296), by simp only [wrap32]; omega⟩
theorem wrap32More (a k : Int) : wrap32 (a + 4294967296 * k) = wrap32 a := by simp only [wrap32]; omega
theorem wrap32Add (a b : Int) : wrap32 (wrap32 a + wrap32 b) = wrap32 (a + b) := by simp only [wrap32]; omega
theorem wrap32Sub (a b : Int) : wrap32 (wrap32 a - wrap32 b) = wrap32 (a - b) := by simp only [wrap32]; omega
theorem wrap32Mul (a b : Int) : wrap32 (wrap32 a * wrap32 b) = wrap32 (a * b) := by
  obtain ⟨k, hk⟩ := wrap32Of a
  obtain ⟨l, hl⟩ := wrap32Of b
  rw [hk, hl, ← wrap32More (a * b) (k * b + a * l + 4294967296 * (k * l))]
  congr 1
  simp only [Int.add_mul, Int.mul_add, Int.mul_assoc, Int.mul_left_comm a 4294967296 l, Int.mul_left_comm k 4294967296 l]
  omega
theorem wrap32Twice (a : Int) : wrap32 (wrap32 a) = wrap32 a := by simp only [wrap32]; omega
theorem bitsWrap (o : BinOp) (x y : Int) : wrap32 (bits o .i32 x y) = bits o .i32 x y := by
  unfold bits
  split <;> first | (rw [IntWalk.i32_left]; exact wrap32Twice _) | rfl | skip
end Go.Proofs.YtpkagpobobmnfaaGreatDoor

namespace Go.Proofs.YtpkagpobobmnfaaGreatDoor
open Go.RowKit (wrap32 wrap64)

theorem vTruth (b : Bool) (w : World) :
    Calls Tryz.prog 142 #[.bool b] w fun e w' => e = .returned (.int .i64 (if b then 1 else 0)) ∧ w = w' := by
  cases b
  · go_enter Tryz.func142, Tryz.ntmps142
    go_wp2
    go_ret
    exact ⟨rfl, rfl⟩
  · go_enter Tryz.func142, Tryz.ntmps142
    go_wp2
    go_ret
    exact ⟨rfl, rfl⟩

theorem rTruth (b : Bool) (w : World) :
    Calls Tryz.prog 174 #[.bool b] w fun e w' => e = .returned (.int .i64 (if b then 1 else 0)) ∧ w = w' := by
  cases b
  · go_enter Tryz.func174, Tryz.ntmps174
    go_wp2
    go_ret
    exact ⟨rfl, rfl⟩
  · go_enter Tryz.func174, Tryz.ntmps174
    go_wp2
    go_ret
    exact ⟨rfl, rfl⟩

theorem vWrap (a : Int) (w : World) :
    Calls Tryz.prog 107 #[.int .i64 a] w fun e w' => e = .returned (.int .i64 (wrap32 a)) ∧ w = w' := by
  go_enter Tryz.func107, Tryz.ntmps107
  go_wp2
  go_ret
  exact ⟨retInt (w64w32 a), rfl⟩

theorem rWrap (a : Int) (w : World) :
    Calls Tryz.prog 172 #[.int .i64 a] w fun e w' => e = .returned (.int .i64 (wrap32 a)) ∧ w = w' := by
  go_enter Tryz.func172, Tryz.ntmps172
  go_wp2
  all_goals go_ret
  · exact ⟨retInt (wrapA a (by assumption) (by assumption)), rfl⟩
  · exact ⟨retInt (wrapB a (by assumption) (by assumption)), rfl⟩
  · exact ⟨retInt (wrapC a (by assumption) (by assumption)), rfl⟩
  · exact ⟨retInt (wrapD a (by assumption) (by assumption)), rfl⟩
end Go.Proofs.YtpkagpobobmnfaaGreatDoor

namespace Go.Proofs.YtpkagpobobmnfaaGreatDoor
open Go.RowKit (wrap32 wrap64)

/-- The result of a function at two integers. -/
def opI (f a b : Int) : Int :=
  if f = 1 then wrap32 (a + b) else
  if f = 2 then wrap32 (a - b) else
  if f = 3 then wrap32 (a * b) else
  if f = 4 then bits .and .i32 (wrap32 a) (wrap32 b) else
  if f = 5 then bits .or .i32 (wrap32 a) (wrap32 b) else
  if f = 6 then bits .xor .i32 (wrap32 a) (wrap32 b) else
  if f = 7 then (if wrap32 a = wrap32 b then 1 else 0) else
  if f = 8 then (if wrap32 a = wrap32 b then 0 else 1) else
  if f = 9 then (if wrap32 a < wrap32 b then 1 else 0) else
  if f = 10 then (if wrap32 a ≤ wrap32 b then 1 else 0) else 0
/-- Its error. -/
def opE (f : Int) : Int := if 1 ≤ f ∧ f ≤ 10 then 0 else 8

theorem opW (f a b : Int) : wrap64 (opI f a b) = opI f a b := by
  unfold opI
  repeat (split; (first | exact w64w32 _ | (rw [← bitsWrap]; exact w64w32 _) | (split <;> (simp only [wrap64]; omega))))
  simp only [wrap64]; omega

theorem op1 (f a b : Int) (h : (f == 1) = true) : wrap64 (wrap32 (wrap32 a + wrap32 b)) = opI f a b ∧ 0 = opE f := by
  obtain rfl : f = 1 := by simpa using h
  exact ⟨by rw [wrap32Add, w64w32]; rfl, rfl⟩
theorem op2 (f a b : Int) (h : (f == 2) = true) : wrap64 (wrap32 (wrap32 a - wrap32 b)) = opI f a b ∧ 0 = opE f := by
  obtain rfl : f = 2 := by simpa using h
  exact ⟨by rw [wrap32Sub, w64w32]; rfl, rfl⟩
theorem op3 (f a b : Int) (h : (f == 3) = true) : wrap64 (wrap32 (wrap32 a * wrap32 b)) = opI f a b ∧ 0 = opE f := by
  obtain rfl : f = 3 := by simpa using h
  exact ⟨by rw [wrap32Mul, w64w32]; rfl, rfl⟩
theorem op4 (f a b : Int) (h : (f == 4) = true) : wrap64 (bits .and .i32 (wrap32 a) (wrap32 b)) = opI f a b ∧ 0 = opE f := by
  obtain rfl : f = 4 := by simpa using h
  exact ⟨opW 4 a b, rfl⟩
theorem op5 (f a b : Int) (h : (f == 5) = true) : wrap64 (bits .or .i32 (wrap32 a) (wrap32 b)) = opI f a b ∧ 0 = opE f := by
  obtain rfl : f = 5 := by simpa using h
  exact ⟨opW 5 a b, rfl⟩
theorem op6 (f a b : Int) (h : (f == 6) = true) : wrap64 (bits .xor .i32 (wrap32 a) (wrap32 b)) = opI f a b ∧ 0 = opE f := by
  obtain rfl : f = 6 := by simpa using h
  exact ⟨opW 6 a b, rfl⟩

theorem op7 (f a b : Int) (h : (f == 7) = true) (c : wrap32 a = wrap32 b) : (1 : Int) = opI f a b ∧ 0 = opE f := by
  obtain rfl : f = 7 := by simpa using h
  exact ⟨by simp [opI, c], rfl⟩
theorem op7n (f a b : Int) (h : (f == 7) = true) (c : ¬ wrap32 a = wrap32 b) : (0 : Int) = opI f a b ∧ 0 = opE f := by
  obtain rfl : f = 7 := by simpa using h
  exact ⟨by simp [opI, c], rfl⟩
theorem op8 (f a b : Int) (h : (f == 8) = true) (c : wrap32 a = wrap32 b) : (0 : Int) = opI f a b ∧ 0 = opE f := by
  obtain rfl : f = 8 := by simpa using h
  exact ⟨by simp [opI, c], rfl⟩
theorem op8n (f a b : Int) (h : (f == 8) = true) (c : ¬ wrap32 a = wrap32 b) : (1 : Int) = opI f a b ∧ 0 = opE f := by
  obtain rfl : f = 8 := by simpa using h
  exact ⟨by simp [opI, c], rfl⟩
theorem op9 (f a b : Int) (h : (f == 9) = true) (c : wrap32 a < wrap32 b) : (1 : Int) = opI f a b ∧ 0 = opE f := by
  obtain rfl : f = 9 := by simpa using h
  exact ⟨by simp [opI, c], rfl⟩
theorem op9n (f a b : Int) (h : (f == 9) = true) (c : wrap32 b ≤ wrap32 a) : (0 : Int) = opI f a b ∧ 0 = opE f := by
  obtain rfl : f = 9 := by simpa using h
  have c' : ¬ wrap32 a < wrap32 b := by omega
  exact ⟨by simp [opI, c'], rfl⟩
theorem op10 (f a b : Int) (h : (f == 10) = true) (c : wrap32 a ≤ wrap32 b) : (1 : Int) = opI f a b ∧ 0 = opE f := by
  obtain rfl : f = 10 := by simpa using h
  exact ⟨by simp [opI, c], rfl⟩
theorem op10n (f a b : Int) (h : (f == 10) = true) (c : wrap32 b < wrap32 a) : (0 : Int) = opI f a b ∧ 0 = opE f := by
  obtain rfl : f = 10 := by simpa using h
  have c' : ¬ wrap32 a ≤ wrap32 b := by omega
  exact ⟨by simp [opI, c'], rfl⟩
theorem opNo (f a b : Int) (h1 : (f == 1) = false) (h2 : (f == 2) = false) (h3 : (f == 3) = false) (h4 : (f == 4) = false) (h5 : (f == 5) = false) (h6 : (f == 6) = false) (h7 : (f == 7) = false) (h8 : (f == 8) = false) (h9 : (f == 9) = false) (h10 : (f == 10) = false) :
    (0 : Int) = opI f a b ∧ 8 = opE f := by
  simp only [beq_eq_false_iff_ne] at h1 h2 h3 h4 h5 h6 h7 h8 h9 h10
  refine ⟨by simp only [opI, if_neg h1, if_neg h2, if_neg h3, if_neg h4, if_neg h5, if_neg h6, if_neg h7, if_neg h8, if_neg h9, if_neg h10], ?_⟩
  rw [opE, if_neg (by omega)]

set_option maxHeartbeats 1000000 in
theorem vApply (f a b : Int) (w : World) :
    Calls Tryz.prog 93 #[.int .i64 f, .int .i64 a, .int .i64 b] w fun e w' => e = .returned (.tuple #[.int .i64 (opI f a b), .int .i64 (opE f)]) ∧ w = w' := by
  go_enter Tryz.func93, Tryz.ntmps93
  go_wp2_with (go_at_call 142; refine (vTruth _ _).mono ?_; rintro e w' ⟨rfl, rfl⟩)
  all_goals go_ret2
  · exact ⟨ret2 (op1 f a b (by assumption)).1 (op1 f a b (by assumption)).2, rfl⟩
  · exact ⟨ret2 (op2 f a b (by assumption)).1 (op2 f a b (by assumption)).2, rfl⟩
  · exact ⟨ret2 (op3 f a b (by assumption)).1 (op3 f a b (by assumption)).2, rfl⟩
  · exact ⟨ret2 (op4 f a b (by assumption)).1 (op4 f a b (by assumption)).2, rfl⟩
  · exact ⟨ret2 (op5 f a b (by assumption)).1 (op5 f a b (by assumption)).2, rfl⟩
  · exact ⟨ret2 (op6 f a b (by assumption)).1 (op6 f a b (by assumption)).2, rfl⟩
  · exact ⟨ret2 (op7 f a b (by assumption) (by assumption)).1 (op7 f a b (by assumption) (by assumption)).2, rfl⟩
  · exact ⟨ret2 (op7n f a b (by assumption) (by assumption)).1 (op7n f a b (by assumption) (by assumption)).2, rfl⟩
  · exact ⟨ret2 (op8 f a b (by assumption) (by assumption)).1 (op8 f a b (by assumption) (by assumption)).2, rfl⟩
  · exact ⟨ret2 (op8n f a b (by assumption) (by assumption)).1 (op8n f a b (by assumption) (by assumption)).2, rfl⟩
  · exact ⟨ret2 (op9 f a b (by assumption) (by assumption)).1 (op9 f a b (by assumption) (by assumption)).2, rfl⟩
  · exact ⟨ret2 (op9n f a b (by assumption) (by assumption)).1 (op9n f a b (by assumption) (by assumption)).2, rfl⟩
  · exact ⟨ret2 (op10 f a b (by assumption) (by assumption)).1 (op10 f a b (by assumption) (by assumption)).2, rfl⟩
  · exact ⟨ret2 (op10n f a b (by assumption) (by assumption)).1 (op10n f a b (by assumption) (by assumption)).2, rfl⟩
  · have h := opNo f a b (by assumption) (by assumption) (by assumption) (by assumption) (by assumption) (by assumption) (by assumption) (by assumption) (by assumption) (by assumption)
    exact ⟨ret2 h.1 h.2, rfl⟩

end Go.Proofs.YtpkagpobobmnfaaGreatDoor

namespace Go.Proofs.YtpkagpobobmnfaaGreatDoor
open Go.RowKit (wrap32 wrap64)

/-- The number whose binary digits are the 32 bits of the value of an integer. -/
def U (a : Int) : Nat := (a % 4294967296).toNat
theorem U_lt (a : Int) : U a < 2 ^ 32 := by unfold U; omega
theorem ofIntU (a : Int) : (BitVec.ofInt 32 (wrap32 a)).toNat = U a := by
  rw [BitVec.toNat_ofInt]; unfold U; simp only [wrap32]; omega
theorem opI4 (a b : Int) : opI 4 a b = wrap32 ((U a &&& U b : Nat) : Int) := by
  show IntKind.i32.wrap ((BitVec.ofInt 32 (wrap32 a) &&& BitVec.ofInt 32 (wrap32 b)).toNat : Int) = _
  rw [IntWalk.i32_left, BitVec.toNat_and, ofIntU, ofIntU]
theorem opI5 (a b : Int) : opI 5 a b = wrap32 ((U a ||| U b : Nat) : Int) := by
  show IntKind.i32.wrap ((BitVec.ofInt 32 (wrap32 a) ||| BitVec.ofInt 32 (wrap32 b)).toNat : Int) = _
  rw [IntWalk.i32_left, BitVec.toNat_or, ofIntU, ofIntU]
theorem opI6 (a b : Int) : opI 6 a b = wrap32 ((U a ^^^ U b : Nat) : Int) := by
  show IntKind.i32.wrap ((BitVec.ofInt 32 (wrap32 a) ^^^ BitVec.ofInt 32 (wrap32 b)).toNat : Int) = _
  rw [IntWalk.i32_left, BitVec.toNat_xor, ofIntU, ofIntU]

end Go.Proofs.YtpkagpobobmnfaaGreatDoor

namespace Go.Proofs.YtpkagpobobmnfaaGreatDoor
open Go.RowKit

/-- The table's entry at two binary digits. -/
def at4 (r0 r1 r2 r3 : Nat) (d e : Nat) : Nat := if d = 0 then (if e = 0 then r0 else r1) else (if e = 0 then r2 else r3)

theorem modPow (Z k : Nat) : Z % 2 ^ (k + 1) = Z % 2 ^ k + 2 ^ k * (Z / 2 ^ k % 2) := by
  rw [Nat.pow_succ, Nat.mod_mul]
theorem divPow (X k : Nat) : X / 2 ^ (k + 1) = X / 2 ^ k / 2 := by rw [Nat.pow_succ, Nat.div_div_eq_div_mul]

theorem valI {k : IntKind} {a b : Int} (h : a = b) : Value.int k a = Value.int k b := by rw [h]
theorem startNeg (a : Int) (h : wrap32 a < 0) : Value.int .i64 (wrap64 (wrap32 a + 4294967296)) = Value.int .i64 ((U a / 2 ^ 0 : Nat) : Int) := by
  refine valI ?_
  rw [Nat.pow_zero, Nat.div_one]
  simp only [wrap64, U]
  simp only [wrap32] at h ⊢
  omega
theorem startPos (a : Int) (h : 0 ≤ wrap32 a) : Value.int .i64 (wrap32 a) = Value.int .i64 ((U a / 2 ^ 0 : Nat) : Int) := by
  refine valI ?_
  rw [Nat.pow_zero, Nat.div_one]
  simp only [U]
  simp only [wrap32] at h ⊢
  omega
theorem roundO (O P r Zk : Nat) (hP : P ≤ 2147483648) (hO : O < P) (hr : r ≤ 1) (h : Zk = O + P * r) : Value.int .i64 (wrap64 ((O : Int) + wrap64 ((P : Int) * (r : Int)))) = Value.int .i64 (Zk : Int) := by
  refine valI ?_
  rcases (by omega : r = 0 ∨ r = 1) with rfl | rfl
  · subst h; simp [wrap64]; omega
  · subst h; simp [wrap64]; omega
theorem pow31 (k : Nat) (h : k < 32) : 2 ^ k ≤ 2147483648 := Nat.pow_le_pow_right (n := 2) (by omega) (show k ≤ 31 by omega)

set_option maxHeartbeats 1000000 in
theorem rBits (r0 r1 r2 r3 : Nat) (h0 : r0 ≤ 1) (h1 : r1 ≤ 1) (h2 : r2 ≤ 1) (h3 : r3 ≤ 1) (a b : Int) (Z : Nat) (hZ : Z < 2 ^ 32)
    (hF : ∀ k, Z / 2 ^ k % 2 = at4 r0 r1 r2 r3 (U a / 2 ^ k % 2) (U b / 2 ^ k % 2)) (w : World) :
    Calls Tryz.prog 173 #[.int .i64 (wrap32 a), .int .i64 (wrap32 b), .agg #[.int .i64 r0, .int .i64 r1, .int .i64 r2, .int .i64 r3]] w
      fun e w' => e = .returned (.int .i64 (wrap32 (Z : Int))) ∧ Below w.heap.size w w' := by
  have HF := Lib.hid hF; clear hF
  have HZ := Lib.hid hZ; clear hZ
  go_enter Tryz.func173, Tryz.ntmps173
  go_wp2
  all_goals
    go_loop [0, 1, 7, 8, 9] (fun x y o t i => ∃ k : Nat, k ≤ 32 ∧ i = .int .i64 k ∧ x = .int .i64 ((U a / 2 ^ k : Nat) : Int) ∧ y = .int .i64 ((U b / 2 ^ k : Nat) : Int) ∧ t = .int .i64 ((2 ^ k : Nat) : Int) ∧ o = .int .i64 ((Z % 2 ^ k : Nat) : Int)) (fun _ _ _ _ i => 32 - (intOf i).toNat)
    case atStart => exact ⟨0, by omega, rfl, (by first | exact startNeg _ (by assumption) | exact startPos _ (by assumption)), (by first | exact startNeg _ (by assumption) | exact startPos _ (by assumption)), rfl, by simp⟩
    case round =>
      obtain ⟨k, hk, rfl, rfl, rfl, rfl, rfl⟩ := hrel
      by_cases hlt : k < 32
      · have hA : U a / 2 ^ k < 4294967296 := Nat.lt_of_le_of_lt (Nat.div_le_self _ _) (U_lt a)
        have hB : U b / 2 ^ k < 4294967296 := Nat.lt_of_le_of_lt (Nat.div_le_self _ _) (U_lt b)
        have hO : Z % 2 ^ k < 2 ^ k := Nat.mod_lt _ (Nat.two_pow_pos k)
        have hP := pow31 k hlt
        have E1 := Lib.hid (divPow (U a) k)
        have E2 := Lib.hid (divPow (U b) k)
        have E3 := Lib.hid (modPow Z k)
        have E4 := Lib.hid (Nat.pow_succ (n := 2) (m := k))
        have E5 := Lib.hid (HF.out k)
        revert hA hB hO hP E1 E2 E3 E4 E5
        generalize U a / 2 ^ k = A
        generalize U b / 2 ^ k = B
        generalize Z % 2 ^ k = O
        generalize 2 ^ k = P
        intro hA hB hO hP E1 E2 E3 E4 E5
        rcases (by omega : A % 2 = 0 ∨ A % 2 = 1) with ha | ha <;> rcases (by omega : B % 2 = 0 ∨ B % 2 = 1) with hb | hb
        all_goals
          have ha' : (A : Int) % 2 = (A % 2 : Nat) := rfl
          have hb' : (B : Int) % 2 = (B % 2 : Nat) := rfl
          rw [ha] at ha'
          rw [hb] at hb'
          go_wp2
          refine ⟨⟨k + 1, by omega, by go_num, ?_, ?_, ?_, ?_⟩, ?_⟩
          · rw [E1.out]; exact valI (by omega)
          · rw [E2.out]; exact valI (by omega)
          · rw [E4.out]; exact valI (by omega)
          · refine roundO _ _ _ _ hP hO (by assumption) ?_
            rw [E3.out, E5.out, ha, hb]; rfl
          · simp [intOf]; omega
      · obtain rfl : k = 32 := by omega
        have hz : wrap32 ((Z % 2 ^ 32 : Nat) : Int) = wrap32 (Z : Int) := by rw [Nat.mod_eq_of_lt HZ.out]
        have HE := Lib.hid hz; clear hz hlt
        go_wp2_with (go_at_call 172; refine (rWrap _ _).mono ?_; rintro e w' ⟨rfl, rfl⟩)
        go_ret
        exact ⟨retInt HE.out, (Below.refl _ _).alloc (Nat.le_refl _) _⟩
end Go.Proofs.YtpkagpobobmnfaaGreatDoor

namespace Go.Proofs.YtpkagpobobmnfaaGreatDoor
open Go.RowKit

theorem bitAnd (X Y k : Nat) : (X &&& Y) / 2 ^ k % 2 = at4 0 0 0 1 (X / 2 ^ k % 2) (Y / 2 ^ k % 2) := by
  rw [← Nat.shiftRight_eq_div_pow, ← Nat.shiftRight_eq_div_pow, ← Nat.shiftRight_eq_div_pow, Nat.shiftRight_and_distrib]
  have h := @Nat.and_mod_two_eq_one (X >>> k) (Y >>> k)
  unfold at4
  split <;> split <;> omega
theorem bitOr (X Y k : Nat) : (X ||| Y) / 2 ^ k % 2 = at4 0 1 1 1 (X / 2 ^ k % 2) (Y / 2 ^ k % 2) := by
  rw [← Nat.shiftRight_eq_div_pow, ← Nat.shiftRight_eq_div_pow, ← Nat.shiftRight_eq_div_pow, Nat.shiftRight_or_distrib]
  have h := @Nat.or_mod_two_eq_one (X >>> k) (Y >>> k)
  unfold at4
  split <;> split <;> omega
theorem bitXor (X Y k : Nat) : (X ^^^ Y) / 2 ^ k % 2 = at4 0 1 1 0 (X / 2 ^ k % 2) (Y / 2 ^ k % 2) := by
  rw [← Nat.shiftRight_eq_div_pow, ← Nat.shiftRight_eq_div_pow, ← Nat.shiftRight_eq_div_pow, Nat.shiftRight_xor_distrib]
  have h := @Nat.xor_mod_two_eq_one (X >>> k) (Y >>> k)
  unfold at4
  split <;> split <;> omega

theorem rAnd (a b : Int) (w : World) :
    Calls Tryz.prog 173 #[.int .i64 (wrap32 a), .int .i64 (wrap32 b), .agg #[.int .i64 0, .int .i64 0, .int .i64 0, .int .i64 1]] w
      fun e w' => e = .returned (.int .i64 (opI 4 a b)) ∧ Below w.heap.size w w' := by
  rw [opI4]
  exact rBits 0 0 0 1 (by omega) (by omega) (by omega) (by omega) a b _ (Nat.and_lt_two_pow _ (U_lt b)) (fun k => bitAnd _ _ k) w
theorem rOr (a b : Int) (w : World) :
    Calls Tryz.prog 173 #[.int .i64 (wrap32 a), .int .i64 (wrap32 b), .agg #[.int .i64 0, .int .i64 1, .int .i64 1, .int .i64 1]] w
      fun e w' => e = .returned (.int .i64 (opI 5 a b)) ∧ Below w.heap.size w w' := by
  rw [opI5]
  exact rBits 0 1 1 1 (by omega) (by omega) (by omega) (by omega) a b _ (Nat.or_lt_two_pow (U_lt a) (U_lt b)) (fun k => bitOr _ _ k) w
theorem rXor (a b : Int) (w : World) :
    Calls Tryz.prog 173 #[.int .i64 (wrap32 a), .int .i64 (wrap32 b), .agg #[.int .i64 0, .int .i64 1, .int .i64 1, .int .i64 0]] w
      fun e w' => e = .returned (.int .i64 (opI 6 a b)) ∧ Below w.heap.size w w' := by
  rw [opI6]
  exact rBits 0 1 1 0 (by omega) (by omega) (by omega) (by omega) a b _ (Nat.xor_lt_two_pow (U_lt a) (U_lt b)) (fun k => bitXor _ _ k) w

theorem wrapOfWrap (x : Int) : wrap32 (wrap64 x) = wrap32 x := by simp only [wrap32, wrap64]; omega

theorem rop1 (f a b : Int) (h : (f == 1) = true) : wrap32 (wrap64 (wrap32 a + wrap32 b)) = opI f a b ∧ 0 = opE f := by
  rw [wrapOfWrap, ← (op1 f a b h).1, w64w32]; exact ⟨rfl, (op1 f a b h).2⟩
theorem rop2 (f a b : Int) (h : (f == 2) = true) : wrap32 (wrap64 (wrap32 a - wrap32 b)) = opI f a b ∧ 0 = opE f := by
  rw [wrapOfWrap, ← (op2 f a b h).1, w64w32]; exact ⟨rfl, (op2 f a b h).2⟩
theorem rop3 (f a b : Int) (h : (f == 3) = true) : wrap32 (wrap64 (wrap32 a * wrap32 b)) = opI f a b ∧ 0 = opE f := by
  rw [wrapOfWrap, ← (op3 f a b h).1, w64w32]; exact ⟨rfl, (op3 f a b h).2⟩
theorem rop4 (f a b : Int) (h : (f == 4) = true) : opI 4 a b = opI f a b ∧ 0 = opE f := by
  obtain rfl : f = 4 := by simpa using h
  exact ⟨rfl, rfl⟩
theorem rop5 (f a b : Int) (h : (f == 5) = true) : opI 5 a b = opI f a b ∧ 0 = opE f := by
  obtain rfl : f = 5 := by simpa using h
  exact ⟨rfl, rfl⟩
theorem rop6 (f a b : Int) (h : (f == 6) = true) : opI 6 a b = opI f a b ∧ 0 = opE f := by
  obtain rfl : f = 6 := by simpa using h
  exact ⟨rfl, rfl⟩

set_option maxHeartbeats 1000000 in
theorem rApply (f a b : Int) (w : World) :
    Calls Tryz.prog 156 #[.int .i64 f, .int .i64 a, .int .i64 b] w fun e w' => e = .returned (.tuple #[.int .i64 (opI f a b), .int .i64 (opE f)]) ∧ Below w.heap.size w w' := by
  go_enter Tryz.func156, Tryz.ntmps156
  go_wp2_with (first
    | (go_at_call 172; refine (rWrap _ _).mono ?_; rintro e w' ⟨rfl, rfl⟩)
    | (go_at_call 174; refine (rTruth _ _).mono ?_; rintro e w' ⟨rfl, rfl⟩)
    | (go_at_call 173; first | (with_reducible refine (rAnd _ _ _).mono ?_; rintro e w' ⟨rfl, hb⟩) | (with_reducible refine (rOr _ _ _).mono ?_; rintro e w' ⟨rfl, hb⟩) | (with_reducible refine (rXor _ _ _).mono ?_; rintro e w' ⟨rfl, hb⟩)))
  all_goals go_ret2
  · exact ⟨ret2 (rop1 f a b (by assumption)).1 (rop1 f a b (by assumption)).2, Below.refl _ _⟩
  · exact ⟨ret2 (rop2 f a b (by assumption)).1 (rop2 f a b (by assumption)).2, Below.refl _ _⟩
  · exact ⟨ret2 (rop3 f a b (by assumption)).1 (rop3 f a b (by assumption)).2, Below.refl _ _⟩
  · exact ⟨ret2 (rop4 f a b (by assumption)).1 (rop4 f a b (by assumption)).2, hb⟩
  · exact ⟨ret2 (rop5 f a b (by assumption)).1 (rop5 f a b (by assumption)).2, hb⟩
  · exact ⟨ret2 (rop6 f a b (by assumption)).1 (rop6 f a b (by assumption)).2, hb⟩
  · exact ⟨ret2 (op7 f a b (by assumption) (by assumption)).1 (op7 f a b (by assumption) (by assumption)).2, Below.refl _ _⟩
  · exact ⟨ret2 (op7n f a b (by assumption) (by assumption)).1 (op7n f a b (by assumption) (by assumption)).2, Below.refl _ _⟩
  · exact ⟨ret2 (op8 f a b (by assumption) (by assumption)).1 (op8 f a b (by assumption) (by assumption)).2, Below.refl _ _⟩
  · exact ⟨ret2 (op8n f a b (by assumption) (by assumption)).1 (op8n f a b (by assumption) (by assumption)).2, Below.refl _ _⟩
  · exact ⟨ret2 (op9 f a b (by assumption) (by assumption)).1 (op9 f a b (by assumption) (by assumption)).2, Below.refl _ _⟩
  · exact ⟨ret2 (op9n f a b (by assumption) (by assumption)).1 (op9n f a b (by assumption) (by assumption)).2, Below.refl _ _⟩
  · exact ⟨ret2 (op10 f a b (by assumption) (by assumption)).1 (op10 f a b (by assumption) (by assumption)).2, Below.refl _ _⟩
  · exact ⟨ret2 (op10n f a b (by assumption) (by assumption)).1 (op10n f a b (by assumption) (by assumption)).2, Below.refl _ _⟩
  · have h := opNo f a b (by assumption) (by assumption) (by assumption) (by assumption) (by assumption) (by assumption) (by assumption) (by assumption) (by assumption) (by assumption)
    exact ⟨ret2 h.1 h.2, Below.refl _ _⟩
end Go.Proofs.YtpkagpobobmnfaaGreatDoor
