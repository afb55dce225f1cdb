/-
  The contracts of the specification's bits and Apply: bits returns the value whose binary digits are looked up in the table, and Apply returns the same result and error as value.Apply.
-/
import Derived.Test.YtebpnnakcodjdaaDoorZOps
namespace Go.Proofs.YtebpnnakcodjdaaDoor
open Go.RowKit

/-- The table's entry at two binary digits. -/
def at4 (r0 r1 r2 r3 : Nat) (d e : Nat) : Nat := if d = 0 then (if e = 0 then r0 else r1) else (if e = 0 then r2 else r3)

theorem modPow (Z k : Nat) : Z % 2 ^ (k + 1) = Z % 2 ^ k + 2 ^ k * (Z / 2 ^ k % 2) := by
  rw [Nat.pow_succ, Nat.mod_mul]
theorem divPow (X k : Nat) : X / 2 ^ (k + 1) = X / 2 ^ k / 2 := by rw [Nat.pow_succ, Nat.div_div_eq_div_mul]

theorem valI {k : IntKind} {a b : Int} (h : a = b) : Value.int k a = Value.int k b := by rw [h]
theorem startNeg (a : Int) (h : wrap32 a < 0) : Value.int .i64 (wrap64 (wrap32 a + 4294967296)) = Value.int .i64 ((U a / 2 ^ 0 : Nat) : Int) := by
  refine valI ?_
  rw [Nat.pow_zero, Nat.div_one]
  simp only [wrap64, U]
  simp only [wrap32] at h ⊢
  omega
theorem startPos (a : Int) (h : 0 ≤ wrap32 a) : Value.int .i64 (wrap32 a) = Value.int .i64 ((U a / 2 ^ 0 : Nat) : Int) := by
  refine valI ?_
  rw [Nat.pow_zero, Nat.div_one]
  simp only [U]
  simp only [wrap32] at h ⊢
  omega
theorem roundO (O P r Zk : Nat) (hP : P ≤ 2147483648) (hO : O < P) (hr : r ≤ 1) (h : Zk = O + P * r) : Value.int .i64 (wrap64 ((O : Int) + wrap64 ((P : Int) * (r : Int)))) = Value.int .i64 (Zk : Int) := by
  refine valI ?_
  rcases (by omega : r = 0 ∨ r = 1) with rfl | rfl
  · subst h; simp [wrap64]; omega
  · subst h; simp [wrap64]; omega
theorem pow31 (k : Nat) (h : k < 32) : 2 ^ k ≤ 2147483648 := Nat.pow_le_pow_right (n := 2) (by omega) (show k ≤ 31 by omega)

set_option maxHeartbeats 1000000 in
theorem rBits (r0 r1 r2 r3 : Nat) (h0 : r0 ≤ 1) (h1 : r1 ≤ 1) (h2 : r2 ≤ 1) (h3 : r3 ≤ 1) (a b : Int) (Z : Nat) (hZ : Z < 2 ^ 32)
    (hF : ∀ k, Z / 2 ^ k % 2 = at4 r0 r1 r2 r3 (U a / 2 ^ k % 2) (U b / 2 ^ k % 2)) (w : World) :
    Calls Tryd.prog 37 #[.int .i64 (wrap32 a), .int .i64 (wrap32 b), .agg #[.int .i64 r0, .int .i64 r1, .int .i64 r2, .int .i64 r3]] w
      fun e w' => e = .returned (.int .i64 (wrap32 (Z : Int))) ∧ Below w.heap.size w w' := by
  have HF := Lib.hid hF; clear hF
  have HZ := Lib.hid hZ; clear hZ
  go_enter Tryd.func37, Tryd.ntmps37
  go_wp2
  all_goals
    go_loop [0, 1, 7, 8, 9] (fun x y o t i => ∃ k : Nat, k ≤ 32 ∧ i = .int .i64 k ∧ x = .int .i64 ((U a / 2 ^ k : Nat) : Int) ∧ y = .int .i64 ((U b / 2 ^ k : Nat) : Int) ∧ t = .int .i64 ((2 ^ k : Nat) : Int) ∧ o = .int .i64 ((Z % 2 ^ k : Nat) : Int)) (fun _ _ _ _ i => 32 - (intOf i).toNat)
    case atStart => exact ⟨0, by omega, rfl, (by first | exact startNeg _ (by assumption) | exact startPos _ (by assumption)), (by first | exact startNeg _ (by assumption) | exact startPos _ (by assumption)), rfl, by simp⟩
    case round =>
      obtain ⟨k, hk, rfl, rfl, rfl, rfl, rfl⟩ := hrel
      by_cases hlt : k < 32
      · have hA : U a / 2 ^ k < 4294967296 := Nat.lt_of_le_of_lt (Nat.div_le_self _ _) (U_lt a)
        have hB : U b / 2 ^ k < 4294967296 := Nat.lt_of_le_of_lt (Nat.div_le_self _ _) (U_lt b)
        have hO : Z % 2 ^ k < 2 ^ k := Nat.mod_lt _ (Nat.two_pow_pos k)
        have hP := pow31 k hlt
        have E1 := Lib.hid (divPow (U a) k)
        have E2 := Lib.hid (divPow (U b) k)
        have E3 := Lib.hid (modPow Z k)
        have E4 := Lib.hid (Nat.pow_succ (n := 2) (m := k))
        have E5 := Lib.hid (HF.out k)
        revert hA hB hO hP E1 E2 E3 E4 E5
        generalize U a / 2 ^ k = A
        generalize U b / 2 ^ k = B
        generalize Z % 2 ^ k = O
        generalize 2 ^ k = P
        intro hA hB hO hP E1 E2 E3 E4 E5
        rcases (by omega : A % 2 = 0 ∨ A % 2 = 1) with ha | ha <;> rcases (by omega : B % 2 = 0 ∨ B % 2 = 1) with hb | hb
        all_goals
          have ha' : (A : Int) % 2 = (A % 2 : Nat) := rfl
          have hb' : (B : Int) % 2 = (B % 2 : Nat) := rfl
          rw [ha] at ha'
          rw [hb] at hb'
          go_wp2
          refine ⟨⟨k + 1, by omega, by go_num, ?_, ?_, ?_, ?_⟩, ?_⟩
          · rw [E1.out]; exact valI (by omega)
          · rw [E2.out]; exact valI (by omega)
          · rw [E4.out]; exact valI (by omega)
          · refine roundO _ _ _ _ hP hO (by assumption) ?_
            rw [E3.out, E5.out, ha, hb]; rfl
          · simp [intOf]; omega
      · obtain rfl : k = 32 := by omega
        have hz : wrap32 ((Z % 2 ^ 32 : Nat) : Int) = wrap32 (Z : Int) := by rw [Nat.mod_eq_of_lt HZ.out]
        have HE := Lib.hid hz; clear hz hlt
        go_wp2_with (go_at_call 7; refine (rWrap _ _).mono ?_; rintro e w' ⟨rfl, rfl⟩)
        go_ret
        exact ⟨retInt HE.out, (Below.refl _ _).alloc (Nat.le_refl _) _⟩
end Go.Proofs.YtebpnnakcodjdaaDoor
