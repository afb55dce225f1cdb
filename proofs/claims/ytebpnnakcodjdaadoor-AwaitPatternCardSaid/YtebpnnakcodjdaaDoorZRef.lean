/-
  The contract of the specification's Apply: it returns the result and the error that 'opI' and 'opE' name; it lays only new memory.
-/
import Derived.Test.YtebpnnakcodjdaaDoorZBits
namespace Go.Proofs.YtebpnnakcodjdaaDoor
open Go.RowKit

theorem bitAnd (X Y k : Nat) : (X &&& Y) / 2 ^ k % 2 = at4 0 0 0 1 (X / 2 ^ k % 2) (Y / 2 ^ k % 2) := by
  rw [← Nat.shiftRight_eq_div_pow, ← Nat.shiftRight_eq_div_pow, ← Nat.shiftRight_eq_div_pow, Nat.shiftRight_and_distrib]
  have h := @Nat.and_mod_two_eq_one (X >>> k) (Y >>> k)
  unfold at4
  split <;> split <;> omega
theorem bitOr (X Y k : Nat) : (X ||| Y) / 2 ^ k % 2 = at4 0 1 1 1 (X / 2 ^ k % 2) (Y / 2 ^ k % 2) := by
  rw [← Nat.shiftRight_eq_div_pow, ← Nat.shiftRight_eq_div_pow, ← Nat.shiftRight_eq_div_pow, Nat.shiftRight_or_distrib]
  have h := @Nat.or_mod_two_eq_one (X >>> k) (Y >>> k)
  unfold at4
  split <;> split <;> omega
theorem bitXor (X Y k : Nat) : (X ^^^ Y) / 2 ^ k % 2 = at4 0 1 1 0 (X / 2 ^ k % 2) (Y / 2 ^ k % 2) := by
  rw [← Nat.shiftRight_eq_div_pow, ← Nat.shiftRight_eq_div_pow, ← Nat.shiftRight_eq_div_pow, Nat.shiftRight_xor_distrib]
  have h := @Nat.xor_mod_two_eq_one (X >>> k) (Y >>> k)
  unfold at4
  split <;> split <;> omega

theorem rAnd (a b : Int) (w : World) :
    Calls Tryd.prog 37 #[.int .i64 (wrap32 a), .int .i64 (wrap32 b), .agg #[.int .i64 0, .int .i64 0, .int .i64 0, .int .i64 1]] w
      fun e w' => e = .returned (.int .i64 (opI 4 a b)) ∧ Below w.heap.size w w' := by
  rw [opI4]
  exact rBits 0 0 0 1 (by omega) (by omega) (by omega) (by omega) a b _ (Nat.and_lt_two_pow _ (U_lt b)) (fun k => bitAnd _ _ k) w
theorem rOr (a b : Int) (w : World) :
    Calls Tryd.prog 37 #[.int .i64 (wrap32 a), .int .i64 (wrap32 b), .agg #[.int .i64 0, .int .i64 1, .int .i64 1, .int .i64 1]] w
      fun e w' => e = .returned (.int .i64 (opI 5 a b)) ∧ Below w.heap.size w w' := by
  rw [opI5]
  exact rBits 0 1 1 1 (by omega) (by omega) (by omega) (by omega) a b _ (Nat.or_lt_two_pow (U_lt a) (U_lt b)) (fun k => bitOr _ _ k) w
theorem rXor (a b : Int) (w : World) :
    Calls Tryd.prog 37 #[.int .i64 (wrap32 a), .int .i64 (wrap32 b), .agg #[.int .i64 0, .int .i64 1, .int .i64 1, .int .i64 0]] w
      fun e w' => e = .returned (.int .i64 (opI 6 a b)) ∧ Below w.heap.size w w' := by
  rw [opI6]
  exact rBits 0 1 1 0 (by omega) (by omega) (by omega) (by omega) a b _ (Nat.xor_lt_two_pow (U_lt a) (U_lt b)) (fun k => bitXor _ _ k) w

theorem wrapOfWrap (x : Int) : wrap32 (wrap64 x) = wrap32 x := by simp only [wrap32, wrap64]; omega

theorem rop1 (f a b : Int) (h : (f == 1) = true) : wrap32 (wrap64 (wrap32 a + wrap32 b)) = opI f a b ∧ 0 = opE f := by
  rw [wrapOfWrap, ← (op1 f a b h).1, w64w32]; exact ⟨rfl, (op1 f a b h).2⟩
theorem rop2 (f a b : Int) (h : (f == 2) = true) : wrap32 (wrap64 (wrap32 a - wrap32 b)) = opI f a b ∧ 0 = opE f := by
  rw [wrapOfWrap, ← (op2 f a b h).1, w64w32]; exact ⟨rfl, (op2 f a b h).2⟩
theorem rop3 (f a b : Int) (h : (f == 3) = true) : wrap32 (wrap64 (wrap32 a * wrap32 b)) = opI f a b ∧ 0 = opE f := by
  rw [wrapOfWrap, ← (op3 f a b h).1, w64w32]; exact ⟨rfl, (op3 f a b h).2⟩
theorem rop4 (f a b : Int) (h : (f == 4) = true) : opI 4 a b = opI f a b ∧ 0 = opE f := by
  obtain rfl : f = 4 := by simpa using h
  exact ⟨rfl, rfl⟩
theorem rop5 (f a b : Int) (h : (f == 5) = true) : opI 5 a b = opI f a b ∧ 0 = opE f := by
  obtain rfl : f = 5 := by simpa using h
  exact ⟨rfl, rfl⟩
theorem rop6 (f a b : Int) (h : (f == 6) = true) : opI 6 a b = opI f a b ∧ 0 = opE f := by
  obtain rfl : f = 6 := by simpa using h
  exact ⟨rfl, rfl⟩

set_option maxHeartbeats 1000000 in
theorem rApply (f a b : Int) (w : World) :
    Calls Tryd.prog 18 #[.int .i64 f, .int .i64 a, .int .i64 b] w fun e w' => e = .returned (.tuple #[.int .i64 (opI f a b), .int .i64 (opE f)]) ∧ Below w.heap.size w w' := by
  go_enter Tryd.func18, Tryd.ntmps18
  go_wp2_with (first
    | (go_at_call 7; refine (rWrap _ _).mono ?_; rintro e w' ⟨rfl, rfl⟩)
    | (go_at_call 38; refine (rTruth _ _).mono ?_; rintro e w' ⟨rfl, rfl⟩)
    | (go_at_call 37; first | (with_reducible refine (rAnd _ _ _).mono ?_; rintro e w' ⟨rfl, hb⟩) | (with_reducible refine (rOr _ _ _).mono ?_; rintro e w' ⟨rfl, hb⟩) | (with_reducible refine (rXor _ _ _).mono ?_; rintro e w' ⟨rfl, hb⟩)))
  all_goals go_ret2
  · exact ⟨ret2 (rop1 f a b (by assumption)).1 (rop1 f a b (by assumption)).2, Below.refl _ _⟩
  · exact ⟨ret2 (rop2 f a b (by assumption)).1 (rop2 f a b (by assumption)).2, Below.refl _ _⟩
  · exact ⟨ret2 (rop3 f a b (by assumption)).1 (rop3 f a b (by assumption)).2, Below.refl _ _⟩
  · exact ⟨ret2 (rop4 f a b (by assumption)).1 (rop4 f a b (by assumption)).2, hb⟩
  · exact ⟨ret2 (rop5 f a b (by assumption)).1 (rop5 f a b (by assumption)).2, hb⟩
  · exact ⟨ret2 (rop6 f a b (by assumption)).1 (rop6 f a b (by assumption)).2, hb⟩
  · exact ⟨ret2 (op7 f a b (by assumption) (by assumption)).1 (op7 f a b (by assumption) (by assumption)).2, Below.refl _ _⟩
  · exact ⟨ret2 (op7n f a b (by assumption) (by assumption)).1 (op7n f a b (by assumption) (by assumption)).2, Below.refl _ _⟩
  · exact ⟨ret2 (op8 f a b (by assumption) (by assumption)).1 (op8 f a b (by assumption) (by assumption)).2, Below.refl _ _⟩
  · exact ⟨ret2 (op8n f a b (by assumption) (by assumption)).1 (op8n f a b (by assumption) (by assumption)).2, Below.refl _ _⟩
  · exact ⟨ret2 (op9 f a b (by assumption) (by assumption)).1 (op9 f a b (by assumption) (by assumption)).2, Below.refl _ _⟩
  · exact ⟨ret2 (op9n f a b (by assumption) (by assumption)).1 (op9n f a b (by assumption) (by assumption)).2, Below.refl _ _⟩
  · exact ⟨ret2 (op10 f a b (by assumption) (by assumption)).1 (op10 f a b (by assumption) (by assumption)).2, Below.refl _ _⟩
  · exact ⟨ret2 (op10n f a b (by assumption) (by assumption)).1 (op10n f a b (by assumption) (by assumption)).2, Below.refl _ _⟩
  · have h := opNo f a b (by assumption) (by assumption) (by assumption) (by assumption) (by assumption) (by assumption) (by assumption) (by assumption) (by assumption) (by assumption)
    exact ⟨ret2 h.1 h.2, Below.refl _ _⟩
end Go.Proofs.YtebpnnakcodjdaaDoor
