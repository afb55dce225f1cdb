/-
  The contracts of the small functions of package program: letters, digits, values, numbers below a count; names.
-/
import Derived.Test.YtnckpjcfgeajbaaGreatDoorPgW
namespace Go.Proofs.YtnckpjcfgeajbaaGreatDoor
open Go Go.RowKit

theorem retBl {a b : Bool} (h : a = b) : Ending.returned (.bool a) = .returned (.bool b) := by rw [h]
theorem iLetter (c : UInt8) (w : World) : Calls Tryz.prog 210 #[.int .u8 (c.toNat : Int)] w fun e w' => e = .returned (.bool (letB c)) ∧ w = w' := by
  have hc := c.toNat_lt
  obtain ⟨n, hn⟩ : ∃ n : Nat, c.toNat = n := ⟨_, rfl⟩
  have HL : Hid (letB c = ((decide (97 ≤ n) && decide (n ≤ 122)) || (decide (65 ≤ n) && decide (n ≤ 90)))) := by rw [← hn]; exact Lib.hid rfl
  rw [hn] at hc ⊢
  clear hn
  go_enter Tryz.func210, Tryz.ntmps210
  go_wp2
  all_goals go_ret
  all_goals exact ⟨retBl (by rw [HL.out, Bool.eq_iff_iff]; (try simp); omega), rfl⟩
theorem iDigit (c : UInt8) (w : World) : Calls Tryz.prog 211 #[.int .u8 (c.toNat : Int)] w fun e w' => e = .returned (.bool (digB c)) ∧ w = w' := by
  have hc := c.toNat_lt
  obtain ⟨n, hn⟩ : ∃ n : Nat, c.toNat = n := ⟨_, rfl⟩
  have HL : Hid (digB c = (decide (48 ≤ n) && decide (n ≤ 57))) := by rw [← hn]; exact Lib.hid rfl
  rw [hn] at hc ⊢
  clear hn
  go_enter Tryz.func211, Tryz.ntmps211
  go_wp2
  all_goals go_ret
  all_goals exact ⟨retBl (by rw [HL.out, Bool.eq_iff_iff]; (try simp); omega), rfl⟩
theorem iIsVal (n : Int) (w : World) : Calls Tryz.prog 158 #[.int .i64 n] w fun e w' => e = .returned (.bool (isVal n)) ∧ w = w' := by
  have HL : Hid (isVal n = (decide (-2147483648 ≤ n) && decide (n ≤ 2147483647))) := Lib.hid rfl
  go_enter Tryz.func158, Tryz.ntmps158
  go_wp2
  all_goals go_ret
  all_goals exact ⟨retBl (by rw [HL.out, Bool.eq_iff_iff]; (try simp); omega), rfl⟩
theorem iBelow (n : Int) (c : Nat) (w : World) : Calls Tryz.prog 163 #[.int .i64 n, .int .i64 (c : Int)] w fun e w' => e = .returned (.bool (belB n c)) ∧ w = w' := by
  have HL : Hid (belB n c = (decide (0 ≤ n) && decide (n < (c : Int)))) := Lib.hid rfl
  go_enter Tryz.func163, Tryz.ntmps163
  go_wp2
  all_goals go_ret
  all_goals exact ⟨retBl (by rw [HL.out, Bool.eq_iff_iff]; (try simp); omega), rfl⟩
end Go.Proofs.YtnckpjcfgeajbaaGreatDoor
