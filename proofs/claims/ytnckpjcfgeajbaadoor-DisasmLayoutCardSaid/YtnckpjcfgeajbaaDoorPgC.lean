/-
  The contracts of the small functions of package program: letters, digits, values, numbers below a count; names.
-/
import Derived.Test.YtnckpjcfgeajbaaDoorPgW
namespace Go.Proofs.YtnckpjcfgeajbaaDoor
open Go Go.RowKit

theorem retBl {a b : Bool} (h : a = b) : Ending.returned (.bool a) = .returned (.bool b) := by rw [h]
theorem iLetter (c : UInt8) (w : World) : Calls Tryd.prog 86 #[.int .u8 (c.toNat : Int)] w fun e w' => e = .returned (.bool (letB c)) ∧ w = w' := by
  have hc := c.toNat_lt
  obtain ⟨n, hn⟩ : ∃ n : Nat, c.toNat = n := ⟨_, rfl⟩
  have HL : Hid (letB c = ((decide (97 ≤ n) && decide (n ≤ 122)) || (decide (65 ≤ n) && decide (n ≤ 90)))) := by rw [← hn]; exact Lib.hid rfl
  rw [hn] at hc ⊢
  clear hn
  go_enter Tryd.func86, Tryd.ntmps86
  go_wp2
  all_goals go_ret
  all_goals exact ⟨retBl (by rw [HL.out, Bool.eq_iff_iff]; (try simp); omega), rfl⟩
theorem iDigit (c : UInt8) (w : World) : Calls Tryd.prog 87 #[.int .u8 (c.toNat : Int)] w fun e w' => e = .returned (.bool (digB c)) ∧ w = w' := by
  have hc := c.toNat_lt
  obtain ⟨n, hn⟩ : ∃ n : Nat, c.toNat = n := ⟨_, rfl⟩
  have HL : Hid (digB c = (decide (48 ≤ n) && decide (n ≤ 57))) := by rw [← hn]; exact Lib.hid rfl
  rw [hn] at hc ⊢
  clear hn
  go_enter Tryd.func87, Tryd.ntmps87
  go_wp2
  all_goals go_ret
  all_goals exact ⟨retBl (by rw [HL.out, Bool.eq_iff_iff]; (try simp); omega), rfl⟩
theorem iIsVal (n : Int) (w : World) : Calls Tryd.prog 60 #[.int .i64 n] w fun e w' => e = .returned (.bool (isVal n)) ∧ w = w' := by
  have HL : Hid (isVal n = (decide (-2147483648 ≤ n) && decide (n ≤ 2147483647))) := Lib.hid rfl
  go_enter Tryd.func60, Tryd.ntmps60
  go_wp2
  all_goals go_ret
  all_goals exact ⟨retBl (by rw [HL.out, Bool.eq_iff_iff]; (try simp); omega), rfl⟩
theorem iBelow (n : Int) (c : Nat) (w : World) : Calls Tryd.prog 65 #[.int .i64 n, .int .i64 (c : Int)] w fun e w' => e = .returned (.bool (belB n c)) ∧ w = w' := by
  have HL : Hid (belB n c = (decide (0 ≤ n) && decide (n < (c : Int)))) := Lib.hid rfl
  go_enter Tryd.func65, Tryd.ntmps65
  go_wp2
  all_goals go_ret
  all_goals exact ⟨retBl (by rw [HL.out, Bool.eq_iff_iff]; (try simp); omega), rfl⟩
end Go.Proofs.YtnckpjcfgeajbaaDoor
