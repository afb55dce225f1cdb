/-
  Two pairs are compared as a whole.
-/
import Derived.Test.YtpfdhjmhoggioaaRUni
import Derived.DeepKeys
namespace Go.Proofs.Ytpfdhjmhoggioaa
open Go.RowKit Go.Maps

theorem eqPair (x y u v : Int) (w : World) : (Op.equalIn 10000 38 (.agg #[.int .i64 x, .int .i64 y]) (.agg #[.int .i64 u, .int .i64 v])).run Try.prog w = .ok (decide (x = u) && decide (y = v)) w := by
  obtain ⟨i0, hi, hz0, hz1, hz2⟩ := info_parts infoInt
  have hc : Try.prog.cellsOf 3 = 1 := by kernel_rfl
  rw [run_equalIn_array (P := Try.prog) w 9999 #[.int .i64 x, .int .i64 y] #[.int .i64 u, .int .i64 v] Try.underlying38 hi, hc]
  have hp0 : ∀ (a b : Int), (part 3 #[.int .i64 a, .int .i64 b] 0).run Try.prog w = .ok (.int .i64 a) w := fun a b => by kernel_rfl
  have hp1 : ∀ (a b : Int), (part 3 #[.int .i64 a, .int .i64 b] 1).run Try.prog w = .ok (.int .i64 b) w := fun a b => by kernel_rfl
  have he : ∀ (a b : Int), (Op.equalIn 9999 3 (.int .i64 a) (.int .i64 b)).run Try.prog w = .ok (decide (a = b)) w := fun a b => by
    rw [show (9999 : Nat) = 9998 + 1 from rfl, run_equalIn_int w 9998 3 .i64 .i64 a b Try.underlying3]
    congr 1
  rw [show List.range 2 = [0, 1] from rfl]
  by_cases h1 : x = u
  · by_cases h2 : y = v
    · simp [Op.eqItems, hp0, hp1, he, h1, h2]
    · simp [Op.eqItems, hp0, hp1, he, h1, h2]
  · simp [Op.eqItems, hp0, he, h1]
end Go.Proofs.Ytpfdhjmhoggioaa
