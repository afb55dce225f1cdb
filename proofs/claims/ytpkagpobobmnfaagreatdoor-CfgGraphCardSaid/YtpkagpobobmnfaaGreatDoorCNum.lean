/-
  Plain facts about integers: the value of an integer, its remainder and its bits, without any program.
-/
import Derived.IntWalk
import Derived.RowKit
import Derived.WalkKit
import Derived.Test.YtpkagpobobmnfaaGreatDoorRows
import Derived.WalkSpells
import Derived.WalkLawsBesides
import Derived.Lib.Hide
namespace Go.Proofs.YtpkagpobobmnfaaGreatDoor
open Go.RowKit (wrap32 wrap64)

theorem retInt {k : IntKind} {a b : Int} (h : a = b) : Ending.returned (.int k a) = .returned (.int k b) := by rw [h]

theorem w64w32 (a : Int) : wrap64 (wrap32 a) = wrap32 a := by
  simp only [wrap64, wrap32]; omega

end Go.Proofs.YtpkagpobobmnfaaGreatDoor

namespace Go.Proofs.YtpkagpobobmnfaaGreatDoor
open Go.RowKit (wrap32 wrap64)

theorem vWrap (a : Int) (w : World) :
    Calls Tryz.prog 107 #[.int .i64 a] w fun e w' => e = .returned (.int .i64 (wrap32 a)) ∧ w = w' := by
  go_enter Tryz.func107, Tryz.ntmps107
  go_wp2
  go_ret
  exact ⟨retInt (w64w32 a), rfl⟩

end Go.Proofs.YtpkagpobobmnfaaGreatDoor

namespace Go.Proofs.YtpkagpobobmnfaaGreatDoor
open Go.RowKit (wrap32 wrap64)

/-- The result of a function at two integers. -/
def opI (f a b : Int) : Int :=
  if f = 1 then wrap32 (a + b) else
  if f = 2 then wrap32 (a - b) else
  if f = 3 then wrap32 (a * b) else
  if f = 4 then bits .and .i32 (wrap32 a) (wrap32 b) else
  if f = 5 then bits .or .i32 (wrap32 a) (wrap32 b) else
  if f = 6 then bits .xor .i32 (wrap32 a) (wrap32 b) else
  if f = 7 then (if wrap32 a = wrap32 b then 1 else 0) else
  if f = 8 then (if wrap32 a = wrap32 b then 0 else 1) else
  if f = 9 then (if wrap32 a < wrap32 b then 1 else 0) else
  if f = 10 then (if wrap32 a ≤ wrap32 b then 1 else 0) else 0
end Go.Proofs.YtpkagpobobmnfaaGreatDoor

namespace Go.Proofs.YtpkagpobobmnfaaGreatDoor
open Go.RowKit (wrap32 wrap64)

/-- The number whose binary digits are the 32 bits of the value of an integer. -/
def U (a : Int) : Nat := (a % 4294967296).toNat
end Go.Proofs.YtpkagpobobmnfaaGreatDoor
