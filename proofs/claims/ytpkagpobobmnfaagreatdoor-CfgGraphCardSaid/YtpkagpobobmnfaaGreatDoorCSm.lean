/-
  Pruning, pure: what is left is reached; pruning twice is pruning once.
-/
import Derived.Test.YtpkagpobobmnfaaGreatDoorCCf
import Derived.Test.YtpkagpobobmnfaaGreatDoorCCb
import Derived.Test.YtpkagpobobmnfaaGreatDoorCNum
namespace Go.Proofs.YtpkagpobobmnfaaGreatDoor

/-- Is instruction x reached? -/
noncomputable def onB (C : List I8) (x : Nat) : Bool := rcB C.length (sc C) (-1) x
/-- The reached instructions below k. -/
noncomputable def rmK (C : List I8) (k : Nat) : List Nat := (List.range k).filter (onB C)
theorem rmMem {C : List I8} {k x : Nat} : x ∈ rmK C k ↔ x < k ∧ onB C x = true := by unfold rmK; rw [List.mem_filter, List.mem_range]
theorem onLt {C : List I8} {x : Nat} (h : onB C x = true) : x < C.length := (avdIff.1 (rcIff.1 h).right).1
end Go.Proofs.YtpkagpobobmnfaaGreatDoor
