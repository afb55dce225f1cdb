/-
  The chapter's example, reckoned: what can be reached, by passes over a table. Without any program.
-/
import Derived.Test.YtpkagpobobmnfaaGreatDoorPCb
import Derived.Test.YtpkagpobobmnfaaGreatDoorPAr
import Derived.Test.YtpkagpobobmnfaaGreatDoorPOwn
import Derived.Test.YtpkagpobobmnfaaGreatDoorPCg
import Derived.BigRegionIn
import Derived.Test.YtpkagpobobmnfaaGreatDoorPCv
import Derived.Test.YtpkagpobobmnfaaGreatDoorPSa
namespace Go.Proofs.YtpkagpobobmnfaaGreatDoor
open Go Go.RowKit

def stB (n : Nat) (g : Nat → List Nat) (al T : Nat → Bool) (x : Nat) : Bool := al x && (T x || (List.range n).any fun i => al i && T i && decide (x ∈ g i))
def itB (n : Nat) (g : Nat → List Nat) (al S0 : Nat → Bool) : Nat → Nat → Bool
  | 0 => S0
  | p + 1 => stB n g al (itB n g al S0 p)
section
variable {n : Nat} {g : Nat → List Nat} {al S0 : Nat → Bool}
theorem itPs (hal : ∀ x, al x = true → x < n) : ∀ p, PsT n g al S0 p (itB n g al S0 p)
  | 0 => psStart hal fun _ _ => rfl
  | p + 1 => by
    have h := itPs hal p
    refine psNext hal h (fun x ha hT => ?_) (fun x ha hT => ?_) fun i ha hT y hy hay => ?_
    · show stB n g al _ x = true
      unfold stB
      rw [ha, hT]; rfl
    · have hT : stB n g al (itB n g al S0 p) x = true := hT
      unfold stB at hT
      rw [ha, Bool.true_and, Bool.or_eq_true] at hT
      rcases hT with hT | hT
      · exact h.sub x ha hT
      · rw [List.any_eq_true] at hT
        obtain ⟨i, _, hi⟩ := hT
        rw [Bool.and_eq_true, Bool.and_eq_true, decide_eq_true_iff] at hi
        obtain ⟨s, hs, hr⟩ := h.sub i hi.1.1 hi.1.2
        exact ⟨s, hs, hr.snoc hi.2 ha⟩
    · show stB n g al _ y = true
      unfold stB
      rw [hay, Bool.true_and, Bool.or_eq_true, List.any_eq_true]
      exact .inr ⟨i, List.mem_range.2 (hal i ha), by rw [ha, hT, decide_eq_true hy]; rfl⟩
theorem itRc (hal : ∀ x, al x = true → x < n) {x : Nat} (ha : al x = true) : itB n g al S0 n x = true ↔ ∃ s, S0 s = true ∧ Rc g al s x := psEnd (itPs hal n) ha
end
def rcC (n : Nat) (g : Nat → List Nat) (d : Int) (x : Nat) : Bool := avd n d x && itB n g (avd n d) (fun s => decide (s = 0)) n x
theorem rcCEq (n : Nat) (g : Nat → List Nat) (d : Int) (x : Nat) : rcB n g d x = rcC n g d x := by
  rw [Bool.eq_iff_iff, rcIff]
  unfold rcC
  rw [Bool.and_eq_true]
  have hal : ∀ x, avd n d x = true → x < n := fun _ h => (avdIff.1 h).1
  constructor
  · intro h
    exact ⟨h.right, (itRc hal h.right).2 ⟨0, by simp, h⟩⟩
  · rintro ⟨ha, h⟩
    obtain ⟨s, hs, hr⟩ := (itRc hal ha).1 h
    have : s = 0 := of_decide_eq_true hs
    subst this
    exact hr
end Go.Proofs.YtpkagpobobmnfaaGreatDoor

namespace Go.Proofs.YtpkagpobobmnfaaGreatDoor

def sfE0 : List I8 := [⟨1, 0, 0, 0, 0, 2, 0, 0⟩, ⟨1, 1, 0, 0, 0, 3, 0, 0⟩, ⟨3, 2, 0, 1, 0, 0, 1, 0⟩, ⟨5, 0, 2, 0, 0, 0, 0, 0⟩, ⟨7, 0, 0, 0, 0, 0, 0, 0⟩]
def sfE1 : List I8 := [⟨1, 0, 0, 0, 0, 2, 0, 0⟩, ⟨1, 1, 0, 0, 0, 3, 0, 0⟩, ⟨1, 2, 0, 0, 0, 5, 0, 0⟩, ⟨4, 0, 0, 0, 0, 0, 0, 0⟩, ⟨7, 0, 0, 0, 0, 0, 0, 0⟩]
def sfE2 : List I8 := [⟨1, 0, 0, 0, 0, 2, 0, 0⟩, ⟨1, 1, 0, 0, 0, 3, 0, 0⟩, ⟨1, 2, 0, 0, 0, 5, 0, 0⟩, ⟨4, 0, 0, 0, 0, 0, 0, 0⟩]
theorem sfC0 : cfE sfE0 = 0 := by decide +kernel
theorem sfC1 : cfE sfE1 = 0 := by decide +kernel
theorem sfFd : fdL sfE0 = sfE1 := by decide +kernel
theorem onEq (C : List I8) : onB C = rcC C.length (sc C) (-1) := funext fun x => by unfold onB; exact rcCEq _ _ _ _
theorem rmEq (C : List I8) (k : Nat) : rmK C k = (List.range k).filter (rcC C.length (sc C) (-1)) := by unfold rmK; rw [onEq]
theorem sfRm : rmK sfE1 5 = [0, 1, 2, 3] := by rw [rmEq]; decide +kernel
theorem sfPr : prL sfE1 = sfE2 := by
  unfold prL prK
  show (rmK sfE1 5).map _ = _
  rw [sfRm]
  show [prI sfE1 ⟨1, 0, 0, 0, 0, 2, 0, 0⟩, prI sfE1 ⟨1, 1, 0, 0, 0, 3, 0, 0⟩, prI sfE1 ⟨1, 2, 0, 0, 0, 5, 0, 0⟩, prI sfE1 ⟨4, 0, 0, 0, 0, 0, 0, 0⟩] = sfE2
  have h1 : ∀ a n, prI sfE1 ⟨1, a, 0, 0, 0, n, 0, 0⟩ = ⟨1, a, 0, 0, 0, n, 0, 0⟩ := fun a n => by unfold prI; rw [if_neg (by unfold I8.jmp; simp)]
  have h4 : prI sfE1 ⟨4, 0, 0, 0, 0, 0, 0, 0⟩ = ⟨4, 0, 0, 0, 0, 0, 0, 0⟩ := by
    unfold prI
    rw [if_pos (by unfold I8.jmp; rfl)]
    have : rmN sfE1 (Int.toNat 0) = 0 := by simp [rmN, rmK]
    show setNf _ ((rmN sfE1 (Int.toNat 0) : Nat) : Int) = _
    rw [this]; rfl
  rw [h1, h1, h1, h4]
  rfl
end Go.Proofs.YtpkagpobobmnfaaGreatDoor
