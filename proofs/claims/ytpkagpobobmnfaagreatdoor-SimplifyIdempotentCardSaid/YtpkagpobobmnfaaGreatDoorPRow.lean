/-
  Words for slices of pairs of numbers: such a slice reads as a list of pairs, nil let in; one that the call itself made; relations as values.
-/
import Derived.Test.YtpkagpobobmnfaaGreatDoorPOwn
import Derived.Test.YtpkagpobobmnfaaGreatDoorPRel
import Derived.Test.YtpkagpobobmnfaaGreatDoorProg
import Derived.KernelRfl
import Derived.Deep.QuietTactic
import Derived.BigQuiet
import Derived.Outline
import Derived.LoopTactic
import Derived.WalkKit
import Derived.Lib.Hide
import Derived.Maps.OwnOps
import Derived.Maps.Views
import Derived.Test.YtpkagpobobmnfaaGreatDoorPMk
import Derived.Deep.RegionHeld3
namespace Go.Proofs.YtpkagpobobmnfaaGreatDoor
open Go.RowKit

/-- The cells of a list of pairs. -/
def ct : Prs → List Value
  | [] => []
  | t :: l => .int .i64 t.1 :: .int .i64 t.2 :: ct l
section
variable {w w' : World} {A : Option Addr} {c : Nat} {l : Prs}
end

section
variable {w w' : World} {base : Nat} {v : Value} {l : Prs}
end
end Go.Proofs.YtpkagpobobmnfaaGreatDoor

namespace Go.Proofs.YtpkagpobobmnfaaGreatDoor
open Go.RowKit

theorem Chg.setCell (w : World) (p : Addr) (v : Value) : Chg w (w.setCell p v) (fun g => g ≠ p.block) :=
  ⟨rfl, rfl, rfl, by simp, fun k _ hk => heap_setCell_other w p k v hk⟩
end Go.Proofs.YtpkagpobobmnfaaGreatDoor

namespace Go.Proofs.YtpkagpobobmnfaaGreatDoor
open Go.RowKit

/-- E with a. -/
def with_ (E : Nat → Bool) (a : Nat) (x : Nat) : Bool := E x || decide (x = a)
theorem withIff {E : Nat → Bool} {a x : Nat} : with_ E a x = true ↔ E x = true ∨ x = a := by unfold with_; rw [Bool.or_eq_true, decide_eq_true_iff]
/-- The row of Booleans of E. -/
def bl (n : Nat) (E : Nat → Bool) : List Bool := (List.range n).map E
theorem blLen (n : Nat) (E : Nat → Bool) : (bl n E).length = n := by simp [bl]
theorem blAt {n : Nat} {E : Nat → Bool} {i : Nat} (h : i < n) : (bl n E)[i]? = some (E i) := by simp [bl, h]
theorem blSet (n : Nat) (E : Nat → Bool) (a : Nat) : (bl n E).set a true = bl n (with_ E a) := by
  refine List.ext_getElem? fun i => ?_
  by_cases hi : i < n
  · rw [blAt hi, List.getElem?_set]
    by_cases e : a = i
    · subst e
      rw [if_pos rfl, if_pos (by rw [blLen]; exact hi)]
      congr 1
      exact (withIff.2 (.inr rfl)).symm
    · rw [if_neg e, blAt hi]
      congr 1
      unfold with_
      rw [decide_eq_false (Ne.symm e), Bool.or_false]
  · rw [List.getElem?_eq_none (by rw [List.length_set, blLen]; omega), List.getElem?_eq_none (by rw [blLen]; omega)]
theorem blFalse (n : Nat) : bl n (fun _ => false) = List.replicate n false := by
  refine List.ext_getElem? fun i => ?_
  by_cases hi : i < n
  · rw [blAt hi, List.getElem?_replicate, if_pos hi]
  · rw [List.getElem?_eq_none (by rw [blLen]; omega), List.getElem?_eq_none (by simp; omega)]
/-- Block g is a row of n Booleans: those of E. -/
def RowB (w : World) (g n : Nat) (E : Nat → Bool) : Prop := w.ownsRow 0 4 1 (.slice (some ⟨g, 0, none⟩) n n) n ((bl n E).map Value.bool)
section
variable {w w' : World} {g n : Nat} {E : Nat → Bool}
theorem RowB.lt (h : RowB w g n E) : g < w.heap.size := (World.ownsRow.lt h g rfl).2
theorem RowB.chg {F : Nat → Prop} (h : RowB w g n E) (hc : Chg w w' F) (hF : F g) : RowB w' g n E := ownChg h hc fun k hk => by
  have : g = k := by simpa [Value.ownBlock] using hk
  exact this ▸ hF
theorem RowB.cell (h : RowB w g n E) {i : Nat} (hi : i < n) : w.cell? ⟨g, i, none⟩ = some (.bool (E i)) := by
  unfold RowB at h
  rw [World.ownsRow.cellAt h i (by omega), List.getElem?_map, blAt hi]; rfl
theorem RowB.frozen (h : RowB w g n E) (i : Nat) : w.frozen? ⟨g, i, none⟩ = false := World.ownsRow.frozenAt h i
theorem RowB.set (h : RowB w g n E) (i : Nat) : RowB (w.setCell ⟨g, i, none⟩ (.bool true)) g n (with_ E i) := by
  have := (World.ownsRow.stored h i (.bool true)).1
  unfold RowB
  rw [← blSet, List.map_set]
  exact this
theorem RowB.drew (h : RowB w g n E) : RowB w.drew g n E := h
theorem RowB.bools (h : RowB w g n E) {a : Addr} {u : Value} (hu : w.cell? a = some u) (hb : ∀ b, u ≠ .bool b) : a.block ≠ g := by
  intro e
  rcases h.2 with ⟨h2, _⟩ | ⟨k, cap, cur, hv, _, hg, hn, hm, hs, ht⟩
  · cases h2
  · injection hv with e1 _ e3
    injection e1 with e1
    injection e1 with e1
    subst e1; subst e3
    unfold World.cell? at hu
    rw [e, hg] at hu
    simp only at hu
    split at hu
    · cases hu
    · have h1 : cur.toList[a.off]? = some u := by simpa using hu
      have h2 : a.off < cur.toList.length := (List.getElem?_eq_some_iff.1 h1).1
      rw [List.take_of_length_le (by rw [Array.length_toList]; omega)] at ht
      rw [ht, List.getElem?_map] at h1
      cases e2 : (bl n E)[a.off]? with
      | none => rw [e2] at h1; cases h1
      | some b => rw [e2] at h1; exact hb b (by simpa using h1.symm)
end
/-- The row of bools as it is made. -/
theorem RowB.made {w w1 : World} {n : Nat} (o1 : w1.ownsRow 0 4 1 (.slice (some ⟨w.heap.size, 0, none⟩) n n) n (madeCells (Value.bool false).cells (n * 1)).toList) : RowB w1 w.heap.size n (fun _ => false) := by
  have e : (madeCells (Value.bool false).cells (n * 1)).toList = (List.replicate n false).map Value.bool := by
    rw [Nat.mul_one, List.map_replicate]; exact toList_madeCells_one _ _
  rw [e, ← blFalse] at o1
  exact o1

/-- E with v at a. -/
def updB (E : Nat → Bool) (a : Nat) (v : Bool) (x : Nat) : Bool := if x = a then v else E x
theorem blUpd (n : Nat) (E : Nat → Bool) (a : Nat) (v : Bool) : (bl n E).set a v = bl n (updB E a v) := by
  refine List.ext_getElem? fun i => ?_
  by_cases hi : i < n
  · rw [blAt hi, List.getElem?_set]
    unfold updB
    by_cases e : a = i
    · subst e
      rw [if_pos rfl, if_pos (by rw [blLen]; exact hi), if_pos rfl]
    · rw [if_neg e, blAt hi, if_neg (Ne.symm e)]
  · rw [List.getElem?_eq_none (by rw [List.length_set, blLen]; omega), List.getElem?_eq_none (by rw [blLen]; omega)]
theorem RowB.put {w : World} {g n : Nat} {E : Nat → Bool} (h : RowB w g n E) (i : Nat) (v : Bool) : RowB (w.setCell ⟨g, i, none⟩ (.bool v)) g n (updB E i v) := by
  have := (World.ownsRow.stored h i (.bool v)).1
  unfold RowB
  rw [← blUpd, List.map_set]
  exact this
theorem RowB.congr {w : World} {g n : Nat} {E F : Nat → Bool} (h : RowB w g n E) (e : ∀ x, x < n → E x = F x) : RowB w g n F := by
  have e2 : bl n E = bl n F := List.map_congr_left fun x hx => e x (List.mem_range.1 hx)
  unfold RowB
  rw [← e2]
  exact h
end Go.Proofs.YtpkagpobobmnfaaGreatDoor

namespace Go.Proofs.YtpkagpobobmnfaaGreatDoor
open Go.RowKit Go.Maps

/-- The numbers that follow i, as they stand in the list. -/
def sl (l : Prs) (i : Nat) : List Int := l.filterMap fun p => if p.1 = (i : Int) then some p.2 else none
section
variable {w w' : World} {A : Option Addr} {c n : Nat} {C : Nat → List Int}
end
end Go.Proofs.YtpkagpobobmnfaaGreatDoor
