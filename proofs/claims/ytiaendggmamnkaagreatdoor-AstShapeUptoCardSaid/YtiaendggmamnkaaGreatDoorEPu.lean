/-
  Plain facts about sorted lists of integers as sets, without any program: insertion, the set of a list, merging.
-/
import Derived.Lib.SlicesCompact
import Derived.RowKit
import Derived.Lib.SmallJoins
import Derived.Lib.Strings
namespace Go.Proofs.YtiaendggmamnkaaGreatDoor

/-- n put before the first element that is not smaller. -/
def ins (n : Int) (l : List Int) : List Int := l.takeWhile (· < n) ++ n :: l.dropWhile (· < n)
/-- One element more. -/
def addL (o : List Int) (x : Int) : List Int := if x ∈ o then o else ins x o
/-- The set of a list. -/
def mk (l : List Int) : List Int := l.foldl addL []
end Go.Proofs.YtiaendggmamnkaaGreatDoor

namespace Go.Proofs.YtiaendggmamnkaaGreatDoor
open Go.RowKit (wrap32 wrap64)

/-- The names of the operations, by number; number 0 has the empty one. -/
def mnTab : List ByteArray := [⟨#[]⟩, ⟨#[99, 111, 110, 115, 116]⟩, ⟨#[99, 111, 112, 121]⟩, ⟨#[99, 97, 108, 99]⟩, ⟨#[106, 117, 109, 112]⟩, ⟨#[98, 114, 97, 110, 99, 104]⟩, ⟨#[97, 115, 115, 101, 114, 116]⟩, ⟨#[115, 116, 111, 112]⟩, ⟨#[108, 111, 97, 100]⟩, ⟨#[115, 116, 111, 114, 101]⟩, ⟨#[115, 119, 97, 112]⟩, ⟨#[102, 101, 116, 99, 104, 97, 100, 100]⟩, ⟨#[99, 97, 115]⟩, ⟨#[102, 101, 110, 99, 101]⟩, ⟨#[97, 119, 97, 105, 116]⟩, ⟨#[108, 111, 99, 107]⟩, ⟨#[117, 110, 108, 111, 99, 107]⟩, ⟨#[116, 114, 121, 108, 111, 99, 107]⟩, ⟨#[119, 97, 105, 116]⟩, ⟨#[115, 105, 103, 110, 97, 108]⟩, ⟨#[98, 114, 111, 97, 100, 99, 97, 115, 116]⟩, ⟨#[115, 112, 97, 119, 110]⟩, ⟨#[106, 111, 105, 110]⟩]
def mn (k : Nat) : ByteArray := mnTab.getD k ⟨#[]⟩
end Go.Proofs.YtiaendggmamnkaaGreatDoor

namespace Go.Proofs.YtiaendggmamnkaaGreatDoor
open Go.RowKit (wrap32 wrap64)

/-! Names. -/
def letB (c : UInt8) : Bool := (decide (97 ≤ c.toNat) && decide (c.toNat ≤ 122)) || (decide (65 ≤ c.toNat) && decide (c.toNat ≤ 90))
def digB (c : UInt8) : Bool := decide (48 ≤ c.toNat) && decide (c.toNat ≤ 57)
def tailB (c : UInt8) : Bool := letB c || digB c || decide (c.toNat = 95)
/-- Is s a name? -/
def nameB (s : ByteArray) : Bool := decide (1 ≤ s.size) && decide (s.size ≤ 16) && letB (s.data.toList.getD 0 0) && s.data.toList.all tailB
/-- Is s among l? -/
def inS (s : ByteArray) (l : List ByteArray) : Bool := l.any fun t => decide (t.data.toList = s.data.toList)
theorem baExt {a b : ByteArray} (h : a.data.toList = b.data.toList) : a = b := by
  obtain ⟨a⟩ := a
  obtain ⟨b⟩ := b
  exact congrArg ByteArray.mk (Array.toList_inj.1 h)
theorem inSIff {s : ByteArray} {l : List ByteArray} : inS s l = true ↔ s ∈ l := by
  unfold inS
  rw [List.any_eq_true]
  constructor
  · rintro ⟨t, h1, h2⟩
    exact baExt (of_decide_eq_true h2) ▸ h1
  · intro h
    exact ⟨s, h, by simp⟩
/-! Programs. -/
/-! The functions that threads can run. -/
end Go.Proofs.YtiaendggmamnkaaGreatDoor
