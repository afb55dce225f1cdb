/-
  Instructions, without any program: the table of names and of fields, the checks, the registers.
-/
import Derived.Test.YtnckpjcfgeajbaaDoorSetMath
import Derived.RowKit
import Derived.Lib.SmallJoins
import Derived.Lib.Strings
namespace Go.Proofs.YtnckpjcfgeajbaaDoor
open Go.RowKit (wrap32 wrap64)

/-- The names of the operations, by number; number 0 has the empty one. -/
def mnTab : List ByteArray := [⟨#[]⟩, ⟨#[99, 111, 110, 115, 116]⟩, ⟨#[99, 111, 112, 121]⟩, ⟨#[99, 97, 108, 99]⟩, ⟨#[106, 117, 109, 112]⟩, ⟨#[98, 114, 97, 110, 99, 104]⟩, ⟨#[97, 115, 115, 101, 114, 116]⟩, ⟨#[115, 116, 111, 112]⟩, ⟨#[108, 111, 97, 100]⟩, ⟨#[115, 116, 111, 114, 101]⟩, ⟨#[115, 119, 97, 112]⟩, ⟨#[102, 101, 116, 99, 104, 97, 100, 100]⟩, ⟨#[99, 97, 115]⟩, ⟨#[102, 101, 110, 99, 101]⟩, ⟨#[97, 119, 97, 105, 116]⟩, ⟨#[108, 111, 99, 107]⟩, ⟨#[117, 110, 108, 111, 99, 107]⟩, ⟨#[116, 114, 121, 108, 111, 99, 107]⟩, ⟨#[119, 97, 105, 116]⟩, ⟨#[115, 105, 103, 110, 97, 108]⟩, ⟨#[98, 114, 111, 97, 100, 99, 97, 115, 116]⟩, ⟨#[115, 112, 97, 119, 110]⟩, ⟨#[106, 111, 105, 110]⟩]
def mn (k : Nat) : ByteArray := mnTab.getD k ⟨#[]⟩
/-- Does operation k use field f (0 to 6: A, B, C, Obj, N, Fn, Order)? -/
def usTab : List (List Bool) := [[false, false, false, false, false, false, false], [true, false, false, false, true, false, false], [true, true, false, false, false, false, false], [true, true, true, false, false, true, false], [false, false, false, false, true, false, false], [false, true, false, false, true, false, false], [false, true, false, false, false, false, false], [false, false, false, false, false, false, false], [true, false, false, true, false, false, true], [false, true, false, true, false, false, true], [true, true, false, true, false, false, true], [true, true, false, true, false, false, true], [true, true, true, true, false, false, true], [false, false, false, false, false, false, false], [true, true, false, true, false, true, true], [false, false, false, true, false, false, false], [false, false, false, true, false, false, false], [true, false, false, true, false, false, false], [false, false, false, true, true, false, false], [false, false, false, true, false, false, false], [false, false, false, true, false, false, false], [true, true, false, true, false, false, false], [false, true, false, false, false, false, false]]
def us (k f : Nat) : Bool := (usTab.getD k []).getD f false
theorem mnInj : ∀ i, i < 23 → ∀ j, j < 23 → (mn i).data.toList = (mn j).data.toList → i = j := by decide
/-- The names of the memory orders. -/
def orTab : List ByteArray := [⟨#[112, 108, 97, 105, 110]⟩, ⟨#[114, 101, 108, 97, 120, 101, 100]⟩, ⟨#[114, 101, 108, 97, 99, 113]⟩]
def orn (k : Nat) : ByteArray := orTab.getD k ⟨#[]⟩
theorem orInj : ∀ i, i < 3 → ∀ j, j < 3 → (orn i).data.toList = (orn j).data.toList → i = j := by decide
theorem orFull : ∀ j, j < 3 → (orn j).data.toList ≠ [] := by decide

/-- An instruction: its eight fields. -/
structure I8 where mk8 ::
  op : Int
  a : Int
  b : Int
  c : Int
  obj : Int
  n : Int
  fn : Int
  ord : Int
  deriving DecidableEq
def opOk (o : Int) : Bool := decide (1 ≤ o ∧ o ≤ 22)
def rgOk (r : Int) : Bool := decide (0 ≤ r ∧ r < 8)
def orOk (o : Int) : Bool := decide (0 ≤ o ∧ o ≤ 2)
def fnOk (f : Int) : Bool := decide (1 ≤ f ∧ f ≤ 10)
def nOk (n : Int) : Bool := decide (wrap32 n = n)
def I8.con (i : I8) (f : Nat) : Int := [i.a, i.b, i.c, i.obj, i.n, i.fn, i.ord].getD f 0
/-- Does the operation use field f? -/
def I8.u (i : I8) (f : Nat) : Bool := us i.op.toNat f
/-- Are the fields that the operation does not use zero? -/
def I8.fOk (i : I8) (f : Nat) : Bool := i.u f || decide (i.con f = 0)
def I8.fs (i : I8) : Bool := i.fOk 0 && i.fOk 1 && i.fOk 2 && i.fOk 3 && i.fOk 4 && i.fOk 5 && i.fOk 6
def I8.rs (i : I8) : Bool := rgOk i.a && rgOk i.b && rgOk i.c
/-- The error of an instruction on its own. -/
def I8.chk (i : I8) : Int :=
  if opOk i.op = false then 8 else if i.fs = false then 9 else if i.rs = false then 10 else if orOk i.ord = false then 13 else
  if (i.u 5 && !fnOk i.fn) = true then 8 else if (decide (i.op = 1) && !nOk i.n) = true then 2 else 0
def I8.zero : I8 := ⟨0, 0, 0, 0, 0, 0, 0, 0⟩
theorem rgOk_iff {r : Int} : rgOk r = true ↔ 0 ≤ r ∧ r < 8 := by simp [rgOk]
/-- What a zero error says. -/
structure I8.Good (i : I8) : Prop where
  op : 1 ≤ i.op ∧ i.op ≤ 22
  fs : i.fs = true
  a : 0 ≤ i.a ∧ i.a < 8
  b : 0 ≤ i.b ∧ i.b < 8
  c : 0 ≤ i.c ∧ i.c < 8
  ord : orOk i.ord = true
  fn : (i.u 5 && !fnOk i.fn) = false
  n : (decide (i.op = 1) && !nOk i.n) = false
theorem I8.good {i : I8} (h : i.chk = 0) : i.Good := by
  unfold I8.chk at h
  split at h
  · cases h
  split at h
  · cases h
  split at h
  · cases h
  split at h
  · cases h
  split at h
  · cases h
  split at h
  · cases h
  rename_i h1 h2 h3 h4 h5 h6
  rw [Bool.not_eq_false] at h1 h2 h3 h4
  rw [Bool.not_eq_true] at h5 h6
  have h3' : (rgOk i.a = true ∧ rgOk i.b = true) ∧ rgOk i.c = true := by simpa [I8.rs] using h3
  exact ⟨by simpa [opOk] using h1, h2, rgOk_iff.1 h3'.1.1, rgOk_iff.1 h3'.1.2, rgOk_iff.1 h3'.2, h4, h5, h6⟩
theorem I8.Good.chk {i : I8} (h : i.Good) : i.chk = 0 := by
  unfold I8.chk
  have h1 : opOk i.op = true := by simpa [opOk] using h.op
  have h3 : i.rs = true := by simp [I8.rs, rgOk_iff.2 h.a, rgOk_iff.2 h.b, rgOk_iff.2 h.c]
  rw [if_neg (by simp [h1]), if_neg (by simp [h.fs]), if_neg (by simp [h3]), if_neg (by simp [h.ord]), if_neg (by simp [h.fn]), if_neg (by simp [h.n])]

theorem bytesData (s : ByteArray) : s.toList = s.data.toList := Lib.toList_data s
def mnOf (o : Int) : ByteArray := if opOk o = true then mn o.toNat else ⟨#[]⟩
def ornOf (o : Int) : ByteArray := if orOk o = true then orn o.toNat else ⟨#[]⟩
end Go.Proofs.YtnckpjcfgeajbaaDoor
