/-
  Plain facts about sorted lists of integers as sets, without any program: insertion, the set of a list, merging.
-/
import Derived.Lib.SlicesCompact
import Derived.RowKit
import Derived.Lib.SmallJoins
import Derived.Lib.Strings
namespace Go.Proofs.YtebpnnakcodjdaaDoor

/-- n put before the first element that is not smaller. -/
def ins (n : Int) (l : List Int) : List Int := l.takeWhile (· < n) ++ n :: l.dropWhile (· < n)
/-- One element more. -/
def addL (o : List Int) (x : Int) : List Int := if x ∈ o then o else ins x o
/-- The set of a list. -/
def mk (l : List Int) : List Int := l.foldl addL []
end Go.Proofs.YtebpnnakcodjdaaDoor

namespace Go.Proofs.YtebpnnakcodjdaaDoor
open Go.RowKit (wrap32 wrap64)

/-- The names of the operations, by number; number 0 has the empty one. -/
def mnTab : List ByteArray := [⟨#[]⟩, ⟨#[99, 111, 110, 115, 116]⟩, ⟨#[99, 111, 112, 121]⟩, ⟨#[99, 97, 108, 99]⟩, ⟨#[106, 117, 109, 112]⟩, ⟨#[98, 114, 97, 110, 99, 104]⟩, ⟨#[97, 115, 115, 101, 114, 116]⟩, ⟨#[115, 116, 111, 112]⟩, ⟨#[108, 111, 97, 100]⟩, ⟨#[115, 116, 111, 114, 101]⟩, ⟨#[115, 119, 97, 112]⟩, ⟨#[102, 101, 116, 99, 104, 97, 100, 100]⟩, ⟨#[99, 97, 115]⟩, ⟨#[102, 101, 110, 99, 101]⟩, ⟨#[97, 119, 97, 105, 116]⟩, ⟨#[108, 111, 99, 107]⟩, ⟨#[117, 110, 108, 111, 99, 107]⟩, ⟨#[116, 114, 121, 108, 111, 99, 107]⟩, ⟨#[119, 97, 105, 116]⟩, ⟨#[115, 105, 103, 110, 97, 108]⟩, ⟨#[98, 114, 111, 97, 100, 99, 97, 115, 116]⟩, ⟨#[115, 112, 97, 119, 110]⟩, ⟨#[106, 111, 105, 110]⟩]
def mn (k : Nat) : ByteArray := mnTab.getD k ⟨#[]⟩
/-- Does operation k use field f (0 to 6: A, B, C, Obj, N, Fn, Order)? -/
def usTab : List (List Bool) := [[false, false, false, false, false, false, false], [true, false, false, false, true, false, false], [true, true, false, false, false, false, false], [true, true, true, false, false, true, false], [false, false, false, false, true, false, false], [false, true, false, false, true, false, false], [false, true, false, false, false, false, false], [false, false, false, false, false, false, false], [true, false, false, true, false, false, true], [false, true, false, true, false, false, true], [true, true, false, true, false, false, true], [true, true, false, true, false, false, true], [true, true, true, true, false, false, true], [false, false, false, false, false, false, false], [true, true, false, true, false, true, true], [false, false, false, true, false, false, false], [false, false, false, true, false, false, false], [true, false, false, true, false, false, false], [false, false, false, true, true, false, false], [false, false, false, true, false, false, false], [false, false, false, true, false, false, false], [true, true, false, true, false, false, false], [false, true, false, false, false, false, false]]
def us (k f : Nat) : Bool := (usTab.getD k []).getD f false
/-- The letters of the fields, as the reference lists them. -/
def fdTab : List ByteArray := [⟨#[65, 78]⟩, ⟨#[65, 66]⟩, ⟨#[70, 65, 66, 67]⟩, ⟨#[78]⟩, ⟨#[66, 78]⟩, ⟨#[66]⟩, ⟨#[]⟩, ⟨#[65, 79, 82]⟩, ⟨#[79, 66, 82]⟩, ⟨#[65, 79, 66, 82]⟩, ⟨#[65, 79, 66, 82]⟩, ⟨#[65, 79, 66, 67, 82]⟩, ⟨#[]⟩, ⟨#[65, 79, 70, 66, 82]⟩, ⟨#[79]⟩, ⟨#[79]⟩, ⟨#[65, 79]⟩, ⟨#[79, 78]⟩, ⟨#[79]⟩, ⟨#[79]⟩, ⟨#[65, 79, 66]⟩, ⟨#[66]⟩]
def fd (k : Nat) : ByteArray := fdTab.getD k ⟨#[]⟩
def lt7 : List UInt8 := [65, 66, 67, 79, 78, 70, 82]
theorem usHas : ∀ k, k < 22 → ∀ f, f < 7 → us (k + 1) f = decide (lt7.getD f 0 ∈ (fd k).data.toList) := by decide
/-- An instruction: its eight fields. -/
structure I8 where mk8 ::
  op : Int
  a : Int
  b : Int
  c : Int
  obj : Int
  n : Int
  fn : Int
  ord : Int
  deriving DecidableEq
def opOk (o : Int) : Bool := decide (1 ≤ o ∧ o ≤ 22)
def rgOk (r : Int) : Bool := decide (0 ≤ r ∧ r < 8)
def orOk (o : Int) : Bool := decide (0 ≤ o ∧ o ≤ 2)
def fnOk (f : Int) : Bool := decide (1 ≤ f ∧ f ≤ 10)
def nOk (n : Int) : Bool := decide (wrap32 n = n)
def I8.con (i : I8) (f : Nat) : Int := [i.a, i.b, i.c, i.obj, i.n, i.fn, i.ord].getD f 0
/-- Does the operation use field f? -/
def I8.u (i : I8) (f : Nat) : Bool := us i.op.toNat f
/-- Are the fields that the operation does not use zero? -/
def I8.fOk (i : I8) (f : Nat) : Bool := i.u f || decide (i.con f = 0)
def I8.fs (i : I8) : Bool := i.fOk 0 && i.fOk 1 && i.fOk 2 && i.fOk 3 && i.fOk 4 && i.fOk 5 && i.fOk 6
def I8.rs (i : I8) : Bool := rgOk i.a && rgOk i.b && rgOk i.c
/-- The error of an instruction on its own. -/
def I8.chk (i : I8) : Int :=
  if opOk i.op = false then 8 else if i.fs = false then 9 else if i.rs = false then 10 else if orOk i.ord = false then 13 else
  if (i.u 5 && !fnOk i.fn) = true then 8 else if (decide (i.op = 1) && !nOk i.n) = true then 2 else 0
def I8.zero : I8 := ⟨0, 0, 0, 0, 0, 0, 0, 0⟩
theorem bytesData (s : ByteArray) : s.toList = s.data.toList := Lib.toList_data s
end Go.Proofs.YtebpnnakcodjdaaDoor

namespace Go.Proofs.YtebpnnakcodjdaaDoor
open Go.RowKit (wrap32 wrap64)

/-! Names. -/
def letB (c : UInt8) : Bool := (decide (97 ≤ c.toNat) && decide (c.toNat ≤ 122)) || (decide (65 ≤ c.toNat) && decide (c.toNat ≤ 90))
def digB (c : UInt8) : Bool := decide (48 ≤ c.toNat) && decide (c.toNat ≤ 57)
def tailB (c : UInt8) : Bool := letB c || digB c || decide (c.toNat = 95)
/-- Is s a name? -/
def nameB (s : ByteArray) : Bool := decide (1 ≤ s.size) && decide (s.size ≤ 16) && letB (s.data.toList.getD 0 0) && s.data.toList.all tailB
/-- Is s among l? -/
def inS (s : ByteArray) (l : List ByteArray) : Bool := l.any fun t => decide (t.data.toList = s.data.toList)
theorem baExt {a b : ByteArray} (h : a.data.toList = b.data.toList) : a = b := by
  obtain ⟨a⟩ := a
  obtain ⟨b⟩ := b
  exact congrArg ByteArray.mk (Array.toList_inj.1 h)
theorem inSIff {s : ByteArray} {l : List ByteArray} : inS s l = true ↔ s ∈ l := by
  unfold inS
  rw [List.any_eq_true]
  constructor
  · rintro ⟨t, h1, h2⟩
    exact baExt (of_decide_eq_true h2) ▸ h1
  · intro h
    exact ⟨s, h, by simp⟩
/-- The first error of a list of names behind those of 'seen', and its number. -/
def nmF : List ByteArray → List ByteArray → Nat → Int × Int
  | _, [], _ => (0, -1)
  | seen, s :: t, k => if nameB s = false then (6, k) else if inS s seen = true then (7, k) else nmF (seen ++ [s]) t (k + 1)
theorem nmFgo {l : List ByteArray} {k : Nat} (hk : k < l.length) (h1 : nameB l[k] = true) (h2 : inS l[k] (l.take k) = false) : nmF (l.take k) (l.drop k) k = nmF (l.take (k + 1)) (l.drop (k + 1)) (k + 1) := by
  rw [List.drop_eq_getElem_cons hk, nmF, h1, if_neg (by decide), h2, if_neg (by decide), List.take_succ_eq_append_getElem hk]
theorem nmFbad {l : List ByteArray} {k : Nat} (hk : k < l.length) (h1 : nameB l[k] = false) : nmF (l.take k) (l.drop k) k = (6, (k : Int)) := by
  rw [List.drop_eq_getElem_cons hk, nmF, if_pos h1]
theorem nmFtwice {l : List ByteArray} {k : Nat} (hk : k < l.length) (h1 : nameB l[k] = true) (h2 : inS l[k] (l.take k) = true) : nmF (l.take k) (l.drop k) k = (7, (k : Int)) := by
  rw [List.drop_eq_getElem_cons hk, nmF, h1, if_neg (by decide), if_pos h2]
theorem nmFend {l : List ByteArray} {k : Nat} (hk : l.length ≤ k) (s : List ByteArray) : nmF s (l.drop k) k = (0, -1) := by
  rw [List.drop_eq_nil_of_le hk, nmF]

/-! Programs. -/
structure Prg where
  vars : List (ByteArray × Int)
  muts : List ByteArray
  conds : List ByteArray
  funcs : List (ByteArray × List I8)
  thr : List (Int × Int)
def isVal (n : Int) : Bool := decide (-2147483648 ≤ n) && decide (n ≤ 2147483647)
def belB (n : Int) (c : Nat) : Bool := decide (0 ≤ n) && decide (n < (c : Int))
/-- How many objects an operation's field Obj can name; none if it names none. -/
def Prg.objN (p : Prg) (op : Int) : Option Nat :=
  if op = 8 ∨ op = 9 ∨ op = 10 ∨ op = 11 ∨ op = 12 ∨ op = 14 then some p.vars.length
  else if op = 15 ∨ op = 16 ∨ op = 17 then some p.muts.length
  else if op = 18 ∨ op = 19 ∨ op = 20 then some p.conds.length
  else if op = 21 then some p.funcs.length else none
/-- The error of an instruction of a function with 'len' instructions. -/
def Prg.insE (p : Prg) (len : Nat) (i : I8) : Int :=
  if i.chk ≠ 0 then i.chk
  else if (match p.objN i.op with | some c => belB i.obj c | none => true) = false then 11
  else if i.op = 18 ∧ belB i.n p.muts.length = false then 11
  else if (i.op = 4 ∨ i.op = 5) ∧ belB i.n (len + 1) = false then 12 else 0
/-- The first error of a function's instructions from number k on. -/
def Prg.cdF (p : Prg) (len : Nat) : List I8 → Nat → Int × Int
  | [], _ => (0, -1)
  | i :: t, k => if p.insE len i ≠ 0 then (p.insE len i, k) else p.cdF len t (k + 1)
def Prg.cd1 (p : Prg) (c : List I8) : Int × Int := if 64 < c.length then (4, -1) else p.cdF c.length c 0
/-- The first error of the functions from number k on. -/
def Prg.fnF (p : Prg) : List (ByteArray × List I8) → Nat → Int × Int × Int
  | [], _ => (0, -1, -1)
  | f :: t, k => if (p.cd1 f.2).1 ≠ 0 then ((p.cd1 f.2).1, k, (p.cd1 f.2).2) else p.fnF t (k + 1)
/-- The first error of the initial threads. -/
def Prg.thF (p : Prg) : List (Int × Int) → Int
  | [] => 0
  | s :: t => if belB s.1 p.funcs.length = false then 11 else if isVal s.2 = false then 2 else p.thF t
def Prg.thE (p : Prg) : Int := if p.thr.length < 1 ∨ 8 < p.thr.length then 4 else p.thF p.thr
def Prg.nmE (p : Prg) : Int × Int :=
  if (nmF [] (p.vars.map (·.1)) 0).1 ≠ 0 then ((nmF [] (p.vars.map (·.1)) 0).1, -1)
  else if (nmF [] p.muts 0).1 ≠ 0 then ((nmF [] p.muts 0).1, -1)
  else if (nmF [] p.conds 0).1 ≠ 0 then ((nmF [] p.conds 0).1, -1)
  else nmF [] (p.funcs.map (·.1)) 0
def Prg.many (p : Prg) : Bool := decide (8 < p.vars.length) || decide (4 < p.muts.length) || decide (4 < p.conds.length) || decide (8 < p.funcs.length)
/-- The first error of a program, with the function and the instruction. -/
def Prg.chk (p : Prg) : Int × Int × Int :=
  if p.nmE.1 ≠ 0 then (p.nmE.1, p.nmE.2, -1)
  else if p.many = true then (4, -1, -1)
  else if (p.vars.all fun v => isVal v.2) = false then (2, -1, -1)
  else if (p.fnF p.funcs 0).1 ≠ 0 then p.fnF p.funcs 0
  else (p.thE, -1, -1)

/-! The functions that threads can run. -/
end Go.Proofs.YtebpnnakcodjdaaDoor
