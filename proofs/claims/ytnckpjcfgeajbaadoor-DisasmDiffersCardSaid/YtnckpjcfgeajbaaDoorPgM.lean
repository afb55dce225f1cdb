/-
  Programs as values, without any program text: names, the checks in their order, the functions that threads can run.
-/
import Derived.Test.YtnckpjcfgeajbaaDoorInsM
namespace Go.Proofs.YtnckpjcfgeajbaaDoor
open Go.RowKit (wrap32 wrap64)

/-! Names. -/
def letB (c : UInt8) : Bool := (decide (97 ≤ c.toNat) && decide (c.toNat ≤ 122)) || (decide (65 ≤ c.toNat) && decide (c.toNat ≤ 90))
def digB (c : UInt8) : Bool := decide (48 ≤ c.toNat) && decide (c.toNat ≤ 57)
def tailB (c : UInt8) : Bool := letB c || digB c || decide (c.toNat = 95)
/-- Is s a name? -/
def nameB (s : ByteArray) : Bool := decide (1 ≤ s.size) && decide (s.size ≤ 16) && letB (s.data.toList.getD 0 0) && s.data.toList.all tailB
/-- Is s among l? -/
def inS (s : ByteArray) (l : List ByteArray) : Bool := l.any fun t => decide (t.data.toList = s.data.toList)
theorem baExt {a b : ByteArray} (h : a.data.toList = b.data.toList) : a = b := by
  obtain ⟨a⟩ := a
  obtain ⟨b⟩ := b
  exact congrArg ByteArray.mk (Array.toList_inj.1 h)
theorem inSIff {s : ByteArray} {l : List ByteArray} : inS s l = true ↔ s ∈ l := by
  unfold inS
  rw [List.any_eq_true]
  constructor
  · rintro ⟨t, h1, h2⟩
    exact baExt (of_decide_eq_true h2) ▸ h1
  · intro h
    exact ⟨s, h, by simp⟩
/-- The first error of a list of names behind those of 'seen', and its number. -/
def nmF : List ByteArray → List ByteArray → Nat → Int × Int
  | _, [], _ => (0, -1)
  | seen, s :: t, k => if nameB s = false then (6, k) else if inS s seen = true then (7, k) else nmF (seen ++ [s]) t (k + 1)
theorem nmFgo {l : List ByteArray} {k : Nat} (hk : k < l.length) (h1 : nameB l[k] = true) (h2 : inS l[k] (l.take k) = false) : nmF (l.take k) (l.drop k) k = nmF (l.take (k + 1)) (l.drop (k + 1)) (k + 1) := by
  rw [List.drop_eq_getElem_cons hk, nmF, h1, if_neg (by decide), h2, if_neg (by decide), List.take_succ_eq_append_getElem hk]
theorem nmFbad {l : List ByteArray} {k : Nat} (hk : k < l.length) (h1 : nameB l[k] = false) : nmF (l.take k) (l.drop k) k = (6, (k : Int)) := by
  rw [List.drop_eq_getElem_cons hk, nmF, if_pos h1]
theorem nmFtwice {l : List ByteArray} {k : Nat} (hk : k < l.length) (h1 : nameB l[k] = true) (h2 : inS l[k] (l.take k) = true) : nmF (l.take k) (l.drop k) k = (7, (k : Int)) := by
  rw [List.drop_eq_getElem_cons hk, nmF, h1, if_neg (by decide), if_pos h2]
theorem nmFend {l : List ByteArray} {k : Nat} (hk : l.length ≤ k) (s : List ByteArray) : nmF s (l.drop k) k = (0, -1) := by
  rw [List.drop_eq_nil_of_le hk, nmF]

/-! Programs. -/
structure Prg where
  vars : List (ByteArray × Int)
  muts : List ByteArray
  conds : List ByteArray
  funcs : List (ByteArray × List I8)
  thr : List (Int × Int)
def isVal (n : Int) : Bool := decide (-2147483648 ≤ n) && decide (n ≤ 2147483647)
def belB (n : Int) (c : Nat) : Bool := decide (0 ≤ n) && decide (n < (c : Int))
/-- How many objects an operation's field Obj can name; none if it names none. -/
def Prg.objN (p : Prg) (op : Int) : Option Nat :=
  if op = 8 ∨ op = 9 ∨ op = 10 ∨ op = 11 ∨ op = 12 ∨ op = 14 then some p.vars.length
  else if op = 15 ∨ op = 16 ∨ op = 17 then some p.muts.length
  else if op = 18 ∨ op = 19 ∨ op = 20 then some p.conds.length
  else if op = 21 then some p.funcs.length else none
/-- The error of an instruction of a function with 'len' instructions. -/
def Prg.insE (p : Prg) (len : Nat) (i : I8) : Int :=
  if i.chk ≠ 0 then i.chk
  else if (match p.objN i.op with | some c => belB i.obj c | none => true) = false then 11
  else if i.op = 18 ∧ belB i.n p.muts.length = false then 11
  else if (i.op = 4 ∨ i.op = 5) ∧ belB i.n (len + 1) = false then 12 else 0
/-- The first error of a function's instructions from number k on. -/
def Prg.cdF (p : Prg) (len : Nat) : List I8 → Nat → Int × Int
  | [], _ => (0, -1)
  | i :: t, k => if p.insE len i ≠ 0 then (p.insE len i, k) else p.cdF len t (k + 1)
def Prg.cd1 (p : Prg) (c : List I8) : Int × Int := if 64 < c.length then (4, -1) else p.cdF c.length c 0
/-- The first error of the functions from number k on. -/
def Prg.fnF (p : Prg) : List (ByteArray × List I8) → Nat → Int × Int × Int
  | [], _ => (0, -1, -1)
  | f :: t, k => if (p.cd1 f.2).1 ≠ 0 then ((p.cd1 f.2).1, k, (p.cd1 f.2).2) else p.fnF t (k + 1)
/-- The first error of the initial threads. -/
def Prg.thF (p : Prg) : List (Int × Int) → Int
  | [] => 0
  | s :: t => if belB s.1 p.funcs.length = false then 11 else if isVal s.2 = false then 2 else p.thF t
def Prg.thE (p : Prg) : Int := if p.thr.length < 1 ∨ 8 < p.thr.length then 4 else p.thF p.thr
def Prg.nmE (p : Prg) : Int × Int :=
  if (nmF [] (p.vars.map (·.1)) 0).1 ≠ 0 then ((nmF [] (p.vars.map (·.1)) 0).1, -1)
  else if (nmF [] p.muts 0).1 ≠ 0 then ((nmF [] p.muts 0).1, -1)
  else if (nmF [] p.conds 0).1 ≠ 0 then ((nmF [] p.conds 0).1, -1)
  else nmF [] (p.funcs.map (·.1)) 0
def Prg.many (p : Prg) : Bool := decide (8 < p.vars.length) || decide (4 < p.muts.length) || decide (4 < p.conds.length) || decide (8 < p.funcs.length)
/-- The first error of a program, with the function and the instruction. -/
def Prg.chk (p : Prg) : Int × Int × Int :=
  if p.nmE.1 ≠ 0 then (p.nmE.1, p.nmE.2, -1)
  else if p.many = true then (4, -1, -1)
  else if (p.vars.all fun v => isVal v.2) = false then (2, -1, -1)
  else if (p.fnF p.funcs 0).1 ≠ 0 then p.fnF p.funcs 0
  else (p.thE, -1, -1)

/-! The functions that threads can run. -/
end Go.Proofs.YtnckpjcfgeajbaaDoor
