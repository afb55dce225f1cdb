/-
  Programs as values, without any program text: names, the checks in their order, the functions that threads can run.
-/
import Derived.Test.YtdmajlgdjhmpdaaDoorCInsT
import Derived.Test.YtdmajlgdjhmpdaaDoorCInsU
namespace Go.Proofs.YtdmajlgdjhmpdaaDoor
open Go.RowKit (wrap32 wrap64)

/-! Names. -/
def letB (c : UInt8) : Bool := (decide (97 ≤ c.toNat) && decide (c.toNat ≤ 122)) || (decide (65 ≤ c.toNat) && decide (c.toNat ≤ 90))
def digB (c : UInt8) : Bool := decide (48 ≤ c.toNat) && decide (c.toNat ≤ 57)
def tailB (c : UInt8) : Bool := letB c || digB c || decide (c.toNat = 95)
/-- Is s a name? -/
def nameB (s : ByteArray) : Bool := decide (1 ≤ s.size) && decide (s.size ≤ 16) && letB (s.data.toList.getD 0 0) && s.data.toList.all tailB
/-- Is s among l? -/
def inS (s : ByteArray) (l : List ByteArray) : Bool := l.any fun t => decide (t.data.toList = s.data.toList)
theorem baExt {a b : ByteArray} (h : a.data.toList = b.data.toList) : a = b := by
  obtain ⟨a⟩ := a
  obtain ⟨b⟩ := b
  exact congrArg ByteArray.mk (Array.toList_inj.1 h)
theorem inSIff {s : ByteArray} {l : List ByteArray} : inS s l = true ↔ s ∈ l := by
  unfold inS
  rw [List.any_eq_true]
  constructor
  · rintro ⟨t, h1, h2⟩
    exact baExt (of_decide_eq_true h2) ▸ h1
  · intro h
    exact ⟨s, h, by simp⟩
/-- The first error of a list of names behind those of 'seen', and its number. -/
def nmF : List ByteArray → List ByteArray → Nat → Int × Int
  | _, [], _ => (0, -1)
  | seen, s :: t, k => if nameB s = false then (6, k) else if inS s seen = true then (7, k) else nmF (seen ++ [s]) t (k + 1)
theorem nmFgo {l : List ByteArray} {k : Nat} (hk : k < l.length) (h1 : nameB l[k] = true) (h2 : inS l[k] (l.take k) = false) : nmF (l.take k) (l.drop k) k = nmF (l.take (k + 1)) (l.drop (k + 1)) (k + 1) := by
  rw [List.drop_eq_getElem_cons hk, nmF, h1, if_neg (by decide), h2, if_neg (by decide), List.take_succ_eq_append_getElem hk]
theorem nmFbad {l : List ByteArray} {k : Nat} (hk : k < l.length) (h1 : nameB l[k] = false) : nmF (l.take k) (l.drop k) k = (6, (k : Int)) := by
  rw [List.drop_eq_getElem_cons hk, nmF, if_pos h1]
theorem nmFtwice {l : List ByteArray} {k : Nat} (hk : k < l.length) (h1 : nameB l[k] = true) (h2 : inS l[k] (l.take k) = true) : nmF (l.take k) (l.drop k) k = (7, (k : Int)) := by
  rw [List.drop_eq_getElem_cons hk, nmF, h1, if_neg (by decide), if_pos h2]
theorem nmFend {l : List ByteArray} {k : Nat} (hk : l.length ≤ k) (s : List ByteArray) : nmF s (l.drop k) k = (0, -1) := by
  rw [List.drop_eq_nil_of_le hk, nmF]

/-! Programs. -/
structure Prg where
  vars : List (ByteArray × Int)
  muts : List ByteArray
  conds : List ByteArray
  funcs : List (ByteArray × List I8)
  thr : List (Int × Int)
def isVal (n : Int) : Bool := decide (-2147483648 ≤ n) && decide (n ≤ 2147483647)
def belB (n : Int) (c : Nat) : Bool := decide (0 ≤ n) && decide (n < (c : Int))
/-- How many objects an operation's field Obj can name; none if it names none. -/
def Prg.objN (p : Prg) (op : Int) : Option Nat :=
  if op = 8 ∨ op = 9 ∨ op = 10 ∨ op = 11 ∨ op = 12 ∨ op = 14 then some p.vars.length
  else if op = 15 ∨ op = 16 ∨ op = 17 then some p.muts.length
  else if op = 18 ∨ op = 19 ∨ op = 20 then some p.conds.length
  else if op = 21 then some p.funcs.length else none
/-- The error of an instruction of a function with 'len' instructions. -/
def Prg.insE (p : Prg) (len : Nat) (i : I8) : Int :=
  if i.chk ≠ 0 then i.chk
  else if (match p.objN i.op with | some c => belB i.obj c | none => true) = false then 11
  else if i.op = 18 ∧ belB i.n p.muts.length = false then 11
  else if (i.op = 4 ∨ i.op = 5) ∧ belB i.n (len + 1) = false then 12 else 0
/-- The first error of a function's instructions from number k on. -/
def Prg.cdF (p : Prg) (len : Nat) : List I8 → Nat → Int × Int
  | [], _ => (0, -1)
  | i :: t, k => if p.insE len i ≠ 0 then (p.insE len i, k) else p.cdF len t (k + 1)
def Prg.cd1 (p : Prg) (c : List I8) : Int × Int := if 64 < c.length then (4, -1) else p.cdF c.length c 0
/-- The first error of the functions from number k on. -/
def Prg.fnF (p : Prg) : List (ByteArray × List I8) → Nat → Int × Int × Int
  | [], _ => (0, -1, -1)
  | f :: t, k => if (p.cd1 f.2).1 ≠ 0 then ((p.cd1 f.2).1, k, (p.cd1 f.2).2) else p.fnF t (k + 1)
/-- The first error of the initial threads. -/
def Prg.thF (p : Prg) : List (Int × Int) → Int
  | [] => 0
  | s :: t => if belB s.1 p.funcs.length = false then 11 else if isVal s.2 = false then 2 else p.thF t
def Prg.thE (p : Prg) : Int := if p.thr.length < 1 ∨ 8 < p.thr.length then 4 else p.thF p.thr
def Prg.nmE (p : Prg) : Int × Int :=
  if (nmF [] (p.vars.map (·.1)) 0).1 ≠ 0 then ((nmF [] (p.vars.map (·.1)) 0).1, -1)
  else if (nmF [] p.muts 0).1 ≠ 0 then ((nmF [] p.muts 0).1, -1)
  else if (nmF [] p.conds 0).1 ≠ 0 then ((nmF [] p.conds 0).1, -1)
  else nmF [] (p.funcs.map (·.1)) 0
def Prg.many (p : Prg) : Bool := decide (8 < p.vars.length) || decide (4 < p.muts.length) || decide (4 < p.conds.length) || decide (8 < p.funcs.length)
/-- The first error of a program, with the function and the instruction. -/
def Prg.chk (p : Prg) : Int × Int × Int :=
  if p.nmE.1 ≠ 0 then (p.nmE.1, p.nmE.2, -1)
  else if p.many = true then (4, -1, -1)
  else if (p.vars.all fun v => isVal v.2) = false then (2, -1, -1)
  else if (p.fnF p.funcs 0).1 ≠ 0 then p.fnF p.funcs 0
  else (p.thE, -1, -1)

/-! The functions that threads can run. -/
def spw (c : List I8) (g : Int) : Bool := c.any fun i => decide (i.op = 21) && decide (i.obj = g)
def Prg.rchN (p : Prg) : Nat → Nat → Prop
  | 0, f => ∃ s ∈ p.thr, s.1 = (f : Int)
  | k + 1, f => p.rchN k f ∨ ∃ (e : Nat) (h : e < p.funcs.length), p.rchN k e ∧ spw (p.funcs[e]).2 f = true
def Prg.rch (p : Prg) (f : Nat) : Prop := ∃ k, p.rchN k f
theorem Prg.rchStart {p : Prg} {f : Nat} {s : Int × Int} (hs : s ∈ p.thr) (h : s.1 = (f : Int)) : p.rch f := ⟨0, s, hs, h⟩
theorem Prg.rchStep {p : Prg} {e f : Nat} (he : p.rch e) (h : e < p.funcs.length) (hs : spw (p.funcs[e]).2 f = true) : p.rch f := by
  obtain ⟨k, hk⟩ := he
  exact ⟨k + 1, .inr ⟨e, h, hk, hs⟩⟩
/-- It is contained in every set that holds the threads' functions and is closed under spawning. -/
theorem Prg.rchLeast {p : Prg} {S : Nat → Prop} (h0 : ∀ s ∈ p.thr, ∀ f : Nat, s.1 = (f : Int) → S f) (h1 : ∀ (e : Nat) (h : e < p.funcs.length), S e → ∀ f : Nat, spw (p.funcs[e]).2 f = true → S f) {f : Nat} (hf : p.rch f) : S f := by
  obtain ⟨k, hk⟩ := hf
  induction k generalizing f with
  | zero =>
    obtain ⟨s, hs, h⟩ := hk
    exact h0 s hs f h
  | succ k ih =>
    rcases hk with hk | ⟨e, h, hk, hs⟩
    · exact ih hk
    · exact h1 e h (ih hk) f hs
end Go.Proofs.YtdmajlgdjhmpdaaDoor

namespace Go.Proofs.YtdmajlgdjhmpdaaDoor
open Go Go.RowKit

/-- In w the slice with address A, capacity c and as many elements as l, each of k cells, reads as l; E says how an element lies at a place. -/
structure RdE {α : Type} (k : Nat) (E : World → Nat → Nat → α → Prop) (w : World) (A : Option Addr) (c : Nat) (l : List α) : Prop where
  le : l.length ≤ c
  max : c ≤ maxLen
  at_ : 0 < l.length → ∃ b off, A = some ⟨b, off, none⟩ ∧ b < w.heap.size ∧ ∀ j (h : j < l.length), E w b (off + j * k) l[j]
/-- What lies at a place stays there as long as what is old is unchanged. -/
def StabE {α : Type} (E : World → Nat → Nat → α → Prop) : Prop := ∀ (w w' : World) (b o : Nat) (x : α), b < w.heap.size → Below w.heap.size w w' → E w b o x → E w' b o x
section
variable {α : Type} {k : Nat} {E : World → Nat → Nat → α → Prop} {w w' : World} {A : Option Addr} {c : Nat} {l : List α}
theorem RdE.nil : RdE k E w none 0 ([] : List α) := ⟨Nat.zero_le _, Nat.zero_le _, fun h => absurd h (by simp)⟩
theorem RdE.one (h : RdE k E w A c l) {j : Nat} (hj : j < l.length) : ∃ b off, A = some ⟨b, off, none⟩ ∧ b < w.heap.size ∧ E w b (off + j * k) l[j] := by
  obtain ⟨b, off, e, hb, hc⟩ := h.at_ (by omega)
  exact ⟨b, off, e, hb, hc j hj⟩
theorem RdE.below (h : RdE k E w A c l) (hE : StabE E) (hb : Below w.heap.size w w') : RdE k E w' A c l :=
  ⟨h.le, h.max, fun hn => by
    obtain ⟨b, off, e, hl, hc⟩ := h.at_ hn
    exact ⟨b, off, e, Nat.lt_of_lt_of_le hl hb.size, fun j hj => hE _ _ _ _ _ hl hb (hc j hj)⟩⟩
end
def ES (w : World) (b o : Nat) (s : ByteArray) : Prop := w.cell? ⟨b, o, none⟩ = some (.string s)
def EV (w : World) (b o : Nat) (v : ByteArray × Int) : Prop := w.cell? ⟨b, o, none⟩ = some (.string v.1) ∧ w.cell? ⟨b, o + 1, none⟩ = some (.int .i64 v.2)
def ET (w : World) (b o : Nat) (t : Int × Int) : Prop := w.cell? ⟨b, o, none⟩ = some (.int .i64 t.1) ∧ w.cell? ⟨b, o + 1, none⟩ = some (.int .i64 t.2)
/-- The eight cells of an instruction. -/
structure EI (w : World) (b o : Nat) (i : I8) : Prop where
  c0 : w.cell? ⟨b, o, none⟩ = some (.int .i64 i.op)
  c1 : w.cell? ⟨b, o + 1, none⟩ = some (.int .i64 i.a)
  c2 : w.cell? ⟨b, o + 2, none⟩ = some (.int .i64 i.b)
  c3 : w.cell? ⟨b, o + 3, none⟩ = some (.int .i64 i.c)
  c4 : w.cell? ⟨b, o + 4, none⟩ = some (.int .i64 i.obj)
  c5 : w.cell? ⟨b, o + 5, none⟩ = some (.int .i64 i.n)
  c6 : w.cell? ⟨b, o + 6, none⟩ = some (.int .i64 i.fn)
  c7 : w.cell? ⟨b, o + 7, none⟩ = some (.int .i64 i.ord)
theorem stabS : StabE ES := fun _ _ _ _ _ hl hb h => (hb.cell hl).trans h
theorem stabV : StabE EV := fun _ _ _ _ _ hl hb h => ⟨(hb.cell hl).trans h.1, (hb.cell hl).trans h.2⟩
theorem stabT : StabE ET := fun _ _ _ _ _ hl hb h => ⟨(hb.cell hl).trans h.1, (hb.cell hl).trans h.2⟩
theorem stabI : StabE EI := fun _ _ _ _ _ hl hb h => ⟨(hb.cell hl).trans h.c0, (hb.cell hl).trans h.c1, (hb.cell hl).trans h.c2, (hb.cell hl).trans h.c3, (hb.cell hl).trans h.c4, (hb.cell hl).trans h.c5, (hb.cell hl).trans h.c6, (hb.cell hl).trans h.c7⟩
/-- Where a function's code lies. -/
def EC (w : World) (v : Value) (l : List I8) : Prop := ∃ A n c, v = .slice A n c ∧ l.length = n ∧ RdE 8 EI w A c l
def EF (w : World) (b o : Nat) (f : ByteArray × List I8) : Prop := w.cell? ⟨b, o, none⟩ = some (.string f.1) ∧ ∃ v, w.cell? ⟨b, o + 1, none⟩ = some v ∧ EC w v f.2
theorem EC.below {w w' : World} {v : Value} {l : List I8} (h : EC w v l) (hb : Below w.heap.size w w') : EC w' v l := by
  obtain ⟨A, n, c, e, hn, hr⟩ := h
  exact ⟨A, n, c, e, hn, hr.below stabI hb⟩
theorem stabF : StabE EF := fun _ _ _ _ _ hl hb h => by
  obtain ⟨h1, v, h2, h3⟩ := h
  exact ⟨(hb.cell hl).trans h1, v, (hb.cell hl).trans h2, h3.below hb⟩

/-- A program by value: the five slices. -/
structure PgA where
  A1 : Option Addr
  n1 : Nat
  c1 : Nat
  A2 : Option Addr
  n2 : Nat
  c2 : Nat
  A3 : Option Addr
  n3 : Nat
  c3 : Nat
  A4 : Option Addr
  n4 : Nat
  c4 : Nat
  A5 : Option Addr
  n5 : Nat
  c5 : Nat
def PgA.fs (a : PgA) : Array Value := #[.slice a.A1 a.n1 a.c1, .slice a.A2 a.n2 a.c2, .slice a.A3 a.n3 a.c3, .slice a.A4 a.n4 a.c4, .slice a.A5 a.n5 a.c5]
def PgA.val (a : PgA) : Value := .agg a.fs
/-- In w the program by value reads as p. -/
structure PgW (w : World) (a : PgA) (p : Prg) : Prop where
  l1 : p.vars.length = a.n1
  l2 : p.muts.length = a.n2
  l3 : p.conds.length = a.n3
  l4 : p.funcs.length = a.n4
  l5 : p.thr.length = a.n5
  vars : RdE 2 EV w a.A1 a.c1 p.vars
  muts : RdE 1 ES w a.A2 a.c2 p.muts
  conds : RdE 1 ES w a.A3 a.c3 p.conds
  funcs : RdE 2 EF w a.A4 a.c4 p.funcs
  thr : RdE 2 ET w a.A5 a.c5 p.thr
theorem PgW.below {w w' : World} {a : PgA} {p : Prg} (h : PgW w a p) (hb : Below w.heap.size w w') : PgW w' a p :=
  ⟨h.l1, h.l2, h.l3, h.l4, h.l5, h.vars.below stabV hb, h.muts.below stabS hb, h.conds.below stabS hb, h.funcs.below stabF hb, h.thr.below stabT hb⟩
/-- Every instruction of the program has fields in their ranges, and no name is longer than memory allows. -/
structure Prg.Wf (p : Prg) : Prop where
  ins : ∀ f ∈ p.funcs, ∀ i ∈ f.2, i.Wf
  vn : ∀ v ∈ p.vars, v.1.size ≤ maxLen
  mn : ∀ s ∈ p.muts, s.size ≤ maxLen
  cn : ∀ s ∈ p.conds, s.size ≤ maxLen
  fn : ∀ f ∈ p.funcs, f.1.size ≤ maxLen
/-- Block b holds the program by value. -/
def PBox (w : World) (b : Nat) (a : PgA) : Prop := Blk w b 27 a.fs
theorem PBox.facts {w : World} {b : Nat} {a : PgA} (h : PBox w b a) : w.cell? ⟨b, 0, none⟩ = some (.slice a.A1 a.n1 a.c1) ∧ w.cell? ⟨b, 1, none⟩ = some (.slice a.A2 a.n2 a.c2) ∧ w.cell? ⟨b, 2, none⟩ = some (.slice a.A3 a.n3 a.c3) ∧ w.cell? ⟨b, 3, none⟩ = some (.slice a.A4 a.n4 a.c4) ∧ w.cell? ⟨b, 4, none⟩ = some (.slice a.A5 a.n5 a.c5) :=
  ⟨Blk.cell h 0, Blk.cell h 1, Blk.cell h 2, Blk.cell h 3, Blk.cell h 4⟩
theorem PBox.below {w w' : World} {b : Nat} {a : PgA} (h : PBox w b a) (hb : Below w.heap.size w w') : PBox w' b a := Blk.below' h hb
theorem PBox.lt {w : World} {b : Nat} {a : PgA} (h : PBox w b a) : b < w.heap.size := Blk.lt h
/-- What a function that gives an error with two numbers returns. -/
def err3 (r : Int × Int × Int) : Ending := .returned (.tuple #[.int .i64 r.1, .int .i64 r.2.1, .int .i64 r.2.2])
end Go.Proofs.YtdmajlgdjhmpdaaDoor

namespace Go.Proofs.YtdmajlgdjhmpdaaDoor
open Go Go.RowKit

theorem retBl {a b : Bool} (h : a = b) : Ending.returned (.bool a) = .returned (.bool b) := by rw [h]
theorem iLetter (c : UInt8) (w : World) : Calls Tryd.prog 39 #[.int .u8 (c.toNat : Int)] w fun e w' => e = .returned (.bool (letB c)) ∧ w = w' := by
  have hc := c.toNat_lt
  obtain ⟨n, hn⟩ : ∃ n : Nat, c.toNat = n := ⟨_, rfl⟩
  have HL : Hid (letB c = ((decide (97 ≤ n) && decide (n ≤ 122)) || (decide (65 ≤ n) && decide (n ≤ 90)))) := by rw [← hn]; exact Lib.hid rfl
  rw [hn] at hc ⊢
  clear hn
  go_enter Tryd.func39, Tryd.ntmps39
  go_wp2
  all_goals go_ret
  all_goals exact ⟨retBl (by rw [HL.out, Bool.eq_iff_iff]; (try simp); omega), rfl⟩
theorem iDigit (c : UInt8) (w : World) : Calls Tryd.prog 40 #[.int .u8 (c.toNat : Int)] w fun e w' => e = .returned (.bool (digB c)) ∧ w = w' := by
  have hc := c.toNat_lt
  obtain ⟨n, hn⟩ : ∃ n : Nat, c.toNat = n := ⟨_, rfl⟩
  have HL : Hid (digB c = (decide (48 ≤ n) && decide (n ≤ 57))) := by rw [← hn]; exact Lib.hid rfl
  rw [hn] at hc ⊢
  clear hn
  go_enter Tryd.func40, Tryd.ntmps40
  go_wp2
  all_goals go_ret
  all_goals exact ⟨retBl (by rw [HL.out, Bool.eq_iff_iff]; (try simp); omega), rfl⟩
theorem iIsVal (n : Int) (w : World) : Calls Tryd.prog 53 #[.int .i64 n] w fun e w' => e = .returned (.bool (isVal n)) ∧ w = w' := by
  have HL : Hid (isVal n = (decide (-2147483648 ≤ n) && decide (n ≤ 2147483647))) := Lib.hid rfl
  go_enter Tryd.func53, Tryd.ntmps53
  go_wp2
  all_goals go_ret
  all_goals exact ⟨retBl (by rw [HL.out, Bool.eq_iff_iff]; (try simp); omega), rfl⟩
theorem iBelow (n : Int) (c : Nat) (w : World) : Calls Tryd.prog 57 #[.int .i64 n, .int .i64 (c : Int)] w fun e w' => e = .returned (.bool (belB n c)) ∧ w = w' := by
  have HL : Hid (belB n c = (decide (0 ≤ n) && decide (n < (c : Int)))) := Lib.hid rfl
  go_enter Tryd.func57, Tryd.ntmps57
  go_wp2
  all_goals go_ret
  all_goals exact ⟨retBl (by rw [HL.out, Bool.eq_iff_iff]; (try simp); omega), rfl⟩
end Go.Proofs.YtdmajlgdjhmpdaaDoor
