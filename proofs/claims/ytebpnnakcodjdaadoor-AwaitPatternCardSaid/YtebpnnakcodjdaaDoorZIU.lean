/-
  The contracts of inst.Uses and inst.Defines: the registers that an instruction reads and writes.
-/
import Derived.Test.YtebpnnakcodjdaaDoorZInsC
import Derived.Test.YtebpnnakcodjdaaDoorZMk
import Derived.Test.YtebpnnakcodjdaaDoorZPure
namespace Go.Proofs.YtebpnnakcodjdaaDoor
open Go Go.RowKit Go.Sort

theorem iCheckA (op a b c obj n fn ord r : Int) (hr : (I8.mk8 op a b c obj n fn ord).chk = r) (hi : (I8.mk8 op a b c obj n fn ord).Wf) (w : World) (hT : InsT w) (hN : Nm w) :
    Calls Tryd.prog 67 #[.agg #[.int .i64 op, .int .i64 a, .int .i64 b, .int .i64 c, .int .i64 obj, .int .i64 n, .int .i64 fn, .int .i64 ord]] w fun e w' => e = .returned (.int .i64 r) ∧ Below w.heap.size w w' := iCheck _ r hr hi w hT hN
theorem InsT.below {W X : World} {B : Nat} (h : InsT W) (hb : Below B W X) (hB : W.heap.size ≤ B := by exact Nat.le_refl _) : InsT X :=
  ⟨fun k hk => (hb.cell (Nat.lt_of_lt_of_le (World.block_lt_of_cell? _ _ (h.nm k hk)) hB)).trans (h.nm k hk), fun k f hk hf => (hb.cell (Nat.lt_of_lt_of_le (World.block_lt_of_cell? _ _ (h.us k f hk hf)) hB)).trans (h.us k f hk hf)⟩
theorem boxFactsW {W : World} {n0 : Nat} {k a b c obj n fn ord : Int} (h : Blk W n0 47 #[.int .i64 k, .int .i64 a, .int .i64 b, .int .i64 c, .int .i64 obj, .int .i64 n, .int .i64 fn, .int .i64 ord]) :
    W.cell? ⟨n0, 0, none⟩ = some (.int .i64 k) ∧ W.cell? ⟨n0, 1, none⟩ = some (.int .i64 a) ∧ W.cell? ⟨n0, 2, none⟩ = some (.int .i64 b) ∧ W.cell? ⟨n0, 3, none⟩ = some (.int .i64 c) ∧ W.cell? ⟨n0, 4, none⟩ = some (.int .i64 obj) ∧ W.cell? ⟨n0, 5, none⟩ = some (.int .i64 n) ∧ W.cell? ⟨n0, 6, none⟩ = some (.int .i64 fn) ∧ W.cell? ⟨n0, 7, none⟩ = some (.int .i64 ord) :=
  ⟨h.cell 0, h.cell 1, h.cell 2, h.cell 3, h.cell 4, h.cell 5, h.cell 6, h.cell 7⟩
end Go.Proofs.YtebpnnakcodjdaaDoor

namespace Go.Proofs.YtebpnnakcodjdaaDoor
open Go Go.RowKit

/-- In w the slice with address A, capacity c and as many elements as l, each of k cells, reads as l; E says how an element lies at a place. -/
structure RdE {α : Type} (k : Nat) (E : World → Nat → Nat → α → Prop) (w : World) (A : Option Addr) (c : Nat) (l : List α) : Prop where
  le : l.length ≤ c
  max : c ≤ maxLen
  at_ : 0 < l.length → ∃ b off, A = some ⟨b, off, none⟩ ∧ b < w.heap.size ∧ ∀ j (h : j < l.length), E w b (off + j * k) l[j]
/-- What lies at a place stays there as long as what is old is unchanged. -/
def StabE {α : Type} (E : World → Nat → Nat → α → Prop) : Prop := ∀ (w w' : World) (b o : Nat) (x : α), b < w.heap.size → Below w.heap.size w w' → E w b o x → E w' b o x
section
variable {α : Type} {k : Nat} {E : World → Nat → Nat → α → Prop} {w w' : World} {A : Option Addr} {c : Nat} {l : List α}
theorem RdE.nil : RdE k E w none 0 ([] : List α) := ⟨Nat.zero_le _, Nat.zero_le _, fun h => absurd h (by simp)⟩
theorem RdE.one (h : RdE k E w A c l) {j : Nat} (hj : j < l.length) : ∃ b off, A = some ⟨b, off, none⟩ ∧ b < w.heap.size ∧ E w b (off + j * k) l[j] := by
  obtain ⟨b, off, e, hb, hc⟩ := h.at_ (by omega)
  exact ⟨b, off, e, hb, hc j hj⟩
theorem RdE.below (h : RdE k E w A c l) (hE : StabE E) (hb : Below w.heap.size w w') : RdE k E w' A c l :=
  ⟨h.le, h.max, fun hn => by
    obtain ⟨b, off, e, hl, hc⟩ := h.at_ hn
    exact ⟨b, off, e, Nat.lt_of_lt_of_le hl hb.size, fun j hj => hE _ _ _ _ _ hl hb (hc j hj)⟩⟩
end
def ES (w : World) (b o : Nat) (s : ByteArray) : Prop := w.cell? ⟨b, o, none⟩ = some (.string s)
def EV (w : World) (b o : Nat) (v : ByteArray × Int) : Prop := w.cell? ⟨b, o, none⟩ = some (.string v.1) ∧ w.cell? ⟨b, o + 1, none⟩ = some (.int .i64 v.2)
def ET (w : World) (b o : Nat) (t : Int × Int) : Prop := w.cell? ⟨b, o, none⟩ = some (.int .i64 t.1) ∧ w.cell? ⟨b, o + 1, none⟩ = some (.int .i64 t.2)
/-- The eight cells of an instruction. -/
structure EI (w : World) (b o : Nat) (i : I8) : Prop where
  c0 : w.cell? ⟨b, o, none⟩ = some (.int .i64 i.op)
  c1 : w.cell? ⟨b, o + 1, none⟩ = some (.int .i64 i.a)
  c2 : w.cell? ⟨b, o + 2, none⟩ = some (.int .i64 i.b)
  c3 : w.cell? ⟨b, o + 3, none⟩ = some (.int .i64 i.c)
  c4 : w.cell? ⟨b, o + 4, none⟩ = some (.int .i64 i.obj)
  c5 : w.cell? ⟨b, o + 5, none⟩ = some (.int .i64 i.n)
  c6 : w.cell? ⟨b, o + 6, none⟩ = some (.int .i64 i.fn)
  c7 : w.cell? ⟨b, o + 7, none⟩ = some (.int .i64 i.ord)
theorem stabS : StabE ES := fun _ _ _ _ _ hl hb h => (hb.cell hl).trans h
theorem stabV : StabE EV := fun _ _ _ _ _ hl hb h => ⟨(hb.cell hl).trans h.1, (hb.cell hl).trans h.2⟩
theorem stabT : StabE ET := fun _ _ _ _ _ hl hb h => ⟨(hb.cell hl).trans h.1, (hb.cell hl).trans h.2⟩
theorem stabI : StabE EI := fun _ _ _ _ _ hl hb h => ⟨(hb.cell hl).trans h.c0, (hb.cell hl).trans h.c1, (hb.cell hl).trans h.c2, (hb.cell hl).trans h.c3, (hb.cell hl).trans h.c4, (hb.cell hl).trans h.c5, (hb.cell hl).trans h.c6, (hb.cell hl).trans h.c7⟩
/-- Where a function's code lies. -/
def EC (w : World) (v : Value) (l : List I8) : Prop := ∃ A n c, v = .slice A n c ∧ l.length = n ∧ RdE 8 EI w A c l
def EF (w : World) (b o : Nat) (f : ByteArray × List I8) : Prop := w.cell? ⟨b, o, none⟩ = some (.string f.1) ∧ ∃ v, w.cell? ⟨b, o + 1, none⟩ = some v ∧ EC w v f.2
theorem EC.below {w w' : World} {v : Value} {l : List I8} (h : EC w v l) (hb : Below w.heap.size w w') : EC w' v l := by
  obtain ⟨A, n, c, e, hn, hr⟩ := h
  exact ⟨A, n, c, e, hn, hr.below stabI hb⟩
theorem stabF : StabE EF := fun _ _ _ _ _ hl hb h => by
  obtain ⟨h1, v, h2, h3⟩ := h
  exact ⟨(hb.cell hl).trans h1, v, (hb.cell hl).trans h2, h3.below hb⟩

/-- A program by value: the five slices. -/
structure PgA where
  A1 : Option Addr
  n1 : Nat
  c1 : Nat
  A2 : Option Addr
  n2 : Nat
  c2 : Nat
  A3 : Option Addr
  n3 : Nat
  c3 : Nat
  A4 : Option Addr
  n4 : Nat
  c4 : Nat
  A5 : Option Addr
  n5 : Nat
  c5 : Nat
def PgA.fs (a : PgA) : Array Value := #[.slice a.A1 a.n1 a.c1, .slice a.A2 a.n2 a.c2, .slice a.A3 a.n3 a.c3, .slice a.A4 a.n4 a.c4, .slice a.A5 a.n5 a.c5]
def PgA.val (a : PgA) : Value := .agg a.fs
/-- In w the program by value reads as p. -/
structure PgW (w : World) (a : PgA) (p : Prg) : Prop where
  l1 : p.vars.length = a.n1
  l2 : p.muts.length = a.n2
  l3 : p.conds.length = a.n3
  l4 : p.funcs.length = a.n4
  l5 : p.thr.length = a.n5
  vars : RdE 2 EV w a.A1 a.c1 p.vars
  muts : RdE 1 ES w a.A2 a.c2 p.muts
  conds : RdE 1 ES w a.A3 a.c3 p.conds
  funcs : RdE 2 EF w a.A4 a.c4 p.funcs
  thr : RdE 2 ET w a.A5 a.c5 p.thr
theorem PgW.below {w w' : World} {a : PgA} {p : Prg} (h : PgW w a p) (hb : Below w.heap.size w w') : PgW w' a p :=
  ⟨h.l1, h.l2, h.l3, h.l4, h.l5, h.vars.below stabV hb, h.muts.below stabS hb, h.conds.below stabS hb, h.funcs.below stabF hb, h.thr.below stabT hb⟩
/-- Every instruction of the program has fields in their ranges, and no name is longer than memory allows. -/
structure Prg.Wf (p : Prg) : Prop where
  ins : ∀ f ∈ p.funcs, ∀ i ∈ f.2, i.Wf
  vn : ∀ v ∈ p.vars, v.1.size ≤ maxLen
  mn : ∀ s ∈ p.muts, s.size ≤ maxLen
  cn : ∀ s ∈ p.conds, s.size ≤ maxLen
  fn : ∀ f ∈ p.funcs, f.1.size ≤ maxLen
/-- Block b holds the program by value. -/
def PBox (w : World) (b : Nat) (a : PgA) : Prop := Blk w b 27 a.fs
theorem PBox.facts {w : World} {b : Nat} {a : PgA} (h : PBox w b a) : w.cell? ⟨b, 0, none⟩ = some (.slice a.A1 a.n1 a.c1) ∧ w.cell? ⟨b, 1, none⟩ = some (.slice a.A2 a.n2 a.c2) ∧ w.cell? ⟨b, 2, none⟩ = some (.slice a.A3 a.n3 a.c3) ∧ w.cell? ⟨b, 3, none⟩ = some (.slice a.A4 a.n4 a.c4) ∧ w.cell? ⟨b, 4, none⟩ = some (.slice a.A5 a.n5 a.c5) :=
  ⟨Blk.cell h 0, Blk.cell h 1, Blk.cell h 2, Blk.cell h 3, Blk.cell h 4⟩
theorem PBox.below {w w' : World} {b : Nat} {a : PgA} (h : PBox w b a) (hb : Below w.heap.size w w') : PBox w' b a := Blk.below' h hb
theorem PBox.lt {w : World} {b : Nat} {a : PgA} (h : PBox w b a) : b < w.heap.size := Blk.lt h
/-- What a function that gives an error with two numbers returns. -/
def err3 (r : Int × Int × Int) : Ending := .returned (.tuple #[.int .i64 r.1, .int .i64 r.2.1, .int .i64 r.2.2])
end Go.Proofs.YtebpnnakcodjdaaDoor

namespace Go.Proofs.YtebpnnakcodjdaaDoor
open Go Go.RowKit

theorem retBl {a b : Bool} (h : a = b) : Ending.returned (.bool a) = .returned (.bool b) := by rw [h]
theorem iLetter (c : UInt8) (w : World) : Calls Tryd.prog 72 #[.int .u8 (c.toNat : Int)] w fun e w' => e = .returned (.bool (letB c)) ∧ w = w' := by
  have hc := c.toNat_lt
  obtain ⟨n, hn⟩ : ∃ n : Nat, c.toNat = n := ⟨_, rfl⟩
  have HL : Hid (letB c = ((decide (97 ≤ n) && decide (n ≤ 122)) || (decide (65 ≤ n) && decide (n ≤ 90)))) := by rw [← hn]; exact Lib.hid rfl
  rw [hn] at hc ⊢
  clear hn
  go_enter Tryd.func72, Tryd.ntmps72
  go_wp2
  all_goals go_ret
  all_goals exact ⟨retBl (by rw [HL.out, Bool.eq_iff_iff]; (try simp); omega), rfl⟩
theorem iDigit (c : UInt8) (w : World) : Calls Tryd.prog 73 #[.int .u8 (c.toNat : Int)] w fun e w' => e = .returned (.bool (digB c)) ∧ w = w' := by
  have hc := c.toNat_lt
  obtain ⟨n, hn⟩ : ∃ n : Nat, c.toNat = n := ⟨_, rfl⟩
  have HL : Hid (digB c = (decide (48 ≤ n) && decide (n ≤ 57))) := by rw [← hn]; exact Lib.hid rfl
  rw [hn] at hc ⊢
  clear hn
  go_enter Tryd.func73, Tryd.ntmps73
  go_wp2
  all_goals go_ret
  all_goals exact ⟨retBl (by rw [HL.out, Bool.eq_iff_iff]; (try simp); omega), rfl⟩
theorem iIsVal (n : Int) (w : World) : Calls Tryd.prog 50 #[.int .i64 n] w fun e w' => e = .returned (.bool (isVal n)) ∧ w = w' := by
  have HL : Hid (isVal n = (decide (-2147483648 ≤ n) && decide (n ≤ 2147483647))) := Lib.hid rfl
  go_enter Tryd.func50, Tryd.ntmps50
  go_wp2
  all_goals go_ret
  all_goals exact ⟨retBl (by rw [HL.out, Bool.eq_iff_iff]; (try simp); omega), rfl⟩
theorem iBelow (n : Int) (c : Nat) (w : World) : Calls Tryd.prog 55 #[.int .i64 n, .int .i64 (c : Int)] w fun e w' => e = .returned (.bool (belB n c)) ∧ w = w' := by
  have HL : Hid (belB n c = (decide (0 ≤ n) && decide (n < (c : Int)))) := Lib.hid rfl
  go_enter Tryd.func55, Tryd.ntmps55
  go_wp2
  all_goals go_ret
  all_goals exact ⟨retBl (by rw [HL.out, Bool.eq_iff_iff]; (try simp); omega), rfl⟩
end Go.Proofs.YtebpnnakcodjdaaDoor
