/-
  Words for programs in memory: slices of strings, of variables, of threads, of instructions, of functions read as lists; a program by value.
-/
import Derived.Test.YtiaendggmamnkaaGreatDoorEPu
import Derived.Test.YtiaendggmamnkaaGreatDoorEIn
import Derived.Test.YtiaendggmamnkaaGreatDoorEOw
import Derived.Deep.QuietTactic
import Derived.BigQuiet
import Derived.Outline
import Derived.LoopTactic
import Derived.Deep.RegionHeld3
import Derived.Deep.CutRange
import Derived.Deep.DeepCutAuto
namespace Go.Proofs.YtiaendggmamnkaaGreatDoor
open Go Go.RowKit

/-- In w the slice with address A, capacity c and as many elements as l, each of k cells, reads as l; E says how an element lies at a place. -/
structure RdE {α : Type} (k : Nat) (E : World → Nat → Nat → α → Prop) (w : World) (A : Option Addr) (c : Nat) (l : List α) : Prop where
  le : l.length ≤ c
  max : c ≤ maxLen
  at_ : 0 < l.length → ∃ b off, A = some ⟨b, off, none⟩ ∧ b < w.heap.size ∧ ∀ j (h : j < l.length), E w b (off + j * k) l[j]
/-- What lies at a place stays there as long as what is old is unchanged. -/
def StabE {α : Type} (E : World → Nat → Nat → α → Prop) : Prop := ∀ (w w' : World) (b o : Nat) (x : α), b < w.heap.size → Below w.heap.size w w' → E w b o x → E w' b o x
section
variable {α : Type} {k : Nat} {E : World → Nat → Nat → α → Prop} {w w' : World} {A : Option Addr} {c : Nat} {l : List α}
theorem RdE.nil : RdE k E w none 0 ([] : List α) := ⟨Nat.zero_le _, Nat.zero_le _, fun h => absurd h (by simp)⟩
theorem RdE.one (h : RdE k E w A c l) {j : Nat} (hj : j < l.length) : ∃ b off, A = some ⟨b, off, none⟩ ∧ b < w.heap.size ∧ E w b (off + j * k) l[j] := by
  obtain ⟨b, off, e, hb, hc⟩ := h.at_ (by omega)
  exact ⟨b, off, e, hb, hc j hj⟩
theorem RdE.below (h : RdE k E w A c l) (hE : StabE E) (hb : Below w.heap.size w w') : RdE k E w' A c l :=
  ⟨h.le, h.max, fun hn => by
    obtain ⟨b, off, e, hl, hc⟩ := h.at_ hn
    exact ⟨b, off, e, Nat.lt_of_lt_of_le hl hb.size, fun j hj => hE _ _ _ _ _ hl hb (hc j hj)⟩⟩
end
def ES (w : World) (b o : Nat) (s : ByteArray) : Prop := w.cell? ⟨b, o, none⟩ = some (.string s)
def EV (w : World) (b o : Nat) (v : ByteArray × Int) : Prop := w.cell? ⟨b, o, none⟩ = some (.string v.1) ∧ w.cell? ⟨b, o + 1, none⟩ = some (.int .i64 v.2)
theorem stabS : StabE ES := fun _ _ _ _ _ hl hb h => (hb.cell hl).trans h
theorem stabV : StabE EV := fun _ _ _ _ _ hl hb h => ⟨(hb.cell hl).trans h.1, (hb.cell hl).trans h.2⟩
/-- A program by value: the five slices. -/
structure PgA where
  A1 : Option Addr
  n1 : Nat
  c1 : Nat
  A2 : Option Addr
  n2 : Nat
  c2 : Nat
  A3 : Option Addr
  n3 : Nat
  c3 : Nat
  A4 : Option Addr
  n4 : Nat
  c4 : Nat
  A5 : Option Addr
  n5 : Nat
  c5 : Nat
def PgA.fs (a : PgA) : Array Value := #[.slice a.A1 a.n1 a.c1, .slice a.A2 a.n2 a.c2, .slice a.A3 a.n3 a.c3, .slice a.A4 a.n4 a.c4, .slice a.A5 a.n5 a.c5]
def PgA.val (a : PgA) : Value := .agg a.fs
end Go.Proofs.YtiaendggmamnkaaGreatDoor

namespace Go.Proofs.YtiaendggmamnkaaGreatDoor
open Go Go.RowKit

theorem retBl {a b : Bool} (h : a = b) : Ending.returned (.bool a) = .returned (.bool b) := by rw [h]
theorem iLetter (c : UInt8) (w : World) : Calls Tryz.prog 199 #[.int .u8 (c.toNat : Int)] w fun e w' => e = .returned (.bool (letB c)) ∧ w = w' := by
  have hc := c.toNat_lt
  obtain ⟨n, hn⟩ : ∃ n : Nat, c.toNat = n := ⟨_, rfl⟩
  have HL : Hid (letB c = ((decide (97 ≤ n) && decide (n ≤ 122)) || (decide (65 ≤ n) && decide (n ≤ 90)))) := by rw [← hn]; exact Lib.hid rfl
  rw [hn] at hc ⊢
  clear hn
  go_enter Tryz.func199, Tryz.ntmps199
  go_wp2
  all_goals go_ret
  all_goals exact ⟨retBl (by rw [HL.out, Bool.eq_iff_iff]; (try simp); omega), rfl⟩
theorem iDigit (c : UInt8) (w : World) : Calls Tryz.prog 200 #[.int .u8 (c.toNat : Int)] w fun e w' => e = .returned (.bool (digB c)) ∧ w = w' := by
  have hc := c.toNat_lt
  obtain ⟨n, hn⟩ : ∃ n : Nat, c.toNat = n := ⟨_, rfl⟩
  have HL : Hid (digB c = (decide (48 ≤ n) && decide (n ≤ 57))) := by rw [← hn]; exact Lib.hid rfl
  rw [hn] at hc ⊢
  clear hn
  go_enter Tryz.func200, Tryz.ntmps200
  go_wp2
  all_goals go_ret
  all_goals exact ⟨retBl (by rw [HL.out, Bool.eq_iff_iff]; (try simp); omega), rfl⟩
end Go.Proofs.YtiaendggmamnkaaGreatDoor
