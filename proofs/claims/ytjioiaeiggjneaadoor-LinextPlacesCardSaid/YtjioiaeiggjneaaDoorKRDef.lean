/-
  What the functions on relations answer, as plain lists and tables.
-/
import Derived.Test.YtjioiaeiggjneaaDoorKRowI
import Derived.Test.YtjioiaeiggjneaaDoorKRelDist
namespace Go.Proofs.YtjioiaeiggjneaaDoor
open Go.RowKit

/-- A relation that is valid lies on 0 to 64. -/
theorem okNat {N : Int} {l : Prs} (h : okR N l = true) : ∃ n : Nat, N = n ∧ n ≤ 64 := by
  obtain ⟨h1, h2, _⟩ := okIff.1 h
  exact ⟨N.toNat, by omega, by omega⟩
/-- The relation's normal form, or nothing where it is not valid. -/
def nrmN (N : Int) (l : Prs) : Int := if okR N l then N else 0
def nrmL (N : Int) (l : Prs) : Prs := if okR N l then nrm N.toNat (hasP l) else []
/-- Two relations are valid relations on the same numbers. -/
def mtch (N : Int) (l : Prs) (M : Int) (m : Prs) : Bool := okR N l && okR M m && decide (N = M)
theorem mtchIff {N M : Int} {l m : Prs} : mtch N l M m = true ↔ okR N l = true ∧ okR M m = true ∧ N = M := by
  unfold mtch; rw [Bool.and_eq_true, Bool.and_eq_true, decide_eq_true_iff, and_assoc]

/-- The pairs of both. -/
def uniT (f g : Nat → Nat → Bool) (a b : Nat) : Bool := f a b || g a b
/-- Is no number below n on a cycle? -/
noncomputable def acyB (n : Nat) (f : Nat → Nat → Bool) : Bool := (List.range n).all fun a => !tcT n f a a
theorem acyIff {n : Nat} {f : Nat → Nat → Bool} : acyB n f = true ↔ acyT n (tcT n f) := by
  unfold acyB acyT
  rw [List.all_eq_true]
  constructor
  · intro h a ha
    have := h a (List.mem_range.2 ha)
    simpa using this
  · intro h a ha
    rw [h a (List.mem_range.1 ha)]; rfl
/-- What Acyclic answers. -/
noncomputable def acyR (N : Int) (l : Prs) : Bool := okR N l && acyB N.toNat (hasP l)
theorem acyNo {n : Nat} {f : Nat → Nat → Bool} (h : ∃ x, x < n ∧ tcT n f x x = true) : acyB n f = false := by
  cases e : acyB n f
  · rfl
  · obtain ⟨x, hx, h1⟩ := h
    rw [acyIff.1 e x hx] at h1; cases h1
/-- The closure's normal form, or nothing. -/
noncomputable def cloL (N : Int) (l : Prs) : Prs := if okR N l then nrm N.toNat (tcT N.toNat (hasP l)) else []
/-- The inverse table. -/
def invT (f : Nat → Nat → Bool) (a b : Nat) : Bool := f b a
/-- The inverse's normal form, or nothing. -/
def invL (N : Int) (l : Prs) : Prs := if okR N l then nrm N.toNat (invT (hasP l)) else []
/-- What Has answers. -/
def hasR (N : Int) (l : Prs) (x y : Int) : Bool := okR N l && memP l x y
/-- What Cycle answers, as integers; whether there is one. -/
noncomputable def cycL (N : Int) (l : Prs) : List Int := if okR N l then ni (cyc N.toNat (hasP l)) else []
noncomputable def cycB (N : Int) (l : Prs) : Bool := okR N l && !acyB N.toNat (hasP l)
/-- The call returns a slice that reads as l, and b; nothing that was in memory has changed. -/
def GivesC (l : List Int) (b : Bool) (w : World) (e : Ending) (w' : World) : Prop := ∃ A c, e = .returned (.tuple #[.slice A l.length c, .bool b]) ∧ Rd w' A c l ∧ Below w.heap.size w w'
def sameR (N : Int) (l : Prs) (M : Int) (m : Prs) : Bool := decide (N = M) && decide (l = m)
theorem sameIff {N M : Int} {l m : Prs} : sameR N l M m = true ↔ N = M ∧ l = m := by unfold sameR; rw [Bool.and_eq_true, decide_eq_true_iff, decide_eq_true_iff]
theorem BoxR.others {W : World} {B B' : Nat} {N : Int} {v : Value} (h : BoxR W B N v) (hne : B ≠ B') (a b : Value) : BoxR ((W.setCell ⟨B', 0, none⟩ a).setCell ⟨B', 1, none⟩ b) B N v :=
  ((heap_setCell_other _ ⟨B', 1, none⟩ B b hne).trans (heap_setCell_other W ⟨B', 0, none⟩ B a hne)).trans h
theorem keepR {W : World} {B B' : Nat} {N : Int} {v : Value} (h : BoxR W B N v) (hne : B ≠ B') (a b : Value) : ((W.setCell ⟨B', 0, none⟩ a).setCell ⟨B', 1, none⟩ b).cell? ⟨B, 0, none⟩ = some (.int .i64 N) ∧ ((W.setCell ⟨B', 0, none⟩ a).setCell ⟨B', 1, none⟩ b).cell? ⟨B, 1, none⟩ = some v :=
  ⟨(h.others hne a b).facts.1, (h.others hne a b).facts.2.1⟩
end Go.Proofs.YtjioiaeiggjneaaDoor
