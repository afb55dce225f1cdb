/-
  Words for slices, without any program: a slice that reads as a list of cells, nil let in; a row that the call owns; append onto such a row.
-/
import Derived.WalkKit
import Derived.OwnWalk
import Derived.Maps.AppendAt
import Derived.Deep.Draws
import Derived.Lib.Hide
import Derived.Laws.OwnMore
namespace Go.Proofs.YtnckpjcfgeajbaaDoor
open Go.RowKit

/-- In w the slice with address A, capacity c and as many elements as xs reads as the cells xs. -/
structure Rds (w : World) (A : Option Addr) (c : Nat) (xs : List Value) : Prop where
  le : xs.length ≤ c
  max : c ≤ maxLen
  at_ : 0 < xs.length → ∃ ad, A = some ad ∧ ad.block < w.heap.size ∧ ∀ j u, xs[j]? = some u → w.cell? (ad.add j) = some u

theorem addBlock (a : Addr) (i : Nat) : (a.add i).block = a.block := by unfold Addr.add; split <;> rfl
theorem addAdd (a : Addr) (i j : Nat) : (a.add i).add j = a.add (i + j) := by
  unfold Addr.add
  by_cases hi : i = 0 <;> by_cases hj : j = 0 <;> simp [hi, hj, Nat.add_assoc]

section
variable {w w' : World} {A : Option Addr} {c : Nat} {xs : List Value}
theorem Rds.nil : Rds w none 0 [] := ⟨Nat.zero_le _, Nat.zero_le _, fun h => absurd h (by simp)⟩
theorem Rds.one (h : Rds w A c xs) {k : Nat} (hk : k < xs.length) : ∃ ad, A = some ad ∧ ad.block < w.heap.size ∧ w.cell? (ad.add k) = some xs[k] := by
  obtain ⟨ad, e, hb, hc⟩ := h.at_ (by omega)
  exact ⟨ad, e, hb, hc k _ (List.getElem?_eq_getElem hk)⟩
theorem Rds.below (h : Rds w A c xs) (hb : Below w.heap.size w w') : Rds w' A c xs :=
  ⟨h.le, h.max, fun hn => by
    obtain ⟨ad, e, hl, hc⟩ := h.at_ hn
    exact ⟨ad, e, Nat.lt_of_lt_of_le hl hb.size, fun j u hu => (hb.cell (by rw [addBlock]; exact hl)).trans (hc j u hu)⟩⟩
theorem Rds.drew (h : Rds w A c xs) : Rds w.drew A c xs := ⟨h.le, h.max, h.at_⟩
theorem Rds.drewN (h : Rds w A c xs) (n : Nat) : Rds (w.drewN n) A c xs := ⟨h.le, h.max, h.at_⟩
theorem Rds.other (h : Rds w A c xs) {g : Nat} (hg : w.grownBy w' (some g)) (hne : ∀ ad, A = some ad → 0 < xs.length → ad.block ≠ g) : Rds w' A c xs :=
  ⟨h.le, h.max, fun hn => by
    obtain ⟨ad, e, hl, hc⟩ := h.at_ hn
    exact ⟨ad, e, Nat.lt_of_lt_of_le hl hg.size, fun j u hu => hg.cell (hc j u hu) (by rw [addBlock]; intro hh; exact hne ad e hn (by injection hh))⟩⟩
theorem Rds.drop (h : Rds w A c xs) (k : Nat) (hk : k ≤ xs.length) : Rds w (if c = k then A else A.map (·.add k)) (c - k) (xs.drop k) := by
  refine ⟨by have := h.le; rw [List.length_drop]; omega, by have := h.max; omega, fun hn => ?_⟩
  rw [List.length_drop] at hn
  obtain ⟨ad, rfl, hb, hc⟩ := h.at_ (by omega)
  rw [if_neg (by have := h.le; omega)]
  refine ⟨ad.add k, rfl, by rw [addBlock]; exact hb, fun j u hu => ?_⟩
  rw [addAdd]
  exact hc _ u (by rw [← hu, List.getElem?_drop])
theorem Rds.take (h : Rds w A c xs) (k : Nat) (hk : k ≤ xs.length) : Rds w A c (xs.take k) := by
  refine ⟨by have := h.le; rw [List.length_take]; omega, h.max, fun hn => ?_⟩
  rw [List.length_take] at hn
  obtain ⟨ad, e, hb, hc⟩ := h.at_ (by omega)
  refine ⟨ad, e, hb, fun j u hu => hc j u ?_⟩
  rw [List.getElem?_take] at hu
  split at hu <;> simp_all
end

section
variable {P : Program} (w : World)

end

/-- The list of integers l, as cells. -/
abbrev iv (l : List Int) : List Value := l.map (Value.int .i64)
section
variable {w w' : World} {A : Option Addr} {c : Nat} {l : List Int}
end
theorem belowDrewN {B : Nat} {a w : World} (h : Below B a w) (n : Nat) : Below B a (w.drewN n) := ⟨h.os, h.tape, h.output, h.size, h.block⟩
theorem belowN (w : World) (n : Nat) : Below w.heap.size w (w.drewN n) := belowDrewN (Below.refl _ _) n
theorem belowAlloc (w : World) (o : Obj) : Below w.heap.size w (w.alloc o) := (Below.refl _ w).alloc (Nat.le_refl _) o
/-- Two steps, each of which leaves what was there before it. -/
theorem belowThen {a b c : World} (h : Below a.heap.size a b) (k : Below b.heap.size b c) : Below a.heap.size a c := h.trans (k.mono h.size)
theorem retInt {k : IntKind} {a b : Int} (h : a = b) : Ending.returned (.int k a) = .returned (.int k b) := by rw [h]
theorem retB {a b : Bool} (h : a = b) : Ending.returned (.bool a) = .returned (.bool b) := by rw [h]
end Go.Proofs.YtnckpjcfgeajbaaDoor
