/-
  The contract of inst.Rename: the renamed instruction or the error.
-/
import Derived.Test.YtebpnnakcodjdaaDoorZG3
import Derived.Test.YtebpnnakcodjdaaDoorZInsF
import Derived.Test.YtebpnnakcodjdaaDoorZOwn
import Derived.Test.YtebpnnakcodjdaaDoorProg
import Derived.Test.YtebpnnakcodjdaaDoorRows
import Derived.Deep.QuietTactic
import Derived.BigQuiet
import Derived.Outline
import Derived.LoopTactic
namespace Go.Proofs.YtebpnnakcodjdaaDoor
open Go Go.RowKit

theorem infoInst : (Tryd.prog.info? 47).map (·.size) = some 8 := by kernel_rfl
theorem stored8 {W : World} {b : Nat} {T : TypeId} {x0 x1 x2 x3 x4 x5 x6 x7 v0 v1 v2 v3 v4 v5 v6 v7 : Value} (h : Blk W b T #[x0, x1, x2, x3, x4, x5, x6, x7]) : Blk ((((((((W.setCell ⟨b, 0, none⟩ v0).setCell ⟨b, 1, none⟩ v1).setCell ⟨b, 2, none⟩ v2).setCell ⟨b, 3, none⟩ v3).setCell ⟨b, 4, none⟩ v4).setCell ⟨b, 5, none⟩ v5).setCell ⟨b, 6, none⟩ v6).setCell ⟨b, 7, none⟩ v7) b T #[v0, v1, v2, v3, v4, v5, v6, v7] :=
  by simpa using (((((((h.set 0 v0).set 1 v1).set 2 v2).set 3 v3).set 4 v4).set 5 v5).set 6 v6).set 7 v7
theorem belowSt {B : Nat} {a b : World} (h : Below B a b) (g i : Nat) (v : Value) (hp : B ≤ g) : Below B a (b.setCell ⟨g, i, none⟩ v) :=
  ⟨h.os, h.tape, h.output, by simpa using h.size, fun k hk => (heap_setCell_other b ⟨g, i, none⟩ k v (by show k ≠ g; omega)).trans (h.block k hk)⟩
theorem below8 {W a : World} {B b : Nat} {v0 v1 v2 v3 v4 v5 v6 v7 : Value} (h : Below B a W) (hb : B ≤ b) : Below B a ((((((((W.setCell ⟨b, 0, none⟩ v0).setCell ⟨b, 1, none⟩ v1).setCell ⟨b, 2, none⟩ v2).setCell ⟨b, 3, none⟩ v3).setCell ⟨b, 4, none⟩ v4).setCell ⟨b, 5, none⟩ v5).setCell ⟨b, 6, none⟩ v6).setCell ⟨b, 7, none⟩ v7) :=
  belowSt (belowSt (belowSt (belowSt (belowSt (belowSt (belowSt (belowSt h b 0 _ hb) b 1 _ hb) b 2 _ hb) b 3 _ hb) b 4 _ hb) b 5 _ hb) b 6 _ hb) b 7 _ hb
theorem blkFacts {W : World} {b : Nat} {T : TypeId} {x0 x1 x2 x3 x4 x5 x6 x7 : Value} (h : Blk W b T #[x0, x1, x2, x3, x4, x5, x6, x7]) : (W.cell? ⟨b, 0, none⟩ = some x0 ∧ W.cell? ⟨b, 1, none⟩ = some x1 ∧ W.cell? ⟨b, 2, none⟩ = some x2 ∧ W.cell? ⟨b, 3, none⟩ = some x3 ∧ W.cell? ⟨b, 4, none⟩ = some x4 ∧ W.cell? ⟨b, 5, none⟩ = some x5 ∧ W.cell? ⟨b, 6, none⟩ = some x6 ∧ W.cell? ⟨b, 7, none⟩ = some x7) ∧ (W.frozen? ⟨b, 0, none⟩ = false ∧ W.frozen? ⟨b, 1, none⟩ = false ∧ W.frozen? ⟨b, 2, none⟩ = false ∧ W.frozen? ⟨b, 3, none⟩ = false ∧ W.frozen? ⟨b, 4, none⟩ = false ∧ W.frozen? ⟨b, 5, none⟩ = false ∧ W.frozen? ⟨b, 6, none⟩ = false ∧ W.frozen? ⟨b, 7, none⟩ = false) :=
  ⟨⟨h.cell 0, h.cell 1, h.cell 2, h.cell 3, h.cell 4, h.cell 5, h.cell 6, h.cell 7⟩, h.frozen 0, h.frozen 1, h.frozen 2, h.frozen 3, h.frozen 4, h.frozen 5, h.frozen 6, h.frozen 7⟩

end Go.Proofs.YtebpnnakcodjdaaDoor

namespace Go.Proofs.YtebpnnakcodjdaaDoor
open Go Go.RowKit

/-- The tables of the operations and of the names of the functions are laid. -/
structure Laid7 (w : World) : Prop where
  ins : InsT w
  nm : Nm w
theorem Laid7.below {W X : World} {B : Nat} (h : Laid7 W) (hb : Below B W X) (hB : W.heap.size ≤ B := by exact Nat.le_refl _) : Laid7 X := ⟨h.ins.below hb hB, h.nm.below hb hB⟩
end Go.Proofs.YtebpnnakcodjdaaDoor
