/-
  Words for a block of cells of the call's own: it is known whole; a result that lies in one.
-/
import Derived.Test.YtnckpjcfgeajbaaGreatDoorSl
import Derived.Laws.Rows
import Derived.Lib.SmallJoins
namespace Go.Proofs.YtnckpjcfgeajbaaGreatDoor
open Go Go.RowKit

/-- Block b holds the cells cs. -/
def Blk (W : World) (b : Nat) (T : TypeId) (cs : Array Value) : Prop := W.heap[b]? = some (.cells cs T (0, 0))
section
variable {W W' : World} {b : Nat} {T : TypeId} {cs : Array Value}
theorem Blk.new (W : World) (T : TypeId) (cs : Array Value) : Blk (W.alloc (.cells cs T)) W.heap.size T cs := heap_alloc_new W _
theorem Blk.new1 (W : World) (o : Obj) (T : TypeId) (cs : Array Value) : Blk ((W.alloc o).alloc (.cells cs T)) (W.heap.size + 1) T cs := by
  have h := Blk.new (W.alloc o) T cs
  rwa [World.size_alloc] at h
theorem Blk.lt (h : Blk W b T cs) : b < W.heap.size := (Array.getElem?_eq_some_iff.1 h).1
theorem Blk.below {B : Nat} (h : Blk W b T cs) (hb : Below B W W') (hB : b < B) : Blk W' b T cs := (hb.block b hB).trans h
theorem Blk.below' (h : Blk W b T cs) (hb : Below W.heap.size W W') : Blk W' b T cs := h.below hb h.lt
theorem Blk.alloc (h : Blk W b T cs) (o : Obj) : Blk (W.alloc o) b T cs := h.below' ((Below.refl _ W).alloc (Nat.le_refl _) o)
theorem Blk.drew (h : Blk W b T cs) : Blk W.drew b T cs := h
theorem Blk.cell (h : Blk W b T cs) (i : Nat) : W.cell? ⟨b, i, none⟩ = cs[i]? := Joins.cell_of_block h i
theorem Blk.frozen (h : Blk W b T cs) (i : Nat) : W.frozen? ⟨b, i, none⟩ = false := Joins.unfrozen_of_block h i
theorem Blk.set (h : Blk W b T cs) (i : Nat) (v : Value) : Blk (W.setCell ⟨b, i, none⟩ v) b T (cs.setIfInBounds i v) := Joins.block_setCell h v
theorem Blk.other (h : Blk W b T cs) {g : Nat} (hg : b ≠ g) (i : Nat) (v : Value) : Blk (W.setCell ⟨g, i, none⟩ v) b T cs := (heap_setCell_other W ⟨g, i, none⟩ b v hg).trans h
/-- A result that lies in the block. -/
theorem Blk.res {P : Program} (h : Blk W b T cs) {fn : Func} {p : Tmp} {ty : TypeId} (hf : fn.results = #[.cell p ty]) (tmps : Array Value) (hp : tmps.getD p undef = .pointer (some ⟨b, 0, none⟩)) {d : TypeDesc}
    (hu : P.underlying ty = some d) (hd : (match d with | .struct _ | .array _ _ => true | _ => false) = true) (hi : (P.info? ty).map (·.size) = some cs.size) : (results fn tmps).run P W = .ok (.agg cs) W :=
  results_cell_row hf tmps W b T _ (0, 0) d hp h hu hd hi
end
end Go.Proofs.YtnckpjcfgeajbaaGreatDoor
