/-
  The contract of the specification's Rename: the renamed instruction or the error.
-/
import Derived.Test.YtdmajlgdjhmpdaaDoorCInsR
namespace Go.Proofs.YtdmajlgdjhmpdaaDoor
open Go Go.RowKit

/-- What lies in memory while the specification's Rename fills its result: the instruction, the result's place, the copy, the mapping. -/
structure RSt (w : World) (B bb pa pb pc : Nat) (k a b c obj n fn ord ma mb mc a' b' c' : Int) (W : World) : Prop where
  i : Blk W w.heap.size 40 #[.int .i64 k, .int .i64 a, .int .i64 b, .int .i64 c, .int .i64 obj, .int .i64 n, .int .i64 fn, .int .i64 ord]
  r : Blk W (w.heap.size + 1) 40 zeros8
  o : Blk W B 40 #[.int .i64 k, .int .i64 a', .int .i64 b', .int .i64 c', .int .i64 obj, .int .i64 n, .int .i64 fn, .int .i64 ord]
  xa : W.cell? ⟨bb, pa, none⟩ = some (.int .i64 ma)
  xb : W.cell? ⟨bb, pb, none⟩ = some (.int .i64 mb)
  xc : W.cell? ⟨bb, pc, none⟩ = some (.int .i64 mc)
  low : Below w.heap.size w W
  hb : bb < w.heap.size
  hB : w.heap.size + 1 < B
section
variable {w : World} {B bb pa pb pc : Nat} {k a b c obj n fn ord ma mb mc a' b' c' : Int} {W : World} (h : RSt w B bb pa pb pc k a b c obj n fn ord ma mb mc a' b' c' W)
include h
theorem RSt.below {X : World} (hX : Below W.heap.size W X) : RSt w B bb pa pb pc k a b c obj n fn ord ma mb mc a' b' c' X :=
  have hl := Nat.lt_of_lt_of_le h.hb h.low.size
  ⟨h.i.below' hX, h.r.below' hX, h.o.below' hX, (hX.cell hl).trans h.xa, (hX.cell hl).trans h.xb, (hX.cell hl).trans h.xc, h.low.trans (hX.mono h.low.size), h.hb, h.hB⟩
theorem RSt.cellO (p j : Nat) (v : Value) : (W.setCell ⟨B, j, none⟩ v).cell? ⟨bb, p, none⟩ = W.cell? ⟨bb, p, none⟩ := by
  have hne : bb ≠ B := by have := h.hb; have := h.hB; omega
  simp only [World.cell?, heap_setCell_other W ⟨B, j, none⟩ bb v hne]
theorem RSt.put (j : Nat) (v : Value) {x y z : Int} (e : Blk (W.setCell ⟨B, j, none⟩ v) B 40 #[.int .i64 k, .int .i64 x, .int .i64 y, .int .i64 z, .int .i64 obj, .int .i64 n, .int .i64 fn, .int .i64 ord]) : RSt w B bb pa pb pc k a b c obj n fn ord ma mb mc x y z (W.setCell ⟨B, j, none⟩ v) :=
  ⟨h.i.other (by have := h.hB; omega) j v, h.r.other (by have := h.hB; omega) j v, e, (h.cellO _ _ _).trans h.xa, (h.cellO _ _ _).trans h.xb, (h.cellO _ _ _).trans h.xc, belowSt h.low _ _ _ (by have := h.hB; omega), h.hb, h.hB⟩
theorem RSt.setA : RSt w B bb pa pb pc k a b c obj n fn ord ma mb mc ma b' c' (W.setCell ⟨B, 1, none⟩ (.int .i64 ma)) := h.put 1 _ (by simpa using h.o.set 1 (.int .i64 ma))
theorem RSt.setB : RSt w B bb pa pb pc k a b c obj n fn ord ma mb mc a' mb c' (W.setCell ⟨B, 2, none⟩ (.int .i64 mb)) := h.put 2 _ (by simpa using h.o.set 2 (.int .i64 mb))
theorem RSt.setC : RSt w B bb pa pb pc k a b c obj n fn ord ma mb mc a' b' mc (W.setCell ⟨B, 3, none⟩ (.int .i64 mc)) := h.put 3 _ (by simpa using h.o.set 3 (.int .i64 mc))
theorem RSt.facts : ((W.cell? ⟨w.heap.size, 0, none⟩ = some (.int .i64 k) ∧ W.cell? ⟨w.heap.size, 1, none⟩ = some (.int .i64 a) ∧ W.cell? ⟨w.heap.size, 2, none⟩ = some (.int .i64 b) ∧ W.cell? ⟨w.heap.size, 3, none⟩ = some (.int .i64 c) ∧ W.cell? ⟨w.heap.size, 4, none⟩ = some (.int .i64 obj) ∧ W.cell? ⟨w.heap.size, 5, none⟩ = some (.int .i64 n) ∧ W.cell? ⟨w.heap.size, 6, none⟩ = some (.int .i64 fn) ∧ W.cell? ⟨w.heap.size, 7, none⟩ = some (.int .i64 ord)) ∧ (W.frozen? ⟨w.heap.size, 0, none⟩ = false ∧ W.frozen? ⟨w.heap.size, 1, none⟩ = false ∧ W.frozen? ⟨w.heap.size, 2, none⟩ = false ∧ W.frozen? ⟨w.heap.size, 3, none⟩ = false ∧ W.frozen? ⟨w.heap.size, 4, none⟩ = false ∧ W.frozen? ⟨w.heap.size, 5, none⟩ = false ∧ W.frozen? ⟨w.heap.size, 6, none⟩ = false ∧ W.frozen? ⟨w.heap.size, 7, none⟩ = false)) ∧ ((W.cell? ⟨B, 0, none⟩ = some (.int .i64 k) ∧ W.cell? ⟨B, 1, none⟩ = some (.int .i64 a') ∧ W.cell? ⟨B, 2, none⟩ = some (.int .i64 b') ∧ W.cell? ⟨B, 3, none⟩ = some (.int .i64 c') ∧ W.cell? ⟨B, 4, none⟩ = some (.int .i64 obj) ∧ W.cell? ⟨B, 5, none⟩ = some (.int .i64 n) ∧ W.cell? ⟨B, 6, none⟩ = some (.int .i64 fn) ∧ W.cell? ⟨B, 7, none⟩ = some (.int .i64 ord)) ∧ (W.frozen? ⟨B, 0, none⟩ = false ∧ W.frozen? ⟨B, 1, none⟩ = false ∧ W.frozen? ⟨B, 2, none⟩ = false ∧ W.frozen? ⟨B, 3, none⟩ = false ∧ W.frozen? ⟨B, 4, none⟩ = false ∧ W.frozen? ⟨B, 5, none⟩ = false ∧ W.frozen? ⟨B, 6, none⟩ = false ∧ W.frozen? ⟨B, 7, none⟩ = false)) ∧ ((W.cell? ⟨(w.heap.size + 1), 0, none⟩ = some (.int .i64 0) ∧ W.cell? ⟨(w.heap.size + 1), 1, none⟩ = some (.int .i64 0) ∧ W.cell? ⟨(w.heap.size + 1), 2, none⟩ = some (.int .i64 0) ∧ W.cell? ⟨(w.heap.size + 1), 3, none⟩ = some (.int .i64 0) ∧ W.cell? ⟨(w.heap.size + 1), 4, none⟩ = some (.int .i64 0) ∧ W.cell? ⟨(w.heap.size + 1), 5, none⟩ = some (.int .i64 0) ∧ W.cell? ⟨(w.heap.size + 1), 6, none⟩ = some (.int .i64 0) ∧ W.cell? ⟨(w.heap.size + 1), 7, none⟩ = some (.int .i64 0)) ∧ (W.frozen? ⟨(w.heap.size + 1), 0, none⟩ = false ∧ W.frozen? ⟨(w.heap.size + 1), 1, none⟩ = false ∧ W.frozen? ⟨(w.heap.size + 1), 2, none⟩ = false ∧ W.frozen? ⟨(w.heap.size + 1), 3, none⟩ = false ∧ W.frozen? ⟨(w.heap.size + 1), 4, none⟩ = false ∧ W.frozen? ⟨(w.heap.size + 1), 5, none⟩ = false ∧ W.frozen? ⟨(w.heap.size + 1), 6, none⟩ = false ∧ W.frozen? ⟨(w.heap.size + 1), 7, none⟩ = false)) ∧ W.cell? ⟨bb, pa, none⟩ = some (.int .i64 ma) ∧ W.cell? ⟨bb, pb, none⟩ = some (.int .i64 mb) ∧ W.cell? ⟨bb, pc, none⟩ = some (.int .i64 mc) :=
  ⟨blkFacts h.i, blkFacts h.o, blkFacts h.r, h.xa, h.xb, h.xc⟩
end

end Go.Proofs.YtdmajlgdjhmpdaaDoor
