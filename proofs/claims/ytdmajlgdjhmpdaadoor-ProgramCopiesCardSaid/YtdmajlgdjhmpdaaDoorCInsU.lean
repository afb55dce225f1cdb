/-
  The contracts of inst.Uses and inst.Defines: the registers that an instruction reads and writes.
-/
import Derived.Test.YtdmajlgdjhmpdaaDoorCInsC
import Derived.Test.YtdmajlgdjhmpdaaDoorCMkOf
namespace Go.Proofs.YtdmajlgdjhmpdaaDoor
open Go Go.RowKit Go.Sort

theorem iCheckA (op a b c obj n fn ord r : Int) (hr : (I8.mk8 op a b c obj n fn ord).chk = r) (hi : (I8.mk8 op a b c obj n fn ord).Wf) (w : World) (hT : InsT w) (hN : Nm w) :
    Calls Tryd.prog 63 #[.agg #[.int .i64 op, .int .i64 a, .int .i64 b, .int .i64 c, .int .i64 obj, .int .i64 n, .int .i64 fn, .int .i64 ord]] w fun e w' => e = .returned (.int .i64 r) ∧ Below w.heap.size w w' := iCheck _ r hr hi w hT hN
theorem InsT.below {W X : World} {B : Nat} (h : InsT W) (hb : Below B W X) (hB : W.heap.size ≤ B := by exact Nat.le_refl _) : InsT X :=
  ⟨fun k hk => (hb.cell (Nat.lt_of_lt_of_le (World.block_lt_of_cell? _ _ (h.nm k hk)) hB)).trans (h.nm k hk), fun k f hk hf => (hb.cell (Nat.lt_of_lt_of_le (World.block_lt_of_cell? _ _ (h.us k f hk hf)) hB)).trans (h.us k f hk hf)⟩
/-- The call's own box of an instruction. -/
theorem boxNew (w : World) (k a b c obj n fn ord : Int) : ∃ W, w.alloc (.cells #[.int .i64 k, .int .i64 a, .int .i64 b, .int .i64 c, .int .i64 obj, .int .i64 n, .int .i64 fn, .int .i64 ord] 40) = W ∧ Below w.heap.size w W ∧ W.heap.size = w.heap.size + 1 ∧
    Blk W w.heap.size 40 #[.int .i64 k, .int .i64 a, .int .i64 b, .int .i64 c, .int .i64 obj, .int .i64 n, .int .i64 fn, .int .i64 ord] :=
  ⟨_, rfl, belowAlloc w _, by simp, Blk.new w _ _⟩
theorem boxFactsW {W : World} {n0 : Nat} {k a b c obj n fn ord : Int} (h : Blk W n0 40 #[.int .i64 k, .int .i64 a, .int .i64 b, .int .i64 c, .int .i64 obj, .int .i64 n, .int .i64 fn, .int .i64 ord]) :
    W.cell? ⟨n0, 0, none⟩ = some (.int .i64 k) ∧ W.cell? ⟨n0, 1, none⟩ = some (.int .i64 a) ∧ W.cell? ⟨n0, 2, none⟩ = some (.int .i64 b) ∧ W.cell? ⟨n0, 3, none⟩ = some (.int .i64 c) ∧ W.cell? ⟨n0, 4, none⟩ = some (.int .i64 obj) ∧ W.cell? ⟨n0, 5, none⟩ = some (.int .i64 n) ∧ W.cell? ⟨n0, 6, none⟩ = some (.int .i64 fn) ∧ W.cell? ⟨n0, 7, none⟩ = some (.int .i64 ord) :=
  ⟨h.cell 0, h.cell 1, h.cell 2, h.cell 3, h.cell 4, h.cell 5, h.cell 6, h.cell 7⟩
theorem belowAl3 {B : Nat} (w : World) (h : B ≤ w.heap.size) (o : Obj) : Below B w (w.alloc o) := (Below.refl _ w).alloc h o
theorem usesNo {i : I8} (h : i.chk ≠ 0) : i.uses = [] := by unfold I8.uses; rw [if_neg h]
theorem usesYes {i : I8} (h : i.chk = 0) {q1 q2 : Bool} (h1 : i.u 1 = q1) (h2 : i.u 2 = q2) : i.uses = mk ((if q1 then [i.b] else []) ++ (if q2 then [i.c] else [])) := by unfold I8.uses I8.rdL; rw [if_pos h, h1, h2]

end Go.Proofs.YtdmajlgdjhmpdaaDoor
