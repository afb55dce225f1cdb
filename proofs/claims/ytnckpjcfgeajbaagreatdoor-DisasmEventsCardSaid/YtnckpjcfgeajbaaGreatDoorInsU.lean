/-
  The contracts of inst.Uses and inst.Defines: the registers that an instruction reads and writes.
-/
import Derived.Test.YtnckpjcfgeajbaaGreatDoorInsC
import Derived.Test.YtnckpjcfgeajbaaGreatDoorPgM
import Derived.Test.YtnckpjcfgeajbaaGreatDoorOwnI
import Derived.Test.YtnckpjcfgeajbaaGreatDoorChg
namespace Go.Proofs.YtnckpjcfgeajbaaGreatDoor
open Go Go.RowKit Go.Sort

theorem iCheckA (op a b c obj n fn ord r : Int) (hr : (I8.mk8 op a b c obj n fn ord).chk = r) (hi : (I8.mk8 op a b c obj n fn ord).Wf) (w : World) (hT : InsT w) (hN : Nm w) :
    Calls Tryz.prog 63 #[.agg #[.int .i64 op, .int .i64 a, .int .i64 b, .int .i64 c, .int .i64 obj, .int .i64 n, .int .i64 fn, .int .i64 ord]] w fun e w' => e = .returned (.int .i64 r) ∧ Below w.heap.size w w' := iCheck _ r hr hi w hT hN
theorem InsT.below {W X : World} {B : Nat} (h : InsT W) (hb : Below B W X) (hB : W.heap.size ≤ B := by exact Nat.le_refl _) : InsT X :=
  ⟨fun k hk => (hb.cell (Nat.lt_of_lt_of_le (World.block_lt_of_cell? _ _ (h.nm k hk)) hB)).trans (h.nm k hk), fun k f hk hf => (hb.cell (Nat.lt_of_lt_of_le (World.block_lt_of_cell? _ _ (h.us k f hk hf)) hB)).trans (h.us k f hk hf)⟩
theorem OrT.below {W X : World} {B : Nat} (h : OrT W) (hb : Below B W X) (hB : W.heap.size ≤ B := by exact Nat.le_refl _) : OrT X :=
  fun k hk => (hb.cell (Nat.lt_of_lt_of_le (World.block_lt_of_cell? _ _ (h k hk)) hB)).trans (h k hk)
theorem boxFactsW {W : World} {n0 : Nat} {k a b c obj n fn ord : Int} (h : Blk W n0 41 #[.int .i64 k, .int .i64 a, .int .i64 b, .int .i64 c, .int .i64 obj, .int .i64 n, .int .i64 fn, .int .i64 ord]) :
    W.cell? ⟨n0, 0, none⟩ = some (.int .i64 k) ∧ W.cell? ⟨n0, 1, none⟩ = some (.int .i64 a) ∧ W.cell? ⟨n0, 2, none⟩ = some (.int .i64 b) ∧ W.cell? ⟨n0, 3, none⟩ = some (.int .i64 c) ∧ W.cell? ⟨n0, 4, none⟩ = some (.int .i64 obj) ∧ W.cell? ⟨n0, 5, none⟩ = some (.int .i64 n) ∧ W.cell? ⟨n0, 6, none⟩ = some (.int .i64 fn) ∧ W.cell? ⟨n0, 7, none⟩ = some (.int .i64 ord) :=
  ⟨h.cell 0, h.cell 1, h.cell 2, h.cell 3, h.cell 4, h.cell 5, h.cell 6, h.cell 7⟩
end Go.Proofs.YtnckpjcfgeajbaaGreatDoor
