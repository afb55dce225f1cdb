/-
  The contract of Dominators.
-/
import Derived.Test.YtnnpkbonbemeaaaDoorVCd
namespace Go.Proofs.YtnnpkbonbemeaaaDoor
open Go Go.RowKit Go.Shelf

theorem belowSet9 {B : Nat} {a b : World} (h : Below B a b) (p : Addr) (v : Value) (hp : B ≤ p.block) : Below B a (b.setCell p v) :=
  ⟨h.os, h.tape, h.output, by simpa using h.size, fun k hk => (heap_setCell_other b p k v (by omega)).trans (h.block k hk)⟩
end Go.Proofs.YtnnpkbonbemeaaaDoor
