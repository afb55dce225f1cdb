/-
  The specification's Check, final and Thread.
-/
import Derived.Test.YtnnpkbonbemeaaaDoorYSh
import Derived.Test.YtnnpkbonbemeaaaDoorYCt
namespace Go.Proofs.YtnnpkbonbemeaaaDoor
open Go Go.RowKit Go.Maps

theorem rChk15 (nm : ByteArray) (C : List I8) (n : Nat) (hn : C.length = n) (A : Option Addr) (c : Nat) (w : World) (h : CdW w A c C) :
    Calls Tryd.prog 23 #[fnV nm A n c] w fun e w' => e = .returned (.int .i64 (cfE C)) ∧ Below w.heap.size w w' := by
  obtain ⟨W, hW⟩ : ∃ W, w.alloc (.cells #[.string nm, .slice A n c] 42) = W := ⟨_, rfl⟩
  have hbW : Below w.heap.size w W := by rw [← hW]; exact belowAlloc w _
  have hB : Blk W w.heap.size 42 #[.string nm, .slice A n c] := by rw [← hW]; exact Blk.new w _ _
  have k0 : W.cell? ⟨w.heap.size, 0, none⟩ = some (.string nm) := hB.cell 0
  have k1 : W.cell? ⟨w.heap.size, 1, none⟩ = some (.slice A n c) := hB.cell 1
  have HC := Lib.hid (rCk12 nm C n hn A c W (h.below hbW))
  have HW := Lib.hid hW
  have HBW := Lib.hid hbW
  unfold fnV at HC ⊢
  generalize cfE C = er at HC ⊢
  clear h hB hW hbW hn
  go_enter Tryd.func23, Tryd.ntmps23
  go_wp2_with fail
  rw [HW.out]
  go_wp2_with fail
  refine HC.out.mono ?_
  rintro e w1 ⟨rfl, b1⟩
  go_wp2
  go_ret
  exact ⟨rfl, belowThen HBW.out b1⟩
end Go.Proofs.YtnnpkbonbemeaaaDoor
