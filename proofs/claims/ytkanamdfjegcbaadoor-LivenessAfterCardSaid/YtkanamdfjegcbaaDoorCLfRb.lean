/-
  The specification's error, Before and Pressure.
-/
import Derived.Test.YtkanamdfjegcbaaDoorCLfRl
import Derived.Test.YtkanamdfjegcbaaDoorCLf4
import Derived.Deep.RegionHeld3
namespace Go.Proofs.YtkanamdfjegcbaaDoor
open Go Go.RowKit Go.Shelf

set_option maxRecDepth 100000 in
set_option maxHeartbeats 4000000 in
theorem rWrong (nm : ByteArray) (C : List I8) (n : Nat) (hn : C.length = n) (A : Option Addr) (c : Nat) (w : World) (h : CdW w A c C) :
    Calls Tryd.prog 41 #[fnV nm A n c] w fun e w' => e = .returned (.int .i64 (cfE C)) ∧ Below w.heap.size w w' := by
  obtain ⟨W, hWE⟩ : ∃ W, w.alloc (.cells #[.string nm, .slice A n c] 24) = W := ⟨_, rfl⟩
  have hbW : Below w.heap.size w W := by rw [← hWE]; exact belowAlloc w _
  have hBF : Blk W w.heap.size 24 #[.string nm, .slice A n c] := by rw [← hWE]; exact Blk.new w _ _
  have k0 : W.cell? ⟨w.heap.size, 0, none⟩ = some (.string nm) := hBF.cell 0
  have k1 : W.cell? ⟨w.heap.size, 1, none⟩ = some (.slice A n c) := hBF.cell 1
  have HR := Lib.hid (rReach nm C n hn A c W (h.below hbW))
  have HW := Lib.hid hWE
  have HBW := Lib.hid hbW
  generalize cfE C = E at HR ⊢
  unfold GivesE9 at HR
  obtain ⟨q, hq⟩ : ∃ q, (rhR C).length = q := ⟨_, rfl⟩
  rw [hq] at HR
  clear hbW hBF hWE h hn hq
  unfold fnV at HR ⊢
  go_enter Tryd.func41, Tryd.ntmps41
  go_wp2_with fail
  rw [HW.out]
  refine HR.out.mono ?_
  rintro e w1 ⟨A1, c1, rfl, _, b1⟩
  go_wp2
  go_ret
  exact ⟨rfl, belowThen HBW.out b1⟩
end Go.Proofs.YtkanamdfjegcbaaDoor
