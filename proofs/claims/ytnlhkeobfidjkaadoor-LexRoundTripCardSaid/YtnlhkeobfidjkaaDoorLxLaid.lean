/-
  What the listed package-level variables give the walks: the library's variable ErrRange holds an error and its table of powers of ten holds them; a world exists in which they are laid.
-/
import Derived.Test.YtnlhkeobfidjkaaDoorExample
import Derived.Test.YtnlhkeobfidjkaaDoorTie
import Derived.ProofKit
import Derived.LaidMore
import Derived.OpenShut
import Derived.Stop.Joined
import Derived.Stop.LaidErr
import Derived.Lib.LaidTab
import Derived.Below
import Derived.ChangeSame
namespace Go.Proofs.YtnlhkeobfidjkaaDoor
open Go.ChangeShapes Go.WideShapes Go.ChangeAt Go.WideMaps Go.WideElems Go.RowKit

theorem ownKnob0 : ownKnob Tryd.prog.godebug = none := by kernel_rfl
theorem gRangeT : (Tryd.prog.globals[2]?).map (·.type) = some 60 := by kernel_rfl
theorem cellsES : Tryd.prog.cellsOf 102 = 1 := by kernel_rfl
theorem cellsStr : Tryd.prog.cellsOf 9 = 1 := by kernel_rfl
theorem starES : "*" ++ "errors.errorString" = "*errors.errorString" := by decide
theorem rowES (u : TypeId) (h : Tryd.prog.typeName? 3 u = some "*errors.errorString") : u = 100 :=
  typeName_ptr_named (nm := "errors.errorString") (by rw [starES]; kernel_rfl) (by kernel_rfl) (by decide) u (by rw [starES]; exact h)
/-- The list of five of the laws. -/
abbrev laid5 : List (String × DataW Unit) := Rows.lexScansRow.laid

theorem met5 {W : World} (h : laidMetH Tryd.prog laid5 W) : laidMet Tryd.prog laid5 W := by
  rwa [MakeChecks.laidMetH_plain _ _ _ (by kernel_rfl)] at h

theorem ev_of_laid {r : List (String × DataW Unit)} {W : World} (h : laidMet Tryd.prog (("strconv.ErrRange", Rows.laid_strconv_ErrRange) :: r) W) : Ev W := by
  obtain ⟨a0, s0, hv0, -, -, -⟩ := laid_sentinel h gRange gRangeT Tryd.underlying60 rowES Tryd.underlying100 Tryd.underlying102 rfl rfl Tryd.underlying9 cellsES cellsStr
  exact ⟨_, _, hv0⟩
theorem ev5 {W : World} (h : laidMetH Tryd.prog laid5 W) : Ev W := ev_of_laid (met5 h).tail.tail.tail
theorem door5 (os : Os) (args : Array Value) : laidMetH Tryd.prog laid5 ((World.doorLaid Tryd.prog 400 os).forCall (fun _ _ => 0) ⟨#[], args, []⟩).memory := by
  rw [MakeChecks.laidMetH_plain _ _ _ (by kernel_rfl)]
  exact laidMet_of_run' 8 (by kernel_rfl) (by kernel_rfl)
end Go.Proofs.YtnlhkeobfidjkaaDoor
