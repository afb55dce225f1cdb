/-
  The law AstExpr holds where the arguments are of bulk at most 1048576: for every expression and list of strings it returns true and leaves its arguments as they were, where the listed variables are laid as the program's text lays them.
-/
import Derived.Test.YtiaendggmamnkaaGreatDoorEAsCe
namespace Go.Proofs.YtiaendggmamnkaaGreatDoor.astExpr
open Go Go.ChangeShapes Go.WideShapes Go.ChangeAt Go.WideMaps Go.WideElems Go.RowKit Go.ChangeMaps

theorem closedA : joinedFacts Tryz.pinned.checked.prog 4 Tryz.f4 (Rows.OpenSpec.upto Rows.astExprSpec).bare Rows.astExprUptoRow = true := by kernel_rfl
theorem instA : Tryz.f4.isInstance Tryz.pinned.checked.prog Rows.astExprUptoRow.origin Rows.astExprUptoRow.targs := of_decide_eq_true (by kernel_rfl)
theorem wrapA : Tryz.f4.isWrapper Tryz.pinned.checked.prog Rows.astExprUptoRow.wrapper Rows.astExprUptoRow.mainSum := by unfold Func.isWrapper; first | (rw [if_pos (by decide +kernel)]; kernel_rfl) | (rw [if_neg (by decide +kernel)]; exact ⟨rfl, rfl⟩)
theorem preA {H : Type} (enc : TypeId × Value → H) : Rows.astExprUptoRow.pre enc Tryz.prog Tryz.f4 (Rows.OpenSpec.upto Rows.astExprSpec) = (Rows.OpenSpec.upto Rows.astExprSpec).preRow enc Tryz.prog Tryz.f4 Rows.astExprUptoRow.domain false Rows.astExprUptoRow.laid := OpenClaim.pre_eq_preRow _ _ _ _
theorem stepA (os : Os) (started : os.Started) (H : Type) (enc : TypeId × Value → H) (F : Stop.Interp) : ReturnsInHanded {} Tryz.checked os 4 .any (Rows.astExprUptoRow.pre enc Tryz.prog Tryz.f4 (Rows.OpenSpec.upto Rows.astExprSpec)) (((Rows.OpenSpec.upto Rows.astExprSpec).at F).post enc Tryz.prog Tryz.f4 false true false false) := by
  rw [preA]
  exact lifted os started H enc F
theorem over : Rows.AstExprUptoSaid :=
  OpenClaim.holds_of_cond 4 Tryz.f4 rfl rfl rfl rfl rfl rfl rfl ⟨rfl, rfl, rfl, rfl, rfl⟩ rfl rfl rfl rfl rfl (by kernel_rfl) Tryz.func4 closedA instA wrapA
    (fun os started H enc _ F => stepA os started H enc F)

theorem proved : Rows.AstExprUptoCardSaid :=
  Claim7.holds_tied_plain_at .later [] [.data] true Rows.astExprUptoCard.stood.harness true
    over (fun _ h => by cases h) (by kernel_rfl) (fun _ h => by cases h) astExprUpto_row_tie rfl ⟨rfl, rfl⟩ (by kernel_rfl) rfl
    (fun f fn hf hfn => by
      obtain rfl : f = 4 := Option.some.inj ((show Tryz.prog.funcNamed Rows.astExprUptoRow.func = some 4 by kernel_rfl).symm.trans hf) |>.symm
      obtain rfl : fn = Tryz.f4 := (Option.some.inj (Tryz.func4.symm.trans hfn)).symm
      exact ⟨by kernel_rfl, fun j t ht => by
        rw [Tryz.params4] at ht
        have hm : t ∈ [37, 23] := by simpa using Array.mem_of_getElem? ht
        have hall : ([37, 23].all fun u => !Tryz.prog.wantsStandIn u) = true := by kernel_rfl
        exact (show Tryz.prog.wantsStandIn t = false by simpa using List.all_eq_true.1 hall t hm)⟩)
    (by kernel_rfl)
#print axioms proved
end Go.Proofs.YtiaendggmamnkaaGreatDoor.astExpr
