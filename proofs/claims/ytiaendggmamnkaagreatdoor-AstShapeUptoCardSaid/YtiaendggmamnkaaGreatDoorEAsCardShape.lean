/-
  The law AstShape holds where the arguments are of bulk at most 1048576: for every procedure it returns true and leaves its arguments as they were, where the listed variables are laid as the program's text lays them.
-/
import Derived.Test.YtiaendggmamnkaaGreatDoorEAsSe
namespace Go.Proofs.YtiaendggmamnkaaGreatDoor.astShape
open Go Go.ChangeShapes Go.WideShapes Go.ChangeAt Go.WideMaps Go.WideElems Go.RowKit Go.ChangeMaps

theorem closedA : joinedFacts Tryz.pinned.checked.prog 5 Tryz.f5 (Rows.OpenSpec.upto Rows.astShapeSpec).bare Rows.astShapeUptoRow = true := by kernel_rfl
theorem instA : Tryz.f5.isInstance Tryz.pinned.checked.prog Rows.astShapeUptoRow.origin Rows.astShapeUptoRow.targs := of_decide_eq_true (by kernel_rfl)
theorem wrapA : Tryz.f5.isWrapper Tryz.pinned.checked.prog Rows.astShapeUptoRow.wrapper Rows.astShapeUptoRow.mainSum := by unfold Func.isWrapper; first | (rw [if_pos (by decide +kernel)]; kernel_rfl) | (rw [if_neg (by decide +kernel)]; exact ⟨rfl, rfl⟩)
theorem preA {H : Type} (enc : TypeId × Value → H) : Rows.astShapeUptoRow.pre enc Tryz.prog Tryz.f5 (Rows.OpenSpec.upto Rows.astShapeSpec) = (Rows.OpenSpec.upto Rows.astShapeSpec).preRow enc Tryz.prog Tryz.f5 Rows.astShapeUptoRow.domain false Rows.astShapeUptoRow.laid := OpenClaim.pre_eq_preRow _ _ _ _
theorem stepA (os : Os) (started : os.Started) (H : Type) (enc : TypeId × Value → H) (F : Stop.Interp) : ReturnsInHanded {} Tryz.checked os 5 .any (Rows.astShapeUptoRow.pre enc Tryz.prog Tryz.f5 (Rows.OpenSpec.upto Rows.astShapeSpec)) (((Rows.OpenSpec.upto Rows.astShapeSpec).at F).post enc Tryz.prog Tryz.f5 false true false false) := by
  rw [preA]
  exact lifted os started H enc F
theorem over : Rows.AstShapeUptoSaid :=
  OpenClaim.holds_of_cond 5 Tryz.f5 rfl rfl rfl rfl rfl rfl rfl ⟨rfl, rfl, rfl, rfl, rfl⟩ rfl rfl rfl rfl rfl (by kernel_rfl) Tryz.func5 closedA instA wrapA
    (fun os started H enc _ F => stepA os started H enc F)

theorem proved : Rows.AstShapeUptoCardSaid :=
  Claim7.holds_tied_plain_at .later [] [.data] true Rows.astShapeUptoCard.stood.harness true
    over (fun _ h => by cases h) (by kernel_rfl) (fun _ h => by cases h) astShapeUpto_row_tie rfl ⟨rfl, rfl⟩ (by kernel_rfl) rfl
    (fun f fn hf hfn => by
      obtain rfl : f = 5 := Option.some.inj ((show Tryz.prog.funcNamed Rows.astShapeUptoRow.func = some 5 by kernel_rfl).symm.trans hf) |>.symm
      obtain rfl : fn = Tryz.f5 := (Option.some.inj (Tryz.func5.symm.trans hfn)).symm
      exact ⟨by kernel_rfl, fun j t ht => by
        rw [Tryz.params5] at ht
        have hm : t ∈ [44] := by simpa using Array.mem_of_getElem? ht
        have hall : ([44].all fun u => !Tryz.prog.wantsStandIn u) = true := by kernel_rfl
        exact (show Tryz.prog.wantsStandIn t = false by simpa using List.all_eq_true.1 hall t hm)⟩)
    (by kernel_rfl)
#print axioms proved
end Go.Proofs.YtiaendggmamnkaaGreatDoor.astShape
