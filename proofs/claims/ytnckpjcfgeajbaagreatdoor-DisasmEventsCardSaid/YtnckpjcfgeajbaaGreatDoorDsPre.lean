/-
  What the texts of package disasm rest on: the contracts of the checks, the names, the notation of numbers, the strings that are built.
-/
import Derived.Test.YtnckpjcfgeajbaaGreatDoorPgY
import Derived.Test.YtnckpjcfgeajbaaGreatDoorPgX6
import Derived.Test.YtnckpjcfgeajbaaGreatDoorInsU
import Derived.Test.YtnckpjcfgeajbaaGreatDoorInsH
import Derived.Test.YtnckpjcfgeajbaaGreatDoorDsF
import Derived.Test.YtnckpjcfgeajbaaGreatDoorLxB
import Derived.Laws.EntriesVeiled
import Derived.Deep.QuietTactic
import Derived.BigQuiet
namespace Go.Proofs.YtnckpjcfgeajbaaGreatDoor
open Go Go.RowKit

theorem isBuilderBelow {T e : TypeId} {B b : Nat} {bs : List Value} {W W' : World} (h : Lib.IsBuilder T e B b bs W) (hb : Below W.heap.size W W') : Lib.IsBuilder T e B b bs W' := by
  have key : ∀ p, Lib.BuilderAt T e B b p bs W → Lib.BuilderAt T e B b p bs W' := by
    intro p h
    have hlt := h.lt
    obtain ⟨hB, v, hv, hown, hne⟩ := h
    exact ⟨hB, v, (hb.block b hlt).trans hv, ownChgK hown (Chg.ofBelow hb fun _ => True) fun _ _ => trivial, hne⟩
  exact h.elim (fun x => .inl (key _ x)) (fun x => .inr (key _ x))
theorem newBuilder (w : World) : Lib.IsBuilder 105 5 w.heap.size w.heap.size [] (w.alloc (.cells #[.pointer none, .slice none 0 0] 105)) :=
  .inl ⟨Nat.le_refl _, _, heap_alloc_new w _, World.ownsRow_nil _ _ _ _, by simp [Value.ownBlock]⟩
theorem bsApp (a b : List UInt8) : bs (a ++ b) = bs a ++ bs b := by
  apply ByteArray.ext
  simp [bs]
theorem strBs {l : List UInt8} {s : ByteArray} (h : bs l = s) : Lib.strCells s = Lib.byteCells l := by
  rw [← h, Lib.strCells_eq, bsTo]
theorem gTab : Tryz.prog.globalNamed "internal/strconv.uint64pow10" = some 6 := by kernel_rfl
theorem Tb.stays {w w' : World} (h : Tb w) (hb : Below w.heap.size w w') : Tb w' := Joins.var_stays gTab h hb (Nat.le_refl _)
theorem dsRoots : True := by
  have := @iCheckP
  have := @rSmall
  have := @rEqual
  have := @eqPIff
  have := @iMnem
  have := @iOrd
  have := @vForm
  have := @vName
  have := @vWrap
  have := @bWrite
  have := @bString
  have := @PgW.below
  have := @PBox.below
  have := @PBox.facts
  have := @PgA.val
  have := @I8.val
  have := @iCheck
  have := @dataApp
  trivial
end Go.Proofs.YtnckpjcfgeajbaaGreatDoor
