/-
  The successors as an iterator whose rounds may turn memory, but for the two boxes that it reads.
-/
import Derived.Test.YtkanamdfjegcbaaDoorCCfN
import Derived.Test.YtkanamdfjegcbaaDoorCRg
import Derived.Test.YtkanamdfjegcbaaDoorCOwn
namespace Go.Proofs.YtkanamdfjegcbaaDoor
open Go Go.RowKit Go.Shelf
attribute [local go_sem] Oper.semAt_some

/-- The rounds leave the two boxes. -/
def Keep2 (b1 b2 : Nat) (X Y : World) : Prop := X.heap.size ≤ Y.heap.size ∧ ∀ q, q = b1 ∨ q = b2 → ∀ o, X.heap[q]? = some o → o.isCells = true → Y.heap[q]? = some o
theorem Keep2.trans {b1 b2 : Nat} {X Y Z : World} (h : Keep2 b1 b2 X Y) (k : Keep2 b1 b2 Y Z) : Keep2 b1 b2 X Z := ⟨Nat.le_trans h.1 k.1, fun q hq o ho hc => k.2 q hq o (h.2 q hq o ho hc) hc⟩
theorem Keep2.refl (b1 b2 : Nat) (X : World) : Keep2 b1 b2 X X := ⟨Nat.le_refl _, fun _ _ _ h _ => h⟩
theorem Keep2.put (b1 b2 : Nat) (W : World) (l : Nat) (o o' : Obj) (h : W.heap[l]? = some o) (hc : o.isCells = false) : Keep2 b1 b2 W (W.putObj l o') := ⟨by simp, fun q _ u hu huc => by
  rw [World.putObj_heap_other (fun e => ?_)]
  · exact hu
  · subst e
    rw [h] at hu
    injection hu with hu
    subst hu
    rw [hc] at huc; cases huc⟩
theorem Keep2.cell {b1 b2 : Nat} {X Y : World} (h : Keep2 b1 b2 X Y) : ∀ q, q = b1 ∨ q = b2 → ∀ v, X.cell? ⟨q, 0, none⟩ = some v → Y.cell? ⟨q, 0, none⟩ = some v := fun q hq v hv => by
  obtain ⟨o, h1, h2⟩ := cellHeap hv
  rw [World.cell?_of_block ((h.2 q hq o h1 h2).trans h1.symm), hv]
end Go.Proofs.YtkanamdfjegcbaaDoor

namespace Go.Proofs.YtkanamdfjegcbaaDoor
open Go Go.RowKit

/-- The mark of a range over a function. -/
def markR (D : Nat) : Deferred := { target := .collected D, args := #[] }
/-- The blocks of the marks: each holds no call. -/
def OpenR (Ds : List Nat) (W : World) : Prop := ∀ D ∈ Ds, W.heap[D]? = some (.deferred (some []))
theorem OpenR.keep {Ds : List Nat} {W W' : World} (h : OpenR Ds W) (hk : ∀ D ∈ Ds, W'.heap[D]? = W.heap[D]?) : OpenR Ds W' := fun D hD => (hk D hD).trans (h D hD)
theorem OpenR.lt {Ds : List Nat} {W : World} (h : OpenR Ds W) {D : Nat} (hD : D ∈ Ds) : D < W.heap.size := (Array.getElem?_eq_some_iff.1 (h D hD)).1
theorem OpenR.chg {Ds : List Nat} {W W' : World} {F : Nat → Prop} (h : OpenR Ds W) (hc : Chg W W' F) (hF : ∀ D ∈ Ds, F D) : OpenR Ds W' := h.keep fun D hD => hc.block D (h.lt hD) (hF D hD)
/-- A function that leaves with marks alone: each block is shut, then it returns. -/
theorem leaveR {F : Fence} {n : Nat} {P : Program} {fn : Func} {tmps : Array Value} {R : Ending → World → Prop} {K : World → Prop} {B : Nat} (hK : ∀ (W : World) (D : Nat), B ≤ D → W.heap[D]? = some (.deferred (some [])) → K W → K (W.putObj D (.deferred none)))
    (hfin : ∀ W, K W → LeavesIn F n P fn tmps R [] .returning W) : ∀ (Ds : List Nat) (W : World), Ds.Nodup → (∀ D ∈ Ds, B ≤ D) → OpenR Ds W → K W → LeavesInM F n P fn tmps R (Ds.map markR) .returning W
  | [], W, _, _, _, h => hfin W h
  | D :: Ds, W, hn, hB, ho, h => by
    rw [List.nodup_cons] at hn
    have hd := ho D (by simp)
    refine ⟨by simp, .inl ⟨D, W.putObj D (.deferred none), rfl, run_takeDeferred hd, ?_⟩⟩
    refine leaveR hK hfin Ds _ hn.2 (fun D' h' => hB D' (by simp [h'])) (fun D' h' => ?_) (hK W D (hB D (by simp)) hd h)
    have hne : D' ≠ D := fun e => hn.1 (e ▸ h')
    exact (World.putObj_heap_other hne).trans (ho D' (by simp [h']))
end Go.Proofs.YtkanamdfjegcbaaDoor
