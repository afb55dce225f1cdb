/-
  Words for slices, without any program: a slice that reads as a list of cells, nil let in; a row that the call owns; append onto such a row.
-/
import Derived.WalkKit
import Derived.OwnWalk
import Derived.Maps.AppendAt
import Derived.Deep.Draws
import Derived.Lib.Hide
import Derived.Laws.OwnMore
import Derived.Test.YtiaendggmamnkaaGreatDoorProg
import Derived.KernelRfl
import Derived.Laws.Rows
import Derived.Lib.SmallJoins
import Derived.RangeFuncNested
import Derived.RangeFuncBound
import Derived.RangeFuncCalls
import Derived.RangeFuncLeaves
namespace Go.Proofs.YtiaendggmamnkaaGreatDoor
open Go.RowKit

section
variable {w w' : World} {A : Option Addr} {c : Nat} {xs : List Value}
end

section
variable {P : Program} (w : World)

end

section
variable {w w' : World} {A : Option Addr} {c : Nat} {l : List Int}
end
theorem belowDrewN {B : Nat} {a w : World} (h : Below B a w) (n : Nat) : Below B a (w.drewN n) := ⟨h.os, h.tape, h.output, h.size, h.block⟩
theorem belowN (w : World) (n : Nat) : Below w.heap.size w (w.drewN n) := belowDrewN (Below.refl _ _) n
theorem belowAlloc (w : World) (o : Obj) : Below w.heap.size w (w.alloc o) := (Below.refl _ w).alloc (Nat.le_refl _) o
/-- Two steps, each of which leaves what was there before it. -/
theorem belowThen {a b c : World} (h : Below a.heap.size a b) (k : Below b.heap.size b c) : Below a.heap.size a c := h.trans (k.mono h.size)
end Go.Proofs.YtiaendggmamnkaaGreatDoor

namespace Go.Proofs.YtiaendggmamnkaaGreatDoor
open Go.RowKit

/-- From w to w' the blocks of w that meet F have not changed. -/
structure Chg (w w' : World) (F : Nat → Prop) : Prop where
  os : w'.os = w.os
  tape : w'.tape = w.tape
  output : w'.output = w.output
  size : w.heap.size ≤ w'.heap.size
  block : ∀ k, k < w.heap.size → F k → w'.heap[k]? = w.heap[k]?

section
variable {a b c w w' : World} {F G : Nat → Prop}
theorem Chg.refl (w : World) (F : Nat → Prop) : Chg w w F := ⟨rfl, rfl, rfl, Nat.le_refl _, fun _ _ _ => rfl⟩
theorem Chg.trans (h : Chg a b F) (k : Chg b c G) (hG : ∀ i, i < a.heap.size → F i → G i) : Chg a c F :=
  ⟨k.os.trans h.os, k.tape.trans h.tape, k.output.trans h.output, Nat.le_trans h.size k.size, fun i hi hF => (k.block i (Nat.lt_of_lt_of_le hi h.size) (hG i hi hF)).trans (h.block i hi hF)⟩
theorem Chg.ofGrown {row : Option Nat} (h : w.grownBy w' row) (hF : ∀ k, F k → row ≠ some k) : Chg w w' F := ⟨h.os, h.tape, h.output, h.size, fun k hk hf => h.block k hk (fun e => hF k hf e.symm)⟩
theorem Chg.ofBelow (h : Below w.heap.size w w') (F : Nat → Prop) : Chg w w' F := ⟨h.os, h.tape, h.output, h.size, fun k hk _ => h.block k hk⟩
theorem Chg.below (h : Chg w w' F) (hF : ∀ k, k < w.heap.size → F k) : Below w.heap.size w w' := ⟨h.os, h.tape, h.output, h.size, fun k hk => h.block k hk (hF k hk)⟩
theorem Chg.mono (h : Chg w w' F) (hG : ∀ k, G k → F k) : Chg w w' G := ⟨h.os, h.tape, h.output, h.size, fun k hk hg => h.block k hk (hG k hg)⟩
theorem Chg.alloc (w : World) (o : Obj) (F : Nat → Prop) : Chg w (w.alloc o) F := Chg.ofBelow ((Below.refl _ w).alloc (Nat.le_refl _) o) F
theorem Chg.drewN (w : World) (n : Nat) (F : Nat → Prop) : Chg w (w.drewN n) F := Chg.ofBelow (belowN w n) F

end

end Go.Proofs.YtiaendggmamnkaaGreatDoor

namespace Go.Proofs.YtiaendggmamnkaaGreatDoor
open Go.RowKit

theorem stepA {a b c : World} {o : Obj} (h : Below a.heap.size a b) (k : Below a.heap.size (b.alloc o) c) : Below a.heap.size a c := (h.alloc h.size o).trans k
end Go.Proofs.YtiaendggmamnkaaGreatDoor

namespace Go.Proofs.YtiaendggmamnkaaGreatDoor
open Go Go.RowKit

/-- Block b holds the cells cs. -/
def Blk (W : World) (b : Nat) (T : TypeId) (cs : Array Value) : Prop := W.heap[b]? = some (.cells cs T (0, 0))
section
variable {W W' : World} {b : Nat} {T : TypeId} {cs : Array Value}
theorem Blk.new (W : World) (T : TypeId) (cs : Array Value) : Blk (W.alloc (.cells cs T)) W.heap.size T cs := heap_alloc_new W _
theorem Blk.new1 (W : World) (o : Obj) (T : TypeId) (cs : Array Value) : Blk ((W.alloc o).alloc (.cells cs T)) (W.heap.size + 1) T cs := by
  have h := Blk.new (W.alloc o) T cs
  rwa [World.size_alloc] at h
theorem Blk.lt (h : Blk W b T cs) : b < W.heap.size := (Array.getElem?_eq_some_iff.1 h).1
theorem Blk.below {B : Nat} (h : Blk W b T cs) (hb : Below B W W') (hB : b < B) : Blk W' b T cs := (hb.block b hB).trans h
theorem Blk.below' (h : Blk W b T cs) (hb : Below W.heap.size W W') : Blk W' b T cs := h.below hb h.lt
theorem Blk.alloc (h : Blk W b T cs) (o : Obj) : Blk (W.alloc o) b T cs := h.below' ((Below.refl _ W).alloc (Nat.le_refl _) o)
theorem Blk.drew (h : Blk W b T cs) : Blk W.drew b T cs := h
theorem Blk.cell (h : Blk W b T cs) (i : Nat) : W.cell? ⟨b, i, none⟩ = cs[i]? := Joins.cell_of_block h i
theorem Blk.frozen (h : Blk W b T cs) (i : Nat) : W.frozen? ⟨b, i, none⟩ = false := Joins.unfrozen_of_block h i
theorem Blk.set (h : Blk W b T cs) (i : Nat) (v : Value) : Blk (W.setCell ⟨b, i, none⟩ v) b T (cs.setIfInBounds i v) := Joins.block_setCell h v
theorem Blk.other (h : Blk W b T cs) {g : Nat} (hg : b ≠ g) (i : Nat) (v : Value) : Blk (W.setCell ⟨g, i, none⟩ v) b T cs := (heap_setCell_other W ⟨g, i, none⟩ b v hg).trans h
/-- A result that lies in the block. -/
theorem Blk.res {P : Program} (h : Blk W b T cs) {fn : Func} {p : Tmp} {ty : TypeId} (hf : fn.results = #[.cell p ty]) (tmps : Array Value) (hp : tmps.getD p undef = .pointer (some ⟨b, 0, none⟩)) {d : TypeDesc}
    (hu : P.underlying ty = some d) (hd : (match d with | .struct _ | .array _ _ => true | _ => false) = true) (hi : (P.info? ty).map (·.size) = some cs.size) : (results fn tmps).run P W = .ok (.agg cs) W :=
  results_cell_row hf tmps W b T _ (0, 0) d hp h hu hd hi
end
end Go.Proofs.YtiaendggmamnkaaGreatDoor

namespace Go.Proofs.YtiaendggmamnkaaGreatDoor
open Go Go.RowKit

/-- The mark of a range over a function. -/
def markR (D : Nat) : Deferred := { target := .collected D, args := #[] }
/-- The blocks of the marks: each holds no call. -/
def OpenR (Ds : List Nat) (W : World) : Prop := ∀ D ∈ Ds, W.heap[D]? = some (.deferred (some []))
theorem OpenR.keep {Ds : List Nat} {W W' : World} (h : OpenR Ds W) (hk : ∀ D ∈ Ds, W'.heap[D]? = W.heap[D]?) : OpenR Ds W' := fun D hD => (hk D hD).trans (h D hD)
theorem OpenR.lt {Ds : List Nat} {W : World} (h : OpenR Ds W) {D : Nat} (hD : D ∈ Ds) : D < W.heap.size := (Array.getElem?_eq_some_iff.1 (h D hD)).1
theorem OpenR.chg {Ds : List Nat} {W W' : World} {F : Nat → Prop} (h : OpenR Ds W) (hc : Chg W W' F) (hF : ∀ D ∈ Ds, F D) : OpenR Ds W' := h.keep fun D hD => hc.block D (h.lt hD) (hF D hD)
/-- A function that leaves with marks alone: each block is shut, then it returns. -/
theorem leaveR {F : Fence} {n : Nat} {P : Program} {fn : Func} {tmps : Array Value} {R : Ending → World → Prop} {K : World → Prop} {B : Nat} (hK : ∀ (W : World) (D : Nat), B ≤ D → W.heap[D]? = some (.deferred (some [])) → K W → K (W.putObj D (.deferred none)))
    (hfin : ∀ W, K W → LeavesIn F n P fn tmps R [] .returning W) : ∀ (Ds : List Nat) (W : World), Ds.Nodup → (∀ D ∈ Ds, B ≤ D) → OpenR Ds W → K W → LeavesInM F n P fn tmps R (Ds.map markR) .returning W
  | [], W, _, _, _, h => hfin W h
  | D :: Ds, W, hn, hB, ho, h => by
    rw [List.nodup_cons] at hn
    have hd := ho D (by simp)
    refine ⟨by simp, .inl ⟨D, W.putObj D (.deferred none), rfl, run_takeDeferred hd, ?_⟩⟩
    refine leaveR hK hfin Ds _ hn.2 (fun D' h' => hB D' (by simp [h'])) (fun D' h' => ?_) (hK W D (hB D (by simp)) hd h)
    have hne : D' ≠ D := fun e => hn.1 (e ▸ h')
    exact (World.putObj_heap_other hne).trans (ho D' (by simp [h']))
theorem belowPutR {w W : World} {D : Nat} {o : Obj} (h : Below w.heap.size w W) (hD : w.heap.size ≤ D) : Below w.heap.size w (W.putObj D o) :=
  ⟨h.os, h.tape, h.output, by simpa using h.size, fun k hk => (World.putObj_heap_other (by omega)).trans (h.block k hk)⟩
end Go.Proofs.YtiaendggmamnkaaGreatDoor
