/-
  What a call leaves unchanged, block by block; rows that are owned stay owned. Without any program.
-/
import Derived.Test.YtnckpjcfgeajbaaGreatDoorSl
namespace Go.Proofs.YtnckpjcfgeajbaaGreatDoor
open Go.RowKit

/-- From w to w' the blocks of w that meet F have not changed. -/
structure Chg (w w' : World) (F : Nat → Prop) : Prop where
  os : w'.os = w.os
  tape : w'.tape = w.tape
  output : w'.output = w.output
  size : w.heap.size ≤ w'.heap.size
  block : ∀ k, k < w.heap.size → F k → w'.heap[k]? = w.heap[k]?

section
variable {a b c w w' : World} {F G : Nat → Prop}
theorem Chg.refl (w : World) (F : Nat → Prop) : Chg w w F := ⟨rfl, rfl, rfl, Nat.le_refl _, fun _ _ _ => rfl⟩
theorem Chg.trans (h : Chg a b F) (k : Chg b c G) (hG : ∀ i, i < a.heap.size → F i → G i) : Chg a c F :=
  ⟨k.os.trans h.os, k.tape.trans h.tape, k.output.trans h.output, Nat.le_trans h.size k.size, fun i hi hF => (k.block i (Nat.lt_of_lt_of_le hi h.size) (hG i hi hF)).trans (h.block i hi hF)⟩
theorem Chg.ofBelow (h : Below w.heap.size w w') (F : Nat → Prop) : Chg w w' F := ⟨h.os, h.tape, h.output, h.size, fun k hk _ => h.block k hk⟩
theorem Chg.below (h : Chg w w' F) (hF : ∀ k, k < w.heap.size → F k) : Below w.heap.size w w' := ⟨h.os, h.tape, h.output, h.size, fun k hk => h.block k hk (hF k hk)⟩
theorem Chg.mono (h : Chg w w' F) (hG : ∀ k, G k → F k) : Chg w w' G := ⟨h.os, h.tape, h.output, h.size, fun k hk hg => h.block k hk (hG k hg)⟩
theorem Chg.alloc (w : World) (o : Obj) (F : Nat → Prop) : Chg w (w.alloc o) F := Chg.ofBelow ((Below.refl _ w).alloc (Nat.le_refl _) o) F
theorem Chg.drewN (w : World) (n : Nat) (F : Nat → Prop) : Chg w (w.drewN n) F := Chg.ofBelow (belowN w n) F

end

end Go.Proofs.YtnckpjcfgeajbaaGreatDoor
