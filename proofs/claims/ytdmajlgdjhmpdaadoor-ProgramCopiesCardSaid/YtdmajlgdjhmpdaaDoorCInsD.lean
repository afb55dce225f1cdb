/-
  The contracts of inst.Defines, and of the specification's Uses and Defines.
-/
import Derived.Test.YtdmajlgdjhmpdaaDoorCInsU
import Derived.Test.YtdmajlgdjhmpdaaDoorCInsG3
import Derived.Test.YtdmajlgdjhmpdaaDoorCRMk
namespace Go.Proofs.YtdmajlgdjhmpdaaDoor
open Go Go.RowKit

theorem dfNo {i : I8} (h : i.chk ≠ 0) : i.dfR = 0 ∧ i.dfB = false := by unfold I8.dfR I8.dfB; simp [h]
theorem dfYes {i : I8} (h : i.chk = 0) {q : Bool} (hq : i.u 0 = q) : i.dfR = (if q then i.a else 0) ∧ i.dfB = q := by unfold I8.dfR I8.dfB; cases q <;> simp [h, hq]

theorem OwnI.below {W X : World} {base : Nat} {v : Value} {l : List Int} (h : OwnI W base v l) (hX : Below W.heap.size W X) : OwnI X base v l := by
  refine ⟨h.1, ?_⟩
  rcases h.2 with h0 | ⟨g, cap, cur, hv, hb, hg, hr⟩
  · exact .inl h0
  · exact .inr ⟨g, cap, cur, hv, hb, (hX.block g (Array.getElem?_eq_some_iff.1 hg).1).trans hg, hr⟩
theorem Rd.none {W : World} {A : Option Addr} {c : Nat} (hc : c ≤ maxLen) : Rd W A c [] := ⟨Nat.zero_le _, hc, fun h => absurd h (by simp)⟩
end Go.Proofs.YtdmajlgdjhmpdaaDoor
