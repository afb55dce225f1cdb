/-
  The contracts of the program's functions that make sets of integers: setOf (through the library's Sort and Compact) and Make.
-/
import Derived.Test.YtkanamdfjegcbaaDoorLPure
import Derived.Test.YtkanamdfjegcbaaDoorLOwn
import Derived.Test.YtkanamdfjegcbaaDoorShelf
namespace Go.Proofs.YtkanamdfjegcbaaDoor
open Go.RowKit Go.Sort

theorem OwnI.holds {w : World} {base : Nat} {v : Value} {l : List Int} (h : OwnI w base v l) (hl : 0 < l.length) : ∃ g cap, v = .slice (some ⟨g, 0, none⟩) l.length cap ∧ base ≤ g ∧ g < w.heap.size ∧ l.length ≤ cap ∧ cap ≤ maxLen ∧ Holds (Value.int .i64) w g 0 l.toArray := by
  rcases h.2 with ⟨_, h0⟩ | ⟨g, cap, cur, hv, hb, hg, hc, hm, hs, ht⟩
  · omega
  · have hlt : g < w.heap.size := (World.ownsRow.lt h g (by rw [hv]; rfl)).2
    refine ⟨g, cap, hv, hb, hlt, hc, hm, fun j hj => ⟨?_, ?_⟩⟩
    · have hj' : j < l.length := by simpa using hj
      have := World.ownsRow.cells h (g := g) (by rw [hv]; rfl) j (.int .i64 l[j]) (by simp [List.getElem?_eq_getElem hj'])
      rw [Addr.add_lit] at this
      rw [this]
      simp [hj']
    · simp [World.frozen?, hg]

end Go.Proofs.YtkanamdfjegcbaaDoor

namespace Go.Proofs.YtkanamdfjegcbaaDoor
open Go.RowKit

def lenOf : Value → Nat | .slice _ n _ => n | _ => 0

theorem OwnI.drewN {w : World} {base : Nat} {v : Value} {l : List Int} (h : OwnI w base v l) (n : Nat) : OwnI (w.drewN n) base v l := h

end Go.Proofs.YtkanamdfjegcbaaDoor
