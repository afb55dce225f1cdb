/-
  The contracts of hasTarget, finalTarget and simplify.Thread.
-/
import Derived.Test.YtnnpkbonbemeaaaDoorVSa
import Derived.Test.YtnnpkbonbemeaaaDoorVSb
import Derived.Test.YtnnpkbonbemeaaaDoorVCd
import Derived.Deep.CutRange
import Derived.Deep.DeepCutAuto
namespace Go.Proofs.YtnnpkbonbemeaaaDoor
open Go Go.RowKit

set_option maxRecDepth 100000 in
set_option maxHeartbeats 2000000 in
theorem iHasTgt (i : I8) (w : World) : Calls Tryd.prog 40 #[i.val] w fun e w' => e = .returned (.bool i.jmp) ∧ Below w.heap.size w w' := by
  obtain ⟨r, hr⟩ : ∃ r, i.jmp = r := ⟨_, rfl⟩
  rw [hr]
  obtain ⟨op, ra, rb, rc, obj, m, fn, ord⟩ := i
  obtain ⟨W, hW, hbW, -, hbox⟩ := boxNew w op ra rb rc obj m fn ord
  obtain ⟨c0, c1, c2, c3, c4, c5, c6, c7⟩ := boxFactsW hbox
  have HW := Lib.hid hW
  have HBW := Lib.hid hbW
  have hr : (decide (op = 4) || decide (op = 5)) = r := hr
  unfold I8.val
  simp only
  clear hW hbW hbox c1 c2 c3 c4 c5 c6 c7
  by_cases h4 : op = 4
  · subst h4
    have hr : true = r := hr
    subst hr
    go_enter Tryd.func40, Tryd.ntmps40
    go_wp2_with fail
    rw [HW.out]
    go_wp2
    go_ret
    exact ⟨rfl, HBW.out⟩
  · have z4 : (op == 4) = false := by simpa using h4
    by_cases h5 : op = 5
    · subst h5
      have hr : true = r := hr
      subst hr
      go_enter Tryd.func40, Tryd.ntmps40
      go_wp2_with fail
      rw [HW.out]
      go_wp2
      go_ret
      exact ⟨rfl, HBW.out⟩
    · have z5 : (op == 5) = false := by simpa using h5
      have hr : false = r := by rw [← hr, decide_eq_false h4, decide_eq_false h5]; rfl
      subst hr
      clear h4 h5
      go_enter Tryd.func40, Tryd.ntmps40
      go_wp2_with fail
      rw [HW.out]
      go_wp2
      go_ret
      exact ⟨rfl, HBW.out⟩
end Go.Proofs.YtnnpkbonbemeaaaDoor

namespace Go.Proofs.YtnnpkbonbemeaaaDoor
open Go Go.RowKit Go.Maps

/-- What lies in memory while the code is threaded. -/
structure ThStF (w1 : World) (nm : ByteArray) (L : List I8) (X : World) : Prop where
  bel : Below w1.heap.size w1 X
  fn : ∃ v, FnSv X w1.heap.size (w1.heap.size + 1) nm v L
theorem thStartF (w1 : World) (nm : ByteArray) : ThStF w1 nm [] (w1.alloc (.cells #[.string nm, .slice none 0 0] 42)) :=
  ⟨belowAlloc _ _, ⟨_, ⟨Blk.new w1 _ _, OwnC8.nil _ _, by omega, by simp⟩⟩⟩
end Go.Proofs.YtnnpkbonbemeaaaDoor
