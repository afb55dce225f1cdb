/-
  The law LexJoins returns true for every list of tokens whose texts are within reach; nothing that was in memory changes.
-/
import Derived.Test.YtnlhkeobfidjkaaDoorLxI
import Derived.Test.YtnlhkeobfidjkaaDoorLxM
import Derived.Test.YtnlhkeobfidjkaaDoorLxL1
namespace Go.Proofs.YtnlhkeobfidjkaaDoor
open Go Go.RowKit

set_option maxRecDepth 100000 in
set_option maxHeartbeats 4000000 in
theorem lawJoins (l : List Tok) (n : Nat) (hn : l.length = n) (hT : ∀ t ∈ l, t.text.length ≤ 140737488351232) (A : Option Addr) (c : Nat) (w : World) (hr : Rk w A c l) (hw : Ev w) :
    Calls Tryd.prog 4 #[.slice A n c] w (LawOk9 w) := by
  have HEV := Lib.hid (fun X (hX : Below w.heap.size w X) => hw.stays hX)
  have HEX := Lib.hid (fun X (hX : Below w.heap.size w X) => exOk9 X (hw.stays hX))
  by_cases h1 : n ≤ 100
  · obtain ⟨⟨u, E⟩, hx⟩ : ∃ x, joinR l = x := ⟨_, rfl⟩
    have HI := Lib.hid (iJoin l n hn (by omega) hT A c w hw hr)
    have HJ := Lib.hid (fun X (hX : Below w.heap.size w X) => rJoin l n hn (by omega) hT A c X (hr.below hX))
    rw [hx] at HI HJ
    clear hx hn hT hr hw
    go_enter Tryd.func4, Tryd.ntmps4
    go_wp2_with fail
    refine HI.out.mono ?_
    rintro e w1 ⟨rfl, b1⟩
    have B1 := Lib.hid b1
    go_wp2_with fail
    refine (HJ.out _ B1.out).mono ?_
    rintro e w2 ⟨rfl, b2⟩
    have B2 := Lib.hid (belowThen B1.out b2)
    clear b1 b2
    go_wp2_with fail
    refine (HEX.out _ B2.out).mono ?_
    rintro e w4 ⟨rfl, b4⟩
    go_wp2
    go_ret
    exact ⟨rfl, belowThen B2.out b4⟩
  · have h2 : (100 : Int) < n := by omega
    clear hn hT hr hw
    go_enter Tryd.func4, Tryd.ntmps4
    go_wp2_with fail
    refine (HEX.out _ (Below.refl _ _)).mono ?_
    rintro e w' ⟨rfl, b⟩
    go_wp2
    go_ret
    exact ⟨rfl, b⟩
end Go.Proofs.YtnlhkeobfidjkaaDoor
