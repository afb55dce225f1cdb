/-
  The law LexLocal returns true for every two texts.
-/
import Derived.Test.YtnlhkeobfidjkaaDoorLxP1
import Derived.Test.YtnlhkeobfidjkaaDoorLxP2
namespace Go.Proofs.YtnlhkeobfidjkaaDoor
open Go Go.RowKit

set_option maxRecDepth 100000 in
set_option maxHeartbeats 600000 in
theorem lawLocal (s t : ByteArray) (w : World) (hw : Ev w) : Calls Tryd.prog 7 #[.string s, .string t] w (LawOk9 w) := by
  have HEV := Lib.hid (fun X (hX : Below w.heap.size w X) => hw.stays hX)
  have hw' := hw
  have HEX := Lib.hid (fun X (hX : Below w.heap.size w X) => exOk9 X (hw.stays hX))
  clear hw
  by_cases h1 : 200 < s.size
  · go_enter Tryd.func7, Tryd.ntmps7
    go_wp2_with fail
    refine (HEX.out _ (Below.refl _ _)).mono ?_
    rintro e w' ⟨rfl, b⟩
    go_wp2
    go_ret
    exact ⟨rfl, b⟩
  by_cases h2 : 200 < t.size
  · go_enter Tryd.func7, Tryd.ntmps7
    go_wp2_with fail
    refine (HEX.out _ (Below.refl _ _)).mono ?_
    rintro e w' ⟨rfl, b⟩
    go_wp2
    go_ret
    exact ⟨rfl, b⟩
  have hsz : (s ++ (⟨#[10]⟩ : ByteArray) ++ t).size ≤ 16384 := by
    have e1 : (s ++ (⟨#[10]⟩ : ByteArray) ++ t).size = (s ++ (⟨#[10]⟩ : ByteArray) ++ t).data.toList.length := rfl
    have e2 : s.data.toList.length = s.size := rfl
    have e3 : t.data.toList.length = t.size := rfl
    rw [e1, threeT, List.length_append, List.length_cons]; omega
  rcases hA : lexT s.data.toList 0 with ⟨x⟩ | ⟨a⟩
  · exact lawLocalA s t h1 h2 hsz x hA w hw'
  rcases hB : lexT t.data.toList 0 with ⟨y⟩ | ⟨b⟩
  · exact lawLocalB s t h1 h2 hsz a hA y hB w hw'
  · exact lawLocalC s t h1 h2 hsz a b hA hB w hw'
end Go.Proofs.YtnlhkeobfidjkaaDoor
