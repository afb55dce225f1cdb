/-
  The contract of the law's exampleHolds: it returns true and changes nothing that was in memory, where the library's variable ErrRange holds an error.
-/
import Derived.Test.YtnlhkeobfidjkaaDoorParse
import Derived.Test.YtnlhkeobfidjkaaDoorOps
namespace Go.Proofs.YtnlhkeobfidjkaaDoor
open Go.RowKit

/-- The library's variable ErrRange holds an error. -/
def Ev (w : World) : Prop := ∃ tp p, w.var? Tryd.prog "strconv.ErrRange" = some #[.iface tp p]
theorem gRange : Tryd.prog.globalNamed "strconv.ErrRange" = some 2 := by kernel_rfl
theorem Ev.stays {w w' : World} (h : Ev w) (hb : Below w.heap.size w w') : Ev w' := by
  obtain ⟨tp, p, hv⟩ := h
  exact ⟨tp, p, Joins.var_stays gRange hv hb (Nat.le_refl _)⟩

theorem vParseIs (s : ByteArray) (hs : s.size ≤ 281474976710656) (v e : Int) (h : parV s.data.toList = v) (g : parE s.data.toList = e) (w : World) (hw : Ev w) :
    Calls Tryd.prog 32 #[.string s] w fun x w' => x = .returned (.tuple #[.int .i64 v, .int .i64 e]) ∧ Below w.heap.size w w' ∧ Ev w' := by
  subst h g
  obtain ⟨tp, p, hv⟩ := id hw
  exact (vParse s hs tp p w hv).mono fun x w' h => ⟨h.1, h.2, hw.stays h.2⟩

end Go.Proofs.YtnlhkeobfidjkaaDoor
