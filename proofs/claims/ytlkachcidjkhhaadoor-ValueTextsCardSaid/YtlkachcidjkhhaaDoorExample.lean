/-
  The contract of the law's exampleHolds: it returns true and changes nothing that was in memory, where the library's variable ErrRange holds an error.
-/
import Derived.Test.YtlkachcidjkhhaaDoorParse
import Derived.Test.YtlkachcidjkhhaaDoorOps
namespace Go.Proofs.YtlkachcidjkhhaaDoor
open Go.RowKit

/-- The library's variable ErrRange holds an error. -/
def Ev (w : World) : Prop := ∃ tp p, w.var? Tryd.prog "strconv.ErrRange" = some #[.iface tp p]
theorem gRange : Tryd.prog.globalNamed "strconv.ErrRange" = some 2 := by kernel_rfl
theorem Ev.stays {w w' : World} (h : Ev w) (hb : Below w.heap.size w w') : Ev w' := by
  obtain ⟨tp, p, hv⟩ := h
  exact ⟨tp, p, Joins.var_stays gRange hv hb (Nat.le_refl _)⟩

theorem vApplyIs (f a b r e : Int) (h : opI f a b = r) (g : opE f = e) (w : World) :
    Calls Tryd.prog 9 #[.int .i64 f, .int .i64 a, .int .i64 b] w fun x w' => x = .returned (.tuple #[.int .i64 r, .int .i64 e]) ∧ w = w' := by
  subst h g; exact vApply f a b w

theorem vParseIs (s : ByteArray) (hs : s.size ≤ 281474976710656) (v e : Int) (h : parV s.data.toList = v) (g : parE s.data.toList = e) (w : World) (hw : Ev w) :
    Calls Tryd.prog 14 #[.string s] w fun x w' => x = .returned (.tuple #[.int .i64 v, .int .i64 e]) ∧ Below w.heap.size w w' ∧ Ev w' := by
  subst h g
  obtain ⟨tp, p, hv⟩ := id hw
  exact (vParse s hs tp p w hv).mono fun x w' h => ⟨h.1, h.2, hw.stays h.2⟩

set_option maxHeartbeats 1000000 in
theorem exOk (w : World) (hw : Ev w) :
    Calls Tryd.prog 13 #[] w fun e w' => e = .returned (.bool true) ∧ Below w.heap.size w w' ∧ Ev w' := by
  go_enter Tryd.func13, Tryd.ntmps13
  go_wp2_with fail
  refine (vApplyIs _ _ _ (-2147483648) 0 (by decide +kernel) (by decide) _).mono ?_
  rintro e w' ⟨rfl, rfl⟩
  go_wp2_with fail
  refine (vApplyIs _ _ _ (-6) 0 (by decide +kernel) (by decide) _).mono ?_
  rintro e w' ⟨rfl, rfl⟩
  go_wp2_with fail
  refine (vParseIs _ (by decide) 0 16 (by decide) (by decide) _ hw).mono ?_
  rintro e w1 ⟨rfl, b1, v1⟩
  go_wp2_with fail
  refine (vParseIs _ (by decide) 0 16 (by decide) (by decide) _ v1).mono ?_
  rintro e w2 ⟨rfl, b2, v2⟩
  go_wp2_with fail
  refine (vParseIs _ (by decide) 0 2 (by decide) (by decide) _ v2).mono ?_
  rintro e w3 ⟨rfl, b3, v3⟩
  go_wp2
  go_ret
  exact ⟨rfl, b1.trans ((b2.mono b1.size).trans (b3.mono (Nat.le_trans b1.size b2.size))), v3⟩
end Go.Proofs.YtlkachcidjkhhaaDoor
