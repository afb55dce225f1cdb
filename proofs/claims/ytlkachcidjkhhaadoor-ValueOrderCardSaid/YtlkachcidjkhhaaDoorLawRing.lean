/-
  The law ValueRing returns true for every three integers, where the library's variable ErrRange holds an error; nothing that was in memory changes.
-/
import Derived.Test.YtlkachcidjkhhaaDoorExample
namespace Go.Proofs.YtlkachcidjkhhaaDoor
open Go.RowKit

theorem vWrapIs (a r : Int) (h : wrap32 a = r) (w : World) :
    Calls Tryd.prog 11 #[.int .i64 a] w fun e w' => e = .returned (.int .i64 r) ∧ w = w' := by
  subst h; exact vWrap a w

set_option maxHeartbeats 2000000 in
theorem lawRing (a b c : Int) (w : World) (hw : Ev w) :
    Calls Tryd.prog 6 #[.int .i64 a, .int .i64 b, .int .i64 c] w fun e w' => e = .returned (.bool true) ∧ Below w.heap.size w w' := by
  have lo := wrap32Lo a
  have hi := wrap32Hi a
  go_enter Tryd.func6, Tryd.ntmps6
  go_wp2_with fail
  refine (lApply 1 a b (opI 1 a b) rfl _).mono ?_
  rintro e w' ⟨rfl, rfl⟩
  go_wp2_with fail
  refine (lApply 3 a b (opI 3 a b) rfl _).mono ?_
  rintro e w' ⟨rfl, rfl⟩
  go_wp2_with fail
  refine (lApply 1 b a (opI 1 a b) (ringAddComm a b) _).mono ?_
  rintro e w' ⟨rfl, rfl⟩
  go_wp2_with fail
  refine (lApply 3 b a (opI 3 a b) (ringMulComm a b) _).mono ?_
  rintro e w' ⟨rfl, rfl⟩
  go_wp2_with fail
  refine (lApply 1 (opI 1 a b) c (opI 1 (opI 1 a b) c) rfl _).mono ?_
  rintro e w' ⟨rfl, rfl⟩
  go_wp2_with fail
  refine (lApply 1 b c (opI 1 b c) rfl _).mono ?_
  rintro e w' ⟨rfl, rfl⟩
  go_wp2_with fail
  refine (lApply 1 a (opI 1 b c) (opI 1 (opI 1 a b) c) (ringAddAssoc a b c).symm _).mono ?_
  rintro e w' ⟨rfl, rfl⟩
  go_wp2_with fail
  refine (lApply 3 (opI 3 a b) c (opI 3 (opI 3 a b) c) rfl _).mono ?_
  rintro e w' ⟨rfl, rfl⟩
  go_wp2_with fail
  refine (lApply 3 b c (opI 3 b c) rfl _).mono ?_
  rintro e w' ⟨rfl, rfl⟩
  go_wp2_with fail
  refine (lApply 3 a (opI 3 b c) (opI 3 (opI 3 a b) c) (ringMulAssoc a b c).symm _).mono ?_
  rintro e w' ⟨rfl, rfl⟩
  go_wp2_with fail
  refine (lApply 3 (opI 1 a b) c (opI 3 (opI 1 a b) c) rfl _).mono ?_
  rintro e w' ⟨rfl, rfl⟩
  go_wp2_with fail
  refine (lApply 3 a c (opI 3 a c) rfl _).mono ?_
  rintro e w' ⟨rfl, rfl⟩
  go_wp2_with fail
  refine (lApply 3 b c (opI 3 b c) rfl _).mono ?_
  rintro e w' ⟨rfl, rfl⟩
  go_wp2_with fail
  refine (lApply 1 (opI 3 a c) (opI 3 b c) (opI 3 (opI 1 a b) c) (ringDist a b c).symm _).mono ?_
  rintro e w' ⟨rfl, rfl⟩
  go_wp2_with fail
  refine (vWrap a _).mono ?_
  rintro e w' ⟨rfl, rfl⟩
  go_wp2_with fail
  refine (lApply 1 a 0 (wrap32 a) (ringZero a) _).mono ?_
  rintro e w' ⟨rfl, rfl⟩
  go_wp2_with fail
  refine (lApply 3 a 1 (wrap32 a) (ringOne a) _).mono ?_
  rintro e w' ⟨rfl, rfl⟩
  go_wp2_with fail
  refine (lApply 2 (opI 1 a b) b (wrap32 a) (ringSub a b) _).mono ?_
  rintro e w' ⟨rfl, rfl⟩
  go_wp2_with fail
  refine (lApply 1 (wrap32 a) b (opI 1 a b) (ringWrapAdd a b) _).mono ?_
  rintro e w' ⟨rfl, rfl⟩
  go_wp2_with fail
  refine (vWrapIs (wrap32 a) (wrap32 a) (wrap32Twice a) _).mono ?_
  rintro e w' ⟨rfl, rfl⟩
  go_wp2_with fail
  refine (lApply 3 (wrap32 a) b (opI 3 a b) (ringWrapMul a b) _).mono ?_
  rintro e w' ⟨rfl, rfl⟩
  go_wp2_with fail
  refine (exOk _ hw).mono ?_
  rintro e w2 ⟨rfl, b2, v2⟩
  go_wp2
  go_ret
  exact ⟨rfl, b2⟩
end Go.Proofs.YtlkachcidjkhhaaDoor
