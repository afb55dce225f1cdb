/-
  The law ValueOrder returns true for every two integers, where the library's variable ErrRange holds an error; nothing that was in memory changes.
-/
import Derived.Test.YtlkachcidjkhhaaDoorLawRing
namespace Go.Proofs.YtlkachcidjkhhaaDoor
open Go.RowKit

/-- Its walk, with the five results of the comparisons handed in as numbers. -/
def Cmp (a b l m q s n : Int) : Prop := opI 9 a b = l ∧ opI 9 b a = m ∧ opI 7 a b = q ∧ opI 10 a b = s ∧ opI 8 a b = n

set_option maxHeartbeats 2000000 in
theorem orderLess (a b : Int) (h : wrap32 a < wrap32 b) (w : World) (hw : Ev w) :
    Calls Tryd.prog 7 #[.int .i64 a, .int .i64 b] w fun e w' => e = .returned (.bool true) ∧ Below w.heap.size w w' := by
  have HC : Hid (Cmp a b 1 0 0 1 1) := Lib.hid (lessYes a b h)
  have hq : (wrap32 a == wrap32 b) = false := by simp; omega
  go_enter Tryd.func7, Tryd.ntmps7
  go_wp2_with fail
  refine (lApply 9 a b 1 HC.out.1 _).mono ?_
  rintro e w' ⟨rfl, rfl⟩
  go_wp2_with fail
  refine (lApply 9 b a 0 HC.out.2.1 _).mono ?_
  rintro e w' ⟨rfl, rfl⟩
  go_wp2_with fail
  refine (lApply 7 a b 0 HC.out.2.2.1 _).mono ?_
  rintro e w' ⟨rfl, rfl⟩
  go_wp2_with fail
  refine (lApply 10 a b 1 HC.out.2.2.2.1 _).mono ?_
  rintro e w' ⟨rfl, rfl⟩
  go_wp2_with fail
  refine (lApply 8 a b 1 HC.out.2.2.2.2 _).mono ?_
  rintro e w' ⟨rfl, rfl⟩
  go_wp2_with fail
  refine (lApply 6 a b (opI 6 a b) rfl _).mono ?_
  rintro e w' ⟨rfl, rfl⟩
  go_wp2_with fail
  refine (lApply 6 (opI 6 a b) b (wrap32 a) (xorTwice a b) _).mono ?_
  rintro e w' ⟨rfl, rfl⟩
  go_wp2_with fail
  refine (vWrap a _).mono ?_
  rintro e w' ⟨rfl, rfl⟩
  go_wp2_with fail
  refine (lApply 4 a b (opI 4 a b) rfl _).mono ?_
  rintro e w' ⟨rfl, rfl⟩
  go_wp2_with fail
  refine (lApply 5 a b (opI 5 a b) rfl _).mono ?_
  rintro e w' ⟨rfl, rfl⟩
  go_wp2_with fail
  refine (lApply 1 (opI 4 a b) (opI 5 a b) (opI 1 a b) (andOrSum a b) _).mono ?_
  rintro e w' ⟨rfl, rfl⟩
  go_wp2_with fail
  refine (lApply 1 a b (opI 1 a b) rfl _).mono ?_
  rintro e w' ⟨rfl, rfl⟩
  go_wp2_with fail
  refine (vWrap a _).mono ?_
  rintro e w' ⟨rfl, rfl⟩
  go_wp2_with fail
  refine (vWrap b _).mono ?_
  rintro e w' ⟨rfl, rfl⟩
  go_wp2_with fail
  refine (exOk _ hw).mono ?_
  rintro e w2 ⟨rfl, b2, v2⟩
  go_wp2
  go_ret
  exact ⟨rfl, b2⟩

set_option maxHeartbeats 2000000 in
theorem orderEq (a b : Int) (h : wrap32 a = wrap32 b) (w : World) (hw : Ev w) :
    Calls Tryd.prog 7 #[.int .i64 a, .int .i64 b] w fun e w' => e = .returned (.bool true) ∧ Below w.heap.size w w' := by
  have HC : Hid (Cmp a b 0 0 1 1 0) := Lib.hid (lessEq a b h)
  have HQ := Lib.hid h; clear h
  go_enter Tryd.func7, Tryd.ntmps7
  go_wp2_with fail
  refine (lApply 9 a b 0 HC.out.1 _).mono ?_
  rintro e w' ⟨rfl, rfl⟩
  go_wp2_with fail
  refine (lApply 9 b a 0 HC.out.2.1 _).mono ?_
  rintro e w' ⟨rfl, rfl⟩
  go_wp2_with fail
  refine (lApply 7 a b 1 HC.out.2.2.1 _).mono ?_
  rintro e w' ⟨rfl, rfl⟩
  go_wp2_with fail
  refine (lApply 10 a b 1 HC.out.2.2.2.1 _).mono ?_
  rintro e w' ⟨rfl, rfl⟩
  go_wp2_with fail
  refine (lApply 8 a b 0 HC.out.2.2.2.2 _).mono ?_
  rintro e w' ⟨rfl, rfl⟩
  go_wp2_with fail
  refine (lApply 6 a b (opI 6 a b) rfl _).mono ?_
  rintro e w' ⟨rfl, rfl⟩
  go_wp2_with fail
  refine (lApply 6 (opI 6 a b) b (wrap32 a) (xorTwice a b) _).mono ?_
  rintro e w' ⟨rfl, rfl⟩
  go_wp2_with fail
  refine (vWrap a _).mono ?_
  rintro e w' ⟨rfl, rfl⟩
  go_wp2_with fail
  refine (lApply 4 a b (opI 4 a b) rfl _).mono ?_
  rintro e w' ⟨rfl, rfl⟩
  go_wp2_with fail
  refine (lApply 5 a b (opI 5 a b) rfl _).mono ?_
  rintro e w' ⟨rfl, rfl⟩
  go_wp2_with fail
  refine (lApply 1 (opI 4 a b) (opI 5 a b) (opI 1 a b) (andOrSum a b) _).mono ?_
  rintro e w' ⟨rfl, rfl⟩
  go_wp2_with fail
  refine (lApply 1 a b (opI 1 a b) rfl _).mono ?_
  rintro e w' ⟨rfl, rfl⟩
  go_wp2_with fail
  refine (vWrap a _).mono ?_
  rintro e w' ⟨rfl, rfl⟩
  go_wp2_with fail
  refine (vWrapIs b (wrap32 a) HQ.out.symm _).mono ?_
  rintro e w' ⟨rfl, rfl⟩
  go_wp2_with fail
  refine (exOk _ hw).mono ?_
  rintro e w2 ⟨rfl, b2, v2⟩
  go_wp2
  go_ret
  exact ⟨rfl, b2⟩

set_option maxHeartbeats 2000000 in
theorem orderMore (a b : Int) (h : wrap32 b < wrap32 a) (w : World) (hw : Ev w) :
    Calls Tryd.prog 7 #[.int .i64 a, .int .i64 b] w fun e w' => e = .returned (.bool true) ∧ Below w.heap.size w w' := by
  have HC : Hid (Cmp a b 0 1 0 0 1) := Lib.hid (lessNo a b h)
  have hq : (wrap32 a == wrap32 b) = false := by simp; omega
  go_enter Tryd.func7, Tryd.ntmps7
  go_wp2_with fail
  refine (lApply 9 a b 0 HC.out.1 _).mono ?_
  rintro e w' ⟨rfl, rfl⟩
  go_wp2_with fail
  refine (lApply 9 b a 1 HC.out.2.1 _).mono ?_
  rintro e w' ⟨rfl, rfl⟩
  go_wp2_with fail
  refine (lApply 7 a b 0 HC.out.2.2.1 _).mono ?_
  rintro e w' ⟨rfl, rfl⟩
  go_wp2_with fail
  refine (lApply 10 a b 0 HC.out.2.2.2.1 _).mono ?_
  rintro e w' ⟨rfl, rfl⟩
  go_wp2_with fail
  refine (lApply 8 a b 1 HC.out.2.2.2.2 _).mono ?_
  rintro e w' ⟨rfl, rfl⟩
  go_wp2_with fail
  refine (lApply 6 a b (opI 6 a b) rfl _).mono ?_
  rintro e w' ⟨rfl, rfl⟩
  go_wp2_with fail
  refine (lApply 6 (opI 6 a b) b (wrap32 a) (xorTwice a b) _).mono ?_
  rintro e w' ⟨rfl, rfl⟩
  go_wp2_with fail
  refine (vWrap a _).mono ?_
  rintro e w' ⟨rfl, rfl⟩
  go_wp2_with fail
  refine (lApply 4 a b (opI 4 a b) rfl _).mono ?_
  rintro e w' ⟨rfl, rfl⟩
  go_wp2_with fail
  refine (lApply 5 a b (opI 5 a b) rfl _).mono ?_
  rintro e w' ⟨rfl, rfl⟩
  go_wp2_with fail
  refine (lApply 1 (opI 4 a b) (opI 5 a b) (opI 1 a b) (andOrSum a b) _).mono ?_
  rintro e w' ⟨rfl, rfl⟩
  go_wp2_with fail
  refine (lApply 1 a b (opI 1 a b) rfl _).mono ?_
  rintro e w' ⟨rfl, rfl⟩
  go_wp2_with fail
  refine (vWrap a _).mono ?_
  rintro e w' ⟨rfl, rfl⟩
  go_wp2_with fail
  refine (vWrap b _).mono ?_
  rintro e w' ⟨rfl, rfl⟩
  go_wp2_with fail
  refine (exOk _ hw).mono ?_
  rintro e w2 ⟨rfl, b2, v2⟩
  go_wp2
  go_ret
  exact ⟨rfl, b2⟩

theorem lawOrder (a b : Int) (w : World) (hw : Ev w) :
    Calls Tryd.prog 7 #[.int .i64 a, .int .i64 b] w fun e w' => e = .returned (.bool true) ∧ Below w.heap.size w w' := by
  rcases (by omega : wrap32 a < wrap32 b ∨ wrap32 a = wrap32 b ∨ wrap32 b < wrap32 a) with h | h | h
  · exact orderLess a b h w hw
  · exact orderEq a b h w hw
  · exact orderMore a b h w hw
end Go.Proofs.YtlkachcidjkhhaaDoor
