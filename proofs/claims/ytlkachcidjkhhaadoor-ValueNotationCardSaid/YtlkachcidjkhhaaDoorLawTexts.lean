/-
  The law ValueTexts returns true for every text and every integer, where the library's variable ErrRange holds an error and its table of powers of ten is laid; nothing that was in memory changes.
-/
import Derived.Test.YtlkachcidjkhhaaDoorRefParse
import Derived.Test.YtlkachcidjkhhaaDoorFormat
namespace Go.Proofs.YtlkachcidjkhhaaDoor
open Go.RowKit

theorem gTab : Tryd.prog.globalNamed "internal/strconv.uint64pow10" = some 3 := by kernel_rfl
theorem Tb.stays {w w' : World} (h : Tb w) (hb : Below w.heap.size w w') : Tb w' := Joins.var_stays gTab h hb (Nat.le_refl _)

theorem vParseS (s : ByteArray) (v e : Int) (h : parV s.data.toList = v) (g : parE s.data.toList = e) (hs : s.size ≤ 281474976710656) (w : World) (hw : Ev w) :
    Calls Tryd.prog 14 #[.string s] w fun x w' => x = .returned (.tuple #[.int .i64 v, .int .i64 e]) ∧ Below w.heap.size w w' ∧ Ev w' :=
  vParseIs s hs v e h g w hw

theorem textsLong (s : ByteArray) (n : Int) (hl : 100 < s.size) (hs : s.size ≤ 9223372036854775807) (w : World) (hw : Ev w) :
    Calls Tryd.prog 4 #[.string s, .int .i64 n] w fun e w' => e = .returned (.bool true) ∧ Below w.heap.size w w' := by
  go_enter Tryd.func4, Tryd.ntmps4
  go_wp2_with fail
  refine (exOk _ hw).mono ?_
  rintro e w2 ⟨rfl, b2, v2⟩
  go_wp2
  go_ret
  exact ⟨rfl, b2⟩

theorem textsShort (s r : ByteArray) (n v e : Int) (hv : parV s.data.toList = v) (he : parE s.data.toList = e) (hr : ⟨(Lib.itoa n).toArray⟩ = r) (hl : s.size ≤ 100) (h0 : -9223372036854775808 ≤ n) (h1 : n ≤ 9223372036854775807) (w : World) (hw : Ev w) (hT : Tb w) :
    Calls Tryd.prog 4 #[.string s, .int .i64 n] w fun e w' => e = .returned (.bool true) ∧ Below w.heap.size w w' := by
  have HV := Lib.hid hv; clear hv
  have HE := Lib.hid he; clear he
  have HR := Lib.hid hr; clear hr
  have HT := Lib.hid hT; clear hT
  go_enter Tryd.func4, Tryd.ntmps4
  go_wp2_with fail
  refine (vParseS s v e HV.out HE.out (by omega) _ hw).mono ?_
  rintro e1 w1 ⟨rfl, b1, v1⟩
  have T1 : Hid (Tb w1) := Lib.hid (HT.out.stays b1)
  go_wp2_with fail
  refine (rPar s (by omega) _).mono ?_
  rintro e2 w' ⟨rfl, rfl⟩
  rw [HV.out, HE.out]
  go_wp2_with fail
  refine (vForm n r HR.out h0 h1 _ T1.out).mono ?_
  rintro e3 w2 ⟨rfl, b2⟩
  have v2 := v1.stays b2
  go_wp2_with fail
  refine (rForm n r HR.out h0 h1 _).mono ?_
  rintro e4 w' ⟨rfl, rfl⟩
  go_wp2_with fail
  refine (exOk _ v2).mono ?_
  rintro e5 w3 ⟨rfl, b3, v3⟩
  go_wp2
  go_ret
  exact ⟨rfl, b1.trans ((b2.mono b1.size).trans (b3.mono (Nat.le_trans b1.size b2.size)))⟩

theorem lawTexts (s : ByteArray) (n : Int) (hs : s.size ≤ 9223372036854775807) (hw : (Lit.int .i64 n).wf = true) (w : World) (hE : Ev w) (hT : Tb w) :
    Calls Tryd.prog 4 #[.string s, .int .i64 n] w fun e w' => e = .returned (.bool true) ∧ Below w.heap.size w w' := by
  have hmin : IntKind.i64.min = -9223372036854775808 := rfl
  have hmax : IntKind.i64.max = 9223372036854775807 := rfl
  simp only [Lit.wf, Bool.and_eq_true, decide_eq_true_eq] at hw
  by_cases hl : 100 < s.size
  · exact textsLong s n hl hs w hE
  · exact textsShort s _ n _ _ rfl rfl rfl (by omega) (by omega) (by omega) w hE hT
end Go.Proofs.YtlkachcidjkhhaaDoor
