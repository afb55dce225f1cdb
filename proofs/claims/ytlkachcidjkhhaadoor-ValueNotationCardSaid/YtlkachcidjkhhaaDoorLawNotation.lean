/-
  The law ValueNotation returns true for every text and every integer, where the library's variable ErrRange holds an error and its table of powers of ten is laid; nothing that was in memory changes.
-/
import Derived.Test.YtlkachcidjkhhaaDoorNotation
import Derived.Test.YtlkachcidjkhhaaDoorLawTexts
namespace Go.Proofs.YtlkachcidjkhhaaDoor
open Go.RowKit

theorem notationLong (s : ByteArray) (n : Int) (hl : 100 < s.size) (hs : s.size ≤ 9223372036854775807) (w : World) (hw : Ev w) :
    Calls Tryd.prog 8 #[.string s, .int .i64 n] w fun e w' => e = .returned (.bool true) ∧ Below w.heap.size w w' := by
  go_enter Tryd.func8, Tryd.ntmps8
  go_wp2_with fail
  refine (exOk _ hw).mono ?_
  rintro e w2 ⟨rfl, b2, v2⟩
  go_wp2
  go_ret
  exact ⟨rfl, b2⟩

theorem wrapP (n x : Int) (h : wrap32 n = x) (w : World) :
    Calls Tryd.prog 11 #[.int .i64 n] w fun e w' => e = .returned (.int .i64 x) ∧ w = w' := by
  subst h; exact vWrap n w

/-- The text reads as a value v, whose notation it is. -/
theorem notationYes (s r : ByteArray) (n x v : Int) (hx : wrap32 n = x) (x0 : -2147483648 ≤ x) (x1 : x ≤ 2147483647) (hr : ⟨(Lib.itoa x).toArray⟩ = r) (hrp : parV r.data.toList = x ∧ parE r.data.toList = 0) (hrs : r.size ≤ 21)
    (hv : parV s.data.toList = v) (he : parE s.data.toList = 0) (v0 : -2147483648 ≤ v) (v1 : v ≤ 2147483647) (hb : ⟨(Lib.itoa v).toArray⟩ = s) (hl : s.size ≤ 100) (w : World) (hw : Ev w) (hT : Tb w) :
    Calls Tryd.prog 8 #[.string s, .int .i64 n] w fun e w' => e = .returned (.bool true) ∧ Below w.heap.size w w' := by
  have HX := Lib.hid hx; clear hx
  have HR := Lib.hid hr; clear hr
  have HP := Lib.hid hrp; clear hrp
  have HV := Lib.hid hv; clear hv
  have HE := Lib.hid he; clear he
  have HB := Lib.hid hb; clear hb
  have HT := Lib.hid hT; clear hT
  go_enter Tryd.func8, Tryd.ntmps8
  go_wp2_with fail
  refine (wrapP n x HX.out _).mono ?_
  rintro e0 w' ⟨rfl, rfl⟩
  go_wp2_with fail
  refine (vForm x r HR.out (by omega) (by omega) _ HT.out).mono ?_
  rintro e1 w1 ⟨rfl, b1⟩
  have v1' := hw.stays b1
  have T1 : Hid (Tb w1) := Lib.hid (HT.out.stays b1)
  go_wp2_with fail
  refine (vParseS r x 0 HP.out.1 HP.out.2 (by omega) _ v1').mono ?_
  rintro e2 w2 ⟨rfl, b2, v2⟩
  have T2 : Hid (Tb w2) := Lib.hid (T1.out.stays b2)
  go_wp2_with fail
  refine (vParseS s v 0 HV.out HE.out (by omega) _ v2).mono ?_
  rintro e3 w3 ⟨rfl, b3, v3⟩
  have T3 : Hid (Tb w3) := Lib.hid (T2.out.stays b3)
  go_wp2_with fail
  refine (vForm v s HB.out (by omega) (by omega) _ T3.out).mono ?_
  rintro e4 w4 ⟨rfl, b4⟩
  have v4 := v3.stays b4
  go_wp2_with fail
  refine (exOk _ v4).mono ?_
  rintro e5 w5 ⟨rfl, b5, v5⟩
  have s1 := b1.size
  have s2 := b2.size
  have s3 := b3.size
  have s4 := b4.size
  go_wp2
  go_ret
  exact ⟨rfl, b1.trans ((b2.mono s1).trans ((b3.mono (by omega)).trans ((b4.mono (by omega)).trans (b5.mono (by omega)))))⟩

/-- The text reads as none. -/
theorem notationNo (s r : ByteArray) (n x e : Int) (hx : wrap32 n = x) (x0 : -2147483648 ≤ x) (x1 : x ≤ 2147483647) (hr : ⟨(Lib.itoa x).toArray⟩ = r) (hrp : parV r.data.toList = x ∧ parE r.data.toList = 0) (hrs : r.size ≤ 21)
    (hv : parV s.data.toList = 0) (he : parE s.data.toList = e) (hne : (e == 0) = false) (hl : s.size ≤ 100) (w : World) (hw : Ev w) (hT : Tb w) :
    Calls Tryd.prog 8 #[.string s, .int .i64 n] w fun e w' => e = .returned (.bool true) ∧ Below w.heap.size w w' := by
  have HX := Lib.hid hx; clear hx
  have HR := Lib.hid hr; clear hr
  have HP := Lib.hid hrp; clear hrp
  have HV := Lib.hid hv; clear hv
  have HE := Lib.hid he; clear he
  have HT := Lib.hid hT; clear hT
  go_enter Tryd.func8, Tryd.ntmps8
  go_wp2_with fail
  refine (wrapP n x HX.out _).mono ?_
  rintro e0 w' ⟨rfl, rfl⟩
  go_wp2_with fail
  refine (vForm x r HR.out (by omega) (by omega) _ HT.out).mono ?_
  rintro e1 w1 ⟨rfl, b1⟩
  have v1' := hw.stays b1
  go_wp2_with fail
  refine (vParseS r x 0 HP.out.1 HP.out.2 (by omega) _ v1').mono ?_
  rintro e2 w2 ⟨rfl, b2, v2⟩
  go_wp2_with fail
  refine (vParseS s 0 e HV.out HE.out (by omega) _ v2).mono ?_
  rintro e3 w3 ⟨rfl, b3, v3⟩
  go_wp2_with fail
  refine (exOk _ v3).mono ?_
  rintro e5 w5 ⟨rfl, b5, v5⟩
  have s1 := b1.size
  have s2 := b2.size
  have s3 := b3.size
  go_wp2
  go_ret
  exact ⟨rfl, b1.trans ((b2.mono s1).trans ((b3.mono (by omega)).trans (b5.mono (by omega))))⟩

theorem lawNotation (s : ByteArray) (n : Int) (hs : s.size ≤ 9223372036854775807) (w : World) (hE : Ev w) (hT : Tb w) :
    Calls Tryd.prog 8 #[.string s, .int .i64 n] w fun e w' => e = .returned (.bool true) ∧ Below w.heap.size w w' := by
  by_cases hl : 100 < s.size
  · exact notationLong s n hl hs w hE
  · have x0 : -2147483648 ≤ wrap32 n := by simp only [wrap32]; omega
    have x1 : wrap32 n ≤ 2147483647 := by simp only [wrap32]; omega
    have hp := parItoa (wrap32 n) x0 x1
    have hrs : (⟨(Lib.itoa (wrap32 n)).toArray⟩ : ByteArray).size ≤ 21 := by
      show (Lib.itoa (wrap32 n)).toArray.size ≤ 21
      rw [List.size_toArray]; exact Lib.itoa_length_le _ (by omega) (by omega)
    rcases parBack s.data.toList with ⟨a, b, c, d⟩ | ⟨a, b⟩
    · exact notationYes s _ n _ _ rfl x0 x1 rfl hp hrs rfl a b c (by rw [d]) (by omega) w hE hT
    · exact notationNo s _ n _ _ rfl x0 x1 rfl hp hrs b rfl (by simpa using a) (by omega) w hE hT
end Go.Proofs.YtlkachcidjkhhaaDoor
