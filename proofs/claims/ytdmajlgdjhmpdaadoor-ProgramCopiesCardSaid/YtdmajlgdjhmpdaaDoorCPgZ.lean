/-
  The contracts of Valid, CheckConfig and Size, the program's and the specification's.
-/
import Derived.Test.YtdmajlgdjhmpdaaDoorCPgY
namespace Go.Proofs.YtdmajlgdjhmpdaaDoor
open Go Go.RowKit

def Prg.okB (p : Prg) : Bool := decide (p.chk.1 = 0)
theorem iValidP {a : PgA} {p : Prg} (w : World) (hP : PgW w a p) (hW : p.Wf) (hT : InsT w) (hN : Nm w) : Calls Tryd.prog 15 #[a.val] w fun e w' => e = .returned (.bool p.okB) ∧ Below w.heap.size w w' := by
  have HE : Hid (p.okB = decide (p.chk.1 = 0)) := Lib.hid rfl
  have HC := Lib.hid (fun X (hX : Below w.heap.size w X) => iCheckP X (hP.below hX) hW (hT.below hX) (hN.below hX))
  generalize p.okB = r at HE ⊢
  generalize p.chk = c at HE HC
  obtain ⟨x, y, z⟩ := c
  simp only [err3] at HC HE
  obtain ⟨A1, n1, c1, A2, n2, c2, A3, n3, c3, A4, n4, c4, A5, n5, c5⟩ := a
  simp only [PgA.val, PgA.fs] at *
  have hbW := belowAlloc w (.cells #[.slice A1 n1 c1, .slice A2 n2 c2, .slice A3 n3 c3, .slice A4 n4 c4, .slice A5 n5 c5] 27)
  have HB := Lib.hid hbW
  clear hP hW hT hN
  by_cases hx : x = 0
  · subst hx
    have HR := Lib.hid (show true = r by rw [HE.out]; rfl)
    clear HE
    go_enter Tryd.func15, Tryd.ntmps15
    go_wp2_with (go_at_call 14; refine (HC.out _ HB.out).mono ?_; rintro e w2 ⟨rfl, b2⟩)
    go_ret
    exact ⟨retBl HR.out, belowThen HB.out b2⟩
  · have HR := Lib.hid (show false = r by rw [HE.out, decide_eq_false hx])
    have hx0 : (x == 0) = false := by simpa using hx
    clear HE hx
    go_enter Tryd.func15, Tryd.ntmps15
    go_wp2_with (go_at_call 14; refine (HC.out _ HB.out).mono ?_; rintro e w2 ⟨rfl, b2⟩)
    go_ret
    exact ⟨retBl HR.out, belowThen HB.out b2⟩

/-- The error of a configuration. -/
def cfgE (m b : Int) : Int := if m ≠ 1 ∧ m ≠ 2 ∧ m ≠ 3 then 18 else if b < 1 ∨ 32 < b then 2 else 0
set_option maxHeartbeats 1000000 in
theorem iConfig (m b : Int) (w : World) : Calls Tryd.prog 17 #[.agg #[.int .i64 m, .int .i64 b]] w fun e w' => e = .returned (.int .i64 (cfgE m b)) ∧ Below w.heap.size w w' := by
  obtain ⟨r, hr⟩ : ∃ r, cfgE m b = r := ⟨_, rfl⟩
  rw [hr]
  have hbW := belowAlloc w (.cells #[.int .i64 m, .int .i64 b] 56)
  unfold cfgE at hr
  by_cases h1 : m = 1
  · subst h1
    rw [if_neg (by simp)] at hr
    by_cases g1 : b < 1
    · have HR := Lib.hid ((if_pos (.inl g1)).symm.trans hr)
      clear hr
      go_enter Tryd.func17, Tryd.ntmps17
      go_wp2
      go_ret
      exact ⟨retIO HR.out, hbW⟩
    · by_cases g2 : 32 < b
      · have HR := Lib.hid ((if_pos (.inr g2)).symm.trans hr)
        clear hr
        go_enter Tryd.func17, Tryd.ntmps17
        go_wp2
        go_ret
        exact ⟨retIO HR.out, hbW⟩
      · have HR := Lib.hid ((if_neg (by omega)).symm.trans hr)
        clear hr
        go_enter Tryd.func17, Tryd.ntmps17
        go_wp2
        go_ret
        exact ⟨retIO HR.out, hbW⟩
  by_cases h2 : m = 2
  · subst h2
    rw [if_neg (by simp)] at hr
    by_cases g1 : b < 1
    · have HR := Lib.hid ((if_pos (.inl g1)).symm.trans hr)
      clear hr
      go_enter Tryd.func17, Tryd.ntmps17
      go_wp2
      go_ret
      exact ⟨retIO HR.out, hbW⟩
    · by_cases g2 : 32 < b
      · have HR := Lib.hid ((if_pos (.inr g2)).symm.trans hr)
        clear hr
        go_enter Tryd.func17, Tryd.ntmps17
        go_wp2
        go_ret
        exact ⟨retIO HR.out, hbW⟩
      · have HR := Lib.hid ((if_neg (by omega)).symm.trans hr)
        clear hr
        go_enter Tryd.func17, Tryd.ntmps17
        go_wp2
        go_ret
        exact ⟨retIO HR.out, hbW⟩
  by_cases h3 : m = 3
  · subst h3
    rw [if_neg (by simp)] at hr
    by_cases g1 : b < 1
    · have HR := Lib.hid ((if_pos (.inl g1)).symm.trans hr)
      clear hr
      go_enter Tryd.func17, Tryd.ntmps17
      go_wp2
      go_ret
      exact ⟨retIO HR.out, hbW⟩
    · by_cases g2 : 32 < b
      · have HR := Lib.hid ((if_pos (.inr g2)).symm.trans hr)
        clear hr
        go_enter Tryd.func17, Tryd.ntmps17
        go_wp2
        go_ret
        exact ⟨retIO HR.out, hbW⟩
      · have HR := Lib.hid ((if_neg (by omega)).symm.trans hr)
        clear hr
        go_enter Tryd.func17, Tryd.ntmps17
        go_wp2
        go_ret
        exact ⟨retIO HR.out, hbW⟩
  have HR := Lib.hid ((if_pos ⟨h1, h2, h3⟩).symm.trans hr)
  have z1 : (m == 1) = false := by simpa using h1
  have z2 : (m == 2) = false := by simpa using h2
  have z3 : (m == 3) = false := by simpa using h3
  have y1 : (m != 1) = true := by simpa using h1
  have y2 : (m != 2) = true := by simpa using h2
  have y3 : (m != 3) = true := by simpa using h3
  clear hr h1 h2 h3
  go_enter Tryd.func17, Tryd.ntmps17
  go_wp2
  go_ret
  exact ⟨retIO HR.out, hbW⟩
/-- The number of instructions. -/
def Prg.size (p : Prg) : Nat := (p.funcs.map fun f => f.2.length).sum
end Go.Proofs.YtdmajlgdjhmpdaaDoor
