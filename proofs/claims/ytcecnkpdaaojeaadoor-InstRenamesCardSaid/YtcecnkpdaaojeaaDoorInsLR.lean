/-
  The law InstRenames returns true for every instruction and every mapping, where the tables are laid; nothing that was in memory changes.
-/
import Derived.Test.YtcecnkpdaaojeaaDoorInsLN
namespace Go.Proofs.YtcecnkpdaaojeaaDoor
open Go Go.RowKit

set_option maxRecDepth 100000 in
set_option maxHeartbeats 1000000 in
theorem renamesShort (op a b c obj n fn ord : Int) (hi : (I8.mk8 op a b c obj n fn ord).Wf) (l : List Int) (m : Nat) (hm : l.length = m) (h100 : m ≤ 100) (A : Option Addr) (cp : Nat) (w : World) (hA : Rd w A cp l) (hL : Laid7 w) :
    Calls Tryd.prog 12 #[.agg #[.int .i64 op, .int .i64 a, .int .i64 b, .int .i64 c, .int .i64 obj, .int .i64 n, .int .i64 fn, .int .i64 ord], .slice A m cp] w (LawOk7 w) := by
  obtain ⟨W, hW, hbW, hzW, hbox⟩ := boxNew w op a b c obj n fn ord
  obtain ⟨c0, c1, c2, c3, c4, c5, c6, c7⟩ := boxFactsW hbox
  obtain ⟨p0, p1, p2, p3, p4, p5, p6, p7, hI⟩ : ∃ p0 p1 p2 p3 p4 p5 p6 p7, (I8.mk8 op a b c obj n fn ord).renI l = ⟨p0, p1, p2, p3, p4, p5, p6, p7⟩ := ⟨_, _, _, _, _, _, _, _, rfl⟩
  obtain ⟨E, hE⟩ : ∃ E, (I8.mk8 op a b c obj n fn ord).renE l = E := ⟨_, rfl⟩
  have HP := Lib.hid (iRenA op a b c obj n fn ord l m hm p0 p1 p2 p3 p4 p5 p6 p7 E hI hE hi A cp)
  have HR := Lib.hid (rRenA op a b c obj n fn ord l m hm p0 p1 p2 p3 p4 p5 p6 p7 E hI hE A cp)
  have HM := Lib.hid hbox
  have HL := Lib.hid (hL.below hbW)
  have HA := Lib.hid (hA.below hbW)
  clear hbox hI hE hi hL hA hm
  go_enter Tryd.func12, Tryd.ntmps12
  go_wp2_with fail
  refine (HP.out _ HA.out HL.out.ins HL.out.nm).mono ?_
  rintro e w1 ⟨rfl, b1⟩
  obtain ⟨X, hX, hbX, hzX, hboxX⟩ := boxNew w1 p0 p1 p2 p3 p4 p5 p6 p7
  have b1X := b1.trans (hbX.mono b1.size)
  have HM1 := HM.out.below' b1
  have lt1 := HM1.lt
  obtain ⟨c0, c1, c2, c3, c4, c5, c6, c7⟩ := boxFactsW HM1
  clear HM1
  have HHX := Lib.hid hX; clear hX
  have HM := Lib.hid (HM.out.below' b1X)
  have HL := Lib.hid (HL.out.below b1X)
  have HA := Lib.hid (HA.out.below b1X)
  have HX := Lib.hid hboxX; clear hboxX
  have BX := hbW.trans (b1X.mono hbW.size)
  go_wp2_with fail
  rw [HHX.out]
  refine (HR.out _ HA.out).mono ?_
  rintro e w2 ⟨rfl, b2⟩
  obtain ⟨Y, hY, hbY, hzY, hboxY⟩ := boxNew w2 p0 p1 p2 p3 p4 p5 p6 p7
  have b2Y := b2.trans (hbY.mono b2.size)
  have HHY := Lib.hid hY; clear hY
  have HL := Lib.hid (HL.out.below b2Y)
  have HX := Lib.hid (HX.out.below' b2Y)
  have HY := Lib.hid hboxY; clear hboxY
  have BY := belowThen BX b2Y
  go_wp2_with fail
  rw [HHY.out]
  refine (awakeOk _ HL.out).mono ?_
  rintro e w3 ⟨rfl, b3⟩
  have HX := Lib.hid (HX.out.below' b3)
  have HY := Lib.hid (HY.out.below' b3)
  have B3 := belowThen BY b3
  obtain ⟨x0, x1, x2, x3, x4, x5, x6, x7⟩ := boxFactsW HX.out
  obtain ⟨y0, y1, y2, y3, y4, y5, y6, y7⟩ := boxFactsW HY.out
  go_wp2_with fail
  go_ret
  exact ⟨by simp, B3⟩

theorem lawRenames (i : I8) (hi : i.Wf) (l : List Int) (m : Nat) (hm : l.length = m) (A : Option Addr) (cp : Nat) (w : World) (hA : Rd w A cp l) (hL : Laid7 w) :
    Calls Tryd.prog 12 #[i.val, .slice A m cp] w (LawOk7 w) := by
  obtain ⟨op, a, b, c, obj, n, fn, ord⟩ := i
  by_cases h : m ≤ 100
  · exact renamesShort op a b c obj n fn ord hi l m hm h A cp w hA hL
  · have hle := hA.le
    have hmx := hA.max
    unfold maxLen at hmx
    rw [hm] at hle
    obtain ⟨W, hW, hbW, hzW, hbox⟩ := boxNew w op a b c obj n fn ord
    have HL := Lib.hid (hL.below hbW)
    have hv : (I8.mk8 op a b c obj n fn ord).val = .agg #[.int .i64 op, .int .i64 a, .int .i64 b, .int .i64 c, .int .i64 obj, .int .i64 n, .int .i64 fn, .int .i64 ord] := rfl
    rw [hv]
    clear hbox hi hL hA hm hv
    go_enter Tryd.func12, Tryd.ntmps12
    go_wp2_with fail
    refine (awakeOk _ HL.out).mono ?_
    rintro e w3 ⟨rfl, b3⟩
    have B3 := hbW.trans (b3.mono hbW.size)
    go_wp2
    go_ret
    exact ⟨rfl, B3⟩
end Go.Proofs.YtcecnkpdaaojeaaDoor
