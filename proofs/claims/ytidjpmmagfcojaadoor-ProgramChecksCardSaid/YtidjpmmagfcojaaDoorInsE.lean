/-
  The contract of the statements' own examples (awake): they hold, where the tables are laid.
-/
import Derived.Test.YtidjpmmagfcojaaDoorInsQ
import Derived.Test.YtidjpmmagfcojaaDoorInsH
import Derived.Test.YtidjpmmagfcojaaDoorInts
namespace Go.Proofs.YtidjpmmagfcojaaDoor
open Go Go.RowKit

/-- The tables of the operations and of the names of the functions are laid. -/
structure Laid7 (w : World) : Prop where
  ins : InsT w
  nm : Nm w
theorem Laid7.below {W X : World} {B : Nat} (h : Laid7 W) (hb : Below B W X) (hB : W.heap.size ≤ B := by exact Nat.le_refl _) : Laid7 X := ⟨h.ins.below hb hB, h.nm.below hb hB⟩
theorem in64 {x : Int} (h : -9223372036854775808 ≤ x ∧ x ≤ 9223372036854775807) : In64 x := h
abbrev exCas : I8 := ⟨12, 1, 5, 4, 0, 0, 0, 2⟩
abbrev exCopy : I8 := ⟨2, 0, 1, 0, 0, 0, 0, 0⟩
abbrev exCalc : I8 := ⟨3, 1, 2, 8, 0, 0, 1, 0⟩
abbrev exJump : I8 := ⟨4, 1, 0, 0, 0, 3, 0, 0⟩
abbrev exConst : I8 := ⟨1, 0, 0, 0, 0, 2147483648, 0, 0⟩
theorem wfCas : exCas.Wf := by refine ⟨?_, ?_, ?_, ?_, ?_, ?_, ?_, ?_⟩ <;> exact in64 (by decide)
theorem wfCopy : exCopy.Wf := by refine ⟨?_, ?_, ?_, ?_, ?_, ?_, ?_, ?_⟩ <;> exact in64 (by decide)
theorem wfCalc : exCalc.Wf := by refine ⟨?_, ?_, ?_, ?_, ?_, ?_, ?_, ?_⟩ <;> exact in64 (by decide)
theorem wfJump : exJump.Wf := by refine ⟨?_, ?_, ?_, ?_, ?_, ?_, ?_, ?_⟩ <;> exact in64 (by decide)
theorem wfConst : exConst.Wf := by refine ⟨?_, ?_, ?_, ?_, ?_, ?_, ?_, ?_⟩ <;> exact in64 (by decide)
theorem intsEq7 (l : List Int) (n k : Nat) (hn : l.length = n) (hk : l.length = k) (A B : Option Addr) (c d : Nat) (w : World) (ha : Rd w A c l) (hb : Rd w B d l) :
    Calls Tryd.prog 39 #[.slice A n c, .slice B k d] w fun e w' => e = .returned (.bool true) ∧ Below w.heap.size w w' := by
  subst hn; subst hk
  exact (rInts l l true (eqB_yes rfl) A B c d w ha hb).mono fun e w' ⟨h1, n, h2⟩ => ⟨h1, by rw [h2]; exact belowN w n⟩

theorem iRenA (op a b c obj n fn ord : Int) (l : List Int) (m : Nat) (hm : l.length = m) (op' a' b' c' obj' n' fn' ord' E : Int) (hI : (I8.mk8 op a b c obj n fn ord).renI l = ⟨op', a', b', c', obj', n', fn', ord'⟩) (hE : (I8.mk8 op a b c obj n fn ord).renE l = E) (hi : (I8.mk8 op a b c obj n fn ord).Wf) (A : Option Addr) (cp : Nat) (w : World) (hA : Rd w A cp l) (hT : InsT w) (hN : Nm w) :
    Calls Tryd.prog 33 #[.agg #[.int .i64 op, .int .i64 a, .int .i64 b, .int .i64 c, .int .i64 obj, .int .i64 n, .int .i64 fn, .int .i64 ord], .slice A m cp] w fun e w' => e = .returned (.tuple #[.agg #[.int .i64 op', .int .i64 a', .int .i64 b', .int .i64 c', .int .i64 obj', .int .i64 n', .int .i64 fn', .int .i64 ord'], .int .i64 E]) ∧ Below w.heap.size w w' := iRen _ l m hm _ E hI hE hi A cp w hA hT hN
set_option maxRecDepth 100000 in
set_option maxHeartbeats 2000000 in
theorem awakeOk (w : World) (hL : Laid7 w) :
    Calls Tryd.prog 35 #[] w fun e w' => e = .returned (.bool true) ∧ Below w.heap.size w w' := by
  obtain ⟨W, hW, hbW, hzW, hbox⟩ := boxNew w 12 1 5 4 0 0 0 2
  obtain ⟨c0, c1, c2, c3, c4, c5, c6, c7⟩ := boxFactsW hbox
  have HM := Lib.hid hbox; clear hbox
  have HL := Lib.hid (hL.below hbW); clear hL
  have HD := Lib.hid (iDefs exCas 1 true (by decide) (by decide) wfCas)
  go_enter Tryd.func35, Tryd.ntmps35
  go_wp2_with fail
  refine (HD.out _ HL.out.ins HL.out.nm).mono ?_
  rintro e w2 ⟨rfl, b2⟩
  have B2 := hbW.trans (b2.mono hbW.size)
  have HM := Lib.hid (HM.out.below' b2)
  have HL := Lib.hid (HL.out.below b2)
  obtain ⟨c0, c1, c2, c3, c4, c5, c6, c7⟩ := boxFactsW HM.out
  have rl := Rd.lit w2 [3, 2, 1, 0, 4, 5, 6, 7] 3 (by simp)
  have bl := belowAlloc w2 (.cells (iv [3, 2, 1, 0, 4, 5, 6, 7]).toArray 3)
  have HRN := Lib.hid (iRenA 2 0 1 0 0 0 0 0 [3, 2, 1, 0, 4, 5, 6, 7] 8 rfl 2 3 2 0 0 0 0 0 0 (by decide) (by decide) wfCopy _ 8 _ rl (HL.out.ins.below bl) (HL.out.nm.below bl))
  clear rl
  go_wp2_with fail
  refine HRN.out.mono ?_
  rintro e w3 ⟨rfl, b3⟩
  have b23 := bl.trans (b3.mono bl.size)
  have B3 := belowThen B2 b23
  have HM := Lib.hid (HM.out.below' b23)
  have HL := Lib.hid (HL.out.below b23)
  obtain ⟨X, hX, hbX, hzX, hbox⟩ := boxNew w3 2 3 2 0 0 0 0 0
  have HM := Lib.hid (HM.out.below' hbX)
  have HL := Lib.hid (HL.out.below hbX)
  have HX := Lib.hid hbox; clear hbox
  have HHX := Lib.hid hX; clear hX
  have BX := belowThen B3 hbX
  obtain ⟨c0, c1, c2, c3, c4, c5, c6, c7⟩ := boxFactsW HM.out
  obtain ⟨x0, x1, x2, x3, x4, x5, x6, x7⟩ := boxFactsW HX.out
  have HC1 := Lib.hid (iCheckA 3 1 2 8 0 0 1 0 10 (by decide) wfCalc)
  have HC2 := Lib.hid (iCheckA 4 1 0 0 0 3 0 0 9 (by decide) wfJump)
  have HC3 := Lib.hid (iCheckA 1 0 0 0 0 2147483648 0 0 2 (by decide +kernel) wfConst)
  have HC4 := Lib.hid (iCheckA 12 1 5 4 0 0 0 2 0 (by decide) wfCas)
  have HU := Lib.hid (iUses exCas [4, 5] (by decide) wfCas)
  have HN := Lib.hid (iMnem 17 ⟨#[116, 114, 121, 108, 111, 99, 107]⟩ (by decide))
  go_wp2_with fail
  rw [HHX.out]
  refine (HC1.out _ HL.out.ins HL.out.nm).mono ?_
  rintro e w4 ⟨rfl, b4⟩
  have HM := Lib.hid (HM.out.below' b4)
  have HX := Lib.hid (HX.out.below' b4)
  have HL := Lib.hid (HL.out.below b4)
  obtain ⟨c0, c1, c2, c3, c4, c5, c6, c7⟩ := boxFactsW HM.out
  obtain ⟨x0, x1, x2, x3, x4, x5, x6, x7⟩ := boxFactsW HX.out
  have B4 := belowThen BX b4
  go_wp2_with fail
  refine (HC2.out _ HL.out.ins HL.out.nm).mono ?_
  rintro e w5 ⟨rfl, b5⟩
  have HM := Lib.hid (HM.out.below' b5)
  have HX := Lib.hid (HX.out.below' b5)
  have HL := Lib.hid (HL.out.below b5)
  obtain ⟨c0, c1, c2, c3, c4, c5, c6, c7⟩ := boxFactsW HM.out
  obtain ⟨x0, x1, x2, x3, x4, x5, x6, x7⟩ := boxFactsW HX.out
  have B5 := belowThen B4 b5
  go_wp2_with fail
  refine (HC3.out _ HL.out.ins HL.out.nm).mono ?_
  rintro e w6 ⟨rfl, b6⟩
  have HM := Lib.hid (HM.out.below' b6)
  have HX := Lib.hid (HX.out.below' b6)
  have HL := Lib.hid (HL.out.below b6)
  obtain ⟨c0, c1, c2, c3, c4, c5, c6, c7⟩ := boxFactsW HM.out
  obtain ⟨x0, x1, x2, x3, x4, x5, x6, x7⟩ := boxFactsW HX.out
  have B6 := belowThen B5 b6
  go_wp2_with fail
  refine (HC4.out _ HL.out.ins HL.out.nm).mono ?_
  rintro e w7 ⟨rfl, b7⟩
  have HM := Lib.hid (HM.out.below' b7)
  have HX := Lib.hid (HX.out.below' b7)
  have HL := Lib.hid (HL.out.below b7)
  obtain ⟨c0, c1, c2, c3, c4, c5, c6, c7⟩ := boxFactsW HM.out
  obtain ⟨x0, x1, x2, x3, x4, x5, x6, x7⟩ := boxFactsW HX.out
  have B7 := belowThen B6 b7
  go_wp2_with fail
  refine (HU.out _ HL.out.ins HL.out.nm).mono ?_
  rintro e w8 ⟨A8, c8, rfl, r8, b8⟩
  have HM := Lib.hid (HM.out.below' b8)
  have HX := Lib.hid (HX.out.below' b8)
  have HL := Lib.hid (HL.out.below b8)
  obtain ⟨c0, c1, c2, c3, c4, c5, c6, c7⟩ := boxFactsW HM.out
  obtain ⟨x0, x1, x2, x3, x4, x5, x6, x7⟩ := boxFactsW HX.out
  have B8 := belowThen B7 b8
  have rl := Rd.lit w8 [4, 5] 3 (by simp)
  have b9 := belowAlloc w8 (.cells (iv [4, 5]).toArray 3)
  have HI := Lib.hid (intsEq7 [4, 5] 2 2 rfl rfl A8 _ c8 2 _ (r8.below b9) rl)
  clear rl r8
  have HM := Lib.hid (HM.out.below' b9)
  have HX := Lib.hid (HX.out.below' b9)
  have HL := Lib.hid (HL.out.below b9)
  obtain ⟨c0, c1, c2, c3, c4, c5, c6, c7⟩ := boxFactsW HM.out
  obtain ⟨x0, x1, x2, x3, x4, x5, x6, x7⟩ := boxFactsW HX.out
  have B9 := belowThen B8 b9
  go_wp2_with fail
  refine HI.out.mono ?_
  rintro e w10 ⟨rfl, b10⟩
  have HM := Lib.hid (HM.out.below' b10)
  have HX := Lib.hid (HX.out.below' b10)
  have HL := Lib.hid (HL.out.below b10)
  obtain ⟨c0, c1, c2, c3, c4, c5, c6, c7⟩ := boxFactsW HM.out
  obtain ⟨x0, x1, x2, x3, x4, x5, x6, x7⟩ := boxFactsW HX.out
  have B10 := belowThen B9 b10
  go_wp2_with fail
  refine (HN.out _ HL.out.ins).mono ?_
  rintro e w' ⟨rfl, rfl⟩
  go_wp2
  go_ret
  exact ⟨rfl, B10⟩
end Go.Proofs.YtidjpmmagfcojaaDoor
