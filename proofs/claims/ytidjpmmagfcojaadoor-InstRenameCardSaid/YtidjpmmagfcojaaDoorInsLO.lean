/-
  The law InstRename at an instruction that does not pass Check: the error of Rename is that of Check.
-/
import Derived.Test.YtidjpmmagfcojaaDoorInsX
import Derived.Test.YtidjpmmagfcojaaDoorInsLN
namespace Go.Proofs.YtidjpmmagfcojaaDoor
open Go Go.RowKit

theorem renNoA (op a b c obj n fn ord x : Int) (hx : (I8.mk8 op a b c obj n fn ord).chk = x) (hne : x ≠ 0) (hi : (I8.mk8 op a b c obj n fn ord).Wf) (l : List Int) (m : Nat) (A : Option Addr) (cp : Nat) (w : World) (hT : InsT w) (hN : Nm w) :
    Calls Tryd.prog 33 #[.agg #[.int .i64 op, .int .i64 a, .int .i64 b, .int .i64 c, .int .i64 obj, .int .i64 n, .int .i64 fn, .int .i64 ord], .slice A m cp] w fun e w' => e = .returned (.tuple #[.agg #[.int .i64 0, .int .i64 0, .int .i64 0, .int .i64 0, .int .i64 0, .int .i64 0, .int .i64 0, .int .i64 0], .int .i64 x]) ∧ Below w.heap.size w w' := by
  have h : (I8.mk8 op a b c obj n fn ord).chk ≠ 0 := by rw [hx]; exact hne
  obtain ⟨e1, e2⟩ := renBad (l := l) h
  exact iRenBad op a b c obj n fn ord h l m hi A cp w hT hN I8.zero x e2 (e1.trans hx)
theorem zerosSt {W : World} {b : Nat} (h : Blk W b 52 zeros8) : (W.cell? ⟨b, 0, none⟩ = some (.int .i64 0) ∧ W.cell? ⟨b, 1, none⟩ = some (.int .i64 0) ∧ W.cell? ⟨b, 2, none⟩ = some (.int .i64 0) ∧ W.cell? ⟨b, 3, none⟩ = some (.int .i64 0) ∧ W.cell? ⟨b, 4, none⟩ = some (.int .i64 0) ∧ W.cell? ⟨b, 5, none⟩ = some (.int .i64 0) ∧ W.cell? ⟨b, 6, none⟩ = some (.int .i64 0) ∧ W.cell? ⟨b, 7, none⟩ = some (.int .i64 0)) ∧
    (W.frozen? ⟨b, 0, none⟩ = false ∧ W.frozen? ⟨b, 1, none⟩ = false ∧ W.frozen? ⟨b, 2, none⟩ = false ∧ W.frozen? ⟨b, 3, none⟩ = false ∧ W.frozen? ⟨b, 4, none⟩ = false ∧ W.frozen? ⟨b, 5, none⟩ = false ∧ W.frozen? ⟨b, 6, none⟩ = false ∧ W.frozen? ⟨b, 7, none⟩ = false) := blkFacts h

set_option maxRecDepth 100000 in
set_option maxHeartbeats 4000000 in
theorem lawRenameNo (op a b c obj n fn ord x : Int) (hx : (I8.mk8 op a b c obj n fn ord).chk = x) (hne : x ≠ 0) (hi : (I8.mk8 op a b c obj n fn ord).Wf) (m n2 : Nat) (hm : m < 4294967296) (w : World) (hL : Laid7 w) :
    Calls Tryd.prog 9 #[.agg #[.int .i64 op, .int .i64 a, .int .i64 b, .int .i64 c, .int .i64 obj, .int .i64 n, .int .i64 fn, .int .i64 ord], .int .u32 (m : Int), .int .u32 (n2 : Int)] w (LawOk7 w) := by
  obtain ⟨W0, hW0, hbW0, hzW0, hbox0⟩ := boxNew w op a b c obj n fn ord
  obtain ⟨c0, c1, c2, c3, c4, c5, c6, c7⟩ := boxFactsW hbox0
  have HC := Lib.hid (iCheckA op a b c obj n fn ord x hx hi)
  have HMP := Lib.hid (lMap m hm)
  have HRN := Lib.hid (fun l m A cp => renNoA op a b c obj n fn ord x hx hne hi l m A cp)
  have HL := Lib.hid (hL.below hbW0)
  have HM := Lib.hid hbox0
  have hx0 : (x != 0) = true := by simpa using hne
  have hxx : (x == x) = true := by simp
  clear hbox0 hi hL hx hne
  go_enter Tryd.func9, Tryd.ntmps9
  go_wp2_with fail
  refine (HC.out _ HL.out.ins HL.out.nm).mono ?_
  rintro e W ⟨rfl, b1⟩
  have B1 := hbW0.trans (b1.mono hbW0.size)
  have HM := Lib.hid (HM.out.below' b1)
  have HL := Lib.hid (HL.out.below b1)
  clear c0 c1 c2 c3 c4 c5 c6 c7
  obtain ⟨c0, c1, c2, c3, c4, c5, c6, c7⟩ := boxFactsW HM.out
  have HKP : Hid (∀ Y, Below W.heap.size W Y → Below W.heap.size W Y ∧ Y.cell? ⟨w.heap.size, 0, none⟩ = some (.int .i64 op) ∧ Y.cell? ⟨w.heap.size, 1, none⟩ = some (.int .i64 a) ∧ Y.cell? ⟨w.heap.size, 2, none⟩ = some (.int .i64 b) ∧ Y.cell? ⟨w.heap.size, 3, none⟩ = some (.int .i64 c) ∧ Y.cell? ⟨w.heap.size, 4, none⟩ = some (.int .i64 obj) ∧ Y.cell? ⟨w.heap.size, 5, none⟩ = some (.int .i64 n) ∧ Y.cell? ⟨w.heap.size, 6, none⟩ = some (.int .i64 fn) ∧ Y.cell? ⟨w.heap.size, 7, none⟩ = some (.int .i64 ord)) := Lib.hid fun Y h => ⟨h, boxFactsW (HM.out.below' h)⟩
  have hbd : Below W.heap.size W W.drew := (Below.refl _ W).drew
  clear c0 c1 c2 c3 c4 c5 c6 c7
  go_wp2_with fail
  go_upto_region 2 with fail
  go_cut [8] from 31 to 36 (fun s8 wx => s8 = .int .i64 x ∧ Below W.heap.size W wx)
  case first =>
    go_region_held3? (fun w' => Below W.heap.size W w' ∧ w'.cell? ⟨w.heap.size, 0, none⟩ = some (.int .i64 op) ∧ w'.cell? ⟨w.heap.size, 1, none⟩ = some (.int .i64 a) ∧ w'.cell? ⟨w.heap.size, 2, none⟩ = some (.int .i64 b) ∧ w'.cell? ⟨w.heap.size, 3, none⟩ = some (.int .i64 c) ∧ w'.cell? ⟨w.heap.size, 4, none⟩ = some (.int .i64 obj) ∧ w'.cell? ⟨w.heap.size, 5, none⟩ = some (.int .i64 n) ∧ w'.cell? ⟨w.heap.size, 6, none⟩ = some (.int .i64 fn) ∧ w'.cell? ⟨w.heap.size, 7, none⟩ = some (.int .i64 ord))
      (first
        | with_reducible assumption
        | with_reducible exact HKP.out _ hbd
        | with_reducible exact HKP.out _ hx4
        | with_reducible exact HKP.out _ hx3
        | with_reducible exact HKP.out _ (belowAl hx4 _)
        | with_reducible exact HKP.out _ (belowAl hx3 _)
        | with_reducible exact HKP.out _ (belowDr (belowAl (Below.refl _ W) _))
        | with_reducible exact HKP.out _ (below8 hx4 (Nat.le_refl _))
        | with_reducible exact HKP.out _ (below8 hx4 hz3))
      (first
        | (go_at_call 34; refine (HMP.out _).mono ?_; rintro e w3 ⟨A3, cap3, rfl, -, bk⟩; have hx3 := belowThen (‹Below W.heap.size W _ ∧ _›).1 bk; have hz3 : W.heap.size ≤ w3.heap.size := hx3.size; (try have HZa : Hid (Blk w3 W.heap.size 52 zeros8) := Lib.hid ((show Blk (W.alloc (.cells zeros8 52)).drew W.heap.size 52 zeros8 from Blk.new W _ _).below' bk)))
        | (go_at_call 33; refine (HRN.out [] 8 A3 cap3 _ (HL.out.below (‹Below W.heap.size W _ ∧ _›).1).ins (HL.out.below (‹Below W.heap.size W _ ∧ _›).1).nm).mono ?_; rintro e w4 ⟨rfl, bk⟩; have hx4 := belowThen (‹Below W.heap.size W _ ∧ _›).1 bk; (try (have HZa := Lib.hid (HZa.out.below' bk); obtain ⟨⟨y0, y1, y2, y3, y4, y5, y6, y7⟩, f0, f1, f2, f3, f4, f5, f6, f7⟩ := zerosSt HZa.out)); (try (have HZb : Hid (Blk w4 w3.heap.size 52 zeros8) := Lib.hid ((Blk.new w3 52 zeros8).below' bk); obtain ⟨⟨y0, y1, y2, y3, y4, y5, y6, y7⟩, f0, f1, f2, f3, f4, f5, f6, f7⟩ := zerosSt HZb.out))))
    all_goals (
      go_wp2_with fail
      go_meet
      exact ⟨rfl, (‹Below W.heap.size W _ ∧ _›).1⟩)
  case rest =>
    obtain ⟨rfl, hbc⟩ := hcut
    have HBC := Lib.hid hbc; clear hbc
    have HM := Lib.hid (HM.out.below' HBC.out)
    have HL := Lib.hid (HL.out.below HBC.out)
    have B2 := belowThen B1 HBC.out
    go_wp2_with fail
    refine (awakeOk _ HL.out).mono ?_
    rintro e w5 ⟨rfl, b5⟩
    have B5 := belowThen B2 b5
    have HM := Lib.hid (HM.out.below' b5)
    have HL := Lib.hid (HL.out.below b5)
    obtain ⟨c0, c1, c2, c3, c4, c5, c6, c7⟩ := boxFactsW HM.out
    go_wp2_with fail
    refine (HC.out _ HL.out.ins HL.out.nm).mono ?_
    rintro e w6 ⟨rfl, b6⟩
    have B6 := belowThen B5 b6
    go_wp2
    go_ret
    exact ⟨by first | rfl | simp, B6⟩
end Go.Proofs.YtidjpmmagfcojaaDoor
