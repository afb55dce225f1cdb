/-
  The specification's Condition at an instruction behind which two more stand.
-/
import Derived.Test.YtkanamdfjegcbaaDoorFAwC
import Derived.Test.YtkanamdfjegcbaaDoorFAwFr
namespace Go.Proofs.YtkanamdfjegcbaaDoor
open Go Go.RowKit


set_option maxRecDepth 100000 in
set_option maxHeartbeats 16000000 in
set_option linter.unusedSimpArgs false in
set_option linter.unusedVariables false in
theorem rCond (nm : ByteArray) (C : List I8) (m : Nat) (hm : C.length = m) (n : Nat) (hn : n + 2 < m) (A : Option Addr) (c : Nat) (w : World) (hr : RdE 8 EI w A c C) :
    Calls Tryd.prog 60 #[.agg #[.string nm, .slice A m c], .int .i64 (n : Int)] w (GivesCn C n w) := by
  obtain ⟨W0, hW0⟩ : ∃ W, w.alloc (.cells #[.string nm, .slice A m c] 24) = W := ⟨_, rfl⟩
  obtain ⟨W, hW⟩ : ∃ W, W0.alloc (.cells zeros8 44) = W := ⟨_, rfl⟩
  have hbW : Below w.heap.size w W := by rw [← hW, ← hW0]; exact belowThen (belowAlloc _ _) (belowAlloc _ _)
  have hB : Blk W w.heap.size 24 #[.string nm, .slice A m c] := by rw [← hW, ← hW0]; exact (Blk.new w _ _).alloc _
  have hR : Blk W (w.heap.size + 1) 44 zeros8 := by rw [← hW, ← hW0]; exact Blk.new1 w _ _ _
  have HRB0 := Lib.hid hR
  have HBW := Lib.hid hbW
  have HW := Lib.hid hW
  have HW0 := Lib.hid hW0
  have hle := hr.le
  have hmx := hr.max
  have HKW : Hid (∀ X, Below W.heap.size W X → X.cell? ⟨w.heap.size, 0, none⟩ = some (.string nm) ∧ X.cell? ⟨w.heap.size, 1, none⟩ = some (.slice A m c)) := Lib.hid fun X hX => ⟨(hB.below' hX).cell 0, (hB.below' hX).cell 1⟩
  have HEN := Lib.hid (fun x X (hX : Below W.heap.size W X) => rEntered nm C m hm x A c X (hr.below stabI (belowThen hbW hX)))
  have hnC : n + 2 < C.length := by omega
  obtain ⟨g, off, rfl, hg, hx⟩ := (hr.below stabI hbW).at_ (by omega)
  have e0 := hx n (by omega)
  have e1 := hx (n + 1) (by omega)
  have e2 := hx (n + 2) hnC
  have HSP0 : Hid (spB C n = sp3 C C[n] C[n + 1] C[n + 2] n) := Lib.hid (spAt hnC)
  have HY0 : Hid (spB C n = true → (cnI C n).val = (awOf C[n] C[n + 1]).val) := Lib.hid fun h => cnYes h (getD8 _) (getD8 _)
  generalize C[n] = lI at *
  generalize C[n + 1] = cI at *
  generalize C[n + 2] = bI at *
  obtain ⟨x0, x1, x2, x3, x4, x5, x6, x7⟩ := lI
  obtain ⟨y0, y1, y2, y3, y4, y5, y6, y7⟩ := cI
  obtain ⟨z0, z1, z2, z3, z4, z5, z6, z7⟩ := bI
  obtain ⟨k1, hk1⟩ : ∃ k1, n + 1 = k1 := ⟨_, rfl⟩
  obtain ⟨k2, hk2⟩ : ∃ k2, n + 2 = k2 := ⟨_, rfl⟩
  rw [hk1] at e1
  rw [hk2] at e2
  have HS := Lib.hid (fun X (hX : Below W.heap.size W X) => (⟨hX, (hB.below' hX).cell 0, (hB.below' hX).cell 1, (hX.cell hg).trans e0.c0, (hX.cell hg).trans e0.c1, (hX.cell hg).trans e0.c2, (hX.cell hg).trans e0.c3, (hX.cell hg).trans e0.c4, (hX.cell hg).trans e0.c5, (hX.cell hg).trans e0.c6, (hX.cell hg).trans e0.c7, (hX.cell hg).trans e1.c0, (hX.cell hg).trans e1.c1, (hX.cell hg).trans e1.c2, (hX.cell hg).trans e1.c3, (hX.cell hg).trans e1.c4, (hX.cell hg).trans e1.c5, (hX.cell hg).trans e1.c6, (hX.cell hg).trans e1.c7, (hX.cell hg).trans e2.c0, (hX.cell hg).trans e2.c1, (hX.cell hg).trans e2.c2, (hX.cell hg).trans e2.c3, (hX.cell hg).trans e2.c4, (hX.cell hg).trans e2.c5, (hX.cell hg).trans e2.c6, (hX.cell hg).trans e2.c7⟩ :
    Below W.heap.size W X ∧ X.cell? ⟨w.heap.size, 0, none⟩ = some (.string nm) ∧ X.cell? ⟨w.heap.size, 1, none⟩ = some (.slice (some ⟨g, off, none⟩) m c) ∧ X.cell? ⟨g, off + n * 8, none⟩ = some (.int .i64 x0) ∧ X.cell? ⟨g, off + n * 8 + 1, none⟩ = some (.int .i64 x1) ∧ X.cell? ⟨g, off + n * 8 + 2, none⟩ = some (.int .i64 x2) ∧ X.cell? ⟨g, off + n * 8 + 3, none⟩ = some (.int .i64 x3) ∧ X.cell? ⟨g, off + n * 8 + 4, none⟩ = some (.int .i64 x4) ∧ X.cell? ⟨g, off + n * 8 + 5, none⟩ = some (.int .i64 x5) ∧ X.cell? ⟨g, off + n * 8 + 6, none⟩ = some (.int .i64 x6) ∧ X.cell? ⟨g, off + n * 8 + 7, none⟩ = some (.int .i64 x7) ∧ X.cell? ⟨g, off + k1 * 8, none⟩ = some (.int .i64 y0) ∧ X.cell? ⟨g, off + k1 * 8 + 1, none⟩ = some (.int .i64 y1) ∧ X.cell? ⟨g, off + k1 * 8 + 2, none⟩ = some (.int .i64 y2) ∧ X.cell? ⟨g, off + k1 * 8 + 3, none⟩ = some (.int .i64 y3) ∧ X.cell? ⟨g, off + k1 * 8 + 4, none⟩ = some (.int .i64 y4) ∧ X.cell? ⟨g, off + k1 * 8 + 5, none⟩ = some (.int .i64 y5) ∧ X.cell? ⟨g, off + k1 * 8 + 6, none⟩ = some (.int .i64 y6) ∧ X.cell? ⟨g, off + k1 * 8 + 7, none⟩ = some (.int .i64 y7) ∧ X.cell? ⟨g, off + k2 * 8, none⟩ = some (.int .i64 z0) ∧ X.cell? ⟨g, off + k2 * 8 + 1, none⟩ = some (.int .i64 z1) ∧ X.cell? ⟨g, off + k2 * 8 + 2, none⟩ = some (.int .i64 z2) ∧ X.cell? ⟨g, off + k2 * 8 + 3, none⟩ = some (.int .i64 z3) ∧ X.cell? ⟨g, off + k2 * 8 + 4, none⟩ = some (.int .i64 z4) ∧ X.cell? ⟨g, off + k2 * 8 + 5, none⟩ = some (.int .i64 z5) ∧ X.cell? ⟨g, off + k2 * 8 + 6, none⟩ = some (.int .i64 z6) ∧ X.cell? ⟨g, off + k2 * 8 + 7, none⟩ = some (.int .i64 z7)))
  rw [hm] at hle
  unfold maxLen at hmx
  have hn0 : (0 : Int) ≤ n := by omega
  have hn1 : (n : Int) < m := by omega
  have hn2 : (0 : Int) ≤ k1 := by omega
  have hn3 : (k1 : Int) < m := by omega
  have hn4 : (0 : Int) ≤ k2 := by omega
  have hn5 : (k2 : Int) < m := by omega
  have h0 : ¬ ((n : Int) < 0) := by omega
  have h3 : ¬ ((m : Int) - 3 < (n : Int)) := by omega
  have hwk : IntKind.i64.wrap ((n : Int) + 1) = (k1 : Int) := by rw [IntKind.wrap_i64]; omega
  have hwk2 : IntKind.i64.wrap ((n : Int) + 2) = (k2 : Int) := by rw [IntKind.wrap_i64]; omega
  have hww : ((n : Int) + 1) = (k1 : Int) := by omega
  have hww2 : ((n : Int) + 2) = (k2 : Int) := by omega
  have HK1 : Hid ((k1 : Int) = (n : Int) + 1) := Lib.hid (by omega)
  have HK2 : Hid ((k2 : Int) = (n : Int) + 2) := Lib.hid (by omega)
  unfold sp3 q1 q2 q3 q4 q5 at HSP0
  rw [hww, hww2] at HSP0
  simp only at HSP0
  obtain ⟨-, s0, s1, s2, s3, s4, s5, s6, s7, s8, s9, s10, s11, s12, s13, s14, s15, s16, s17, s18, s19, s20, s21, s22, s23, s24, s25⟩ := HS.out W (Below.refl _ _)
  have hbd : Below W.heap.size W W.drew := (Below.refl _ W).drew
  clear hr e0 e1 e2 hx hm hB hR hbW hW hW0 hnC hww hww2 hk1 hk2 hn
  unfold zeros8 at HW
  unfold GivesCn
  go_enter Tryd.func60, Tryd.ntmps60
  go_wp2_with fail
  rw [HW0.out, HW.out]
  go_upto_region 3 with fail
  go_cut [6, 7, 8] from 6 to 38 (fun s6 s7 s8 wx => ∃ bl bc bb, s6 = .pointer (some ⟨bl, 0, none⟩) ∧ s7 = .pointer (some ⟨bc, 0, none⟩) ∧ s8 = .pointer (some ⟨bb, 0, none⟩) ∧ Blk wx bl 44 #[.int .i64 x0, .int .i64 x1, .int .i64 x2, .int .i64 x3, .int .i64 x4, .int .i64 x5, .int .i64 x6, .int .i64 x7] ∧ Blk wx bc 44 #[.int .i64 y0, .int .i64 y1, .int .i64 y2, .int .i64 y3, .int .i64 y4, .int .i64 y5, .int .i64 y6, .int .i64 y7] ∧ Blk wx bb 44 #[.int .i64 z0, .int .i64 z1, .int .i64 z2, .int .i64 z3, .int .i64 z4, .int .i64 z5, .int .i64 z6, .int .i64 z7] ∧ Below W.heap.size W wx)
  case first =>
    go_region_held3 (fun X => Below W.heap.size W X ∧ X.cell? ⟨w.heap.size, 0, none⟩ = some (.string nm) ∧ X.cell? ⟨w.heap.size, 1, none⟩ = some (.slice (some ⟨g, off, none⟩) m c) ∧ X.cell? ⟨g, off + n * 8, none⟩ = some (.int .i64 x0) ∧ X.cell? ⟨g, off + n * 8 + 1, none⟩ = some (.int .i64 x1) ∧ X.cell? ⟨g, off + n * 8 + 2, none⟩ = some (.int .i64 x2) ∧ X.cell? ⟨g, off + n * 8 + 3, none⟩ = some (.int .i64 x3) ∧ X.cell? ⟨g, off + n * 8 + 4, none⟩ = some (.int .i64 x4) ∧ X.cell? ⟨g, off + n * 8 + 5, none⟩ = some (.int .i64 x5) ∧ X.cell? ⟨g, off + n * 8 + 6, none⟩ = some (.int .i64 x6) ∧ X.cell? ⟨g, off + n * 8 + 7, none⟩ = some (.int .i64 x7) ∧ X.cell? ⟨g, off + k1 * 8, none⟩ = some (.int .i64 y0) ∧ X.cell? ⟨g, off + k1 * 8 + 1, none⟩ = some (.int .i64 y1) ∧ X.cell? ⟨g, off + k1 * 8 + 2, none⟩ = some (.int .i64 y2) ∧ X.cell? ⟨g, off + k1 * 8 + 3, none⟩ = some (.int .i64 y3) ∧ X.cell? ⟨g, off + k1 * 8 + 4, none⟩ = some (.int .i64 y4) ∧ X.cell? ⟨g, off + k1 * 8 + 5, none⟩ = some (.int .i64 y5) ∧ X.cell? ⟨g, off + k1 * 8 + 6, none⟩ = some (.int .i64 y6) ∧ X.cell? ⟨g, off + k1 * 8 + 7, none⟩ = some (.int .i64 y7) ∧ X.cell? ⟨g, off + k2 * 8, none⟩ = some (.int .i64 z0) ∧ X.cell? ⟨g, off + k2 * 8 + 1, none⟩ = some (.int .i64 z1) ∧ X.cell? ⟨g, off + k2 * 8 + 2, none⟩ = some (.int .i64 z2) ∧ X.cell? ⟨g, off + k2 * 8 + 3, none⟩ = some (.int .i64 z3) ∧ X.cell? ⟨g, off + k2 * 8 + 4, none⟩ = some (.int .i64 z4) ∧ X.cell? ⟨g, off + k2 * 8 + 5, none⟩ = some (.int .i64 z5) ∧ X.cell? ⟨g, off + k2 * 8 + 6, none⟩ = some (.int .i64 z6) ∧ X.cell? ⟨g, off + k2 * 8 + 7, none⟩ = some (.int .i64 z7))
      ((refine HS.out _ ?_; (first | assumption | ((repeat (first | refine belowDr ?_ | refine belowAl ?_ _ | refine Below.setCell ?_ (by simp) _)); (first | assumption | exact Below.refl _ W | exact And.left (by assumption))))))
      (first | fail)
    all_goals (
      go_wp2_with fail
      go_meet
      refine ⟨_, _, _, rfl, rfl, rfl, ?_, ?_, ?_, ?_⟩
      · (unfold Blk; simp only [heapAlloc, heapDrew, Array.getElem?_push, Array.size_push, Nat.add_assoc, Nat.reduceAdd]; simp)
      · (unfold Blk; simp only [heapAlloc, heapDrew, Array.getElem?_push, Array.size_push, Nat.add_assoc, Nat.reduceAdd]; simp)
      · (unfold Blk; simp only [heapAlloc, heapDrew, Array.getElem?_push, Array.size_push, Nat.add_assoc, Nat.reduceAdd]; simp)
      · (repeat (first | refine belowDr ?_ | refine belowAl ?_ _)); exact Below.refl _ W)
  case rest =>
    obtain ⟨bl, bc, bb, rfl, rfl, rfl, hbl, hbc, hbb, hbw⟩ := hcut
    clear s0 s1 s2 s3 s4 s5 s6 s7 s8 s9 s10 s11 s12 s13 s14 s15 s16 s17 s18 s19 s20 s21 s22 s23 s24 s25 HS hbd
    have HBW2 : Hid (Below W.heap.size W wc) := Lib.hid hbw
    have HBX : Hid (Below w.heap.size w wc) := Lib.hid (belowThen HBW.out hbw)
    have HRB := Lib.hid (HRB0.out.below' hbw)
    have HBL := Lib.hid hbl
    have HBC := Lib.hid hbc
    have HBB := Lib.hid hbb
    have HSP := HSP0
    obtain ⟨⟨l0, l1, l2, l3, l4, l5, l6, l7⟩, -⟩ := blkFacts hbl
    obtain ⟨⟨c0, c1, c2, c3, c4, c5, c6, c7⟩, -⟩ := blkFacts hbc
    obtain ⟨⟨b0, b1, b2, b3, b4, b5, b6, b7⟩, -⟩ := blkFacts hbb
    obtain ⟨⟨r0, r1, r2, r3, r4, r5, r6, r7⟩, fr0, fr1, fr2, fr3, fr4, fr5, fr6, fr7⟩ := blkFacts HRB.out
    clear HSP0 HRB0 hbl hbc hbb hbw
    by_cases a : x0 = 8
    rotate_left
    · have d : (x0 == 8) = false := beq_eq_false_iff_ne.2 a
      have dn : (x0 != 8) = true := bne_iff_ne.2 a
      go_wp2_with fail
      refine bodyPost_ret ((stored8 HRB.out).res2 rfl _ rfl Tryd.underlying44 rfl infoInst) rfl ?_
      exact ⟨cnNo (HSP.out.trans (by simp [a])), below8 HBX.out (Nat.le_succ _)⟩
    subst a
    by_cases a : y0 = 3
    rotate_left
    · have d : (y0 == 3) = false := beq_eq_false_iff_ne.2 a
      have dn : (y0 != 3) = true := bne_iff_ne.2 a
      go_wp2_with fail
      refine bodyPost_ret ((stored8 HRB.out).res2 rfl _ rfl Tryd.underlying44 rfl infoInst) rfl ?_
      exact ⟨cnNo (HSP.out.trans (by simp [a])), below8 HBX.out (Nat.le_succ _)⟩
    subst a
    by_cases a : z0 = 5
    rotate_left
    · have d : (z0 == 5) = false := beq_eq_false_iff_ne.2 a
      have dn : (z0 != 5) = true := bne_iff_ne.2 a
      go_wp2_with fail
      refine bodyPost_ret ((stored8 HRB.out).res2 rfl _ rfl Tryd.underlying44 rfl infoInst) rfl ?_
      exact ⟨cnNo (HSP.out.trans (by simp [a])), below8 HBX.out (Nat.le_succ _)⟩
    subst a
    by_cases a : z2 = y1
    rotate_left
    · have d : (z2 == y1) = false := beq_eq_false_iff_ne.2 a
      have dn : (z2 != y1) = true := bne_iff_ne.2 a
      go_wp2_with fail
      refine bodyPost_ret ((stored8 HRB.out).res2 rfl _ rfl Tryd.underlying44 rfl infoInst) rfl ?_
      exact ⟨cnNo (HSP.out.trans (by simp [a])), below8 HBX.out (Nat.le_succ _)⟩
    have a4 := a
    have d4 : (z2 == y1) = true := beq_iff_eq.2 a
    have n4 : (z2 != y1) = false := by simp [a]
    clear a
    by_cases a : z5 = (n : Int)
    rotate_left
    · have d : (z5 == (n : Int)) = false := beq_eq_false_iff_ne.2 a
      have dn : (z5 != (n : Int)) = true := bne_iff_ne.2 a
      go_wp2_with fail
      refine bodyPost_ret ((stored8 HRB.out).res2 rfl _ rfl Tryd.underlying44 rfl infoInst) rfl ?_
      exact ⟨cnNo (HSP.out.trans (by simp [a])), below8 HBX.out (Nat.le_succ _)⟩
    have a5 := a
    have d5 : (z5 == (n : Int)) = true := beq_iff_eq.2 a
    have n5 : (z5 != (n : Int)) = false := by simp [a]
    clear a
    have HA45 := Lib.hid (And.intro a4 a5)
    clear a4 a5
    obtain ⟨t1, ht1⟩ : ∃ t, entB C (k1 : Int) = t := ⟨_, rfl⟩
    obtain ⟨t2, ht2⟩ : ∃ t, entB C (k2 : Int) = t := ⟨_, rfl⟩
    rw [ht1, ht2] at HSP
    have HE1 := Lib.hid (HEN.out (k1 : Int) wc HBW2.out)
    have HE2 := Lib.hid (fun X (hX : Below W.heap.size W X) => HEN.out (k2 : Int) X hX)
    rw [ht1] at HE1
    rw [ht2] at HE2
    have HE1k := HE1
    have HE2k := HE2
    rw [show (k1 : Int) = (n : Int) + 1 from HK1.out] at HE1
    rw [show (k2 : Int) = (n : Int) + 2 from HK2.out] at HE2
    clear ht1 ht2 HEN
    have hk0 : wc.cell? ⟨w.heap.size, 0, none⟩ = some (.string nm) := (HKW.out wc HBW2.out).1
    have hk1 : wc.cell? ⟨w.heap.size, 1, none⟩ = some (.slice (some ⟨g, off, none⟩) m c) := (HKW.out wc HBW2.out).2
    go_wp2_with fail
    first | with_reducible refine HE1.out.mono ?_ | with_reducible refine HE1k.out.mono ?_
    rintro e w1 ⟨rfl, q1⟩
    clear hk0 hk1
    replace HRB := Lib.hid (HRB.out.below' q1)
    replace HBL := Lib.hid (HBL.out.below' q1)
    replace HBC := Lib.hid (HBC.out.below' q1)
    replace HBB := Lib.hid (HBB.out.below' q1)
    replace HBW2 : Hid (Below W.heap.size W w1) := Lib.hid (belowThen HBW2.out q1)
    replace HBX : Hid (Below w.heap.size w w1) := Lib.hid (belowThen HBX.out q1)
    clear l0 l1 l2 l3 l4 l5 l6 l7 c0 c1 c2 c3 c4 c5 c6 c7 b0 b1 b2 b3 b4 b5 b6 b7 r0 r1 r2 r3 r4 r5 r6 r7 fr0 fr1 fr2 fr3 fr4 fr5 fr6 fr7
    obtain ⟨⟨l0, l1, l2, l3, l4, l5, l6, l7⟩, -⟩ := blkFacts HBL.out
    obtain ⟨⟨c0, c1, c2, c3, c4, c5, c6, c7⟩, -⟩ := blkFacts HBC.out
    obtain ⟨⟨b0, b1, b2, b3, b4, b5, b6, b7⟩, -⟩ := blkFacts HBB.out
    obtain ⟨⟨r0, r1, r2, r3, r4, r5, r6, r7⟩, fr0, fr1, fr2, fr3, fr4, fr5, fr6, fr7⟩ := blkFacts HRB.out
    have hk0 : w1.cell? ⟨w.heap.size, 0, none⟩ = some (.string nm) := (HKW.out w1 HBW2.out).1
    have hk1 : w1.cell? ⟨w.heap.size, 1, none⟩ = some (.slice (some ⟨g, off, none⟩) m c) := (HKW.out w1 HBW2.out).2
    clear q1
    cases t1
    rotate_left
    ·
      go_wp2_with fail
      refine bodyPost_ret ((stored8 HRB.out).res2 rfl _ rfl Tryd.underlying44 rfl infoInst) rfl ?_
      have hz := HA45.out
      exact ⟨cnNo (HSP.out.trans (by simp [hz.1, hz.2])), below8 HBX.out (Nat.le_succ _)⟩
    have HE2' := Lib.hid (HE2.out w1 HBW2.out)
    have HE2k' := Lib.hid (HE2k.out w1 HBW2.out)
    go_wp2_with fail
    first | with_reducible refine HE2'.out.mono ?_ | with_reducible refine HE2k'.out.mono ?_
    rintro e w2 ⟨rfl, q2⟩
    clear hk0 hk1 HE1 HE2 HE2' HE1k HE2k HE2k'
    replace HRB := Lib.hid (HRB.out.below' q2)
    replace HBL := Lib.hid (HBL.out.below' q2)
    replace HBC := Lib.hid (HBC.out.below' q2)
    replace HBB := Lib.hid (HBB.out.below' q2)
    replace HBW2 : Hid (Below W.heap.size W w2) := Lib.hid (belowThen HBW2.out q2)
    replace HBX : Hid (Below w.heap.size w w2) := Lib.hid (belowThen HBX.out q2)
    clear l0 l1 l2 l3 l4 l5 l6 l7 c0 c1 c2 c3 c4 c5 c6 c7 b0 b1 b2 b3 b4 b5 b6 b7 r0 r1 r2 r3 r4 r5 r6 r7 fr0 fr1 fr2 fr3 fr4 fr5 fr6 fr7
    obtain ⟨⟨l0, l1, l2, l3, l4, l5, l6, l7⟩, -⟩ := blkFacts HBL.out
    obtain ⟨⟨c0, c1, c2, c3, c4, c5, c6, c7⟩, -⟩ := blkFacts HBC.out
    obtain ⟨⟨b0, b1, b2, b3, b4, b5, b6, b7⟩, -⟩ := blkFacts HBB.out
    obtain ⟨⟨r0, r1, r2, r3, r4, r5, r6, r7⟩, fr0, fr1, fr2, fr3, fr4, fr5, fr6, fr7⟩ := blkFacts HRB.out
    have hk0 : w2.cell? ⟨w.heap.size, 0, none⟩ = some (.string nm) := (HKW.out w2 HBW2.out).1
    have hk1 : w2.cell? ⟨w.heap.size, 1, none⟩ = some (.slice (some ⟨g, off, none⟩) m c) := (HKW.out w2 HBW2.out).2
    clear q2
    cases t2
    rotate_left
    ·
      go_wp2_with fail
      refine bodyPost_ret ((stored8 HRB.out).res2 rfl _ rfl Tryd.underlying44 rfl infoInst) rfl ?_
      have hz := HA45.out
      exact ⟨cnNo (HSP.out.trans (by simp [hz.1, hz.2])), below8 HBX.out (Nat.le_succ _)⟩
    have hl1 := HBL.out.lt
    have hl2 := HBC.out.lt
    have hl4 := HRB.out.lt
    by_cases v1 : y2 = x1
    · have e1 : (y2 == x1) = true := beq_iff_eq.2 v1
      by_cases v2 : y3 = x1
      · have e2 : (y3 == x1) = true := beq_iff_eq.2 v2
        have HV := Lib.hid (And.intro v1 v2)
        clear v1 v2
        go_wp2_with fail
        refine bodyPost_ret ((stored8 HRB.out).res2 rfl _ rfl Tryd.underlying44 rfl infoInst) rfl ?_
        have hv := HV.out
        exact ⟨cnNo (HSP.out.trans (by simp [hv.1, hv.2])), below8 HBX.out (Nat.le_succ _)⟩
      · have e2 : (y3 == x1) = false := beq_eq_false_iff_ne.2 v2
        have HV := Lib.hid (And.intro v1 v2)
        clear v1 v2
        go_upto_region 8 with fail
        go_cut [9] from 90 to 98 (fun s9 wx => ∃ b9, s9 = .pointer (some ⟨b9, 0, none⟩) ∧ w2.heap.size ≤ b9 ∧ Blk wx b9 44 #[.int .i64 14, .int .i64 x1, .int .i64 y2, .int .i64 0, .int .i64 x4, .int .i64 0, .int .i64 0, .int .i64 x7] ∧ Below w2.heap.size w2 wx)
        case first =>
          go_wp2_with fail
          go_meet
          exact ⟨_, rfl, Nat.le_refl _, Blk.new _ _ _, belowAlloc _ _⟩
        case rest =>
          obtain ⟨b9, rfl, h9, hB9, hb9⟩ := hcut
          have hne : bc ≠ b9 := by have := HBC.out.lt; omega
          have hn4 : w.heap.size + 1 ≠ b9 := by have := HRB.out.lt; omega
          have h90 : w.heap.size ≤ b9 := by have := HRB.out.lt; omega
          have HN4 := Lib.hid (And.intro hn4 h90)
          clear h9 h90 hl1 hl2 hl4
          replace HRB := Lib.hid (HRB.out.below' hb9)
          replace HBL := Lib.hid (HBL.out.below' hb9)
          replace HBC := Lib.hid (HBC.out.below' hb9)
          replace HBB := Lib.hid (HBB.out.below' hb9)
          replace HBW2 : Hid (Below W.heap.size W wc) := Lib.hid (belowThen HBW2.out hb9)
          replace HBX : Hid (Below w.heap.size w wc) := Lib.hid (belowThen HBX.out hb9)
          clear l0 l1 l2 l3 l4 l5 l6 l7 c0 c1 c2 c3 c4 c5 c6 c7 b0 b1 b2 b3 b4 b5 b6 b7 r0 r1 r2 r3 r4 r5 r6 r7 fr0 fr1 fr2 fr3 fr4 fr5 fr6 fr7
          obtain ⟨⟨l0, l1, l2, l3, l4, l5, l6, l7⟩, -⟩ := blkFacts HBL.out
          obtain ⟨⟨c0, c1, c2, c3, c4, c5, c6, c7⟩, -⟩ := blkFacts HBC.out
          obtain ⟨⟨b0, b1, b2, b3, b4, b5, b6, b7⟩, -⟩ := blkFacts HBB.out
          obtain ⟨⟨r0, r1, r2, r3, r4, r5, r6, r7⟩, fr0, fr1, fr2, fr3, fr4, fr5, fr6, fr7⟩ := blkFacts HRB.out
          have HB9 := Lib.hid hB9
          obtain ⟨⟨v0, v1, v2, v3, v4, v5, v6, v7⟩, fv0, fv1, fv2, fv3, fv4, fv5, fv6, fv7⟩ := blkFacts hB9
          clear hB9 hb9 b0 b1 b2 b3 b4 b5 b6 b7
          by_cases v3 : y3 = y1
          · have e3 : (y3 == y1) = true := beq_iff_eq.2 v3
            have HV3 := Lib.hid v3
            clear v3
            by_cases p7 : y6 = 7
            · subst p7
              go_wp2_with fail
              refine bodyPost_ret ((stored8 ((HRB.out.other HN4.out.1 _ _).other HN4.out.1 _ _)).res2 rfl _ rfl Tryd.underlying44 rfl infoInst) rfl ?_
              have h1 := HA45.out
              have h2 := HV.out
              have h3 := HV3.out
              exact ⟨cnNo (HSP.out.trans (by first | (simp [awCmp, awFn, h1.1, h1.2, h2.1, h2.2, h3]; done) | (simp [awCmp, awFn, h1.1, h1.2, h2.1, h2.2, h3]; omega))), below8 ((HBX.out.setCell HN4.out.2 _).setCell HN4.out.2 _) (Nat.le_succ _)⟩
            have m7 : (y6 == 7) = false := beq_eq_false_iff_ne.2 p7
            by_cases p8 : y6 = 8
            · subst p8
              go_wp2_with fail
              refine bodyPost_ret ((stored8 ((HRB.out.other HN4.out.1 _ _).other HN4.out.1 _ _)).res2 rfl _ rfl Tryd.underlying44 rfl infoInst) rfl ?_
              have h1 := HA45.out
              have h2 := HV.out
              have h3 := HV3.out
              exact ⟨cnNo (HSP.out.trans (by first | (simp [awCmp, awFn, h1.1, h1.2, h2.1, h2.2, h3]; done) | (simp [awCmp, awFn, h1.1, h1.2, h2.1, h2.2, h3]; omega))), below8 ((HBX.out.setCell HN4.out.2 _).setCell HN4.out.2 _) (Nat.le_succ _)⟩
            have m8 : (y6 == 8) = false := beq_eq_false_iff_ne.2 p8
            by_cases p9 : y6 = 9
            · subst p9
              go_wp2_with fail
              refine bodyPost_ret ((stored8 ((HRB.out.other HN4.out.1 _ _).other HN4.out.1 _ _)).res2 rfl _ rfl Tryd.underlying44 rfl infoInst) rfl ?_
              have h1 := HA45.out
              have h2 := HV.out
              have h3 := HV3.out
              exact ⟨cnNo (HSP.out.trans (by first | (simp [awCmp, awFn, h1.1, h1.2, h2.1, h2.2, h3]; done) | (simp [awCmp, awFn, h1.1, h1.2, h2.1, h2.2, h3]; omega))), below8 ((HBX.out.setCell HN4.out.2 _).setCell HN4.out.2 _) (Nat.le_succ _)⟩
            have m9 : (y6 == 9) = false := beq_eq_false_iff_ne.2 p9
            by_cases p10 : y6 = 10
            · subst p10
              go_wp2_with fail
              refine bodyPost_ret ((stored8 ((HRB.out.other HN4.out.1 _ _).other HN4.out.1 _ _)).res2 rfl _ rfl Tryd.underlying44 rfl infoInst) rfl ?_
              have h1 := HA45.out
              have h2 := HV.out
              have h3 := HV3.out
              exact ⟨cnNo (HSP.out.trans (by first | (simp [awCmp, awFn, h1.1, h1.2, h2.1, h2.2, h3]; done) | (simp [awCmp, awFn, h1.1, h1.2, h2.1, h2.2, h3]; omega))), below8 ((HBX.out.setCell HN4.out.2 _).setCell HN4.out.2 _) (Nat.le_succ _)⟩
            have m10 : (y6 == 10) = false := beq_eq_false_iff_ne.2 p10
            go_wp2_with fail
            refine bodyPost_ret ((stored8 (HRB.out.other HN4.out.1 _ _)).res2 rfl _ rfl Tryd.underlying44 rfl infoInst) rfl ?_
            have h1 := HA45.out
            have h2 := HV.out
            have h3 := HV3.out
            exact ⟨cnNo (HSP.out.trans (by first | (simp [awCmp, awFn, h1.1, h1.2, h2.1, h2.2, h3, p7, p8, p9, p10]; done) | (simp [awCmp, awFn, h1.1, h1.2, h2.1, h2.2, h3, p7, p8, p9, p10]; omega))), below8 (HBX.out.setCell HN4.out.2 _) (Nat.le_succ _)⟩
          · have e3 : (y3 == y1) = false := beq_eq_false_iff_ne.2 v3
            have HV3 := Lib.hid v3
            clear v3
            by_cases p7 : y6 = 7
            · subst p7
              go_wp2_with fail
              refine bodyPost_ret ((stored8 ((HRB.out.other HN4.out.1 _ _).other HN4.out.1 _ _)).res2 rfl _ rfl Tryd.underlying44 rfl infoInst) rfl ?_
              have h1 := HA45.out
              have h2 := HV.out
              have h3 := HV3.out
              have hs : spB C n = true := HSP.out.trans (by simp [awCmp, awFn, h1.1, h1.2, h2.1, h2.2, h3])
              refine ⟨?_, below8 ((HBX.out.setCell HN4.out.2 _).setCell HN4.out.2 _) (Nat.le_succ _)⟩
              rw [HY0.out hs, hs]
              unfold I8.val awOf awFn awCmp
              simp [h2.1, h2.2]
            have m7 : (y6 == 7) = false := beq_eq_false_iff_ne.2 p7
            by_cases p8 : y6 = 8
            · subst p8
              go_wp2_with fail
              refine bodyPost_ret ((stored8 ((HRB.out.other HN4.out.1 _ _).other HN4.out.1 _ _)).res2 rfl _ rfl Tryd.underlying44 rfl infoInst) rfl ?_
              have h1 := HA45.out
              have h2 := HV.out
              have h3 := HV3.out
              have hs : spB C n = true := HSP.out.trans (by simp [awCmp, awFn, h1.1, h1.2, h2.1, h2.2, h3])
              refine ⟨?_, below8 ((HBX.out.setCell HN4.out.2 _).setCell HN4.out.2 _) (Nat.le_succ _)⟩
              rw [HY0.out hs, hs]
              unfold I8.val awOf awFn awCmp
              simp [h2.1, h2.2]
            have m8 : (y6 == 8) = false := beq_eq_false_iff_ne.2 p8
            by_cases p9 : y6 = 9
            · subst p9
              go_wp2_with fail
              refine bodyPost_ret ((stored8 ((HRB.out.other HN4.out.1 _ _).other HN4.out.1 _ _)).res2 rfl _ rfl Tryd.underlying44 rfl infoInst) rfl ?_
              have h1 := HA45.out
              have h2 := HV.out
              have h3 := HV3.out
              exact ⟨cnNo (HSP.out.trans (by first | (simp [awCmp, awFn, h1.1, h1.2, h2.1, h2.2, h3]; done) | (simp [awCmp, awFn, h1.1, h1.2, h2.1, h2.2, h3]; omega))), below8 ((HBX.out.setCell HN4.out.2 _).setCell HN4.out.2 _) (Nat.le_succ _)⟩
            have m9 : (y6 == 9) = false := beq_eq_false_iff_ne.2 p9
            by_cases p10 : y6 = 10
            · subst p10
              go_wp2_with fail
              refine bodyPost_ret ((stored8 ((HRB.out.other HN4.out.1 _ _).other HN4.out.1 _ _)).res2 rfl _ rfl Tryd.underlying44 rfl infoInst) rfl ?_
              have h1 := HA45.out
              have h2 := HV.out
              have h3 := HV3.out
              exact ⟨cnNo (HSP.out.trans (by first | (simp [awCmp, awFn, h1.1, h1.2, h2.1, h2.2, h3]; done) | (simp [awCmp, awFn, h1.1, h1.2, h2.1, h2.2, h3]; omega))), below8 ((HBX.out.setCell HN4.out.2 _).setCell HN4.out.2 _) (Nat.le_succ _)⟩
            have m10 : (y6 == 10) = false := beq_eq_false_iff_ne.2 p10
            go_wp2_with fail
            refine bodyPost_ret ((stored8 (HRB.out.other HN4.out.1 _ _)).res2 rfl _ rfl Tryd.underlying44 rfl infoInst) rfl ?_
            have h1 := HA45.out
            have h2 := HV.out
            have h3 := HV3.out
            exact ⟨cnNo (HSP.out.trans (by first | (simp [awCmp, awFn, h1.1, h1.2, h2.1, h2.2, h3, p7, p8, p9, p10]; done) | (simp [awCmp, awFn, h1.1, h1.2, h2.1, h2.2, h3, p7, p8, p9, p10]; omega))), below8 (HBX.out.setCell HN4.out.2 _) (Nat.le_succ _)⟩
    · have e1 : (y2 == x1) = false := beq_eq_false_iff_ne.2 v1
      by_cases v2 : y3 = x1
      · have e2 : (y3 == x1) = true := beq_iff_eq.2 v2
        have HV := Lib.hid (And.intro v1 v2)
        clear v1 v2
        go_upto_region 8 with fail
        go_cut [9] from 90 to 98 (fun s9 wx => ∃ b9, s9 = .pointer (some ⟨b9, 0, none⟩) ∧ w2.heap.size ≤ b9 ∧ Blk wx b9 44 #[.int .i64 14, .int .i64 x1, .int .i64 y2, .int .i64 0, .int .i64 x4, .int .i64 0, .int .i64 0, .int .i64 x7] ∧ Below w2.heap.size w2 wx)
        case first =>
          go_wp2_with fail
          go_meet
          exact ⟨_, rfl, Nat.le_refl _, Blk.new _ _ _, belowAlloc _ _⟩
        case rest =>
          obtain ⟨b9, rfl, h9, hB9, hb9⟩ := hcut
          have hne : bc ≠ b9 := by have := HBC.out.lt; omega
          have hn4 : w.heap.size + 1 ≠ b9 := by have := HRB.out.lt; omega
          have h90 : w.heap.size ≤ b9 := by have := HRB.out.lt; omega
          have HN4 := Lib.hid (And.intro hn4 h90)
          clear h9 h90 hl1 hl2 hl4
          replace HRB := Lib.hid (HRB.out.below' hb9)
          replace HBL := Lib.hid (HBL.out.below' hb9)
          replace HBC := Lib.hid (HBC.out.below' hb9)
          replace HBB := Lib.hid (HBB.out.below' hb9)
          replace HBW2 : Hid (Below W.heap.size W wc) := Lib.hid (belowThen HBW2.out hb9)
          replace HBX : Hid (Below w.heap.size w wc) := Lib.hid (belowThen HBX.out hb9)
          clear l0 l1 l2 l3 l4 l5 l6 l7 c0 c1 c2 c3 c4 c5 c6 c7 b0 b1 b2 b3 b4 b5 b6 b7 r0 r1 r2 r3 r4 r5 r6 r7 fr0 fr1 fr2 fr3 fr4 fr5 fr6 fr7
          obtain ⟨⟨l0, l1, l2, l3, l4, l5, l6, l7⟩, -⟩ := blkFacts HBL.out
          obtain ⟨⟨c0, c1, c2, c3, c4, c5, c6, c7⟩, -⟩ := blkFacts HBC.out
          obtain ⟨⟨b0, b1, b2, b3, b4, b5, b6, b7⟩, -⟩ := blkFacts HBB.out
          obtain ⟨⟨r0, r1, r2, r3, r4, r5, r6, r7⟩, fr0, fr1, fr2, fr3, fr4, fr5, fr6, fr7⟩ := blkFacts HRB.out
          have HB9 := Lib.hid hB9
          obtain ⟨⟨v0, v1, v2, v3, v4, v5, v6, v7⟩, fv0, fv1, fv2, fv3, fv4, fv5, fv6, fv7⟩ := blkFacts hB9
          clear hB9 hb9 b0 b1 b2 b3 b4 b5 b6 b7
          by_cases v3 : y2 = y1
          · have e3 : (y2 == y1) = true := beq_iff_eq.2 v3
            have HV3 := Lib.hid v3
            clear v3
            by_cases p7 : y6 = 7
            · subst p7
              go_wp2_with fail
              refine bodyPost_ret ((stored8 (HRB.out.other HN4.out.1 _ _)).res2 rfl _ rfl Tryd.underlying44 rfl infoInst) rfl ?_
              have h1 := HA45.out
              have h2 := HV.out
              have h3 := HV3.out
              exact ⟨cnNo (HSP.out.trans (by first | (simp [awCmp, awFn, h1.1, h1.2, h2.1, h2.2, h3]; done) | (simp [awCmp, awFn, h1.1, h1.2, h2.1, h2.2, h3]; omega))), below8 (HBX.out.setCell HN4.out.2 _) (Nat.le_succ _)⟩
            have m7 : (y6 == 7) = false := beq_eq_false_iff_ne.2 p7
            by_cases p8 : y6 = 8
            · subst p8
              go_wp2_with fail
              refine bodyPost_ret ((stored8 (HRB.out.other HN4.out.1 _ _)).res2 rfl _ rfl Tryd.underlying44 rfl infoInst) rfl ?_
              have h1 := HA45.out
              have h2 := HV.out
              have h3 := HV3.out
              exact ⟨cnNo (HSP.out.trans (by first | (simp [awCmp, awFn, h1.1, h1.2, h2.1, h2.2, h3]; done) | (simp [awCmp, awFn, h1.1, h1.2, h2.1, h2.2, h3]; omega))), below8 (HBX.out.setCell HN4.out.2 _) (Nat.le_succ _)⟩
            have m8 : (y6 == 8) = false := beq_eq_false_iff_ne.2 p8
            by_cases p9 : y6 = 9
            · subst p9
              go_wp2_with fail
              refine bodyPost_ret ((stored8 (HRB.out.other HN4.out.1 _ _)).res2 rfl _ rfl Tryd.underlying44 rfl infoInst) rfl ?_
              have h1 := HA45.out
              have h2 := HV.out
              have h3 := HV3.out
              exact ⟨cnNo (HSP.out.trans (by first | (simp [awCmp, awFn, h1.1, h1.2, h2.1, h2.2, h3]; done) | (simp [awCmp, awFn, h1.1, h1.2, h2.1, h2.2, h3]; omega))), below8 (HBX.out.setCell HN4.out.2 _) (Nat.le_succ _)⟩
            have m9 : (y6 == 9) = false := beq_eq_false_iff_ne.2 p9
            by_cases p10 : y6 = 10
            · subst p10
              go_wp2_with fail
              refine bodyPost_ret ((stored8 (HRB.out.other HN4.out.1 _ _)).res2 rfl _ rfl Tryd.underlying44 rfl infoInst) rfl ?_
              have h1 := HA45.out
              have h2 := HV.out
              have h3 := HV3.out
              exact ⟨cnNo (HSP.out.trans (by first | (simp [awCmp, awFn, h1.1, h1.2, h2.1, h2.2, h3]; done) | (simp [awCmp, awFn, h1.1, h1.2, h2.1, h2.2, h3]; omega))), below8 (HBX.out.setCell HN4.out.2 _) (Nat.le_succ _)⟩
            have m10 : (y6 == 10) = false := beq_eq_false_iff_ne.2 p10
            go_wp2_with fail
            refine bodyPost_ret ((stored8 HRB.out).res2 rfl _ rfl Tryd.underlying44 rfl infoInst) rfl ?_
            have h1 := HA45.out
            have h2 := HV.out
            have h3 := HV3.out
            exact ⟨cnNo (HSP.out.trans (by first | (simp [awCmp, awFn, h1.1, h1.2, h2.1, h2.2, h3, p7, p8, p9, p10]; done) | (simp [awCmp, awFn, h1.1, h1.2, h2.1, h2.2, h3, p7, p8, p9, p10]; omega))), below8 HBX.out (Nat.le_succ _)⟩
          · have e3 : (y2 == y1) = false := beq_eq_false_iff_ne.2 v3
            have HV3 := Lib.hid v3
            clear v3
            by_cases p7 : y6 = 7
            · subst p7
              go_wp2_with fail
              refine bodyPost_ret ((stored8 (HRB.out.other HN4.out.1 _ _)).res2 rfl _ rfl Tryd.underlying44 rfl infoInst) rfl ?_
              have h1 := HA45.out
              have h2 := HV.out
              have h3 := HV3.out
              have hs : spB C n = true := HSP.out.trans (by simp [awCmp, awFn, h1.1, h1.2, h2.1, h2.2, h3])
              refine ⟨?_, below8 (HBX.out.setCell HN4.out.2 _) (Nat.le_succ _)⟩
              rw [HY0.out hs, hs]
              unfold I8.val awOf awFn awCmp
              simp [h2.1, h2.2]
            have m7 : (y6 == 7) = false := beq_eq_false_iff_ne.2 p7
            by_cases p8 : y6 = 8
            · subst p8
              go_wp2_with fail
              refine bodyPost_ret ((stored8 (HRB.out.other HN4.out.1 _ _)).res2 rfl _ rfl Tryd.underlying44 rfl infoInst) rfl ?_
              have h1 := HA45.out
              have h2 := HV.out
              have h3 := HV3.out
              have hs : spB C n = true := HSP.out.trans (by simp [awCmp, awFn, h1.1, h1.2, h2.1, h2.2, h3])
              refine ⟨?_, below8 (HBX.out.setCell HN4.out.2 _) (Nat.le_succ _)⟩
              rw [HY0.out hs, hs]
              unfold I8.val awOf awFn awCmp
              simp [h2.1, h2.2]
            have m8 : (y6 == 8) = false := beq_eq_false_iff_ne.2 p8
            by_cases p9 : y6 = 9
            · subst p9
              go_wp2_with fail
              refine bodyPost_ret ((stored8 (HRB.out.other HN4.out.1 _ _)).res2 rfl _ rfl Tryd.underlying44 rfl infoInst) rfl ?_
              have h1 := HA45.out
              have h2 := HV.out
              have h3 := HV3.out
              have hs : spB C n = true := HSP.out.trans (by simp [awCmp, awFn, h1.1, h1.2, h2.1, h2.2, h3])
              refine ⟨?_, below8 (HBX.out.setCell HN4.out.2 _) (Nat.le_succ _)⟩
              rw [HY0.out hs, hs]
              unfold I8.val awOf awFn awCmp
              simp [h2.1, h2.2]
            have m9 : (y6 == 9) = false := beq_eq_false_iff_ne.2 p9
            by_cases p10 : y6 = 10
            · subst p10
              go_wp2_with fail
              refine bodyPost_ret ((stored8 (HRB.out.other HN4.out.1 _ _)).res2 rfl _ rfl Tryd.underlying44 rfl infoInst) rfl ?_
              have h1 := HA45.out
              have h2 := HV.out
              have h3 := HV3.out
              have hs : spB C n = true := HSP.out.trans (by simp [awCmp, awFn, h1.1, h1.2, h2.1, h2.2, h3])
              refine ⟨?_, below8 (HBX.out.setCell HN4.out.2 _) (Nat.le_succ _)⟩
              rw [HY0.out hs, hs]
              unfold I8.val awOf awFn awCmp
              simp [h2.1, h2.2]
            have m10 : (y6 == 10) = false := beq_eq_false_iff_ne.2 p10
            go_wp2_with fail
            refine bodyPost_ret ((stored8 HRB.out).res2 rfl _ rfl Tryd.underlying44 rfl infoInst) rfl ?_
            have h1 := HA45.out
            have h2 := HV.out
            have h3 := HV3.out
            exact ⟨cnNo (HSP.out.trans (by first | (simp [awCmp, awFn, h1.1, h1.2, h2.1, h2.2, h3, p7, p8, p9, p10]; done) | (simp [awCmp, awFn, h1.1, h1.2, h2.1, h2.2, h3, p7, p8, p9, p10]; omega))), below8 HBX.out (Nat.le_succ _)⟩
      · have e2 : (y3 == x1) = false := beq_eq_false_iff_ne.2 v2
        have HV := Lib.hid (And.intro v1 v2)
        clear v1 v2
        go_wp2_with fail
        refine bodyPost_ret ((stored8 HRB.out).res2 rfl _ rfl Tryd.underlying44 rfl infoInst) rfl ?_
        exact ⟨cnNo (HSP.out.trans (by rw [e1, e2]; simp)), below8 HBX.out (Nat.le_succ _)⟩
end Go.Proofs.YtkanamdfjegcbaaDoor

namespace Go.Proofs.YtkanamdfjegcbaaDoor
open Go Go.RowKit

theorem condOk : CondOk := fun nm C m hm n hn A c w hr => by
  rcases Nat.lt_or_ge (n + 2) m with h | h
  · exact rCond nm C m hm n h A c w hr
  · exact rCondOut nm C m hm n h hn A c w hr
end Go.Proofs.YtkanamdfjegcbaaDoor
