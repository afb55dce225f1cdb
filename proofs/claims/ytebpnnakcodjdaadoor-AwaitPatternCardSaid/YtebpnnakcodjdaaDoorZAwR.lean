/-
  The contracts of the five properties of a spin loop, and of await's properties.
-/
import Derived.Test.YtebpnnakcodjdaaDoorZAwP
import Derived.RegionTactic
import Derived.StillTailTactics
import Derived.Test.YtebpnnakcodjdaaDoorZOwn
import Derived.Deep.LoopGhost
import Derived.Shelf.Abstract
namespace Go.Proofs.YtebpnnakcodjdaaDoor
open Go Go.RowKit

/-- Block b holds the slice of the code C. -/
def CdB (w : World) (b : Nat) (C : List I8) : Prop := ∃ A m c, w.cell? ⟨b, 0, none⟩ = some (.slice A m c) ∧ C.length = m ∧ RdE 8 EI w A c C
theorem CdB.below {w w' : World} {b : Nat} {C : List I8} (h : CdB w b C) (hb : Below w.heap.size w w') : CdB w' b C := by
  obtain ⟨A, m, c, h1, h2, h3⟩ := h
  exact ⟨A, m, c, (hb.cell (World.block_lt_of_cell? _ _ h1)).trans h1, h2, h3.below stabI hb⟩
theorem CdB.three {w : World} {b : Nat} {C : List I8} (h : CdB w b C) {n : Nat} (hn : n + 2 < C.length) : ∃ g off m c, w.cell? ⟨b, 0, none⟩ = some (.slice (some ⟨g, off, none⟩) m c) ∧ C.length = m ∧ m ≤ c ∧ c ≤ maxLen ∧ g < w.heap.size ∧ EI w g (off + n * 8) C[n] ∧ EI w g (off + (n + 1) * 8) C[n + 1] ∧ EI w g (off + (n + 2) * 8) C[n + 2] := by
  obtain ⟨A, m, c, h1, h2, h3⟩ := h
  obtain ⟨g, off, rfl, hg, hx⟩ := h3.at_ (by omega)
  have hle := h3.le
  exact ⟨g, off, m, c, h1, h2, by omega, h3.max, hg, hx n _, hx (n + 1) _, hx (n + 2) _⟩
theorem pr1 (C : List I8) (n : Nat) (hn : n + 2 < C.length) (b : Nat) (w : World) (h : CdB w b C) :
    Calls Tryd.prog 56 #[.int .i64 (n : Int), .pointer (some ⟨b, 0, none⟩)] w fun e w' => e = .returned (.bool (q1 C[n] C[n + 1] C[n + 2])) ∧ Below w.heap.size w w' := by
  obtain ⟨g, off, m, c, hc, hm, hmc, hmx, hg, e0, e1, e2⟩ := h.three hn
  have k0 := e0.c0
  have k1 := e1.c0
  have k2 := e2.c0
  unfold q1
  generalize C[n].op = x at *
  generalize C[n + 1].op = y at *
  generalize C[n + 2].op = z at *
  rw [hm] at hn
  have hn0 : (0 : Int) ≤ n := by omega
  have hn1 : (n : Int) < m := by omega
  have hn2 : (n : Int) + 1 < m := by omega
  have hn3 : (n : Int) + 2 < m := by omega
  unfold maxLen at hmx
  have hb := Below.refl w.heap.size w
  clear e0 e1 e2 h hm
  by_cases g1 : x = 8
  · subst g1
    by_cases g2 : y = 3
    · subst g2
      go_enter Tryd.func56, Tryd.ntmps56
      go_wp2
      go_ret
      exact ⟨by simp, hb⟩
    · have d2 : (y == 3) = false := beq_eq_false_iff_ne.2 g2
      clear g2
      go_enter Tryd.func56, Tryd.ntmps56
      go_wp2
      go_ret
      exact ⟨by simp [d2], hb⟩
  · have d1 : (x == 8) = false := beq_eq_false_iff_ne.2 g1
    clear g1
    go_enter Tryd.func56, Tryd.ntmps56
    go_wp2
    go_ret
    exact ⟨by simp [d1], hb⟩
set_option maxRecDepth 100000 in
set_option maxHeartbeats 4000000 in
theorem pr2 (C : List I8) (n : Nat) (hn : n + 2 < C.length) (b : Nat) (w : World) (h : CdB w b C) :
    Calls Tryd.prog 57 #[.int .i64 (n : Int), .pointer (some ⟨b, 0, none⟩)] w fun e w' => e = .returned (.bool (q2 C[n] C[n + 1])) ∧ Below w.heap.size w w' := by
  obtain ⟨g, off, m, c, hc, hm, hmc, hmx, hg, e0, e1, -⟩ := h.three hn
  obtain ⟨r, hr⟩ : ∃ r, q2 C[n] C[n + 1] = r := ⟨_, rfl⟩
  rw [hr]
  have HCMP := Lib.hid (fun X => iCompared C[n] C[n + 1] X)
  generalize C[n] = l at *
  generalize C[n + 1] = k at *
  obtain ⟨x0, x1, x2, x3, x4, x5, x6, x7⟩ := l
  obtain ⟨y0, y1, y2, y3, y4, y5, y6, y7⟩ := k
  unfold I8.val at HCMP
  simp only at HCMP
  unfold q2 at hr
  simp only at hr
  generalize awCmp ⟨x0, x1, x2, x3, x4, x5, x6, x7⟩ ⟨y0, y1, y2, y3, y4, y5, y6, y7⟩ = z at *
  obtain ⟨k1, hk1⟩ : ∃ k1, n + 1 = k1 := ⟨_, rfl⟩
  rw [hk1] at e1
  have HS := Lib.hid (fun X (hX : Below w.heap.size w X) => (⟨hX, (hX.cell (World.block_lt_of_cell? _ _ hc)).trans hc, (hX.cell hg).trans e0.c0, (hX.cell hg).trans e0.c1, (hX.cell hg).trans e0.c2, (hX.cell hg).trans e0.c3, (hX.cell hg).trans e0.c4, (hX.cell hg).trans e0.c5, (hX.cell hg).trans e0.c6, (hX.cell hg).trans e0.c7, (hX.cell hg).trans e1.c0, (hX.cell hg).trans e1.c1, (hX.cell hg).trans e1.c2, (hX.cell hg).trans e1.c3, (hX.cell hg).trans e1.c4, (hX.cell hg).trans e1.c5, (hX.cell hg).trans e1.c6, (hX.cell hg).trans e1.c7⟩ :
    Below w.heap.size w X ∧ X.cell? ⟨b, 0, none⟩ = some (.slice (some ⟨g, off, none⟩) m c) ∧ X.cell? ⟨g, off + n * 8, none⟩ = some (.int .i64 x0) ∧ X.cell? ⟨g, off + n * 8 + 1, none⟩ = some (.int .i64 x1) ∧ X.cell? ⟨g, off + n * 8 + 2, none⟩ = some (.int .i64 x2) ∧ X.cell? ⟨g, off + n * 8 + 3, none⟩ = some (.int .i64 x3) ∧ X.cell? ⟨g, off + n * 8 + 4, none⟩ = some (.int .i64 x4) ∧ X.cell? ⟨g, off + n * 8 + 5, none⟩ = some (.int .i64 x5) ∧ X.cell? ⟨g, off + n * 8 + 6, none⟩ = some (.int .i64 x6) ∧ X.cell? ⟨g, off + n * 8 + 7, none⟩ = some (.int .i64 x7) ∧ X.cell? ⟨g, off + k1 * 8, none⟩ = some (.int .i64 y0) ∧ X.cell? ⟨g, off + k1 * 8 + 1, none⟩ = some (.int .i64 y1) ∧ X.cell? ⟨g, off + k1 * 8 + 2, none⟩ = some (.int .i64 y2) ∧ X.cell? ⟨g, off + k1 * 8 + 3, none⟩ = some (.int .i64 y3) ∧ X.cell? ⟨g, off + k1 * 8 + 4, none⟩ = some (.int .i64 y4) ∧ X.cell? ⟨g, off + k1 * 8 + 5, none⟩ = some (.int .i64 y5) ∧ X.cell? ⟨g, off + k1 * 8 + 6, none⟩ = some (.int .i64 y6) ∧ X.cell? ⟨g, off + k1 * 8 + 7, none⟩ = some (.int .i64 y7)))
  have HR := Lib.hid hr
  rw [hm] at hn
  have hn0 : (0 : Int) ≤ n := by omega
  have hn1 : (n : Int) < m := by omega
  have hn2 : (0 : Int) ≤ k1 := by omega
  have hn3 : (k1 : Int) < m := by omega
  unfold maxLen at hmx
  have hwk : IntKind.i64.wrap ((n : Int) + 1) = (k1 : Int) := by rw [IntKind.wrap_i64]; omega
  obtain ⟨-, s1, s2, s3, s4, s5, s6, s7, s8, s9, s10, s11, s12, s13, s14, s15, s16, s17⟩ := HS.out w (Below.refl _ _)
  have hbd : Below w.heap.size w w.drew := (Below.refl _ w).drew
  clear e0 e1 h hm hr hc hn hk1
  go_enter Tryd.func57, Tryd.ntmps57
  go_wp2_with fail
  go_upto_region 1 with fail
  go_cut [4, 5] from 4 to 14 (fun s4 s5 wx => ∃ bl bc, s4 = .pointer (some ⟨bl, 0, none⟩) ∧ s5 = .pointer (some ⟨bc, 0, none⟩) ∧ Blk wx bl 47 #[.int .i64 x0, .int .i64 x1, .int .i64 x2, .int .i64 x3, .int .i64 x4, .int .i64 x5, .int .i64 x6, .int .i64 x7] ∧ Blk wx bc 47 #[.int .i64 y0, .int .i64 y1, .int .i64 y2, .int .i64 y3, .int .i64 y4, .int .i64 y5, .int .i64 y6, .int .i64 y7] ∧ Below w.heap.size w wx)
  case first =>
    go_region_held3 (fun X => Below w.heap.size w X ∧ X.cell? ⟨b, 0, none⟩ = some (.slice (some ⟨g, off, none⟩) m c) ∧ X.cell? ⟨g, off + n * 8, none⟩ = some (.int .i64 x0) ∧ X.cell? ⟨g, off + n * 8 + 1, none⟩ = some (.int .i64 x1) ∧ X.cell? ⟨g, off + n * 8 + 2, none⟩ = some (.int .i64 x2) ∧ X.cell? ⟨g, off + n * 8 + 3, none⟩ = some (.int .i64 x3) ∧ X.cell? ⟨g, off + n * 8 + 4, none⟩ = some (.int .i64 x4) ∧ X.cell? ⟨g, off + n * 8 + 5, none⟩ = some (.int .i64 x5) ∧ X.cell? ⟨g, off + n * 8 + 6, none⟩ = some (.int .i64 x6) ∧ X.cell? ⟨g, off + n * 8 + 7, none⟩ = some (.int .i64 x7) ∧ X.cell? ⟨g, off + k1 * 8, none⟩ = some (.int .i64 y0) ∧ X.cell? ⟨g, off + k1 * 8 + 1, none⟩ = some (.int .i64 y1) ∧ X.cell? ⟨g, off + k1 * 8 + 2, none⟩ = some (.int .i64 y2) ∧ X.cell? ⟨g, off + k1 * 8 + 3, none⟩ = some (.int .i64 y3) ∧ X.cell? ⟨g, off + k1 * 8 + 4, none⟩ = some (.int .i64 y4) ∧ X.cell? ⟨g, off + k1 * 8 + 5, none⟩ = some (.int .i64 y5) ∧ X.cell? ⟨g, off + k1 * 8 + 6, none⟩ = some (.int .i64 y6) ∧ X.cell? ⟨g, off + k1 * 8 + 7, none⟩ = some (.int .i64 y7))
      ((refine HS.out _ ?_; (first | assumption | ((repeat (first | refine belowDr ?_ | refine belowAl ?_ _ | refine Below.setCell ?_ (by simp) _)); (first | assumption | exact Below.refl _ w | exact And.left (by assumption))))))
      (first | fail)
    all_goals (
      go_wp2_with fail
      go_meet
      refine ⟨_, _, rfl, rfl, ?_, ?_, ?_⟩
      · (unfold Blk; simp only [heapAlloc, heapDrew, Array.getElem?_push, Array.size_push]; simp)
      · (unfold Blk; simp only [heapAlloc, heapDrew, Array.getElem?_push, Array.size_push]; simp)
      · (repeat (first | refine belowDr ?_ | refine belowAl ?_ _)); exact Below.refl _ w)
  case rest =>
    obtain ⟨bl, bc, rfl, rfl, hbl, hbc, hbw⟩ := hcut
    clear s1 s2 s3 s4 s5 s6 s7 s8 s9 s10 s11 s12 s13 s14 s15 s16 s17 HS hbd hwk
    have HBW := Lib.hid hbw
    have HS2 := Lib.hid (fun X (hX : Below wc.heap.size wc X) => (⟨hX, (hbl.below' hX).cell 0, (hbl.below' hX).cell 1, (hbl.below' hX).cell 2, (hbl.below' hX).cell 3, (hbl.below' hX).cell 4, (hbl.below' hX).cell 5, (hbl.below' hX).cell 6, (hbl.below' hX).cell 7, (hbc.below' hX).cell 0, (hbc.below' hX).cell 1, (hbc.below' hX).cell 2, (hbc.below' hX).cell 3, (hbc.below' hX).cell 4, (hbc.below' hX).cell 5, (hbc.below' hX).cell 6, (hbc.below' hX).cell 7⟩ :
      Below wc.heap.size wc X ∧ X.cell? ⟨bl, 0, none⟩ = some (.int .i64 x0) ∧ X.cell? ⟨bl, 1, none⟩ = some (.int .i64 x1) ∧ X.cell? ⟨bl, 2, none⟩ = some (.int .i64 x2) ∧ X.cell? ⟨bl, 3, none⟩ = some (.int .i64 x3) ∧ X.cell? ⟨bl, 4, none⟩ = some (.int .i64 x4) ∧ X.cell? ⟨bl, 5, none⟩ = some (.int .i64 x5) ∧ X.cell? ⟨bl, 6, none⟩ = some (.int .i64 x6) ∧ X.cell? ⟨bl, 7, none⟩ = some (.int .i64 x7) ∧ X.cell? ⟨bc, 0, none⟩ = some (.int .i64 y0) ∧ X.cell? ⟨bc, 1, none⟩ = some (.int .i64 y1) ∧ X.cell? ⟨bc, 2, none⟩ = some (.int .i64 y2) ∧ X.cell? ⟨bc, 3, none⟩ = some (.int .i64 y3) ∧ X.cell? ⟨bc, 4, none⟩ = some (.int .i64 y4) ∧ X.cell? ⟨bc, 5, none⟩ = some (.int .i64 y5) ∧ X.cell? ⟨bc, 6, none⟩ = some (.int .i64 y6) ∧ X.cell? ⟨bc, 7, none⟩ = some (.int .i64 y7)))
    obtain ⟨-, s1, s2, s3, s4, s5, s6, s7, s8, s9, s10, s11, s12, s13, s14, s15, s16⟩ := HS2.out wc (Below.refl _ _)
    have HDN : Hid (∀ q, Below wc.heap.size wc (wc.drewN q)) := Lib.hid fun q => belowDrewN (Below.refl _ wc) q
    have S0 := HS2.out wc.drew ((Below.refl _ wc).drew)
    clear hbl hbc hbw
    obtain ⟨u1, hu1⟩ : ∃ u, (y2 == x1) = u := ⟨_, rfl⟩
    obtain ⟨u2, hu2⟩ : ∃ u, (y3 == x1) = u := ⟨_, rfl⟩
    obtain ⟨u3, hu3⟩ : ∃ u, (z != y1) = u := ⟨_, rfl⟩
    have HR2 : Hid (((u1 != u2) && u3) = r) := Lib.hid (by rw [← hu1, ← hu2, ← hu3]; exact HR.out)
    clear HR
    cases u1 <;> cases u2
    case false.false =>
      clear S0
      go_wp2_with fail
      go_quiet (fail)
      go_wp2
      go_ret
      exact ⟨by rw [← HR2.out]; rfl, belowThen HBW.out (HDN.out _)⟩
    case true.true =>
      clear S0
      go_wp2_with fail
      go_quiet (fail)
      go_wp2
      go_ret
      exact ⟨by rw [← HR2.out]; rfl, belowThen HBW.out (HDN.out _)⟩
    all_goals (
      go_wp2_with fail
      go_region_held3 (fun X => Below wc.heap.size wc X ∧ X.cell? ⟨bl, 0, none⟩ = some (.int .i64 x0) ∧ X.cell? ⟨bl, 1, none⟩ = some (.int .i64 x1) ∧ X.cell? ⟨bl, 2, none⟩ = some (.int .i64 x2) ∧ X.cell? ⟨bl, 3, none⟩ = some (.int .i64 x3) ∧ X.cell? ⟨bl, 4, none⟩ = some (.int .i64 x4) ∧ X.cell? ⟨bl, 5, none⟩ = some (.int .i64 x5) ∧ X.cell? ⟨bl, 6, none⟩ = some (.int .i64 x6) ∧ X.cell? ⟨bl, 7, none⟩ = some (.int .i64 x7) ∧ X.cell? ⟨bc, 0, none⟩ = some (.int .i64 y0) ∧ X.cell? ⟨bc, 1, none⟩ = some (.int .i64 y1) ∧ X.cell? ⟨bc, 2, none⟩ = some (.int .i64 y2) ∧ X.cell? ⟨bc, 3, none⟩ = some (.int .i64 y3) ∧ X.cell? ⟨bc, 4, none⟩ = some (.int .i64 y4) ∧ X.cell? ⟨bc, 5, none⟩ = some (.int .i64 y5) ∧ X.cell? ⟨bc, 6, none⟩ = some (.int .i64 y6) ∧ X.cell? ⟨bc, 7, none⟩ = some (.int .i64 y7)) (first | assumption | exact HS2.out _ (by assumption)) (first
        | (go_at_call 36; refine (HCMP.out _).mono ?_; rintro e q1 ⟨rfl, g1⟩; have G1 := belowThen (‹Below wc.heap.size wc _ ∧ _›).1 g1))
      go_wp2
      go_ret
      exact ⟨by rw [← HR2.out, ← hu3]; rfl, belowThen HBW.out G1⟩)
set_option maxRecDepth 100000 in
set_option maxHeartbeats 4000000 in
theorem pr3 (C : List I8) (n : Nat) (hn : n + 2 < C.length) (b : Nat) (w : World) (h : CdB w b C) :
    Calls Tryd.prog 58 #[.int .i64 (n : Int), .pointer (some ⟨b, 0, none⟩)] w fun e w' => e = .returned (.bool (q3 C[n] C[n + 1])) ∧ Below w.heap.size w w' := by
  obtain ⟨g, off, m, c, hc, hm, hmc, hmx, hg, e0, e1, -⟩ := h.three hn
  unfold q3
  have HCMP := Lib.hid (fun X => iCondition C[n] C[n + 1] X)
  unfold awOk at HCMP
  generalize C[n] = l at *
  generalize C[n + 1] = k at *
  obtain ⟨x0, x1, x2, x3, x4, x5, x6, x7⟩ := l
  obtain ⟨y0, y1, y2, y3, y4, y5, y6, y7⟩ := k
  unfold I8.val at HCMP
  simp only at HCMP
  generalize awFn ⟨x0, x1, x2, x3, x4, x5, x6, x7⟩ ⟨y0, y1, y2, y3, y4, y5, y6, y7⟩ = z at *
  obtain ⟨k1, hk1⟩ : ∃ k1, n + 1 = k1 := ⟨_, rfl⟩
  rw [hk1] at e1
  have HS := Lib.hid (fun X (hX : Below w.heap.size w X) => (⟨hX, (hX.cell (World.block_lt_of_cell? _ _ hc)).trans hc, (hX.cell hg).trans e0.c0, (hX.cell hg).trans e0.c1, (hX.cell hg).trans e0.c2, (hX.cell hg).trans e0.c3, (hX.cell hg).trans e0.c4, (hX.cell hg).trans e0.c5, (hX.cell hg).trans e0.c6, (hX.cell hg).trans e0.c7, (hX.cell hg).trans e1.c0, (hX.cell hg).trans e1.c1, (hX.cell hg).trans e1.c2, (hX.cell hg).trans e1.c3, (hX.cell hg).trans e1.c4, (hX.cell hg).trans e1.c5, (hX.cell hg).trans e1.c6, (hX.cell hg).trans e1.c7⟩ :
    Below w.heap.size w X ∧ X.cell? ⟨b, 0, none⟩ = some (.slice (some ⟨g, off, none⟩) m c) ∧ X.cell? ⟨g, off + n * 8, none⟩ = some (.int .i64 x0) ∧ X.cell? ⟨g, off + n * 8 + 1, none⟩ = some (.int .i64 x1) ∧ X.cell? ⟨g, off + n * 8 + 2, none⟩ = some (.int .i64 x2) ∧ X.cell? ⟨g, off + n * 8 + 3, none⟩ = some (.int .i64 x3) ∧ X.cell? ⟨g, off + n * 8 + 4, none⟩ = some (.int .i64 x4) ∧ X.cell? ⟨g, off + n * 8 + 5, none⟩ = some (.int .i64 x5) ∧ X.cell? ⟨g, off + n * 8 + 6, none⟩ = some (.int .i64 x6) ∧ X.cell? ⟨g, off + n * 8 + 7, none⟩ = some (.int .i64 x7) ∧ X.cell? ⟨g, off + k1 * 8, none⟩ = some (.int .i64 y0) ∧ X.cell? ⟨g, off + k1 * 8 + 1, none⟩ = some (.int .i64 y1) ∧ X.cell? ⟨g, off + k1 * 8 + 2, none⟩ = some (.int .i64 y2) ∧ X.cell? ⟨g, off + k1 * 8 + 3, none⟩ = some (.int .i64 y3) ∧ X.cell? ⟨g, off + k1 * 8 + 4, none⟩ = some (.int .i64 y4) ∧ X.cell? ⟨g, off + k1 * 8 + 5, none⟩ = some (.int .i64 y5) ∧ X.cell? ⟨g, off + k1 * 8 + 6, none⟩ = some (.int .i64 y6) ∧ X.cell? ⟨g, off + k1 * 8 + 7, none⟩ = some (.int .i64 y7)))
  rw [hm] at hn
  have hn0 : (0 : Int) ≤ n := by omega
  have hn1 : (n : Int) < m := by omega
  have hn2 : (0 : Int) ≤ k1 := by omega
  have hn3 : (k1 : Int) < m := by omega
  unfold maxLen at hmx
  have hwk : IntKind.i64.wrap ((n : Int) + 1) = (k1 : Int) := by rw [IntKind.wrap_i64]; omega
  obtain ⟨-, s1, s2, s3, s4, s5, s6, s7, s8, s9, s10, s11, s12, s13, s14, s15, s16, s17⟩ := HS.out w (Below.refl _ _)
  have S0 := HS.out w.drew ((Below.refl _ w).drew)
  clear e0 e1 h hm hn hk1
  go_enter Tryd.func58, Tryd.ntmps58
  go_wp2_with fail
  go_region_held3 (fun X => Below w.heap.size w X ∧ X.cell? ⟨b, 0, none⟩ = some (.slice (some ⟨g, off, none⟩) m c) ∧ X.cell? ⟨g, off + n * 8, none⟩ = some (.int .i64 x0) ∧ X.cell? ⟨g, off + n * 8 + 1, none⟩ = some (.int .i64 x1) ∧ X.cell? ⟨g, off + n * 8 + 2, none⟩ = some (.int .i64 x2) ∧ X.cell? ⟨g, off + n * 8 + 3, none⟩ = some (.int .i64 x3) ∧ X.cell? ⟨g, off + n * 8 + 4, none⟩ = some (.int .i64 x4) ∧ X.cell? ⟨g, off + n * 8 + 5, none⟩ = some (.int .i64 x5) ∧ X.cell? ⟨g, off + n * 8 + 6, none⟩ = some (.int .i64 x6) ∧ X.cell? ⟨g, off + n * 8 + 7, none⟩ = some (.int .i64 x7) ∧ X.cell? ⟨g, off + k1 * 8, none⟩ = some (.int .i64 y0) ∧ X.cell? ⟨g, off + k1 * 8 + 1, none⟩ = some (.int .i64 y1) ∧ X.cell? ⟨g, off + k1 * 8 + 2, none⟩ = some (.int .i64 y2) ∧ X.cell? ⟨g, off + k1 * 8 + 3, none⟩ = some (.int .i64 y3) ∧ X.cell? ⟨g, off + k1 * 8 + 4, none⟩ = some (.int .i64 y4) ∧ X.cell? ⟨g, off + k1 * 8 + 5, none⟩ = some (.int .i64 y5) ∧ X.cell? ⟨g, off + k1 * 8 + 6, none⟩ = some (.int .i64 y6) ∧ X.cell? ⟨g, off + k1 * 8 + 7, none⟩ = some (.int .i64 y7)) (first | assumption | exact HS.out _ (by assumption)) (first
    | (go_at_call 35; refine (HCMP.out _).mono ?_; rintro e q1 ⟨rfl, g1⟩; have G1 := belowThen (‹Below w.heap.size w _ ∧ _›).1 g1))
  go_wp2
  go_ret
  exact ⟨rfl, G1⟩
set_option maxRecDepth 100000 in
set_option maxHeartbeats 1000000 in
theorem pr4 (C : List I8) (n : Nat) (hn : n + 2 < C.length) (b : Nat) (w : World) (h : CdB w b C) :
    Calls Tryd.prog 59 #[.int .i64 (n : Int), .pointer (some ⟨b, 0, none⟩)] w fun e w' => e = .returned (.bool (q4 C[n + 1] C[n + 2] n)) ∧ Below w.heap.size w w' := by
  obtain ⟨g, off, m, c, hc, hm, hmc, hmx, hg, -, e1, e2⟩ := h.three hn
  have k1 := e1.c1
  have k2 := e2.c2
  have k5 := e2.c5
  unfold q4
  generalize C[n + 1].a = x at *
  generalize C[n + 2].b = y at *
  generalize C[n + 2].n = z at *
  rw [hm] at hn
  have hn0 : (0 : Int) ≤ n := by omega
  have hn1 : (n : Int) < m := by omega
  have hn2 : (n : Int) + 1 < m := by omega
  have hn3 : (n : Int) + 2 < m := by omega
  unfold maxLen at hmx
  have hb : ∀ q, Below w.heap.size w (w.drewN q) := fun q => belowDrewN (Below.refl _ w) q
  clear e1 e2 h hm hn
  by_cases g1 : y = x
  · have d1 : (y == x) = true := beq_iff_eq.2 g1
    rw [d1]
    clear g1
    go_enter Tryd.func59, Tryd.ntmps59
    go_wp2_with fail
    go_quiet (fail)
    go_wp2
    go_ret
    exact ⟨by simp, hb _⟩
  · have d1 : (y == x) = false := beq_eq_false_iff_ne.2 g1
    rw [d1]
    clear g1
    go_enter Tryd.func59, Tryd.ntmps59
    go_wp2_with fail
    go_quiet (fail)
    go_wp2
    go_ret
    exact ⟨by simp, hb _⟩
set_option maxRecDepth 100000 in
set_option maxHeartbeats 1000000 in
theorem pr5 (C : List I8) (n : Nat) (hn : n + 2 < C.length) (b : Nat) (w : World) (h : CdB w b C) :
    Calls Tryd.prog 60 #[.int .i64 (n : Int), .pointer (some ⟨b, 0, none⟩)] w fun e w' => e = .returned (.bool (q5 C n)) ∧ Below w.heap.size w w' := by
  obtain ⟨A, m, c, hc, hm, hr⟩ := id h
  have H1 := Lib.hid (iIsTo C m hm ((n : Int) + 1) A c w hr)
  have H2 := Lib.hid (fun X (hX : Below w.heap.size w X) => iIsTo C m hm ((n : Int) + 2) A c X (hr.below stabI hX))
  have HC := Lib.hid (fun X (hX : Below w.heap.size w X) => (hX.cell (World.block_lt_of_cell? _ _ hc)).trans hc)
  have hle := hr.le
  have hmx := hr.max
  rw [hm] at hn hle
  have hn0 : (0 : Int) ≤ n := by omega
  have hn1 : (n : Int) < m := by omega
  have hn2 : (n : Int) + 2 < m := by omega
  unfold maxLen at hmx
  unfold q5
  generalize entB C ((n : Int) + 1) = r1 at *
  generalize entB C ((n : Int) + 2) = r2 at *
  clear h hr hm hn
  go_enter Tryd.func60, Tryd.ntmps60
  go_wp2_with fail
  refine H1.out.mono ?_
  rintro e w1 ⟨rfl, b1⟩
  have hc := HC.out w1 b1
  cases r1
  · go_wp2_with fail
    refine (H2.out _ b1).mono ?_
    rintro e w2 ⟨rfl, b2⟩
    go_wp2
    go_ret
    exact ⟨by simp, belowThen b1 b2⟩
  · go_wp2
    go_ret
    exact ⟨by simp, b1⟩
end Go.Proofs.YtebpnnakcodjdaaDoor

namespace Go.Proofs.YtebpnnakcodjdaaDoor
open Go Go.RowKit

/-- Property j of the instructions from n on. -/
def pq (C : List I8) (n j : Nat) : Bool := [q1 (C.getD n I8.zero) (C.getD (n + 1) I8.zero) (C.getD (n + 2) I8.zero), q2 (C.getD n I8.zero) (C.getD (n + 1) I8.zero), q3 (C.getD n I8.zero) (C.getD (n + 1) I8.zero), q4 (C.getD (n + 1) I8.zero) (C.getD (n + 2) I8.zero) n, q5 C n].getD j true
theorem getD8 {C : List I8} {k : Nat} (h : k < C.length) : C.getD k I8.zero = C[k] := by simp [List.getD, h]
theorem pqAll {C : List I8} {n : Nat} (hn : n + 2 < C.length) (h : ∀ j, j < 5 → pq C n j = true) : spB C n = true := by
  have h0 := h 0 (by omega)
  have h1 := h 1 (by omega)
  have h2 := h 2 (by omega)
  have h3 := h 3 (by omega)
  have h4 := h 4 (by omega)
  unfold pq at h0 h1 h2 h3 h4
  rw [getD8 (show n < C.length by omega), getD8 (show n + 1 < C.length by omega), getD8 hn] at h0 h1 h2 h3 h4
  simp only [List.getD_cons_zero, List.getD_cons_succ] at h0 h1 h2 h3 h4
  rw [spAt hn]
  unfold sp3
  rw [h0, h1, h2, h3, h4]
  rfl
theorem pqNo {C : List I8} {n j : Nat} (hn : n + 2 < C.length) (hj : j < 5) (h : pq C n j = false) : spB C n = false := by
  rw [spAt hn]
  unfold sp3
  unfold pq at h
  rw [getD8 (show n < C.length by omega), getD8 (show n + 1 < C.length by omega), getD8 hn] at h
  rcases (by omega : j = 0 ∨ j = 1 ∨ j = 2 ∨ j = 3 ∨ j = 4) with rfl | rfl | rfl | rfl | rfl <;> simp only [List.getD_cons_zero, List.getD_cons_succ] at h <;> simp [h]
/-- v is a function value that tells in w, and in every later memory, property j. -/
def PrF (w : World) (v : Value) (C : List I8) (j : Nat) : Prop := ∃ (f : FuncId) (L : Array Value), v = .func (.func f) #[] L ∧ (∀ args X, (callFunc f args).run Tryd.prog X = .ok (.enter f args) X) ∧
  ∀ X, Below w.heap.size w X → ∀ n : Nat, n + 2 < C.length → Calls Tryd.prog f (#[.int .i64 (n : Int)] ++ L) X fun e X' => e = .returned (.bool (pq C n j)) ∧ Below X.heap.size X X'
theorem PrF.below {w w' : World} {v : Value} {C : List I8} {j : Nat} (h : PrF w v C j) (hb : Below w.heap.size w w') : PrF w' v C j := by
  obtain ⟨f, L, e, he, hc⟩ := h
  exact ⟨f, L, e, he, fun X hX => hc X (belowThen hb hX)⟩
theorem entP1 : ∀ args w, (callFunc 56 args).run Tryd.prog w = .ok (.enter 56 args) w := enters_of Tryd.func56 (by kernel_rfl) rfl
theorem entP2 : ∀ args w, (callFunc 57 args).run Tryd.prog w = .ok (.enter 57 args) w := enters_of Tryd.func57 (by kernel_rfl) rfl
theorem entP3 : ∀ args w, (callFunc 58 args).run Tryd.prog w = .ok (.enter 58 args) w := enters_of Tryd.func58 (by kernel_rfl) rfl
theorem entP4 : ∀ args w, (callFunc 59 args).run Tryd.prog w = .ok (.enter 59 args) w := enters_of Tryd.func59 (by kernel_rfl) rfl
theorem entP5 : ∀ args w, (callFunc 60 args).run Tryd.prog w = .ok (.enter 60 args) w := enters_of Tryd.func60 (by kernel_rfl) rfl
/-- Block g holds the five properties. -/
structure PrW (w : World) (g : Nat) (C : List I8) : Prop where
  lt : g < w.heap.size
  at_ : ∀ j, j < 5 → ∃ v, w.cell? ⟨g, j, none⟩ = some v ∧ PrF w v C j
theorem PrW.below {w w' : World} {g : Nat} {C : List I8} (h : PrW w g C) (hb : Below w.heap.size w w') : PrW w' g C :=
  ⟨Nat.lt_of_lt_of_le h.lt hb.size, fun j hj => by
    obtain ⟨v, h1, h2⟩ := h.at_ j hj
    exact ⟨v, (hb.cell h.lt).trans h1, h2.below hb⟩⟩
theorem prOf {w : World} {b g : Nat} {C : List I8} {T : TypeId} (h : CdB w b C) (hG : Blk w g T #[.func (.func 56) #[] #[.pointer (some ⟨b, 0, none⟩)], .func (.func 57) #[] #[.pointer (some ⟨b, 0, none⟩)], .func (.func 58) #[] #[.pointer (some ⟨b, 0, none⟩)], .func (.func 59) #[] #[.pointer (some ⟨b, 0, none⟩)], .func (.func 60) #[] #[.pointer (some ⟨b, 0, none⟩)]]) : PrW w g C := by
  refine ⟨hG.lt, fun j hj => ?_⟩
  rcases (by omega : j = 0 ∨ j = 1 ∨ j = 2 ∨ j = 3 ∨ j = 4) with rfl | rfl | rfl | rfl | rfl
  · refine ⟨_, hG.cell 0, _, _, rfl, entP1, fun X hX n hn => ?_⟩
    have := pr1 C n hn b X (h.below hX)
    rw [← getD8 (show n < C.length by omega), ← getD8 (show n + 1 < C.length by omega), ← getD8 hn] at this
    exact this
  · refine ⟨_, hG.cell 1, _, _, rfl, entP2, fun X hX n hn => ?_⟩
    have := pr2 C n hn b X (h.below hX)
    rw [← getD8 (show n < C.length by omega), ← getD8 (show n + 1 < C.length by omega)] at this
    exact this
  · refine ⟨_, hG.cell 2, _, _, rfl, entP3, fun X hX n hn => ?_⟩
    have := pr3 C n hn b X (h.below hX)
    rw [← getD8 (show n < C.length by omega), ← getD8 (show n + 1 < C.length by omega)] at this
    exact this
  · refine ⟨_, hG.cell 3, _, _, rfl, entP4, fun X hX n hn => ?_⟩
    have := pr4 C n hn b X (h.below hX)
    rw [← getD8 (show n + 1 < C.length by omega), ← getD8 hn] at this
    exact this
  · exact ⟨_, hG.cell 4, _, _, rfl, entP5, fun X hX n hn => pr5 C n hn b X (h.below hX)⟩
theorem iProps (C : List I8) (m : Nat) (hm : C.length = m) (A : Option Addr) (c : Nat) (w : World) (hr : RdE 8 EI w A c C) :
    Calls Tryd.prog 29 #[.slice A m c] w fun e w' => ∃ g, e = .returned (.slice (some ⟨g, 0, none⟩) 5 5) ∧ PrW w' g C ∧ Below w.heap.size w w' := by
  obtain ⟨W, hW⟩ : ∃ W, w.alloc (.cells #[.slice A m c] 40) = W := ⟨_, rfl⟩
  have hbW : Below w.heap.size w W := by rw [← hW]; exact belowAlloc w _
  have hB : Blk W w.heap.size 40 #[.slice A m c] := by rw [← hW]; exact Blk.new w _ _
  have HC : Hid (CdB W w.heap.size C) := Lib.hid ⟨A, m, c, hB.cell 0, hm, hr.below stabI hbW⟩
  have HW := Lib.hid hW
  have HBW := Lib.hid hbW
  have HSZ : Hid (W.heap.size = w.heap.size + 1) := Lib.hid (by rw [← hW, World.size_alloc])
  clear hr hm hW hbW hB
  go_enter Tryd.func29, Tryd.ntmps29
  go_wp2_with fail
  rw [HW.out]
  go_wp2
  go_ret
  exact ⟨_, rfl, prOf (HC.out.below (belowAlloc W _)) (by rw [← HSZ.out]; exact Blk.new W _ _), belowThen HBW.out (belowAlloc W _)⟩
def intL (l : List Nat) : List Int := l.map fun (n : Nat) => (n : Int)
theorem intLApp (l : List Nat) (n : Nat) : intL (l ++ [n]) = intL l ++ [(n : Int)] := by simp [intL]
theorem intLLen (l : List Nat) : (intL l).length = l.length := by simp [intL]
theorem ownIB {w X : World} {base : Nat} {v : Value} {l : List Int} (h : OwnI w base v l) (hb : Below w.heap.size w X) : OwnI X base v l := ownChg h (Chg.ofBelow hb fun _ => True) fun _ _ => trivial
set_option maxRecDepth 100000 in
set_option maxHeartbeats 4000000 in
theorem iFirsts (C : List I8) (m : Nat) (hm : C.length = m) (h64 : m ≤ 1000) (A : Option Addr) (c : Nat) (w : World) (hr : RdE 8 EI w A c C) :
    Calls Tryd.prog 15 #[.slice A m c] w fun e w' => ∃ v, e = .returned v ∧ OwnI w' w.heap.size v (intL (spL C m)) ∧ Below w.heap.size w w' := by
  have HPR := Lib.hid (iProps C m hm A c w hr)
  have HM := Lib.hid hm
  have HEND : Hid (∀ k, m ≤ k + 2 → k ≤ m → spL C k = spL C m) := Lib.hid fun k h1 h2 => (spLUp (by omega) m h2).symm
  have HYES : Hid (∀ k, spB C k = true → spL C (k + 1) = spL C k ++ [k]) := Lib.hid fun k h => spLYes h
  have HNO : Hid (∀ k, spB C k = false → spL C (k + 1) = spL C k) := Lib.hid fun k h => spLNo h
  have HLEN := Lib.hid (fun k => spLLen C k)
  have hle := hr.le
  have hmx := hr.max
  rw [hm] at hle
  unfold maxLen at hmx
  clear hr hm
  go_enter Tryd.func15, Tryd.ntmps15
  go_wp2_with fail
  go_step3
  go_wp2_with fail
  refine HPR.out.mono ?_
  rintro e w1 ⟨g, rfl, hp, b1⟩
  have HP := Lib.hid hp
  have HB1 := Lib.hid b1
  clear hp b1
  go_wp2
  go_step3
  go_wp2
  go_loopg [4, 13] m (fun g v i wr => ∃ k : Nat, k + g = m ∧ i = .int .i64 k ∧ OwnI wr w1.heap.size v (intL (spL C k)) ∧ Below w1.heap.size w1 wr)
  case atStart => exact ⟨0, by omega, rfl, OwnI.nil _ _, Below.refl _ _⟩
  case round =>
    obtain ⟨k, hk, rfl, ho, hb⟩ := hrel
    have HO := Lib.hid ho
    have HB := Lib.hid hb
    have hlen := HLEN.out k
    clear ho hb
    by_cases hlt : k + 2 < m
    · have hk0 : (0 : Int) ≤ k := by omega
      have hk1 : (k : Int) < (m : Int) - 2 := by omega
      obtain ⟨go, hgo⟩ : ∃ go, gk = go + 1 := ⟨gk - 1, by omega⟩
      subst hgo
      have HKC : Hid (k + 2 < C.length) := Lib.hid (by rw [HM.out]; exact hlt)
      have HALL : Hid ((∀ j, j < 5 → pq C k j = true) → spL C (k + 1) = spL C k ++ [k]) := Lib.hid fun h => HYES.out k (pqAll HKC.out h)
      have HANY : Hid (∀ j, j < 5 → pq C k j = false → spL C (k + 1) = spL C k) := Lib.hid fun j hj h => HNO.out k (pqNo HKC.out hj h)
      rename World => wo
      go_wp2
      go_loopg [18] 5 (fun g2 s18 wy => ∃ j : Nat, j + g2 = 5 ∧ s18 = .int .i64 j ∧ Hid (∀ i, i < j → pq C k i = true) ∧ Below wo.heap.size wo wy)
      case atStart => exact ⟨0, by omega, rfl, Lib.hid fun i h => by omega, Below.refl _ _⟩
      case round =>
        obtain ⟨j, hjg, rfl, HJ, hbj⟩ := hrel
        have HBJ := Lib.hid hbj
        cases gk with
        | zero =>
          have hjz : ¬ ((j : Int) < 5) := by omega
          have HX : Hid (spL C (k + 1) = spL C k ++ [k]) := Lib.hid (HALL.out fun i hi => HJ.out i (by omega))
          have HO2 := Lib.hid (ownIB HO.out hbj)
          have hsz : w1.heap.size ≤ wr.heap.size := Nat.le_trans HB.out.size hbj.size
          have HSZ := Lib.hid hsz
          have hlen2 := intLLen (spL C k)
          clear hsz
          go_wp2_with (at_builtin; refine appI _ rfl (.tmp 27) (.tmp 29) rfl w1.heap.size _ (intL (spL C k)) rfl (HO2.out.alloc _) (some ⟨wr.heap.size, 0, none⟩) 1 1 [(k : Int)] rfl rfl (Rd.lit wr [(k : Int)] 3 (by simp)) (by simp; omega) (by have := HSZ.out; simp; omega) ?_; intro v1 w4 o1 _ b4; rw [← intLApp, ← HX.out] at o1; have HO4 := Lib.hid o1; have HB4 := Lib.hid (stepA (belowThen HB.out HBJ.out) b4); clear o1 b4)
          go_roundg go
          case measure => omega
          case rel => exact ⟨k + 1, by omega, by go_num, HO4.out, HB4.out⟩
        | succ g2 =>
          have hj0 : (0 : Int) ≤ j := by omega
          have hj1 : (j : Int) < 5 := by omega
          obtain ⟨v, hv, f, L, rfl, he, hc⟩ := (HP.out.below (belowThen HB.out hbj)).at_ j (by omega)
          have HC := Lib.hid (hc wr (Below.refl _ _) k HKC.out)
          clear hc
          cases hq : pq C k j
          · rw [hq] at HC
            have HX := Lib.hid (HANY.out j (by omega) hq)
            clear hq
            go_wp2_with (refine HC.out.mono ?_; rintro e w3 ⟨rfl, b3⟩)
            go_roundg go
            case measure => omega
            case rel => exact ⟨k + 1, by omega, by go_num, by rw [HX.out]; exact ownIB HO.out (belowThen HBJ.out b3), belowThen HB.out (belowThen HBJ.out b3)⟩
          · rw [hq] at HC
            have HX : Hid (∀ i, i < j + 1 → pq C k i = true) := Lib.hid fun i hi => by
              rcases (by omega : i < j ∨ i = j) with g1 | g1
              · exact HJ.out i g1
              · subst g1; exact hq
            clear hq
            go_wp2_with (refine HC.out.mono ?_; rintro e w3 ⟨rfl, b3⟩)
            go_roundg g2
            case measure => omega
            case rel => exact ⟨j + 1, by omega, by go_num, HX, belowThen HBJ.out b3⟩
    · have hk1 : ¬ ((k : Int) < (m : Int) - 2) := by omega
      have HX := Lib.hid (HEND.out k (by omega) (by omega))
      go_wp2
      go_ret
      exact ⟨_, rfl, by rw [← HX.out]; exact ownMono HO.out HB1.out.size, belowThen HB1.out HB.out⟩
end Go.Proofs.YtebpnnakcodjdaaDoor
