/-
  The specification's Check at the second half of the kinds of operations (by the fields that they use).
-/
import Derived.Test.YtebpnnakcodjdaaDoorZInsG
namespace Go.Proofs.YtebpnnakcodjdaaDoor
open Go.RowKit

set_option maxRecDepth 100000 in
set_option maxHeartbeats 1000000 in
theorem rCheckV8 (k : Nat) (h1 : 1 ≤ k) (h2 : k ≤ 22) (a b c obj n fn ord : Int) (w : World) (e : uvec k = [false, true, false, true, false, false, true]) :
    Calls Tryd.prog 40 #[(I8.mk8 k a b c obj n fn ord).val] w fun e w' => e = .returned (.int .i64 (I8.mk8 k a b c obj n fn ord).chk) ∧ Below w.heap.size w w' := by
  obtain ⟨e0, e1, e2, e3, e4, e5, e6⟩ := uvecOf e
  have hk1 : ((k : Int) == 1) = false := by
    have h : ∀ k, k < 23 → uvec k = [false, true, false, true, false, false, true] → decide (k = 1) = false := by decide
    have h := h k (by omega) e
    simp at h ⊢; omega
  have hka : decide ((k : Int) < 1) = false := by simp; omega
  have hkb : decide (22 < (k : Int)) = false := by simp; omega
  clear e
  obtain ⟨W, hW⟩ : ∃ W, w.alloc (.cells #[.int .i64 k, .int .i64 a, .int .i64 b, .int .i64 c, .int .i64 obj, .int .i64 n, .int .i64 fn, .int .i64 ord] 47) = W := ⟨_, rfl⟩
  have hbw : Below w.heap.size w W := by rw [← hW]; exact belowAlloc w _
  have hm : Blk W w.heap.size 47 #[.int .i64 k, .int .i64 a, .int .i64 b, .int .i64 c, .int .i64 obj, .int .i64 n, .int .i64 fn, .int .i64 ord] := by rw [← hW]; exact Blk.new w _ _
  have HA0 := Lib.hid (rHasN k 0 h1 h2 (by omega) 65 rfl _ e0)
  have HA1 := Lib.hid (rHasN k 1 h1 h2 (by omega) 66 rfl _ e1)
  have HA2 := Lib.hid (rHasN k 2 h1 h2 (by omega) 67 rfl _ e2)
  have HA3 := Lib.hid (rHasN k 3 h1 h2 (by omega) 79 rfl _ e3)
  have HA4 := Lib.hid (rHasN k 4 h1 h2 (by omega) 78 rfl _ e4)
  have HA5 := Lib.hid (rHasN k 5 h1 h2 (by omega) 70 rfl _ e5)
  have HA6 := Lib.hid (rHasN k 6 h1 h2 (by omega) 82 rfl _ e6)
  have hv : (I8.mk8 k a b c obj n fn ord).val = .agg #[.int .i64 k, .int .i64 a, .int .i64 b, .int .i64 c, .int .i64 obj, .int .i64 n, .int .i64 fn, .int .i64 ord] := rfl
  rw [hv]
  clear hv
  have HOP : Hid (opOk (k : Int) = true) := Lib.hid (by simp [opOk]; omega)
  obtain ⟨I, hI⟩ : ∃ I, I8.mk8 k a b c obj n fn ord = I := ⟨_, rfl⟩
  rw [hI]
  have HI : Hid (CkFacts I k a b c obj n fn ord false true false true false false true) := Lib.hid (by rw [← hI]; exact ⟨HOP.out, rfl, by simpa [I8.fOk, I8.u, I8.con] using congrArg (· || decide (a = 0)) e0, by simpa [I8.fOk, I8.u, I8.con] using congrArg (· || decide (b = 0)) e1, by simpa [I8.fOk, I8.u, I8.con] using congrArg (· || decide (c = 0)) e2, by simpa [I8.fOk, I8.u, I8.con] using congrArg (· || decide (obj = 0)) e3, by simpa [I8.fOk, I8.u, I8.con] using congrArg (· || decide (n = 0)) e4, by simpa [I8.fOk, I8.u, I8.con] using congrArg (· || decide (fn = 0)) e5, by simpa [I8.fOk, I8.u, I8.con] using congrArg (· || decide (ord = 0)) e6, by simpa [I8.u] using e5, rfl, rfl, rfl, rfl⟩)
  clear hI e0 e1 e2 e3 e4 e5 e6
  obtain ⟨n0, hn0⟩ : ∃ n0, w.heap.size = n0 := ⟨_, rfl⟩
  rw [hn0] at hm
  obtain ⟨c0, c1, c2, c3, c4, c5, c6, c7⟩ := boxFacts hm
  have HM := Lib.hid hm; clear hm
  go_enter Tryd.func40, Tryd.ntmps40
  rw [hn0]
  go_wp2_with fail
  with_reducible refine (HA0.out _).mono ?_
  rintro e wx ⟨rfl, bx⟩
  have HM := Lib.hid (HM.out.below' bx)
  obtain ⟨c0, c1, c2, c3, c4, c5, c6, c7⟩ := boxFacts HM.out
  have hbw := belowThen hbw bx
  by_cases hx0 : a = 0
  rotate_left
  · have HL := Lib.hid (HI.out.field 0 (by omega) (by rw [HI.out.f0, decide_eq_false hx0]; rfl))
    dsimp only
    refine ‹∀ (a : Act) (w : World), wpList _ _ _ _ a w → _› _ _ ?_
    go_simp
    go_wp2
    go_ret
    exact ⟨retInt HL.out.symm, by first | exact hbw | (rw [← hn0]; exact hbw)⟩
  dsimp only
  refine ‹∀ (a : Act) (w : World), wpList _ _ _ _ a w → _› _ _ ?_
  go_simp
  have HX0 := Lib.hid hx0
  go_wp2_with fail
  clear hx0
  with_reducible refine (HA1.out _).mono ?_
  rintro e wx ⟨rfl, bx⟩
  have HM := Lib.hid (HM.out.below' bx)
  obtain ⟨c0, c1, c2, c3, c4, c5, c6, c7⟩ := boxFacts HM.out
  have hbw := belowThen hbw bx
  go_wp2_with fail
  with_reducible refine (HA2.out _).mono ?_
  rintro e wx ⟨rfl, bx⟩
  have HM := Lib.hid (HM.out.below' bx)
  obtain ⟨c0, c1, c2, c3, c4, c5, c6, c7⟩ := boxFacts HM.out
  have hbw := belowThen hbw bx
  by_cases hx2 : c = 0
  rotate_left
  · have HL := Lib.hid (HI.out.field 2 (by omega) (by rw [HI.out.f2, decide_eq_false hx2]; rfl))
    dsimp only
    refine ‹∀ (a : Act) (w : World), wpList _ _ _ _ a w → _› _ _ ?_
    go_simp
    go_wp2
    go_ret
    exact ⟨retInt HL.out.symm, by first | exact hbw | (rw [← hn0]; exact hbw)⟩
  dsimp only
  refine ‹∀ (a : Act) (w : World), wpList _ _ _ _ a w → _› _ _ ?_
  go_simp
  have HX2 := Lib.hid hx2
  go_wp2_with fail
  clear hx2
  with_reducible refine (HA3.out _).mono ?_
  rintro e wx ⟨rfl, bx⟩
  have HM := Lib.hid (HM.out.below' bx)
  obtain ⟨c0, c1, c2, c3, c4, c5, c6, c7⟩ := boxFacts HM.out
  have hbw := belowThen hbw bx
  go_wp2_with fail
  with_reducible refine (HA4.out _).mono ?_
  rintro e wx ⟨rfl, bx⟩
  have HM := Lib.hid (HM.out.below' bx)
  obtain ⟨c0, c1, c2, c3, c4, c5, c6, c7⟩ := boxFacts HM.out
  have hbw := belowThen hbw bx
  by_cases hx4 : n = 0
  rotate_left
  · have HL := Lib.hid (HI.out.field 4 (by omega) (by rw [HI.out.f4, decide_eq_false hx4]; rfl))
    dsimp only
    refine ‹∀ (a : Act) (w : World), wpList _ _ _ _ a w → _› _ _ ?_
    go_simp
    go_wp2
    go_ret
    exact ⟨retInt HL.out.symm, by first | exact hbw | (rw [← hn0]; exact hbw)⟩
  dsimp only
  refine ‹∀ (a : Act) (w : World), wpList _ _ _ _ a w → _› _ _ ?_
  go_simp
  have HX4 := Lib.hid hx4
  go_wp2_with fail
  clear hx4
  with_reducible refine (HA5.out _).mono ?_
  rintro e wx ⟨rfl, bx⟩
  have HM := Lib.hid (HM.out.below' bx)
  obtain ⟨c0, c1, c2, c3, c4, c5, c6, c7⟩ := boxFacts HM.out
  have hbw := belowThen hbw bx
  by_cases hx5 : fn = 0
  rotate_left
  · have HL := Lib.hid (HI.out.field 5 (by omega) (by rw [HI.out.f5, decide_eq_false hx5]; rfl))
    dsimp only
    refine ‹∀ (a : Act) (w : World), wpList _ _ _ _ a w → _› _ _ ?_
    go_simp
    go_wp2
    go_ret
    exact ⟨retInt HL.out.symm, by first | exact hbw | (rw [← hn0]; exact hbw)⟩
  dsimp only
  refine ‹∀ (a : Act) (w : World), wpList _ _ _ _ a w → _› _ _ ?_
  go_simp
  have HX5 := Lib.hid hx5
  go_wp2_with fail
  clear hx5
  with_reducible refine (HA6.out _).mono ?_
  rintro e wx ⟨rfl, bx⟩
  have HM := Lib.hid (HM.out.below' bx)
  obtain ⟨c0, c1, c2, c3, c4, c5, c6, c7⟩ := boxFacts HM.out
  have hbw := belowThen hbw bx
  have HFS : Hid (I.fs = true) := Lib.hid (HI.out.fs (.inr HX0.out) (.inl rfl) (.inr HX2.out) (.inl rfl) (.inr HX4.out) (.inr HX5.out) (.inl rfl))
  have HRa : Hid (rgOk a = true) := Lib.hid (by rw [HX0.out]; rfl)
  obtain ⟨rb, hrb⟩ : ∃ r, rgOk b = r := ⟨_, rfl⟩
  have HRb := Lib.hid hrb; clear hrb
  have HRc : Hid (rgOk c = true) := Lib.hid (by rw [HX2.out]; rfl)
  rcases rb with _ | _
  · have HL := Lib.hid (HI.out.reg HFS.out (.inr (.inl HRb.out)))
    go_wp2_with (go_at_call 63; (first | with_reducible refine (rIsRegN a _ HRa.out _).mono ?_ | with_reducible refine (rIsRegN b _ HRb.out _).mono ?_); rintro e wz ⟨rfl, rfl⟩)
    go_ret
    exact ⟨retInt HL.out.symm, by first | exact hbw | (rw [← hn0]; exact hbw)⟩
  have HRS : Hid (I.rs = true) := Lib.hid (HI.out.rs HRa.out HRb.out HRc.out)
  by_cases ho1 : ord < 0
  · have HL := Lib.hid (HI.out.ordNo HFS.out HRS.out (.inl ho1))
    go_wp2_with (go_at_call 63; (first | with_reducible refine (rIsRegN a _ HRa.out _).mono ?_ | with_reducible refine (rIsRegN b _ HRb.out _).mono ?_ | with_reducible refine (rIsRegN c _ HRc.out _).mono ?_); rintro e wz ⟨rfl, rfl⟩)
    go_ret
    exact ⟨retInt HL.out.symm, by first | exact hbw | (rw [← hn0]; exact hbw)⟩
  by_cases ho2 : 2 < ord
  · have HL := Lib.hid (HI.out.ordNo HFS.out HRS.out (.inr ho2))
    go_wp2_with (go_at_call 63; (first | with_reducible refine (rIsRegN a _ HRa.out _).mono ?_ | with_reducible refine (rIsRegN b _ HRb.out _).mono ?_ | with_reducible refine (rIsRegN c _ HRc.out _).mono ?_); rintro e wz ⟨rfl, rfl⟩)
    all_goals go_ret
    all_goals exact ⟨retInt HL.out.symm, by first | exact hbw | (rw [← hn0]; exact hbw)⟩
  have HOR : Hid (orOk I.ord = true) := Lib.hid (HI.out.ordYes ho1 ho2)
  have ho3 : decide (ord < 0) = false := decide_eq_false ho1
  have ho4 : decide (2 < ord) = false := decide_eq_false ho2
  clear ho1 ho2
  go_wp2_with (go_at_call 63; (first | with_reducible refine (rIsRegN a _ HRa.out _).mono ?_ | with_reducible refine (rIsRegN b _ HRb.out _).mono ?_ | with_reducible refine (rIsRegN c _ HRc.out _).mono ?_); rintro e wz ⟨rfl, rfl⟩)
  with_reducible refine (HA5.out _).mono ?_
  rintro e wx ⟨rfl, bx⟩
  have HM := Lib.hid (HM.out.below' bx)
  obtain ⟨c0, c1, c2, c3, c4, c5, c6, c7⟩ := boxFacts HM.out
  have hbw := belowThen hbw bx
  have H5 : Hid ((I.u 5 && !fnOk I.fn) = false) := Lib.hid (by rw [HI.out.u5]; rfl)
  have HL := Lib.hid (HI.out.nYes HFS.out HRS.out HOR.out H5.out (.inl hk1))
  go_wp2
  go_ret
  exact ⟨retInt HL.out.symm, by first | exact hbw | (rw [← hn0]; exact hbw)⟩

set_option maxRecDepth 100000 in
set_option maxHeartbeats 1000000 in
theorem rCheckV9 (k : Nat) (h1 : 1 ≤ k) (h2 : k ≤ 22) (a b c obj n fn ord : Int) (w : World) (e : uvec k = [true, true, false, true, false, false, true]) :
    Calls Tryd.prog 40 #[(I8.mk8 k a b c obj n fn ord).val] w fun e w' => e = .returned (.int .i64 (I8.mk8 k a b c obj n fn ord).chk) ∧ Below w.heap.size w w' := by
  obtain ⟨e0, e1, e2, e3, e4, e5, e6⟩ := uvecOf e
  have hk1 : ((k : Int) == 1) = false := by
    have h : ∀ k, k < 23 → uvec k = [true, true, false, true, false, false, true] → decide (k = 1) = false := by decide
    have h := h k (by omega) e
    simp at h ⊢; omega
  have hka : decide ((k : Int) < 1) = false := by simp; omega
  have hkb : decide (22 < (k : Int)) = false := by simp; omega
  clear e
  obtain ⟨W, hW⟩ : ∃ W, w.alloc (.cells #[.int .i64 k, .int .i64 a, .int .i64 b, .int .i64 c, .int .i64 obj, .int .i64 n, .int .i64 fn, .int .i64 ord] 47) = W := ⟨_, rfl⟩
  have hbw : Below w.heap.size w W := by rw [← hW]; exact belowAlloc w _
  have hm : Blk W w.heap.size 47 #[.int .i64 k, .int .i64 a, .int .i64 b, .int .i64 c, .int .i64 obj, .int .i64 n, .int .i64 fn, .int .i64 ord] := by rw [← hW]; exact Blk.new w _ _
  have HA0 := Lib.hid (rHasN k 0 h1 h2 (by omega) 65 rfl _ e0)
  have HA1 := Lib.hid (rHasN k 1 h1 h2 (by omega) 66 rfl _ e1)
  have HA2 := Lib.hid (rHasN k 2 h1 h2 (by omega) 67 rfl _ e2)
  have HA3 := Lib.hid (rHasN k 3 h1 h2 (by omega) 79 rfl _ e3)
  have HA4 := Lib.hid (rHasN k 4 h1 h2 (by omega) 78 rfl _ e4)
  have HA5 := Lib.hid (rHasN k 5 h1 h2 (by omega) 70 rfl _ e5)
  have HA6 := Lib.hid (rHasN k 6 h1 h2 (by omega) 82 rfl _ e6)
  have hv : (I8.mk8 k a b c obj n fn ord).val = .agg #[.int .i64 k, .int .i64 a, .int .i64 b, .int .i64 c, .int .i64 obj, .int .i64 n, .int .i64 fn, .int .i64 ord] := rfl
  rw [hv]
  clear hv
  have HOP : Hid (opOk (k : Int) = true) := Lib.hid (by simp [opOk]; omega)
  obtain ⟨I, hI⟩ : ∃ I, I8.mk8 k a b c obj n fn ord = I := ⟨_, rfl⟩
  rw [hI]
  have HI : Hid (CkFacts I k a b c obj n fn ord true true false true false false true) := Lib.hid (by rw [← hI]; exact ⟨HOP.out, rfl, by simpa [I8.fOk, I8.u, I8.con] using congrArg (· || decide (a = 0)) e0, by simpa [I8.fOk, I8.u, I8.con] using congrArg (· || decide (b = 0)) e1, by simpa [I8.fOk, I8.u, I8.con] using congrArg (· || decide (c = 0)) e2, by simpa [I8.fOk, I8.u, I8.con] using congrArg (· || decide (obj = 0)) e3, by simpa [I8.fOk, I8.u, I8.con] using congrArg (· || decide (n = 0)) e4, by simpa [I8.fOk, I8.u, I8.con] using congrArg (· || decide (fn = 0)) e5, by simpa [I8.fOk, I8.u, I8.con] using congrArg (· || decide (ord = 0)) e6, by simpa [I8.u] using e5, rfl, rfl, rfl, rfl⟩)
  clear hI e0 e1 e2 e3 e4 e5 e6
  obtain ⟨n0, hn0⟩ : ∃ n0, w.heap.size = n0 := ⟨_, rfl⟩
  rw [hn0] at hm
  obtain ⟨c0, c1, c2, c3, c4, c5, c6, c7⟩ := boxFacts hm
  have HM := Lib.hid hm; clear hm
  go_enter Tryd.func40, Tryd.ntmps40
  rw [hn0]
  go_wp2_with fail
  with_reducible refine (HA0.out _).mono ?_
  rintro e wx ⟨rfl, bx⟩
  have HM := Lib.hid (HM.out.below' bx)
  obtain ⟨c0, c1, c2, c3, c4, c5, c6, c7⟩ := boxFacts HM.out
  have hbw := belowThen hbw bx
  go_wp2_with fail
  with_reducible refine (HA1.out _).mono ?_
  rintro e wx ⟨rfl, bx⟩
  have HM := Lib.hid (HM.out.below' bx)
  obtain ⟨c0, c1, c2, c3, c4, c5, c6, c7⟩ := boxFacts HM.out
  have hbw := belowThen hbw bx
  go_wp2_with fail
  with_reducible refine (HA2.out _).mono ?_
  rintro e wx ⟨rfl, bx⟩
  have HM := Lib.hid (HM.out.below' bx)
  obtain ⟨c0, c1, c2, c3, c4, c5, c6, c7⟩ := boxFacts HM.out
  have hbw := belowThen hbw bx
  by_cases hx2 : c = 0
  rotate_left
  · have HL := Lib.hid (HI.out.field 2 (by omega) (by rw [HI.out.f2, decide_eq_false hx2]; rfl))
    dsimp only
    refine ‹∀ (a : Act) (w : World), wpList _ _ _ _ a w → _› _ _ ?_
    go_simp
    go_wp2
    go_ret
    exact ⟨retInt HL.out.symm, by first | exact hbw | (rw [← hn0]; exact hbw)⟩
  dsimp only
  refine ‹∀ (a : Act) (w : World), wpList _ _ _ _ a w → _› _ _ ?_
  go_simp
  have HX2 := Lib.hid hx2
  go_wp2_with fail
  clear hx2
  with_reducible refine (HA3.out _).mono ?_
  rintro e wx ⟨rfl, bx⟩
  have HM := Lib.hid (HM.out.below' bx)
  obtain ⟨c0, c1, c2, c3, c4, c5, c6, c7⟩ := boxFacts HM.out
  have hbw := belowThen hbw bx
  go_wp2_with fail
  with_reducible refine (HA4.out _).mono ?_
  rintro e wx ⟨rfl, bx⟩
  have HM := Lib.hid (HM.out.below' bx)
  obtain ⟨c0, c1, c2, c3, c4, c5, c6, c7⟩ := boxFacts HM.out
  have hbw := belowThen hbw bx
  by_cases hx4 : n = 0
  rotate_left
  · have HL := Lib.hid (HI.out.field 4 (by omega) (by rw [HI.out.f4, decide_eq_false hx4]; rfl))
    dsimp only
    refine ‹∀ (a : Act) (w : World), wpList _ _ _ _ a w → _› _ _ ?_
    go_simp
    go_wp2
    go_ret
    exact ⟨retInt HL.out.symm, by first | exact hbw | (rw [← hn0]; exact hbw)⟩
  dsimp only
  refine ‹∀ (a : Act) (w : World), wpList _ _ _ _ a w → _› _ _ ?_
  go_simp
  have HX4 := Lib.hid hx4
  go_wp2_with fail
  clear hx4
  with_reducible refine (HA5.out _).mono ?_
  rintro e wx ⟨rfl, bx⟩
  have HM := Lib.hid (HM.out.below' bx)
  obtain ⟨c0, c1, c2, c3, c4, c5, c6, c7⟩ := boxFacts HM.out
  have hbw := belowThen hbw bx
  by_cases hx5 : fn = 0
  rotate_left
  · have HL := Lib.hid (HI.out.field 5 (by omega) (by rw [HI.out.f5, decide_eq_false hx5]; rfl))
    dsimp only
    refine ‹∀ (a : Act) (w : World), wpList _ _ _ _ a w → _› _ _ ?_
    go_simp
    go_wp2
    go_ret
    exact ⟨retInt HL.out.symm, by first | exact hbw | (rw [← hn0]; exact hbw)⟩
  dsimp only
  refine ‹∀ (a : Act) (w : World), wpList _ _ _ _ a w → _› _ _ ?_
  go_simp
  have HX5 := Lib.hid hx5
  go_wp2_with fail
  clear hx5
  with_reducible refine (HA6.out _).mono ?_
  rintro e wx ⟨rfl, bx⟩
  have HM := Lib.hid (HM.out.below' bx)
  obtain ⟨c0, c1, c2, c3, c4, c5, c6, c7⟩ := boxFacts HM.out
  have hbw := belowThen hbw bx
  have HFS : Hid (I.fs = true) := Lib.hid (HI.out.fs (.inl rfl) (.inl rfl) (.inr HX2.out) (.inl rfl) (.inr HX4.out) (.inr HX5.out) (.inl rfl))
  obtain ⟨ra, hra⟩ : ∃ r, rgOk a = r := ⟨_, rfl⟩
  have HRa := Lib.hid hra; clear hra
  obtain ⟨rb, hrb⟩ : ∃ r, rgOk b = r := ⟨_, rfl⟩
  have HRb := Lib.hid hrb; clear hrb
  have HRc : Hid (rgOk c = true) := Lib.hid (by rw [HX2.out]; rfl)
  rcases ra with _ | _
  · have HL := Lib.hid (HI.out.reg HFS.out (.inl HRa.out))
    go_wp2_with (go_at_call 63; (first | with_reducible refine (rIsRegN a _ HRa.out _).mono ?_); rintro e wz ⟨rfl, rfl⟩)
    go_ret
    exact ⟨retInt HL.out.symm, by first | exact hbw | (rw [← hn0]; exact hbw)⟩
  rcases rb with _ | _
  · have HL := Lib.hid (HI.out.reg HFS.out (.inr (.inl HRb.out)))
    go_wp2_with (go_at_call 63; (first | with_reducible refine (rIsRegN a _ HRa.out _).mono ?_ | with_reducible refine (rIsRegN b _ HRb.out _).mono ?_); rintro e wz ⟨rfl, rfl⟩)
    go_ret
    exact ⟨retInt HL.out.symm, by first | exact hbw | (rw [← hn0]; exact hbw)⟩
  have HRS : Hid (I.rs = true) := Lib.hid (HI.out.rs HRa.out HRb.out HRc.out)
  by_cases ho1 : ord < 0
  · have HL := Lib.hid (HI.out.ordNo HFS.out HRS.out (.inl ho1))
    go_wp2_with (go_at_call 63; (first | with_reducible refine (rIsRegN a _ HRa.out _).mono ?_ | with_reducible refine (rIsRegN b _ HRb.out _).mono ?_ | with_reducible refine (rIsRegN c _ HRc.out _).mono ?_); rintro e wz ⟨rfl, rfl⟩)
    go_ret
    exact ⟨retInt HL.out.symm, by first | exact hbw | (rw [← hn0]; exact hbw)⟩
  by_cases ho2 : 2 < ord
  · have HL := Lib.hid (HI.out.ordNo HFS.out HRS.out (.inr ho2))
    go_wp2_with (go_at_call 63; (first | with_reducible refine (rIsRegN a _ HRa.out _).mono ?_ | with_reducible refine (rIsRegN b _ HRb.out _).mono ?_ | with_reducible refine (rIsRegN c _ HRc.out _).mono ?_); rintro e wz ⟨rfl, rfl⟩)
    all_goals go_ret
    all_goals exact ⟨retInt HL.out.symm, by first | exact hbw | (rw [← hn0]; exact hbw)⟩
  have HOR : Hid (orOk I.ord = true) := Lib.hid (HI.out.ordYes ho1 ho2)
  have ho3 : decide (ord < 0) = false := decide_eq_false ho1
  have ho4 : decide (2 < ord) = false := decide_eq_false ho2
  clear ho1 ho2
  go_wp2_with (go_at_call 63; (first | with_reducible refine (rIsRegN a _ HRa.out _).mono ?_ | with_reducible refine (rIsRegN b _ HRb.out _).mono ?_ | with_reducible refine (rIsRegN c _ HRc.out _).mono ?_); rintro e wz ⟨rfl, rfl⟩)
  with_reducible refine (HA5.out _).mono ?_
  rintro e wx ⟨rfl, bx⟩
  have HM := Lib.hid (HM.out.below' bx)
  obtain ⟨c0, c1, c2, c3, c4, c5, c6, c7⟩ := boxFacts HM.out
  have hbw := belowThen hbw bx
  have H5 : Hid ((I.u 5 && !fnOk I.fn) = false) := Lib.hid (by rw [HI.out.u5]; rfl)
  have HL := Lib.hid (HI.out.nYes HFS.out HRS.out HOR.out H5.out (.inl hk1))
  go_wp2
  go_ret
  exact ⟨retInt HL.out.symm, by first | exact hbw | (rw [← hn0]; exact hbw)⟩

set_option maxRecDepth 100000 in
set_option maxHeartbeats 1000000 in
theorem rCheckV10 (k : Nat) (h1 : 1 ≤ k) (h2 : k ≤ 22) (a b c obj n fn ord : Int) (w : World) (e : uvec k = [true, true, true, true, false, false, true]) :
    Calls Tryd.prog 40 #[(I8.mk8 k a b c obj n fn ord).val] w fun e w' => e = .returned (.int .i64 (I8.mk8 k a b c obj n fn ord).chk) ∧ Below w.heap.size w w' := by
  obtain ⟨e0, e1, e2, e3, e4, e5, e6⟩ := uvecOf e
  have hk1 : ((k : Int) == 1) = false := by
    have h : ∀ k, k < 23 → uvec k = [true, true, true, true, false, false, true] → decide (k = 1) = false := by decide
    have h := h k (by omega) e
    simp at h ⊢; omega
  have hka : decide ((k : Int) < 1) = false := by simp; omega
  have hkb : decide (22 < (k : Int)) = false := by simp; omega
  clear e
  obtain ⟨W, hW⟩ : ∃ W, w.alloc (.cells #[.int .i64 k, .int .i64 a, .int .i64 b, .int .i64 c, .int .i64 obj, .int .i64 n, .int .i64 fn, .int .i64 ord] 47) = W := ⟨_, rfl⟩
  have hbw : Below w.heap.size w W := by rw [← hW]; exact belowAlloc w _
  have hm : Blk W w.heap.size 47 #[.int .i64 k, .int .i64 a, .int .i64 b, .int .i64 c, .int .i64 obj, .int .i64 n, .int .i64 fn, .int .i64 ord] := by rw [← hW]; exact Blk.new w _ _
  have HA0 := Lib.hid (rHasN k 0 h1 h2 (by omega) 65 rfl _ e0)
  have HA1 := Lib.hid (rHasN k 1 h1 h2 (by omega) 66 rfl _ e1)
  have HA2 := Lib.hid (rHasN k 2 h1 h2 (by omega) 67 rfl _ e2)
  have HA3 := Lib.hid (rHasN k 3 h1 h2 (by omega) 79 rfl _ e3)
  have HA4 := Lib.hid (rHasN k 4 h1 h2 (by omega) 78 rfl _ e4)
  have HA5 := Lib.hid (rHasN k 5 h1 h2 (by omega) 70 rfl _ e5)
  have HA6 := Lib.hid (rHasN k 6 h1 h2 (by omega) 82 rfl _ e6)
  have hv : (I8.mk8 k a b c obj n fn ord).val = .agg #[.int .i64 k, .int .i64 a, .int .i64 b, .int .i64 c, .int .i64 obj, .int .i64 n, .int .i64 fn, .int .i64 ord] := rfl
  rw [hv]
  clear hv
  have HOP : Hid (opOk (k : Int) = true) := Lib.hid (by simp [opOk]; omega)
  obtain ⟨I, hI⟩ : ∃ I, I8.mk8 k a b c obj n fn ord = I := ⟨_, rfl⟩
  rw [hI]
  have HI : Hid (CkFacts I k a b c obj n fn ord true true true true false false true) := Lib.hid (by rw [← hI]; exact ⟨HOP.out, rfl, by simpa [I8.fOk, I8.u, I8.con] using congrArg (· || decide (a = 0)) e0, by simpa [I8.fOk, I8.u, I8.con] using congrArg (· || decide (b = 0)) e1, by simpa [I8.fOk, I8.u, I8.con] using congrArg (· || decide (c = 0)) e2, by simpa [I8.fOk, I8.u, I8.con] using congrArg (· || decide (obj = 0)) e3, by simpa [I8.fOk, I8.u, I8.con] using congrArg (· || decide (n = 0)) e4, by simpa [I8.fOk, I8.u, I8.con] using congrArg (· || decide (fn = 0)) e5, by simpa [I8.fOk, I8.u, I8.con] using congrArg (· || decide (ord = 0)) e6, by simpa [I8.u] using e5, rfl, rfl, rfl, rfl⟩)
  clear hI e0 e1 e2 e3 e4 e5 e6
  obtain ⟨n0, hn0⟩ : ∃ n0, w.heap.size = n0 := ⟨_, rfl⟩
  rw [hn0] at hm
  obtain ⟨c0, c1, c2, c3, c4, c5, c6, c7⟩ := boxFacts hm
  have HM := Lib.hid hm; clear hm
  go_enter Tryd.func40, Tryd.ntmps40
  rw [hn0]
  go_wp2_with fail
  with_reducible refine (HA0.out _).mono ?_
  rintro e wx ⟨rfl, bx⟩
  have HM := Lib.hid (HM.out.below' bx)
  obtain ⟨c0, c1, c2, c3, c4, c5, c6, c7⟩ := boxFacts HM.out
  have hbw := belowThen hbw bx
  go_wp2_with fail
  with_reducible refine (HA1.out _).mono ?_
  rintro e wx ⟨rfl, bx⟩
  have HM := Lib.hid (HM.out.below' bx)
  obtain ⟨c0, c1, c2, c3, c4, c5, c6, c7⟩ := boxFacts HM.out
  have hbw := belowThen hbw bx
  go_wp2_with fail
  with_reducible refine (HA2.out _).mono ?_
  rintro e wx ⟨rfl, bx⟩
  have HM := Lib.hid (HM.out.below' bx)
  obtain ⟨c0, c1, c2, c3, c4, c5, c6, c7⟩ := boxFacts HM.out
  have hbw := belowThen hbw bx
  go_wp2_with fail
  with_reducible refine (HA3.out _).mono ?_
  rintro e wx ⟨rfl, bx⟩
  have HM := Lib.hid (HM.out.below' bx)
  obtain ⟨c0, c1, c2, c3, c4, c5, c6, c7⟩ := boxFacts HM.out
  have hbw := belowThen hbw bx
  go_wp2_with fail
  with_reducible refine (HA4.out _).mono ?_
  rintro e wx ⟨rfl, bx⟩
  have HM := Lib.hid (HM.out.below' bx)
  obtain ⟨c0, c1, c2, c3, c4, c5, c6, c7⟩ := boxFacts HM.out
  have hbw := belowThen hbw bx
  by_cases hx4 : n = 0
  rotate_left
  · have HL := Lib.hid (HI.out.field 4 (by omega) (by rw [HI.out.f4, decide_eq_false hx4]; rfl))
    dsimp only
    refine ‹∀ (a : Act) (w : World), wpList _ _ _ _ a w → _› _ _ ?_
    go_simp
    go_wp2
    go_ret
    exact ⟨retInt HL.out.symm, by first | exact hbw | (rw [← hn0]; exact hbw)⟩
  dsimp only
  refine ‹∀ (a : Act) (w : World), wpList _ _ _ _ a w → _› _ _ ?_
  go_simp
  have HX4 := Lib.hid hx4
  go_wp2_with fail
  clear hx4
  with_reducible refine (HA5.out _).mono ?_
  rintro e wx ⟨rfl, bx⟩
  have HM := Lib.hid (HM.out.below' bx)
  obtain ⟨c0, c1, c2, c3, c4, c5, c6, c7⟩ := boxFacts HM.out
  have hbw := belowThen hbw bx
  by_cases hx5 : fn = 0
  rotate_left
  · have HL := Lib.hid (HI.out.field 5 (by omega) (by rw [HI.out.f5, decide_eq_false hx5]; rfl))
    dsimp only
    refine ‹∀ (a : Act) (w : World), wpList _ _ _ _ a w → _› _ _ ?_
    go_simp
    go_wp2
    go_ret
    exact ⟨retInt HL.out.symm, by first | exact hbw | (rw [← hn0]; exact hbw)⟩
  dsimp only
  refine ‹∀ (a : Act) (w : World), wpList _ _ _ _ a w → _› _ _ ?_
  go_simp
  have HX5 := Lib.hid hx5
  go_wp2_with fail
  clear hx5
  with_reducible refine (HA6.out _).mono ?_
  rintro e wx ⟨rfl, bx⟩
  have HM := Lib.hid (HM.out.below' bx)
  obtain ⟨c0, c1, c2, c3, c4, c5, c6, c7⟩ := boxFacts HM.out
  have hbw := belowThen hbw bx
  have HFS : Hid (I.fs = true) := Lib.hid (HI.out.fs (.inl rfl) (.inl rfl) (.inl rfl) (.inl rfl) (.inr HX4.out) (.inr HX5.out) (.inl rfl))
  obtain ⟨ra, hra⟩ : ∃ r, rgOk a = r := ⟨_, rfl⟩
  have HRa := Lib.hid hra; clear hra
  obtain ⟨rb, hrb⟩ : ∃ r, rgOk b = r := ⟨_, rfl⟩
  have HRb := Lib.hid hrb; clear hrb
  obtain ⟨rc, hrc⟩ : ∃ r, rgOk c = r := ⟨_, rfl⟩
  have HRc := Lib.hid hrc; clear hrc
  rcases ra with _ | _
  · have HL := Lib.hid (HI.out.reg HFS.out (.inl HRa.out))
    go_wp2_with (go_at_call 63; (first | with_reducible refine (rIsRegN a _ HRa.out _).mono ?_); rintro e wz ⟨rfl, rfl⟩)
    go_ret
    exact ⟨retInt HL.out.symm, by first | exact hbw | (rw [← hn0]; exact hbw)⟩
  rcases rb with _ | _
  · have HL := Lib.hid (HI.out.reg HFS.out (.inr (.inl HRb.out)))
    go_wp2_with (go_at_call 63; (first | with_reducible refine (rIsRegN a _ HRa.out _).mono ?_ | with_reducible refine (rIsRegN b _ HRb.out _).mono ?_); rintro e wz ⟨rfl, rfl⟩)
    go_ret
    exact ⟨retInt HL.out.symm, by first | exact hbw | (rw [← hn0]; exact hbw)⟩
  rcases rc with _ | _
  · have HL := Lib.hid (HI.out.reg HFS.out (.inr (.inr HRc.out)))
    go_wp2_with (go_at_call 63; (first | with_reducible refine (rIsRegN a _ HRa.out _).mono ?_ | with_reducible refine (rIsRegN b _ HRb.out _).mono ?_ | with_reducible refine (rIsRegN c _ HRc.out _).mono ?_); rintro e wz ⟨rfl, rfl⟩)
    go_ret
    exact ⟨retInt HL.out.symm, by first | exact hbw | (rw [← hn0]; exact hbw)⟩
  have HRS : Hid (I.rs = true) := Lib.hid (HI.out.rs HRa.out HRb.out HRc.out)
  by_cases ho1 : ord < 0
  · have HL := Lib.hid (HI.out.ordNo HFS.out HRS.out (.inl ho1))
    go_wp2_with (go_at_call 63; (first | with_reducible refine (rIsRegN a _ HRa.out _).mono ?_ | with_reducible refine (rIsRegN b _ HRb.out _).mono ?_ | with_reducible refine (rIsRegN c _ HRc.out _).mono ?_); rintro e wz ⟨rfl, rfl⟩)
    go_ret
    exact ⟨retInt HL.out.symm, by first | exact hbw | (rw [← hn0]; exact hbw)⟩
  by_cases ho2 : 2 < ord
  · have HL := Lib.hid (HI.out.ordNo HFS.out HRS.out (.inr ho2))
    go_wp2_with (go_at_call 63; (first | with_reducible refine (rIsRegN a _ HRa.out _).mono ?_ | with_reducible refine (rIsRegN b _ HRb.out _).mono ?_ | with_reducible refine (rIsRegN c _ HRc.out _).mono ?_); rintro e wz ⟨rfl, rfl⟩)
    all_goals go_ret
    all_goals exact ⟨retInt HL.out.symm, by first | exact hbw | (rw [← hn0]; exact hbw)⟩
  have HOR : Hid (orOk I.ord = true) := Lib.hid (HI.out.ordYes ho1 ho2)
  have ho3 : decide (ord < 0) = false := decide_eq_false ho1
  have ho4 : decide (2 < ord) = false := decide_eq_false ho2
  clear ho1 ho2
  go_wp2_with (go_at_call 63; (first | with_reducible refine (rIsRegN a _ HRa.out _).mono ?_ | with_reducible refine (rIsRegN b _ HRb.out _).mono ?_ | with_reducible refine (rIsRegN c _ HRc.out _).mono ?_); rintro e wz ⟨rfl, rfl⟩)
  with_reducible refine (HA5.out _).mono ?_
  rintro e wx ⟨rfl, bx⟩
  have HM := Lib.hid (HM.out.below' bx)
  obtain ⟨c0, c1, c2, c3, c4, c5, c6, c7⟩ := boxFacts HM.out
  have hbw := belowThen hbw bx
  have H5 : Hid ((I.u 5 && !fnOk I.fn) = false) := Lib.hid (by rw [HI.out.u5]; rfl)
  have HL := Lib.hid (HI.out.nYes HFS.out HRS.out HOR.out H5.out (.inl hk1))
  go_wp2
  go_ret
  exact ⟨retInt HL.out.symm, by first | exact hbw | (rw [← hn0]; exact hbw)⟩

set_option maxRecDepth 100000 in
set_option maxHeartbeats 1000000 in
theorem rCheckV11 (k : Nat) (h1 : 1 ≤ k) (h2 : k ≤ 22) (a b c obj n fn ord : Int) (w : World) (e : uvec k = [true, true, false, true, false, true, true]) :
    Calls Tryd.prog 40 #[(I8.mk8 k a b c obj n fn ord).val] w fun e w' => e = .returned (.int .i64 (I8.mk8 k a b c obj n fn ord).chk) ∧ Below w.heap.size w w' := by
  obtain ⟨e0, e1, e2, e3, e4, e5, e6⟩ := uvecOf e
  have hk1 : ((k : Int) == 1) = false := by
    have h : ∀ k, k < 23 → uvec k = [true, true, false, true, false, true, true] → decide (k = 1) = false := by decide
    have h := h k (by omega) e
    simp at h ⊢; omega
  have hka : decide ((k : Int) < 1) = false := by simp; omega
  have hkb : decide (22 < (k : Int)) = false := by simp; omega
  clear e
  obtain ⟨W, hW⟩ : ∃ W, w.alloc (.cells #[.int .i64 k, .int .i64 a, .int .i64 b, .int .i64 c, .int .i64 obj, .int .i64 n, .int .i64 fn, .int .i64 ord] 47) = W := ⟨_, rfl⟩
  have hbw : Below w.heap.size w W := by rw [← hW]; exact belowAlloc w _
  have hm : Blk W w.heap.size 47 #[.int .i64 k, .int .i64 a, .int .i64 b, .int .i64 c, .int .i64 obj, .int .i64 n, .int .i64 fn, .int .i64 ord] := by rw [← hW]; exact Blk.new w _ _
  have HA0 := Lib.hid (rHasN k 0 h1 h2 (by omega) 65 rfl _ e0)
  have HA1 := Lib.hid (rHasN k 1 h1 h2 (by omega) 66 rfl _ e1)
  have HA2 := Lib.hid (rHasN k 2 h1 h2 (by omega) 67 rfl _ e2)
  have HA3 := Lib.hid (rHasN k 3 h1 h2 (by omega) 79 rfl _ e3)
  have HA4 := Lib.hid (rHasN k 4 h1 h2 (by omega) 78 rfl _ e4)
  have HA5 := Lib.hid (rHasN k 5 h1 h2 (by omega) 70 rfl _ e5)
  have HA6 := Lib.hid (rHasN k 6 h1 h2 (by omega) 82 rfl _ e6)
  have hv : (I8.mk8 k a b c obj n fn ord).val = .agg #[.int .i64 k, .int .i64 a, .int .i64 b, .int .i64 c, .int .i64 obj, .int .i64 n, .int .i64 fn, .int .i64 ord] := rfl
  rw [hv]
  clear hv
  have HOP : Hid (opOk (k : Int) = true) := Lib.hid (by simp [opOk]; omega)
  obtain ⟨I, hI⟩ : ∃ I, I8.mk8 k a b c obj n fn ord = I := ⟨_, rfl⟩
  rw [hI]
  have HI : Hid (CkFacts I k a b c obj n fn ord true true false true false true true) := Lib.hid (by rw [← hI]; exact ⟨HOP.out, rfl, by simpa [I8.fOk, I8.u, I8.con] using congrArg (· || decide (a = 0)) e0, by simpa [I8.fOk, I8.u, I8.con] using congrArg (· || decide (b = 0)) e1, by simpa [I8.fOk, I8.u, I8.con] using congrArg (· || decide (c = 0)) e2, by simpa [I8.fOk, I8.u, I8.con] using congrArg (· || decide (obj = 0)) e3, by simpa [I8.fOk, I8.u, I8.con] using congrArg (· || decide (n = 0)) e4, by simpa [I8.fOk, I8.u, I8.con] using congrArg (· || decide (fn = 0)) e5, by simpa [I8.fOk, I8.u, I8.con] using congrArg (· || decide (ord = 0)) e6, by simpa [I8.u] using e5, rfl, rfl, rfl, rfl⟩)
  clear hI e0 e1 e2 e3 e4 e5 e6
  obtain ⟨n0, hn0⟩ : ∃ n0, w.heap.size = n0 := ⟨_, rfl⟩
  rw [hn0] at hm
  obtain ⟨c0, c1, c2, c3, c4, c5, c6, c7⟩ := boxFacts hm
  have HM := Lib.hid hm; clear hm
  go_enter Tryd.func40, Tryd.ntmps40
  rw [hn0]
  go_wp2_with fail
  with_reducible refine (HA0.out _).mono ?_
  rintro e wx ⟨rfl, bx⟩
  have HM := Lib.hid (HM.out.below' bx)
  obtain ⟨c0, c1, c2, c3, c4, c5, c6, c7⟩ := boxFacts HM.out
  have hbw := belowThen hbw bx
  go_wp2_with fail
  with_reducible refine (HA1.out _).mono ?_
  rintro e wx ⟨rfl, bx⟩
  have HM := Lib.hid (HM.out.below' bx)
  obtain ⟨c0, c1, c2, c3, c4, c5, c6, c7⟩ := boxFacts HM.out
  have hbw := belowThen hbw bx
  go_wp2_with fail
  with_reducible refine (HA2.out _).mono ?_
  rintro e wx ⟨rfl, bx⟩
  have HM := Lib.hid (HM.out.below' bx)
  obtain ⟨c0, c1, c2, c3, c4, c5, c6, c7⟩ := boxFacts HM.out
  have hbw := belowThen hbw bx
  by_cases hx2 : c = 0
  rotate_left
  · have HL := Lib.hid (HI.out.field 2 (by omega) (by rw [HI.out.f2, decide_eq_false hx2]; rfl))
    dsimp only
    refine ‹∀ (a : Act) (w : World), wpList _ _ _ _ a w → _› _ _ ?_
    go_simp
    go_wp2
    go_ret
    exact ⟨retInt HL.out.symm, by first | exact hbw | (rw [← hn0]; exact hbw)⟩
  dsimp only
  refine ‹∀ (a : Act) (w : World), wpList _ _ _ _ a w → _› _ _ ?_
  go_simp
  have HX2 := Lib.hid hx2
  go_wp2_with fail
  clear hx2
  with_reducible refine (HA3.out _).mono ?_
  rintro e wx ⟨rfl, bx⟩
  have HM := Lib.hid (HM.out.below' bx)
  obtain ⟨c0, c1, c2, c3, c4, c5, c6, c7⟩ := boxFacts HM.out
  have hbw := belowThen hbw bx
  go_wp2_with fail
  with_reducible refine (HA4.out _).mono ?_
  rintro e wx ⟨rfl, bx⟩
  have HM := Lib.hid (HM.out.below' bx)
  obtain ⟨c0, c1, c2, c3, c4, c5, c6, c7⟩ := boxFacts HM.out
  have hbw := belowThen hbw bx
  by_cases hx4 : n = 0
  rotate_left
  · have HL := Lib.hid (HI.out.field 4 (by omega) (by rw [HI.out.f4, decide_eq_false hx4]; rfl))
    dsimp only
    refine ‹∀ (a : Act) (w : World), wpList _ _ _ _ a w → _› _ _ ?_
    go_simp
    go_wp2
    go_ret
    exact ⟨retInt HL.out.symm, by first | exact hbw | (rw [← hn0]; exact hbw)⟩
  dsimp only
  refine ‹∀ (a : Act) (w : World), wpList _ _ _ _ a w → _› _ _ ?_
  go_simp
  have HX4 := Lib.hid hx4
  go_wp2_with fail
  clear hx4
  with_reducible refine (HA5.out _).mono ?_
  rintro e wx ⟨rfl, bx⟩
  have HM := Lib.hid (HM.out.below' bx)
  obtain ⟨c0, c1, c2, c3, c4, c5, c6, c7⟩ := boxFacts HM.out
  have hbw := belowThen hbw bx
  go_wp2_with fail
  with_reducible refine (HA6.out _).mono ?_
  rintro e wx ⟨rfl, bx⟩
  have HM := Lib.hid (HM.out.below' bx)
  obtain ⟨c0, c1, c2, c3, c4, c5, c6, c7⟩ := boxFacts HM.out
  have hbw := belowThen hbw bx
  have HFS : Hid (I.fs = true) := Lib.hid (HI.out.fs (.inl rfl) (.inl rfl) (.inr HX2.out) (.inl rfl) (.inr HX4.out) (.inl rfl) (.inl rfl))
  obtain ⟨ra, hra⟩ : ∃ r, rgOk a = r := ⟨_, rfl⟩
  have HRa := Lib.hid hra; clear hra
  obtain ⟨rb, hrb⟩ : ∃ r, rgOk b = r := ⟨_, rfl⟩
  have HRb := Lib.hid hrb; clear hrb
  have HRc : Hid (rgOk c = true) := Lib.hid (by rw [HX2.out]; rfl)
  rcases ra with _ | _
  · have HL := Lib.hid (HI.out.reg HFS.out (.inl HRa.out))
    go_wp2_with (go_at_call 63; (first | with_reducible refine (rIsRegN a _ HRa.out _).mono ?_); rintro e wz ⟨rfl, rfl⟩)
    go_ret
    exact ⟨retInt HL.out.symm, by first | exact hbw | (rw [← hn0]; exact hbw)⟩
  rcases rb with _ | _
  · have HL := Lib.hid (HI.out.reg HFS.out (.inr (.inl HRb.out)))
    go_wp2_with (go_at_call 63; (first | with_reducible refine (rIsRegN a _ HRa.out _).mono ?_ | with_reducible refine (rIsRegN b _ HRb.out _).mono ?_); rintro e wz ⟨rfl, rfl⟩)
    go_ret
    exact ⟨retInt HL.out.symm, by first | exact hbw | (rw [← hn0]; exact hbw)⟩
  have HRS : Hid (I.rs = true) := Lib.hid (HI.out.rs HRa.out HRb.out HRc.out)
  by_cases ho1 : ord < 0
  · have HL := Lib.hid (HI.out.ordNo HFS.out HRS.out (.inl ho1))
    go_wp2_with (go_at_call 63; (first | with_reducible refine (rIsRegN a _ HRa.out _).mono ?_ | with_reducible refine (rIsRegN b _ HRb.out _).mono ?_ | with_reducible refine (rIsRegN c _ HRc.out _).mono ?_); rintro e wz ⟨rfl, rfl⟩)
    go_ret
    exact ⟨retInt HL.out.symm, by first | exact hbw | (rw [← hn0]; exact hbw)⟩
  by_cases ho2 : 2 < ord
  · have HL := Lib.hid (HI.out.ordNo HFS.out HRS.out (.inr ho2))
    go_wp2_with (go_at_call 63; (first | with_reducible refine (rIsRegN a _ HRa.out _).mono ?_ | with_reducible refine (rIsRegN b _ HRb.out _).mono ?_ | with_reducible refine (rIsRegN c _ HRc.out _).mono ?_); rintro e wz ⟨rfl, rfl⟩)
    all_goals go_ret
    all_goals exact ⟨retInt HL.out.symm, by first | exact hbw | (rw [← hn0]; exact hbw)⟩
  have HOR : Hid (orOk I.ord = true) := Lib.hid (HI.out.ordYes ho1 ho2)
  have ho3 : decide (ord < 0) = false := decide_eq_false ho1
  have ho4 : decide (2 < ord) = false := decide_eq_false ho2
  clear ho1 ho2
  go_wp2_with (go_at_call 63; (first | with_reducible refine (rIsRegN a _ HRa.out _).mono ?_ | with_reducible refine (rIsRegN b _ HRb.out _).mono ?_ | with_reducible refine (rIsRegN c _ HRc.out _).mono ?_); rintro e wz ⟨rfl, rfl⟩)
  with_reducible refine (HA5.out _).mono ?_
  rintro e wx ⟨rfl, bx⟩
  have HM := Lib.hid (HM.out.below' bx)
  obtain ⟨c0, c1, c2, c3, c4, c5, c6, c7⟩ := boxFacts HM.out
  have hbw := belowThen hbw bx
  go_wp2_with fail
  refine (rName _ _).mono ?_
  rintro e wz ⟨rfl, rfl⟩
  go_wp2_with fail
  · have h : (nameOf fn).toList.isEmpty = true := by assumption
    rw [nameEmpty] at h
    have HL := Lib.hid (HI.out.fnNo HFS.out HRS.out HOR.out (by simpa using h))
    go_ret
    exact ⟨retInt HL.out.symm, by first | exact hbw | (rw [← hn0]; exact hbw)⟩
  have h : (nameOf fn).toList.isEmpty = false := by assumption
  rw [nameEmpty] at h
  have H5 : Hid ((I.u 5 && !fnOk I.fn) = false) := Lib.hid (by rw [HI.out.u5, HI.out.fn, h]; rfl)
  clear h
  have HL := Lib.hid (HI.out.nYes HFS.out HRS.out HOR.out H5.out (.inl hk1))
  go_wp2
  go_ret
  exact ⟨retInt HL.out.symm, by first | exact hbw | (rw [← hn0]; exact hbw)⟩

set_option maxRecDepth 100000 in
set_option maxHeartbeats 1000000 in
theorem rCheckV12 (k : Nat) (h1 : 1 ≤ k) (h2 : k ≤ 22) (a b c obj n fn ord : Int) (w : World) (e : uvec k = [false, false, false, true, false, false, false]) :
    Calls Tryd.prog 40 #[(I8.mk8 k a b c obj n fn ord).val] w fun e w' => e = .returned (.int .i64 (I8.mk8 k a b c obj n fn ord).chk) ∧ Below w.heap.size w w' := by
  obtain ⟨e0, e1, e2, e3, e4, e5, e6⟩ := uvecOf e
  have hk1 : ((k : Int) == 1) = false := by
    have h : ∀ k, k < 23 → uvec k = [false, false, false, true, false, false, false] → decide (k = 1) = false := by decide
    have h := h k (by omega) e
    simp at h ⊢; omega
  have hka : decide ((k : Int) < 1) = false := by simp; omega
  have hkb : decide (22 < (k : Int)) = false := by simp; omega
  clear e
  obtain ⟨W, hW⟩ : ∃ W, w.alloc (.cells #[.int .i64 k, .int .i64 a, .int .i64 b, .int .i64 c, .int .i64 obj, .int .i64 n, .int .i64 fn, .int .i64 ord] 47) = W := ⟨_, rfl⟩
  have hbw : Below w.heap.size w W := by rw [← hW]; exact belowAlloc w _
  have hm : Blk W w.heap.size 47 #[.int .i64 k, .int .i64 a, .int .i64 b, .int .i64 c, .int .i64 obj, .int .i64 n, .int .i64 fn, .int .i64 ord] := by rw [← hW]; exact Blk.new w _ _
  have HA0 := Lib.hid (rHasN k 0 h1 h2 (by omega) 65 rfl _ e0)
  have HA1 := Lib.hid (rHasN k 1 h1 h2 (by omega) 66 rfl _ e1)
  have HA2 := Lib.hid (rHasN k 2 h1 h2 (by omega) 67 rfl _ e2)
  have HA3 := Lib.hid (rHasN k 3 h1 h2 (by omega) 79 rfl _ e3)
  have HA4 := Lib.hid (rHasN k 4 h1 h2 (by omega) 78 rfl _ e4)
  have HA5 := Lib.hid (rHasN k 5 h1 h2 (by omega) 70 rfl _ e5)
  have HA6 := Lib.hid (rHasN k 6 h1 h2 (by omega) 82 rfl _ e6)
  have hv : (I8.mk8 k a b c obj n fn ord).val = .agg #[.int .i64 k, .int .i64 a, .int .i64 b, .int .i64 c, .int .i64 obj, .int .i64 n, .int .i64 fn, .int .i64 ord] := rfl
  rw [hv]
  clear hv
  have HOP : Hid (opOk (k : Int) = true) := Lib.hid (by simp [opOk]; omega)
  obtain ⟨I, hI⟩ : ∃ I, I8.mk8 k a b c obj n fn ord = I := ⟨_, rfl⟩
  rw [hI]
  have HI : Hid (CkFacts I k a b c obj n fn ord false false false true false false false) := Lib.hid (by rw [← hI]; exact ⟨HOP.out, rfl, by simpa [I8.fOk, I8.u, I8.con] using congrArg (· || decide (a = 0)) e0, by simpa [I8.fOk, I8.u, I8.con] using congrArg (· || decide (b = 0)) e1, by simpa [I8.fOk, I8.u, I8.con] using congrArg (· || decide (c = 0)) e2, by simpa [I8.fOk, I8.u, I8.con] using congrArg (· || decide (obj = 0)) e3, by simpa [I8.fOk, I8.u, I8.con] using congrArg (· || decide (n = 0)) e4, by simpa [I8.fOk, I8.u, I8.con] using congrArg (· || decide (fn = 0)) e5, by simpa [I8.fOk, I8.u, I8.con] using congrArg (· || decide (ord = 0)) e6, by simpa [I8.u] using e5, rfl, rfl, rfl, rfl⟩)
  clear hI e0 e1 e2 e3 e4 e5 e6
  obtain ⟨n0, hn0⟩ : ∃ n0, w.heap.size = n0 := ⟨_, rfl⟩
  rw [hn0] at hm
  obtain ⟨c0, c1, c2, c3, c4, c5, c6, c7⟩ := boxFacts hm
  have HM := Lib.hid hm; clear hm
  go_enter Tryd.func40, Tryd.ntmps40
  rw [hn0]
  go_wp2_with fail
  with_reducible refine (HA0.out _).mono ?_
  rintro e wx ⟨rfl, bx⟩
  have HM := Lib.hid (HM.out.below' bx)
  obtain ⟨c0, c1, c2, c3, c4, c5, c6, c7⟩ := boxFacts HM.out
  have hbw := belowThen hbw bx
  by_cases hx0 : a = 0
  rotate_left
  · have HL := Lib.hid (HI.out.field 0 (by omega) (by rw [HI.out.f0, decide_eq_false hx0]; rfl))
    dsimp only
    refine ‹∀ (a : Act) (w : World), wpList _ _ _ _ a w → _› _ _ ?_
    go_simp
    go_wp2
    go_ret
    exact ⟨retInt HL.out.symm, by first | exact hbw | (rw [← hn0]; exact hbw)⟩
  dsimp only
  refine ‹∀ (a : Act) (w : World), wpList _ _ _ _ a w → _› _ _ ?_
  go_simp
  have HX0 := Lib.hid hx0
  go_wp2_with fail
  clear hx0
  with_reducible refine (HA1.out _).mono ?_
  rintro e wx ⟨rfl, bx⟩
  have HM := Lib.hid (HM.out.below' bx)
  obtain ⟨c0, c1, c2, c3, c4, c5, c6, c7⟩ := boxFacts HM.out
  have hbw := belowThen hbw bx
  by_cases hx1 : b = 0
  rotate_left
  · have HL := Lib.hid (HI.out.field 1 (by omega) (by rw [HI.out.f1, decide_eq_false hx1]; rfl))
    dsimp only
    refine ‹∀ (a : Act) (w : World), wpList _ _ _ _ a w → _› _ _ ?_
    go_simp
    go_wp2
    go_ret
    exact ⟨retInt HL.out.symm, by first | exact hbw | (rw [← hn0]; exact hbw)⟩
  dsimp only
  refine ‹∀ (a : Act) (w : World), wpList _ _ _ _ a w → _› _ _ ?_
  go_simp
  have HX1 := Lib.hid hx1
  go_wp2_with fail
  clear hx1
  with_reducible refine (HA2.out _).mono ?_
  rintro e wx ⟨rfl, bx⟩
  have HM := Lib.hid (HM.out.below' bx)
  obtain ⟨c0, c1, c2, c3, c4, c5, c6, c7⟩ := boxFacts HM.out
  have hbw := belowThen hbw bx
  by_cases hx2 : c = 0
  rotate_left
  · have HL := Lib.hid (HI.out.field 2 (by omega) (by rw [HI.out.f2, decide_eq_false hx2]; rfl))
    dsimp only
    refine ‹∀ (a : Act) (w : World), wpList _ _ _ _ a w → _› _ _ ?_
    go_simp
    go_wp2
    go_ret
    exact ⟨retInt HL.out.symm, by first | exact hbw | (rw [← hn0]; exact hbw)⟩
  dsimp only
  refine ‹∀ (a : Act) (w : World), wpList _ _ _ _ a w → _› _ _ ?_
  go_simp
  have HX2 := Lib.hid hx2
  go_wp2_with fail
  clear hx2
  with_reducible refine (HA3.out _).mono ?_
  rintro e wx ⟨rfl, bx⟩
  have HM := Lib.hid (HM.out.below' bx)
  obtain ⟨c0, c1, c2, c3, c4, c5, c6, c7⟩ := boxFacts HM.out
  have hbw := belowThen hbw bx
  go_wp2_with fail
  with_reducible refine (HA4.out _).mono ?_
  rintro e wx ⟨rfl, bx⟩
  have HM := Lib.hid (HM.out.below' bx)
  obtain ⟨c0, c1, c2, c3, c4, c5, c6, c7⟩ := boxFacts HM.out
  have hbw := belowThen hbw bx
  by_cases hx4 : n = 0
  rotate_left
  · have HL := Lib.hid (HI.out.field 4 (by omega) (by rw [HI.out.f4, decide_eq_false hx4]; rfl))
    dsimp only
    refine ‹∀ (a : Act) (w : World), wpList _ _ _ _ a w → _› _ _ ?_
    go_simp
    go_wp2
    go_ret
    exact ⟨retInt HL.out.symm, by first | exact hbw | (rw [← hn0]; exact hbw)⟩
  dsimp only
  refine ‹∀ (a : Act) (w : World), wpList _ _ _ _ a w → _› _ _ ?_
  go_simp
  have HX4 := Lib.hid hx4
  go_wp2_with fail
  clear hx4
  with_reducible refine (HA5.out _).mono ?_
  rintro e wx ⟨rfl, bx⟩
  have HM := Lib.hid (HM.out.below' bx)
  obtain ⟨c0, c1, c2, c3, c4, c5, c6, c7⟩ := boxFacts HM.out
  have hbw := belowThen hbw bx
  by_cases hx5 : fn = 0
  rotate_left
  · have HL := Lib.hid (HI.out.field 5 (by omega) (by rw [HI.out.f5, decide_eq_false hx5]; rfl))
    dsimp only
    refine ‹∀ (a : Act) (w : World), wpList _ _ _ _ a w → _› _ _ ?_
    go_simp
    go_wp2
    go_ret
    exact ⟨retInt HL.out.symm, by first | exact hbw | (rw [← hn0]; exact hbw)⟩
  dsimp only
  refine ‹∀ (a : Act) (w : World), wpList _ _ _ _ a w → _› _ _ ?_
  go_simp
  have HX5 := Lib.hid hx5
  go_wp2_with fail
  clear hx5
  with_reducible refine (HA6.out _).mono ?_
  rintro e wx ⟨rfl, bx⟩
  have HM := Lib.hid (HM.out.below' bx)
  obtain ⟨c0, c1, c2, c3, c4, c5, c6, c7⟩ := boxFacts HM.out
  have hbw := belowThen hbw bx
  by_cases hx6 : ord = 0
  rotate_left
  · have HL := Lib.hid (HI.out.field 6 (by omega) (by rw [HI.out.f6, decide_eq_false hx6]; rfl))
    dsimp only
    refine ‹∀ (a : Act) (w : World), wpList _ _ _ _ a w → _› _ _ ?_
    go_simp
    go_wp2
    go_ret
    exact ⟨retInt HL.out.symm, by first | exact hbw | (rw [← hn0]; exact hbw)⟩
  dsimp only
  refine ‹∀ (a : Act) (w : World), wpList _ _ _ _ a w → _› _ _ ?_
  go_simp
  have HX6 := Lib.hid hx6
  have HFS : Hid (I.fs = true) := Lib.hid (HI.out.fs (.inr HX0.out) (.inr HX1.out) (.inr HX2.out) (.inl rfl) (.inr HX4.out) (.inr HX5.out) (.inr HX6.out))
  have HRa : Hid (rgOk a = true) := Lib.hid (by rw [HX0.out]; rfl)
  have HRb : Hid (rgOk b = true) := Lib.hid (by rw [HX1.out]; rfl)
  have HRc : Hid (rgOk c = true) := Lib.hid (by rw [HX2.out]; rfl)
  have HRS : Hid (I.rs = true) := Lib.hid (HI.out.rs HRa.out HRb.out HRc.out)
  have HOR : Hid (orOk I.ord = true) := Lib.hid (HI.out.ordYes (by omega) (by omega))
  go_wp2_with (go_at_call 63; (first | with_reducible refine (rIsRegN a _ HRa.out _).mono ?_ | with_reducible refine (rIsRegN b _ HRb.out _).mono ?_ | with_reducible refine (rIsRegN c _ HRc.out _).mono ?_); rintro e wz ⟨rfl, rfl⟩)
  clear hx6
  with_reducible refine (HA5.out _).mono ?_
  rintro e wx ⟨rfl, bx⟩
  have HM := Lib.hid (HM.out.below' bx)
  obtain ⟨c0, c1, c2, c3, c4, c5, c6, c7⟩ := boxFacts HM.out
  have hbw := belowThen hbw bx
  have H5 : Hid ((I.u 5 && !fnOk I.fn) = false) := Lib.hid (by rw [HI.out.u5]; rfl)
  have HL := Lib.hid (HI.out.nYes HFS.out HRS.out HOR.out H5.out (.inl hk1))
  go_wp2
  go_ret
  exact ⟨retInt HL.out.symm, by first | exact hbw | (rw [← hn0]; exact hbw)⟩

set_option maxRecDepth 100000 in
set_option maxHeartbeats 1000000 in
theorem rCheckV13 (k : Nat) (h1 : 1 ≤ k) (h2 : k ≤ 22) (a b c obj n fn ord : Int) (w : World) (e : uvec k = [true, false, false, true, false, false, false]) :
    Calls Tryd.prog 40 #[(I8.mk8 k a b c obj n fn ord).val] w fun e w' => e = .returned (.int .i64 (I8.mk8 k a b c obj n fn ord).chk) ∧ Below w.heap.size w w' := by
  obtain ⟨e0, e1, e2, e3, e4, e5, e6⟩ := uvecOf e
  have hk1 : ((k : Int) == 1) = false := by
    have h : ∀ k, k < 23 → uvec k = [true, false, false, true, false, false, false] → decide (k = 1) = false := by decide
    have h := h k (by omega) e
    simp at h ⊢; omega
  have hka : decide ((k : Int) < 1) = false := by simp; omega
  have hkb : decide (22 < (k : Int)) = false := by simp; omega
  clear e
  obtain ⟨W, hW⟩ : ∃ W, w.alloc (.cells #[.int .i64 k, .int .i64 a, .int .i64 b, .int .i64 c, .int .i64 obj, .int .i64 n, .int .i64 fn, .int .i64 ord] 47) = W := ⟨_, rfl⟩
  have hbw : Below w.heap.size w W := by rw [← hW]; exact belowAlloc w _
  have hm : Blk W w.heap.size 47 #[.int .i64 k, .int .i64 a, .int .i64 b, .int .i64 c, .int .i64 obj, .int .i64 n, .int .i64 fn, .int .i64 ord] := by rw [← hW]; exact Blk.new w _ _
  have HA0 := Lib.hid (rHasN k 0 h1 h2 (by omega) 65 rfl _ e0)
  have HA1 := Lib.hid (rHasN k 1 h1 h2 (by omega) 66 rfl _ e1)
  have HA2 := Lib.hid (rHasN k 2 h1 h2 (by omega) 67 rfl _ e2)
  have HA3 := Lib.hid (rHasN k 3 h1 h2 (by omega) 79 rfl _ e3)
  have HA4 := Lib.hid (rHasN k 4 h1 h2 (by omega) 78 rfl _ e4)
  have HA5 := Lib.hid (rHasN k 5 h1 h2 (by omega) 70 rfl _ e5)
  have HA6 := Lib.hid (rHasN k 6 h1 h2 (by omega) 82 rfl _ e6)
  have hv : (I8.mk8 k a b c obj n fn ord).val = .agg #[.int .i64 k, .int .i64 a, .int .i64 b, .int .i64 c, .int .i64 obj, .int .i64 n, .int .i64 fn, .int .i64 ord] := rfl
  rw [hv]
  clear hv
  have HOP : Hid (opOk (k : Int) = true) := Lib.hid (by simp [opOk]; omega)
  obtain ⟨I, hI⟩ : ∃ I, I8.mk8 k a b c obj n fn ord = I := ⟨_, rfl⟩
  rw [hI]
  have HI : Hid (CkFacts I k a b c obj n fn ord true false false true false false false) := Lib.hid (by rw [← hI]; exact ⟨HOP.out, rfl, by simpa [I8.fOk, I8.u, I8.con] using congrArg (· || decide (a = 0)) e0, by simpa [I8.fOk, I8.u, I8.con] using congrArg (· || decide (b = 0)) e1, by simpa [I8.fOk, I8.u, I8.con] using congrArg (· || decide (c = 0)) e2, by simpa [I8.fOk, I8.u, I8.con] using congrArg (· || decide (obj = 0)) e3, by simpa [I8.fOk, I8.u, I8.con] using congrArg (· || decide (n = 0)) e4, by simpa [I8.fOk, I8.u, I8.con] using congrArg (· || decide (fn = 0)) e5, by simpa [I8.fOk, I8.u, I8.con] using congrArg (· || decide (ord = 0)) e6, by simpa [I8.u] using e5, rfl, rfl, rfl, rfl⟩)
  clear hI e0 e1 e2 e3 e4 e5 e6
  obtain ⟨n0, hn0⟩ : ∃ n0, w.heap.size = n0 := ⟨_, rfl⟩
  rw [hn0] at hm
  obtain ⟨c0, c1, c2, c3, c4, c5, c6, c7⟩ := boxFacts hm
  have HM := Lib.hid hm; clear hm
  go_enter Tryd.func40, Tryd.ntmps40
  rw [hn0]
  go_wp2_with fail
  with_reducible refine (HA0.out _).mono ?_
  rintro e wx ⟨rfl, bx⟩
  have HM := Lib.hid (HM.out.below' bx)
  obtain ⟨c0, c1, c2, c3, c4, c5, c6, c7⟩ := boxFacts HM.out
  have hbw := belowThen hbw bx
  go_wp2_with fail
  with_reducible refine (HA1.out _).mono ?_
  rintro e wx ⟨rfl, bx⟩
  have HM := Lib.hid (HM.out.below' bx)
  obtain ⟨c0, c1, c2, c3, c4, c5, c6, c7⟩ := boxFacts HM.out
  have hbw := belowThen hbw bx
  by_cases hx1 : b = 0
  rotate_left
  · have HL := Lib.hid (HI.out.field 1 (by omega) (by rw [HI.out.f1, decide_eq_false hx1]; rfl))
    dsimp only
    refine ‹∀ (a : Act) (w : World), wpList _ _ _ _ a w → _› _ _ ?_
    go_simp
    go_wp2
    go_ret
    exact ⟨retInt HL.out.symm, by first | exact hbw | (rw [← hn0]; exact hbw)⟩
  dsimp only
  refine ‹∀ (a : Act) (w : World), wpList _ _ _ _ a w → _› _ _ ?_
  go_simp
  have HX1 := Lib.hid hx1
  go_wp2_with fail
  clear hx1
  with_reducible refine (HA2.out _).mono ?_
  rintro e wx ⟨rfl, bx⟩
  have HM := Lib.hid (HM.out.below' bx)
  obtain ⟨c0, c1, c2, c3, c4, c5, c6, c7⟩ := boxFacts HM.out
  have hbw := belowThen hbw bx
  by_cases hx2 : c = 0
  rotate_left
  · have HL := Lib.hid (HI.out.field 2 (by omega) (by rw [HI.out.f2, decide_eq_false hx2]; rfl))
    dsimp only
    refine ‹∀ (a : Act) (w : World), wpList _ _ _ _ a w → _› _ _ ?_
    go_simp
    go_wp2
    go_ret
    exact ⟨retInt HL.out.symm, by first | exact hbw | (rw [← hn0]; exact hbw)⟩
  dsimp only
  refine ‹∀ (a : Act) (w : World), wpList _ _ _ _ a w → _› _ _ ?_
  go_simp
  have HX2 := Lib.hid hx2
  go_wp2_with fail
  clear hx2
  with_reducible refine (HA3.out _).mono ?_
  rintro e wx ⟨rfl, bx⟩
  have HM := Lib.hid (HM.out.below' bx)
  obtain ⟨c0, c1, c2, c3, c4, c5, c6, c7⟩ := boxFacts HM.out
  have hbw := belowThen hbw bx
  go_wp2_with fail
  with_reducible refine (HA4.out _).mono ?_
  rintro e wx ⟨rfl, bx⟩
  have HM := Lib.hid (HM.out.below' bx)
  obtain ⟨c0, c1, c2, c3, c4, c5, c6, c7⟩ := boxFacts HM.out
  have hbw := belowThen hbw bx
  by_cases hx4 : n = 0
  rotate_left
  · have HL := Lib.hid (HI.out.field 4 (by omega) (by rw [HI.out.f4, decide_eq_false hx4]; rfl))
    dsimp only
    refine ‹∀ (a : Act) (w : World), wpList _ _ _ _ a w → _› _ _ ?_
    go_simp
    go_wp2
    go_ret
    exact ⟨retInt HL.out.symm, by first | exact hbw | (rw [← hn0]; exact hbw)⟩
  dsimp only
  refine ‹∀ (a : Act) (w : World), wpList _ _ _ _ a w → _› _ _ ?_
  go_simp
  have HX4 := Lib.hid hx4
  go_wp2_with fail
  clear hx4
  with_reducible refine (HA5.out _).mono ?_
  rintro e wx ⟨rfl, bx⟩
  have HM := Lib.hid (HM.out.below' bx)
  obtain ⟨c0, c1, c2, c3, c4, c5, c6, c7⟩ := boxFacts HM.out
  have hbw := belowThen hbw bx
  by_cases hx5 : fn = 0
  rotate_left
  · have HL := Lib.hid (HI.out.field 5 (by omega) (by rw [HI.out.f5, decide_eq_false hx5]; rfl))
    dsimp only
    refine ‹∀ (a : Act) (w : World), wpList _ _ _ _ a w → _› _ _ ?_
    go_simp
    go_wp2
    go_ret
    exact ⟨retInt HL.out.symm, by first | exact hbw | (rw [← hn0]; exact hbw)⟩
  dsimp only
  refine ‹∀ (a : Act) (w : World), wpList _ _ _ _ a w → _› _ _ ?_
  go_simp
  have HX5 := Lib.hid hx5
  go_wp2_with fail
  clear hx5
  with_reducible refine (HA6.out _).mono ?_
  rintro e wx ⟨rfl, bx⟩
  have HM := Lib.hid (HM.out.below' bx)
  obtain ⟨c0, c1, c2, c3, c4, c5, c6, c7⟩ := boxFacts HM.out
  have hbw := belowThen hbw bx
  by_cases hx6 : ord = 0
  rotate_left
  · have HL := Lib.hid (HI.out.field 6 (by omega) (by rw [HI.out.f6, decide_eq_false hx6]; rfl))
    dsimp only
    refine ‹∀ (a : Act) (w : World), wpList _ _ _ _ a w → _› _ _ ?_
    go_simp
    go_wp2
    go_ret
    exact ⟨retInt HL.out.symm, by first | exact hbw | (rw [← hn0]; exact hbw)⟩
  dsimp only
  refine ‹∀ (a : Act) (w : World), wpList _ _ _ _ a w → _› _ _ ?_
  go_simp
  have HX6 := Lib.hid hx6
  have HFS : Hid (I.fs = true) := Lib.hid (HI.out.fs (.inl rfl) (.inr HX1.out) (.inr HX2.out) (.inl rfl) (.inr HX4.out) (.inr HX5.out) (.inr HX6.out))
  obtain ⟨ra, hra⟩ : ∃ r, rgOk a = r := ⟨_, rfl⟩
  have HRa := Lib.hid hra; clear hra
  have HRb : Hid (rgOk b = true) := Lib.hid (by rw [HX1.out]; rfl)
  have HRc : Hid (rgOk c = true) := Lib.hid (by rw [HX2.out]; rfl)
  rcases ra with _ | _
  · have HL := Lib.hid (HI.out.reg HFS.out (.inl HRa.out))
    go_wp2_with (go_at_call 63; (first | with_reducible refine (rIsRegN a _ HRa.out _).mono ?_); rintro e wz ⟨rfl, rfl⟩)
    go_ret
    exact ⟨retInt HL.out.symm, by first | exact hbw | (rw [← hn0]; exact hbw)⟩
  have HRS : Hid (I.rs = true) := Lib.hid (HI.out.rs HRa.out HRb.out HRc.out)
  have HOR : Hid (orOk I.ord = true) := Lib.hid (HI.out.ordYes (by omega) (by omega))
  go_wp2_with (go_at_call 63; (first | with_reducible refine (rIsRegN a _ HRa.out _).mono ?_ | with_reducible refine (rIsRegN b _ HRb.out _).mono ?_ | with_reducible refine (rIsRegN c _ HRc.out _).mono ?_); rintro e wz ⟨rfl, rfl⟩)
  clear hx6
  with_reducible refine (HA5.out _).mono ?_
  rintro e wx ⟨rfl, bx⟩
  have HM := Lib.hid (HM.out.below' bx)
  obtain ⟨c0, c1, c2, c3, c4, c5, c6, c7⟩ := boxFacts HM.out
  have hbw := belowThen hbw bx
  have H5 : Hid ((I.u 5 && !fnOk I.fn) = false) := Lib.hid (by rw [HI.out.u5]; rfl)
  have HL := Lib.hid (HI.out.nYes HFS.out HRS.out HOR.out H5.out (.inl hk1))
  go_wp2
  go_ret
  exact ⟨retInt HL.out.symm, by first | exact hbw | (rw [← hn0]; exact hbw)⟩

set_option maxRecDepth 100000 in
set_option maxHeartbeats 1000000 in
theorem rCheckV14 (k : Nat) (h1 : 1 ≤ k) (h2 : k ≤ 22) (a b c obj n fn ord : Int) (w : World) (e : uvec k = [false, false, false, true, true, false, false]) :
    Calls Tryd.prog 40 #[(I8.mk8 k a b c obj n fn ord).val] w fun e w' => e = .returned (.int .i64 (I8.mk8 k a b c obj n fn ord).chk) ∧ Below w.heap.size w w' := by
  obtain ⟨e0, e1, e2, e3, e4, e5, e6⟩ := uvecOf e
  have hk1 : ((k : Int) == 1) = false := by
    have h : ∀ k, k < 23 → uvec k = [false, false, false, true, true, false, false] → decide (k = 1) = false := by decide
    have h := h k (by omega) e
    simp at h ⊢; omega
  have hka : decide ((k : Int) < 1) = false := by simp; omega
  have hkb : decide (22 < (k : Int)) = false := by simp; omega
  clear e
  obtain ⟨W, hW⟩ : ∃ W, w.alloc (.cells #[.int .i64 k, .int .i64 a, .int .i64 b, .int .i64 c, .int .i64 obj, .int .i64 n, .int .i64 fn, .int .i64 ord] 47) = W := ⟨_, rfl⟩
  have hbw : Below w.heap.size w W := by rw [← hW]; exact belowAlloc w _
  have hm : Blk W w.heap.size 47 #[.int .i64 k, .int .i64 a, .int .i64 b, .int .i64 c, .int .i64 obj, .int .i64 n, .int .i64 fn, .int .i64 ord] := by rw [← hW]; exact Blk.new w _ _
  have HA0 := Lib.hid (rHasN k 0 h1 h2 (by omega) 65 rfl _ e0)
  have HA1 := Lib.hid (rHasN k 1 h1 h2 (by omega) 66 rfl _ e1)
  have HA2 := Lib.hid (rHasN k 2 h1 h2 (by omega) 67 rfl _ e2)
  have HA3 := Lib.hid (rHasN k 3 h1 h2 (by omega) 79 rfl _ e3)
  have HA4 := Lib.hid (rHasN k 4 h1 h2 (by omega) 78 rfl _ e4)
  have HA5 := Lib.hid (rHasN k 5 h1 h2 (by omega) 70 rfl _ e5)
  have HA6 := Lib.hid (rHasN k 6 h1 h2 (by omega) 82 rfl _ e6)
  have hv : (I8.mk8 k a b c obj n fn ord).val = .agg #[.int .i64 k, .int .i64 a, .int .i64 b, .int .i64 c, .int .i64 obj, .int .i64 n, .int .i64 fn, .int .i64 ord] := rfl
  rw [hv]
  clear hv
  have HOP : Hid (opOk (k : Int) = true) := Lib.hid (by simp [opOk]; omega)
  obtain ⟨I, hI⟩ : ∃ I, I8.mk8 k a b c obj n fn ord = I := ⟨_, rfl⟩
  rw [hI]
  have HI : Hid (CkFacts I k a b c obj n fn ord false false false true true false false) := Lib.hid (by rw [← hI]; exact ⟨HOP.out, rfl, by simpa [I8.fOk, I8.u, I8.con] using congrArg (· || decide (a = 0)) e0, by simpa [I8.fOk, I8.u, I8.con] using congrArg (· || decide (b = 0)) e1, by simpa [I8.fOk, I8.u, I8.con] using congrArg (· || decide (c = 0)) e2, by simpa [I8.fOk, I8.u, I8.con] using congrArg (· || decide (obj = 0)) e3, by simpa [I8.fOk, I8.u, I8.con] using congrArg (· || decide (n = 0)) e4, by simpa [I8.fOk, I8.u, I8.con] using congrArg (· || decide (fn = 0)) e5, by simpa [I8.fOk, I8.u, I8.con] using congrArg (· || decide (ord = 0)) e6, by simpa [I8.u] using e5, rfl, rfl, rfl, rfl⟩)
  clear hI e0 e1 e2 e3 e4 e5 e6
  obtain ⟨n0, hn0⟩ : ∃ n0, w.heap.size = n0 := ⟨_, rfl⟩
  rw [hn0] at hm
  obtain ⟨c0, c1, c2, c3, c4, c5, c6, c7⟩ := boxFacts hm
  have HM := Lib.hid hm; clear hm
  go_enter Tryd.func40, Tryd.ntmps40
  rw [hn0]
  go_wp2_with fail
  with_reducible refine (HA0.out _).mono ?_
  rintro e wx ⟨rfl, bx⟩
  have HM := Lib.hid (HM.out.below' bx)
  obtain ⟨c0, c1, c2, c3, c4, c5, c6, c7⟩ := boxFacts HM.out
  have hbw := belowThen hbw bx
  by_cases hx0 : a = 0
  rotate_left
  · have HL := Lib.hid (HI.out.field 0 (by omega) (by rw [HI.out.f0, decide_eq_false hx0]; rfl))
    dsimp only
    refine ‹∀ (a : Act) (w : World), wpList _ _ _ _ a w → _› _ _ ?_
    go_simp
    go_wp2
    go_ret
    exact ⟨retInt HL.out.symm, by first | exact hbw | (rw [← hn0]; exact hbw)⟩
  dsimp only
  refine ‹∀ (a : Act) (w : World), wpList _ _ _ _ a w → _› _ _ ?_
  go_simp
  have HX0 := Lib.hid hx0
  go_wp2_with fail
  clear hx0
  with_reducible refine (HA1.out _).mono ?_
  rintro e wx ⟨rfl, bx⟩
  have HM := Lib.hid (HM.out.below' bx)
  obtain ⟨c0, c1, c2, c3, c4, c5, c6, c7⟩ := boxFacts HM.out
  have hbw := belowThen hbw bx
  by_cases hx1 : b = 0
  rotate_left
  · have HL := Lib.hid (HI.out.field 1 (by omega) (by rw [HI.out.f1, decide_eq_false hx1]; rfl))
    dsimp only
    refine ‹∀ (a : Act) (w : World), wpList _ _ _ _ a w → _› _ _ ?_
    go_simp
    go_wp2
    go_ret
    exact ⟨retInt HL.out.symm, by first | exact hbw | (rw [← hn0]; exact hbw)⟩
  dsimp only
  refine ‹∀ (a : Act) (w : World), wpList _ _ _ _ a w → _› _ _ ?_
  go_simp
  have HX1 := Lib.hid hx1
  go_wp2_with fail
  clear hx1
  with_reducible refine (HA2.out _).mono ?_
  rintro e wx ⟨rfl, bx⟩
  have HM := Lib.hid (HM.out.below' bx)
  obtain ⟨c0, c1, c2, c3, c4, c5, c6, c7⟩ := boxFacts HM.out
  have hbw := belowThen hbw bx
  by_cases hx2 : c = 0
  rotate_left
  · have HL := Lib.hid (HI.out.field 2 (by omega) (by rw [HI.out.f2, decide_eq_false hx2]; rfl))
    dsimp only
    refine ‹∀ (a : Act) (w : World), wpList _ _ _ _ a w → _› _ _ ?_
    go_simp
    go_wp2
    go_ret
    exact ⟨retInt HL.out.symm, by first | exact hbw | (rw [← hn0]; exact hbw)⟩
  dsimp only
  refine ‹∀ (a : Act) (w : World), wpList _ _ _ _ a w → _› _ _ ?_
  go_simp
  have HX2 := Lib.hid hx2
  go_wp2_with fail
  clear hx2
  with_reducible refine (HA3.out _).mono ?_
  rintro e wx ⟨rfl, bx⟩
  have HM := Lib.hid (HM.out.below' bx)
  obtain ⟨c0, c1, c2, c3, c4, c5, c6, c7⟩ := boxFacts HM.out
  have hbw := belowThen hbw bx
  go_wp2_with fail
  with_reducible refine (HA4.out _).mono ?_
  rintro e wx ⟨rfl, bx⟩
  have HM := Lib.hid (HM.out.below' bx)
  obtain ⟨c0, c1, c2, c3, c4, c5, c6, c7⟩ := boxFacts HM.out
  have hbw := belowThen hbw bx
  go_wp2_with fail
  with_reducible refine (HA5.out _).mono ?_
  rintro e wx ⟨rfl, bx⟩
  have HM := Lib.hid (HM.out.below' bx)
  obtain ⟨c0, c1, c2, c3, c4, c5, c6, c7⟩ := boxFacts HM.out
  have hbw := belowThen hbw bx
  by_cases hx5 : fn = 0
  rotate_left
  · have HL := Lib.hid (HI.out.field 5 (by omega) (by rw [HI.out.f5, decide_eq_false hx5]; rfl))
    dsimp only
    refine ‹∀ (a : Act) (w : World), wpList _ _ _ _ a w → _› _ _ ?_
    go_simp
    go_wp2
    go_ret
    exact ⟨retInt HL.out.symm, by first | exact hbw | (rw [← hn0]; exact hbw)⟩
  dsimp only
  refine ‹∀ (a : Act) (w : World), wpList _ _ _ _ a w → _› _ _ ?_
  go_simp
  have HX5 := Lib.hid hx5
  go_wp2_with fail
  clear hx5
  with_reducible refine (HA6.out _).mono ?_
  rintro e wx ⟨rfl, bx⟩
  have HM := Lib.hid (HM.out.below' bx)
  obtain ⟨c0, c1, c2, c3, c4, c5, c6, c7⟩ := boxFacts HM.out
  have hbw := belowThen hbw bx
  by_cases hx6 : ord = 0
  rotate_left
  · have HL := Lib.hid (HI.out.field 6 (by omega) (by rw [HI.out.f6, decide_eq_false hx6]; rfl))
    dsimp only
    refine ‹∀ (a : Act) (w : World), wpList _ _ _ _ a w → _› _ _ ?_
    go_simp
    go_wp2
    go_ret
    exact ⟨retInt HL.out.symm, by first | exact hbw | (rw [← hn0]; exact hbw)⟩
  dsimp only
  refine ‹∀ (a : Act) (w : World), wpList _ _ _ _ a w → _› _ _ ?_
  go_simp
  have HX6 := Lib.hid hx6
  have HFS : Hid (I.fs = true) := Lib.hid (HI.out.fs (.inr HX0.out) (.inr HX1.out) (.inr HX2.out) (.inl rfl) (.inl rfl) (.inr HX5.out) (.inr HX6.out))
  have HRa : Hid (rgOk a = true) := Lib.hid (by rw [HX0.out]; rfl)
  have HRb : Hid (rgOk b = true) := Lib.hid (by rw [HX1.out]; rfl)
  have HRc : Hid (rgOk c = true) := Lib.hid (by rw [HX2.out]; rfl)
  have HRS : Hid (I.rs = true) := Lib.hid (HI.out.rs HRa.out HRb.out HRc.out)
  have HOR : Hid (orOk I.ord = true) := Lib.hid (HI.out.ordYes (by omega) (by omega))
  go_wp2_with (go_at_call 63; (first | with_reducible refine (rIsRegN a _ HRa.out _).mono ?_ | with_reducible refine (rIsRegN b _ HRb.out _).mono ?_ | with_reducible refine (rIsRegN c _ HRc.out _).mono ?_); rintro e wz ⟨rfl, rfl⟩)
  clear hx6
  with_reducible refine (HA5.out _).mono ?_
  rintro e wx ⟨rfl, bx⟩
  have HM := Lib.hid (HM.out.below' bx)
  obtain ⟨c0, c1, c2, c3, c4, c5, c6, c7⟩ := boxFacts HM.out
  have hbw := belowThen hbw bx
  have H5 : Hid ((I.u 5 && !fnOk I.fn) = false) := Lib.hid (by rw [HI.out.u5]; rfl)
  have HL := Lib.hid (HI.out.nYes HFS.out HRS.out HOR.out H5.out (.inl hk1))
  go_wp2
  go_ret
  exact ⟨retInt HL.out.symm, by first | exact hbw | (rw [← hn0]; exact hbw)⟩

set_option maxRecDepth 100000 in
set_option maxHeartbeats 1000000 in
theorem rCheckV15 (k : Nat) (h1 : 1 ≤ k) (h2 : k ≤ 22) (a b c obj n fn ord : Int) (w : World) (e : uvec k = [true, true, false, true, false, false, false]) :
    Calls Tryd.prog 40 #[(I8.mk8 k a b c obj n fn ord).val] w fun e w' => e = .returned (.int .i64 (I8.mk8 k a b c obj n fn ord).chk) ∧ Below w.heap.size w w' := by
  obtain ⟨e0, e1, e2, e3, e4, e5, e6⟩ := uvecOf e
  have hk1 : ((k : Int) == 1) = false := by
    have h : ∀ k, k < 23 → uvec k = [true, true, false, true, false, false, false] → decide (k = 1) = false := by decide
    have h := h k (by omega) e
    simp at h ⊢; omega
  have hka : decide ((k : Int) < 1) = false := by simp; omega
  have hkb : decide (22 < (k : Int)) = false := by simp; omega
  clear e
  obtain ⟨W, hW⟩ : ∃ W, w.alloc (.cells #[.int .i64 k, .int .i64 a, .int .i64 b, .int .i64 c, .int .i64 obj, .int .i64 n, .int .i64 fn, .int .i64 ord] 47) = W := ⟨_, rfl⟩
  have hbw : Below w.heap.size w W := by rw [← hW]; exact belowAlloc w _
  have hm : Blk W w.heap.size 47 #[.int .i64 k, .int .i64 a, .int .i64 b, .int .i64 c, .int .i64 obj, .int .i64 n, .int .i64 fn, .int .i64 ord] := by rw [← hW]; exact Blk.new w _ _
  have HA0 := Lib.hid (rHasN k 0 h1 h2 (by omega) 65 rfl _ e0)
  have HA1 := Lib.hid (rHasN k 1 h1 h2 (by omega) 66 rfl _ e1)
  have HA2 := Lib.hid (rHasN k 2 h1 h2 (by omega) 67 rfl _ e2)
  have HA3 := Lib.hid (rHasN k 3 h1 h2 (by omega) 79 rfl _ e3)
  have HA4 := Lib.hid (rHasN k 4 h1 h2 (by omega) 78 rfl _ e4)
  have HA5 := Lib.hid (rHasN k 5 h1 h2 (by omega) 70 rfl _ e5)
  have HA6 := Lib.hid (rHasN k 6 h1 h2 (by omega) 82 rfl _ e6)
  have hv : (I8.mk8 k a b c obj n fn ord).val = .agg #[.int .i64 k, .int .i64 a, .int .i64 b, .int .i64 c, .int .i64 obj, .int .i64 n, .int .i64 fn, .int .i64 ord] := rfl
  rw [hv]
  clear hv
  have HOP : Hid (opOk (k : Int) = true) := Lib.hid (by simp [opOk]; omega)
  obtain ⟨I, hI⟩ : ∃ I, I8.mk8 k a b c obj n fn ord = I := ⟨_, rfl⟩
  rw [hI]
  have HI : Hid (CkFacts I k a b c obj n fn ord true true false true false false false) := Lib.hid (by rw [← hI]; exact ⟨HOP.out, rfl, by simpa [I8.fOk, I8.u, I8.con] using congrArg (· || decide (a = 0)) e0, by simpa [I8.fOk, I8.u, I8.con] using congrArg (· || decide (b = 0)) e1, by simpa [I8.fOk, I8.u, I8.con] using congrArg (· || decide (c = 0)) e2, by simpa [I8.fOk, I8.u, I8.con] using congrArg (· || decide (obj = 0)) e3, by simpa [I8.fOk, I8.u, I8.con] using congrArg (· || decide (n = 0)) e4, by simpa [I8.fOk, I8.u, I8.con] using congrArg (· || decide (fn = 0)) e5, by simpa [I8.fOk, I8.u, I8.con] using congrArg (· || decide (ord = 0)) e6, by simpa [I8.u] using e5, rfl, rfl, rfl, rfl⟩)
  clear hI e0 e1 e2 e3 e4 e5 e6
  obtain ⟨n0, hn0⟩ : ∃ n0, w.heap.size = n0 := ⟨_, rfl⟩
  rw [hn0] at hm
  obtain ⟨c0, c1, c2, c3, c4, c5, c6, c7⟩ := boxFacts hm
  have HM := Lib.hid hm; clear hm
  go_enter Tryd.func40, Tryd.ntmps40
  rw [hn0]
  go_wp2_with fail
  with_reducible refine (HA0.out _).mono ?_
  rintro e wx ⟨rfl, bx⟩
  have HM := Lib.hid (HM.out.below' bx)
  obtain ⟨c0, c1, c2, c3, c4, c5, c6, c7⟩ := boxFacts HM.out
  have hbw := belowThen hbw bx
  go_wp2_with fail
  with_reducible refine (HA1.out _).mono ?_
  rintro e wx ⟨rfl, bx⟩
  have HM := Lib.hid (HM.out.below' bx)
  obtain ⟨c0, c1, c2, c3, c4, c5, c6, c7⟩ := boxFacts HM.out
  have hbw := belowThen hbw bx
  go_wp2_with fail
  with_reducible refine (HA2.out _).mono ?_
  rintro e wx ⟨rfl, bx⟩
  have HM := Lib.hid (HM.out.below' bx)
  obtain ⟨c0, c1, c2, c3, c4, c5, c6, c7⟩ := boxFacts HM.out
  have hbw := belowThen hbw bx
  by_cases hx2 : c = 0
  rotate_left
  · have HL := Lib.hid (HI.out.field 2 (by omega) (by rw [HI.out.f2, decide_eq_false hx2]; rfl))
    dsimp only
    refine ‹∀ (a : Act) (w : World), wpList _ _ _ _ a w → _› _ _ ?_
    go_simp
    go_wp2
    go_ret
    exact ⟨retInt HL.out.symm, by first | exact hbw | (rw [← hn0]; exact hbw)⟩
  dsimp only
  refine ‹∀ (a : Act) (w : World), wpList _ _ _ _ a w → _› _ _ ?_
  go_simp
  have HX2 := Lib.hid hx2
  go_wp2_with fail
  clear hx2
  with_reducible refine (HA3.out _).mono ?_
  rintro e wx ⟨rfl, bx⟩
  have HM := Lib.hid (HM.out.below' bx)
  obtain ⟨c0, c1, c2, c3, c4, c5, c6, c7⟩ := boxFacts HM.out
  have hbw := belowThen hbw bx
  go_wp2_with fail
  with_reducible refine (HA4.out _).mono ?_
  rintro e wx ⟨rfl, bx⟩
  have HM := Lib.hid (HM.out.below' bx)
  obtain ⟨c0, c1, c2, c3, c4, c5, c6, c7⟩ := boxFacts HM.out
  have hbw := belowThen hbw bx
  by_cases hx4 : n = 0
  rotate_left
  · have HL := Lib.hid (HI.out.field 4 (by omega) (by rw [HI.out.f4, decide_eq_false hx4]; rfl))
    dsimp only
    refine ‹∀ (a : Act) (w : World), wpList _ _ _ _ a w → _› _ _ ?_
    go_simp
    go_wp2
    go_ret
    exact ⟨retInt HL.out.symm, by first | exact hbw | (rw [← hn0]; exact hbw)⟩
  dsimp only
  refine ‹∀ (a : Act) (w : World), wpList _ _ _ _ a w → _› _ _ ?_
  go_simp
  have HX4 := Lib.hid hx4
  go_wp2_with fail
  clear hx4
  with_reducible refine (HA5.out _).mono ?_
  rintro e wx ⟨rfl, bx⟩
  have HM := Lib.hid (HM.out.below' bx)
  obtain ⟨c0, c1, c2, c3, c4, c5, c6, c7⟩ := boxFacts HM.out
  have hbw := belowThen hbw bx
  by_cases hx5 : fn = 0
  rotate_left
  · have HL := Lib.hid (HI.out.field 5 (by omega) (by rw [HI.out.f5, decide_eq_false hx5]; rfl))
    dsimp only
    refine ‹∀ (a : Act) (w : World), wpList _ _ _ _ a w → _› _ _ ?_
    go_simp
    go_wp2
    go_ret
    exact ⟨retInt HL.out.symm, by first | exact hbw | (rw [← hn0]; exact hbw)⟩
  dsimp only
  refine ‹∀ (a : Act) (w : World), wpList _ _ _ _ a w → _› _ _ ?_
  go_simp
  have HX5 := Lib.hid hx5
  go_wp2_with fail
  clear hx5
  with_reducible refine (HA6.out _).mono ?_
  rintro e wx ⟨rfl, bx⟩
  have HM := Lib.hid (HM.out.below' bx)
  obtain ⟨c0, c1, c2, c3, c4, c5, c6, c7⟩ := boxFacts HM.out
  have hbw := belowThen hbw bx
  by_cases hx6 : ord = 0
  rotate_left
  · have HL := Lib.hid (HI.out.field 6 (by omega) (by rw [HI.out.f6, decide_eq_false hx6]; rfl))
    dsimp only
    refine ‹∀ (a : Act) (w : World), wpList _ _ _ _ a w → _› _ _ ?_
    go_simp
    go_wp2
    go_ret
    exact ⟨retInt HL.out.symm, by first | exact hbw | (rw [← hn0]; exact hbw)⟩
  dsimp only
  refine ‹∀ (a : Act) (w : World), wpList _ _ _ _ a w → _› _ _ ?_
  go_simp
  have HX6 := Lib.hid hx6
  have HFS : Hid (I.fs = true) := Lib.hid (HI.out.fs (.inl rfl) (.inl rfl) (.inr HX2.out) (.inl rfl) (.inr HX4.out) (.inr HX5.out) (.inr HX6.out))
  obtain ⟨ra, hra⟩ : ∃ r, rgOk a = r := ⟨_, rfl⟩
  have HRa := Lib.hid hra; clear hra
  obtain ⟨rb, hrb⟩ : ∃ r, rgOk b = r := ⟨_, rfl⟩
  have HRb := Lib.hid hrb; clear hrb
  have HRc : Hid (rgOk c = true) := Lib.hid (by rw [HX2.out]; rfl)
  rcases ra with _ | _
  · have HL := Lib.hid (HI.out.reg HFS.out (.inl HRa.out))
    go_wp2_with (go_at_call 63; (first | with_reducible refine (rIsRegN a _ HRa.out _).mono ?_); rintro e wz ⟨rfl, rfl⟩)
    go_ret
    exact ⟨retInt HL.out.symm, by first | exact hbw | (rw [← hn0]; exact hbw)⟩
  rcases rb with _ | _
  · have HL := Lib.hid (HI.out.reg HFS.out (.inr (.inl HRb.out)))
    go_wp2_with (go_at_call 63; (first | with_reducible refine (rIsRegN a _ HRa.out _).mono ?_ | with_reducible refine (rIsRegN b _ HRb.out _).mono ?_); rintro e wz ⟨rfl, rfl⟩)
    go_ret
    exact ⟨retInt HL.out.symm, by first | exact hbw | (rw [← hn0]; exact hbw)⟩
  have HRS : Hid (I.rs = true) := Lib.hid (HI.out.rs HRa.out HRb.out HRc.out)
  have HOR : Hid (orOk I.ord = true) := Lib.hid (HI.out.ordYes (by omega) (by omega))
  go_wp2_with (go_at_call 63; (first | with_reducible refine (rIsRegN a _ HRa.out _).mono ?_ | with_reducible refine (rIsRegN b _ HRb.out _).mono ?_ | with_reducible refine (rIsRegN c _ HRc.out _).mono ?_); rintro e wz ⟨rfl, rfl⟩)
  clear hx6
  with_reducible refine (HA5.out _).mono ?_
  rintro e wx ⟨rfl, bx⟩
  have HM := Lib.hid (HM.out.below' bx)
  obtain ⟨c0, c1, c2, c3, c4, c5, c6, c7⟩ := boxFacts HM.out
  have hbw := belowThen hbw bx
  have H5 : Hid ((I.u 5 && !fnOk I.fn) = false) := Lib.hid (by rw [HI.out.u5]; rfl)
  have HL := Lib.hid (HI.out.nYes HFS.out HRS.out HOR.out H5.out (.inl hk1))
  go_wp2
  go_ret
  exact ⟨retInt HL.out.symm, by first | exact hbw | (rw [← hn0]; exact hbw)⟩
end Go.Proofs.YtebpnnakcodjdaaDoor
