/-
  The checks of package program that are closures over the program: names, limits, initial values, threads.
-/
import Derived.Test.YtebpnnakcodjdaaDoorZPgK
namespace Go.Proofs.YtebpnnakcodjdaaDoor
open Go Go.RowKit

theorem nameAt1 {b : Nat} {a : PgA} {p : Prg} {w : World} (hP : PgW w a p) (hB : PBox w b a) : ∀ X, Below w.heap.size w X → ∀ k (hk : k < (p.vars.map (·.1)).length), Calls Tryd.prog 44 #[.int .i64 (k : Int), .pointer (some ⟨b, 0, none⟩)] X fun e X' => e = .returned (.string (p.vars.map (·.1))[k]) ∧ X = X' := by
  intro X hX k hk
  have hP := hP.below hX
  have hB := hB.below hX
  have hk' : k < p.vars.length := by simpa using hk
  obtain ⟨c0, _⟩ := hB.facts
  obtain ⟨q, off, hA, _, h1, _⟩ := hP.vars.one hk'
  have hl := hP.l1
  have hm := hP.vars.max
  have hle := hP.vars.le
  rw [List.getElem_map]
  obtain ⟨s, hs⟩ : ∃ s, p.vars[k].1 = s := ⟨_, rfl⟩
  rw [hs] at h1 ⊢
  rw [hA] at c0
  rw [hl] at hle hk'
  unfold maxLen at hm
  generalize a.n1 = n1 at *
  generalize a.c1 = cp at *
  clear hs hP hB hk hA hl hX
  have hk0 : (0 : Int) ≤ k := by omega
  have hk1 : (k : Int) < n1 := by omega
  go_enter Tryd.func44, Tryd.ntmps44
  go_wp2
  go_ret
  exact ⟨rfl, rfl⟩
theorem nameAt4 {b : Nat} {a : PgA} {p : Prg} {w : World} (hP : PgW w a p) (hB : PBox w b a) : ∀ X, Below w.heap.size w X → ∀ k (hk : k < (p.funcs.map (·.1)).length), Calls Tryd.prog 47 #[.int .i64 (k : Int), .pointer (some ⟨b, 0, none⟩)] X fun e X' => e = .returned (.string (p.funcs.map (·.1))[k]) ∧ X = X' := by
  intro X hX k hk
  have hP := hP.below hX
  have hB := hB.below hX
  have hk' : k < p.funcs.length := by simpa using hk
  obtain ⟨_, _, _, c0, _⟩ := hB.facts
  obtain ⟨q, off, hA, _, h1, _⟩ := hP.funcs.one hk'
  have hl := hP.l4
  have hm := hP.funcs.max
  have hle := hP.funcs.le
  rw [List.getElem_map]
  obtain ⟨s, hs⟩ : ∃ s, p.funcs[k].1 = s := ⟨_, rfl⟩
  rw [hs] at h1 ⊢
  rw [hA] at c0
  rw [hl] at hle hk'
  unfold maxLen at hm
  generalize a.n4 = n1 at *
  generalize a.c4 = cp at *
  clear hs hP hB hk hA hl hX
  have hk0 : (0 : Int) ≤ k := by omega
  have hk1 : (k : Int) < n1 := by omega
  go_enter Tryd.func47, Tryd.ntmps47
  go_wp2
  go_ret
  exact ⟨rfl, rfl⟩
theorem nameAt2 {b : Nat} {a : PgA} {p : Prg} {w : World} (hP : PgW w a p) (hB : PBox w b a) : ∀ X, Below w.heap.size w X → ∀ k (hk : k < p.muts.length), Calls Tryd.prog 45 #[.int .i64 (k : Int), .pointer (some ⟨b, 0, none⟩)] X fun e X' => e = .returned (.string p.muts[k]) ∧ X = X' := by
  intro X hX k hk
  have hP := hP.below hX
  have hB := hB.below hX
  obtain ⟨_, c0, _⟩ := hB.facts
  obtain ⟨q, off, hA, _, h1⟩ := hP.muts.one hk
  have hl := hP.l2
  have hm := hP.muts.max
  have hle := hP.muts.le
  obtain ⟨s, hs⟩ : ∃ s, p.muts[k] = s := ⟨_, rfl⟩
  unfold ES at h1
  rw [hs, Nat.mul_one] at h1
  rw [hs]
  rw [hA] at c0
  have hk' : k < a.n2 := by omega
  rw [hl] at hle
  unfold maxLen at hm
  generalize a.n2 = n1 at *
  generalize a.c2 = cp at *
  clear hs hP hB hk hA hl hX
  have hk0 : (0 : Int) ≤ k := by omega
  have hk1 : (k : Int) < n1 := by omega
  go_enter Tryd.func45, Tryd.ntmps45
  go_wp2
  go_ret
  exact ⟨rfl, rfl⟩
theorem nameAt3 {b : Nat} {a : PgA} {p : Prg} {w : World} (hP : PgW w a p) (hB : PBox w b a) : ∀ X, Below w.heap.size w X → ∀ k (hk : k < p.conds.length), Calls Tryd.prog 46 #[.int .i64 (k : Int), .pointer (some ⟨b, 0, none⟩)] X fun e X' => e = .returned (.string p.conds[k]) ∧ X = X' := by
  intro X hX k hk
  have hP := hP.below hX
  have hB := hB.below hX
  obtain ⟨_, _, c0, _⟩ := hB.facts
  obtain ⟨q, off, hA, _, h1⟩ := hP.conds.one hk
  have hl := hP.l3
  have hm := hP.conds.max
  have hle := hP.conds.le
  obtain ⟨s, hs⟩ : ∃ s, p.conds[k] = s := ⟨_, rfl⟩
  unfold ES at h1
  rw [hs, Nat.mul_one] at h1
  rw [hs]
  rw [hA] at c0
  have hk' : k < a.n3 := by omega
  rw [hl] at hle
  unfold maxLen at hm
  generalize a.n3 = n1 at *
  generalize a.c3 = cp at *
  clear hs hP hB hk hA hl hX
  have hk0 : (0 : Int) ≤ k := by omega
  have hk1 : (k : Int) < n1 := by omega
  go_enter Tryd.func46, Tryd.ntmps46
  go_wp2
  go_ret
  exact ⟨rfl, rfl⟩
/-- The limits. -/
theorem iLimits {b : Nat} {a : PgA} {p : Prg} (w : World) (hP : PgW w a p) (hB : PBox w b a) : Calls Tryd.prog 48 #[.pointer (some ⟨b, 0, none⟩)] w fun e w' => e = err3 (if p.many then (4, -1, -1) else (0, -1, -1)) ∧ w = w' := by
  obtain ⟨c0, c1, c2, c3, _⟩ := hB.facts
  have HE : Hid (p.many = (decide (8 < a.n1) || decide (4 < a.n2) || decide (4 < a.n3) || decide (8 < a.n4))) := by unfold Prg.many; rw [hP.l1, hP.l2, hP.l3, hP.l4]; exact Lib.hid rfl
  have m1 := hP.vars.max
  have m2 := hP.muts.max
  have m3 := hP.conds.max
  have m4 := hP.funcs.max
  have e1 := hP.vars.le
  have e2 := hP.muts.le
  have e3 := hP.conds.le
  have e4 := hP.funcs.le
  rw [hP.l1] at e1
  rw [hP.l2] at e2
  rw [hP.l3] at e3
  rw [hP.l4] at e4
  unfold maxLen at m1 m2 m3 m4
  generalize a.n1 = n1 at *
  generalize a.n2 = n2 at *
  generalize a.n3 = n3 at *
  generalize a.n4 = n4 at *
  generalize p.many = r at HE ⊢
  clear hP hB
  by_cases h1 : 8 < n1
  · have hr : r = true := by rw [HE.out]; simp [h1]
    subst hr
    clear HE
    go_enter Tryd.func48, Tryd.ntmps48
    go_wp2
    go_ret3
    exact ⟨by first | rfl | simp [err3], rfl⟩
  by_cases h2 : 4 < n2
  · have hr : r = true := by rw [HE.out]; simp [h2]
    subst hr
    clear HE
    go_enter Tryd.func48, Tryd.ntmps48
    go_wp2
    go_ret3
    exact ⟨by first | rfl | simp [err3], rfl⟩
  by_cases h3 : 4 < n3
  · have hr : r = true := by rw [HE.out]; simp [h3]
    subst hr
    clear HE
    go_enter Tryd.func48, Tryd.ntmps48
    go_wp2
    go_ret3
    exact ⟨by first | rfl | simp [err3], rfl⟩
  by_cases h4 : 8 < n4
  · have hr : r = true := by rw [HE.out]; simp [h4]
    subst hr
    clear HE
    go_enter Tryd.func48, Tryd.ntmps48
    go_wp2
    go_ret3
    exact ⟨by first | rfl | simp [err3], rfl⟩
  have hr : r = false := by rw [HE.out]; simp [h1, h2, h3, h4]
  subst hr
  clear HE
  go_enter Tryd.func48, Tryd.ntmps48
  go_wp2
  go_ret3
  exact ⟨by first | rfl | simp [err3], rfl⟩
end Go.Proofs.YtebpnnakcodjdaaDoor

namespace Go.Proofs.YtebpnnakcodjdaaDoor
open Go Go.RowKit

theorem initNo {p : Prg} {k : Nat} (hk : k < p.vars.length) (h : isVal p.vars[k].2 = false) : (p.vars.all fun v => isVal v.2) = false := by
  rw [List.all_eq_false]
  exact ⟨p.vars[k], List.getElem_mem hk, by rw [h]; decide⟩
theorem initYes {p : Prg} (h : ∀ k (hk : k < p.vars.length), isVal p.vars[k].2 = true) : (p.vars.all fun v => isVal v.2) = true := by
  rw [List.all_eq_true]
  intro v hv
  obtain ⟨k, hk, rfl⟩ := List.getElem_of_mem hv
  exact h k hk
theorem initNext {p : Prg} {k : Nat} (HA : ∀ j (hj : j < p.vars.length), j < k → isVal p.vars[j].2 = true) (hk : k < p.vars.length) (h : isVal p.vars[k].2 = true) : ∀ j (hj : j < p.vars.length), j < k + 1 → isVal p.vars[j].2 = true := fun j hj hlt => by
  rcases Nat.lt_or_ge j k with h' | h'
  · exact HA j hj h'
  · have e : j = k := by omega
    subst e
    exact h
set_option maxHeartbeats 1000000 in
theorem iInit {b : Nat} {a : PgA} {p : Prg} (w : World) (hP : PgW w a p) (hB : PBox w b a) : Calls Tryd.prog 49 #[.pointer (some ⟨b, 0, none⟩)] w fun e w' => e = err3 (if (p.vars.all fun v => isVal v.2) = true then (0, -1, -1) else (2, -1, -1)) ∧ Below w.heap.size w w' := by
  obtain ⟨r, hr⟩ : ∃ r : Int × Int × Int, (if (p.vars.all fun v => isVal v.2) = true then (0, -1, -1) else (2, -1, -1)) = r := ⟨_, rfl⟩
  rw [hr]
  have HR := Lib.hid hr
  have HP := Lib.hid hP
  obtain ⟨c0, _⟩ := hB.facts
  have HB := Lib.hid hB
  have hm := hP.vars.max
  have hle := hP.vars.le
  have hl := hP.l1
  unfold maxLen at hm
  obtain ⟨n1, hn1⟩ : ∃ n, a.n1 = n := ⟨_, rfl⟩
  obtain ⟨A1, hA1⟩ : ∃ A, a.A1 = A := ⟨_, rfl⟩
  obtain ⟨cp, hcp⟩ : ∃ A, a.c1 = A := ⟨_, rfl⟩
  rw [hn1, hA1, hcp] at c0
  rw [hl, hn1] at hle
  rw [hcp] at hle hm
  have HL := Lib.hid (hl.trans hn1)
  have HA1 := Lib.hid hA1
  clear hr hP hB hl hn1 hA1 hcp
  go_enter Tryd.func49, Tryd.ntmps49
  go_wp2
  go_loopw [9] (fun i wr => ∃ k : Nat, k ≤ n1 ∧ i = .int .i64 k ∧ Below w.heap.size w wr ∧ Hid (∀ j (hj : j < p.vars.length), j < k → isVal p.vars[j].2 = true)) (fun i _ => n1 - (intOf i).toNat)
  case atStart => exact ⟨0, Nat.zero_le _, rfl, Below.refl _ _, Lib.hid fun j _ h => by omega⟩
  case round =>
    obtain ⟨k, hk, rfl, hb, HA⟩ := hrel
    by_cases hlt : k < n1
    · have hkl : k < p.vars.length := by rw [HL.out]; exact hlt
      obtain ⟨q, off, hA, _, h1, h2⟩ := (HP.out.below hb).vars.one hkl
      rw [HA1.out] at hA
      subst hA
      obtain ⟨s, hs⟩ : ∃ s, p.vars[k].1 = s := ⟨_, rfl⟩
      obtain ⟨z, hz⟩ : ∃ s, p.vars[k].2 = s := ⟨_, rfl⟩
      rw [hs] at h1
      rw [hz] at h2
      have HZ := Lib.hid hz
      have hk0 : (0 : Int) ≤ k := by omega
      have hk1 : (k : Int) < n1 := by omega
      have HV := Lib.hid (fun X => iIsVal z X)
      cases hv : isVal z
      · have HX := Lib.hid (show (2, -1, -1) = r by rw [← HR.out, initNo hkl (by rw [HZ.out]; exact hv)]; rfl)
        rw [hv] at HV
        clear hv hs hz
        go_wp2_with (go_at_call 50; refine (HV.out _).mono ?_; rintro e w' ⟨rfl, rfl⟩)
        go_ret3
        exact ⟨by rw [← HX.out]; rfl, belowThen hb (belowAlloc wr _)⟩
      · have HX := Lib.hid (initNext HA.out hkl (by rw [HZ.out]; exact hv))
        have hb2 := fun o => belowThen hb (belowAlloc wr o)
        rw [hv] at HV
        clear hv hs hz
        go_wp2_with (go_at_call 50; refine (HV.out _).mono ?_; rintro e w' ⟨rfl, rfl⟩)
        go_roundw
        case rel => exact ⟨k + 1, by omega, by go_num, hb2 _, HX⟩
        case measure => simp [intOf]; omega
    · have HX := Lib.hid (show (0, -1, -1) = r by rw [← HR.out, initYes fun j hj => HA.out j hj (by have := HL.out; omega)]; rfl)
      go_wp2
      go_ret3
      exact ⟨by rw [← HX.out]; rfl, hb⟩

theorem thFobj {p : Prg} {k : Nat} (hk : k < p.thr.length) (h : belB p.thr[k].1 p.funcs.length = false) : p.thF (p.thr.drop k) = 11 := by
  rw [List.drop_eq_getElem_cons hk, Prg.thF, if_pos h]
theorem thFval {p : Prg} {k : Nat} (hk : k < p.thr.length) (h : belB p.thr[k].1 p.funcs.length = true) (h2 : isVal p.thr[k].2 = false) : p.thF (p.thr.drop k) = 2 := by
  rw [List.drop_eq_getElem_cons hk, Prg.thF, h, if_neg (by decide), if_pos h2]
theorem thFgo {p : Prg} {k : Nat} (hk : k < p.thr.length) (h : belB p.thr[k].1 p.funcs.length = true) (h2 : isVal p.thr[k].2 = true) : p.thF (p.thr.drop k) = p.thF (p.thr.drop (k + 1)) := by
  rw [List.drop_eq_getElem_cons hk, Prg.thF, h, if_neg (by decide), h2, if_neg (by decide)]
theorem thFend {p : Prg} {k : Nat} (hk : p.thr.length ≤ k) : p.thF (p.thr.drop k) = 0 := by rw [List.drop_eq_nil_of_le hk, Prg.thF]
set_option maxHeartbeats 1000000 in
theorem iThreads {b : Nat} {a : PgA} {p : Prg} (w : World) (hP : PgW w a p) (hB : PBox w b a) : Calls Tryd.prog 54 #[.pointer (some ⟨b, 0, none⟩)] w fun e w' => e = err3 (p.thE, -1, -1) ∧ Below w.heap.size w w' := by
  obtain ⟨r, hr⟩ : ∃ r, p.thE = r := ⟨_, rfl⟩
  rw [hr]
  have HR := Lib.hid hr
  have HP := Lib.hid hP
  obtain ⟨_, _, _, c3, c4⟩ := hB.facts
  have HB := Lib.hid hB
  have hm := hP.thr.max
  have hle := hP.thr.le
  have hm4 := hP.funcs.max
  have hle4 := hP.funcs.le
  have hl := hP.l5
  have hl4 := hP.l4
  unfold maxLen at hm hm4
  obtain ⟨n5, hn5⟩ : ∃ n, a.n5 = n := ⟨_, rfl⟩
  obtain ⟨A5, hA5⟩ : ∃ A, a.A5 = A := ⟨_, rfl⟩
  obtain ⟨c5, hc5⟩ : ∃ A, a.c5 = A := ⟨_, rfl⟩
  obtain ⟨n4, hn4⟩ : ∃ n, a.n4 = n := ⟨_, rfl⟩
  obtain ⟨A4, hA4⟩ : ∃ A, a.A4 = A := ⟨_, rfl⟩
  obtain ⟨c4', hc4⟩ : ∃ A, a.c4 = A := ⟨_, rfl⟩
  rw [hn5, hA5, hc5] at c4
  rw [hn4, hA4, hc4] at c3
  rw [hl, hn5] at hle
  rw [hc5] at hle hm
  rw [hl4, hn4] at hle4
  rw [hc4] at hle4 hm4
  have HL := Lib.hid (hl.trans hn5)
  have HL4 := Lib.hid (hl4.trans hn4)
  have HA1 := Lib.hid hA5
  clear hr hP hB hl hn5 hA5 hc5 hl4 hn4 hA4 hc4
  by_cases h1 : n5 < 1
  · have HX := Lib.hid (show 4 = r by rw [← HR.out]; unfold Prg.thE; rw [if_pos (.inl (by rw [HL.out]; exact h1))])
    go_enter Tryd.func54, Tryd.ntmps54
    go_wp2
    go_ret3
    exact ⟨by rw [← HX.out]; rfl, Below.refl _ _⟩
  by_cases h2 : 8 < n5
  · have HX := Lib.hid (show 4 = r by rw [← HR.out]; unfold Prg.thE; rw [if_pos (.inr (by rw [HL.out]; exact h2))])
    go_enter Tryd.func54, Tryd.ntmps54
    go_wp2
    go_ret3
    exact ⟨by rw [← HX.out]; rfl, Below.refl _ _⟩
  have HR := Lib.hid (show p.thF (p.thr.drop 0) = r by rw [← HR.out]; unfold Prg.thE; rw [if_neg (by rw [HL.out]; omega), List.drop_zero])
  go_enter Tryd.func54, Tryd.ntmps54
  go_wp2
  go_loopw [19] (fun i wr => ∃ k : Nat, k ≤ n5 ∧ i = .int .i64 k ∧ Below w.heap.size w wr ∧ Hid (p.thF (p.thr.drop k) = r)) (fun i _ => n5 - (intOf i).toNat)
  case atStart => exact ⟨0, Nat.zero_le _, rfl, Below.refl _ _, HR⟩
  case round =>
    obtain ⟨k, hk, rfl, hb, HA⟩ := hrel
    by_cases hlt : k < n5
    · have hkl : k < p.thr.length := by rw [HL.out]; exact hlt
      obtain ⟨q, off, hA, _, h1, h2⟩ := (HP.out.below hb).thr.one hkl
      rw [HA1.out] at hA
      subst hA
      obtain ⟨s, hs⟩ : ∃ s, p.thr[k].1 = s := ⟨_, rfl⟩
      obtain ⟨z, hz⟩ : ∃ s, p.thr[k].2 = s := ⟨_, rfl⟩
      rw [hs] at h1
      rw [hz] at h2
      have HZ := Lib.hid hz
      have HS := Lib.hid hs
      have hk0 : (0 : Int) ≤ k := by omega
      have hk1 : (k : Int) < n5 := by omega
      have hcw := (hb.cell (World.block_lt_of_cell? _ _ c3)).trans c3
      have hcw2 := fun o => ((belowAlloc wr o).cell (World.block_lt_of_cell? _ _ hcw)).trans hcw
      have hb2 := fun o => belowThen hb (belowAlloc wr o)
      have HV := Lib.hid (fun X => iIsVal z X)
      have HW := Lib.hid (fun X => iBelow s n4 X)
      cases hv1 : belB s n4
      · have HX := Lib.hid (Eq.trans (thFobj hkl (by rw [HS.out, HL4.out]; exact hv1)).symm HA.out)
        rw [hv1] at HW
        clear hv1 hs hz
        go_wp2_with (go_at_call 55; refine (HW.out _).mono ?_; rintro e w' ⟨rfl, rfl⟩)
        go_ret3
        exact ⟨by rw [← HX.out]; rfl, hb2 _⟩
      · cases hv : isVal z
        · have HX := Lib.hid (Eq.trans (thFval hkl (by rw [HS.out, HL4.out]; exact hv1) (by rw [HZ.out]; exact hv)).symm HA.out)
          rw [hv1] at HW
          rw [hv] at HV
          clear hv1 hv hs hz
          go_wp2_with (first | (go_at_call 55; refine (HW.out _).mono ?_; rintro e w' ⟨rfl, rfl⟩) | (go_at_call 50; refine (HV.out _).mono ?_; rintro e w' ⟨rfl, rfl⟩))
          go_ret3
          exact ⟨by rw [← HX.out]; rfl, hb2 _⟩
        · have HX := Lib.hid ((thFgo hkl (by rw [HS.out, HL4.out]; exact hv1) (by rw [HZ.out]; exact hv)).symm.trans HA.out)
          rw [hv1] at HW
          rw [hv] at HV
          clear hv1 hv hs hz
          go_wp2_with (first | (go_at_call 55; refine (HW.out _).mono ?_; rintro e w' ⟨rfl, rfl⟩) | (go_at_call 50; refine (HV.out _).mono ?_; rintro e w' ⟨rfl, rfl⟩))
          go_roundw
          case rel => exact ⟨k + 1, by omega, by go_num, hb2 _, HX⟩
          case measure => simp [intOf]; omega
    · have HX := Lib.hid (Eq.trans (thFend (by rw [HL.out]; omega)).symm HA.out)
      go_wp2
      go_ret3
      exact ⟨by rw [← HX.out]; rfl, hb⟩
end Go.Proofs.YtebpnnakcodjdaaDoor

namespace Go.Proofs.YtebpnnakcodjdaaDoor
open Go Go.RowKit

set_option maxHeartbeats 1000000 in
theorem iNameChk {b : Nat} {a : PgA} {p : Prg} (w : World) (hP : PgW w a p) (hB : PBox w b a) (hW : p.Wf) : Calls Tryd.prog 42 #[.pointer (some ⟨b, 0, none⟩)] w fun e w' => e = err3 (p.nmE.1, p.nmE.2, -1) ∧ Below w.heap.size w w' := by
  obtain ⟨r, hr⟩ : ∃ r : Int × Int × Int, (p.nmE.1, p.nmE.2, (-1 : Int)) = r := ⟨_, rfl⟩
  rw [hr]
  have HB := Lib.hid hB
  have g1 : a.n1 ≤ maxLen := by have h1 := hP.vars.le; have h2 := hP.vars.max; rw [hP.l1] at h1; omega
  have g2 : a.n2 ≤ maxLen := by have h1 := hP.muts.le; have h2 := hP.muts.max; rw [hP.l2] at h1; omega
  have g3 : a.n3 ≤ maxLen := by have h1 := hP.conds.le; have h2 := hP.conds.max; rw [hP.l3] at h1; omega
  have g4 : a.n4 ≤ maxLen := by have h1 := hP.funcs.le; have h2 := hP.funcs.max; rw [hP.l4] at h1; omega
  have H1 := Lib.hid (fun X (hX : Below w.heap.size w X) => iNames1 (p.vars.map (·.1)) a.n1 (by simpa using hP.l1) g1 (fun s hs => by obtain ⟨v, hv, rfl⟩ := List.mem_map.1 hs; exact hW.vn v hv) b X (nameAt1 (hP.below hX) (hB.below hX)))
  have H2 := Lib.hid (fun X (hX : Below w.heap.size w X) => iNames2 p.muts a.n2 hP.l2 g2 hW.mn b X (nameAt2 (hP.below hX) (hB.below hX)))
  have H3 := Lib.hid (fun X (hX : Below w.heap.size w X) => iNames3 p.conds a.n3 hP.l3 g3 hW.cn b X (nameAt3 (hP.below hX) (hB.below hX)))
  have H4 := Lib.hid (fun X (hX : Below w.heap.size w X) => iNames4 (p.funcs.map (·.1)) a.n4 (by simpa using hP.l4) g4 (fun s hs => by obtain ⟨v, hv, rfl⟩ := List.mem_map.1 hs; exact hW.fn v hv) b X (nameAt4 (hP.below hX) (hB.below hX)))
  have HE : Hid (p.nmE = if (nmF [] (p.vars.map (·.1)) 0).1 ≠ 0 then ((nmF [] (p.vars.map (·.1)) 0).1, -1) else if (nmF [] p.muts 0).1 ≠ 0 then ((nmF [] p.muts 0).1, -1) else if (nmF [] p.conds 0).1 ≠ 0 then ((nmF [] p.conds 0).1, -1) else nmF [] (p.funcs.map (·.1)) 0) := Lib.hid rfl
  generalize nmF [] (p.vars.map (·.1)) 0 = e1 at H1 HE
  generalize nmF [] p.muts 0 = e2 at H2 HE
  generalize nmF [] p.conds 0 = e3 at H3 HE
  generalize nmF [] (p.funcs.map (·.1)) 0 = e4 at H4 HE
  obtain ⟨x1, y1⟩ := e1
  obtain ⟨x2, y2⟩ := e2
  obtain ⟨x3, y3⟩ := e3
  obtain ⟨x4, y4⟩ := e4
  simp only at H1 H2 H3 H4
  have HR := Lib.hid hr
  obtain ⟨c0, c1, c2, c3, _⟩ := hB.facts
  unfold maxLen at g1 g2 g3 g4
  generalize a.n1 = n1 at *
  generalize a.n2 = n2 at *
  generalize a.n3 = n3 at *
  generalize a.n4 = n4 at *
  clear hr hP hB hW
  by_cases h1 : x1 = 0
  rotate_left
  · have hx : (x1 != 0) = true := by simpa using h1
    have HX : Hid ((x1, -1, -1) = r) := Lib.hid (by rw [← HR.out, HE.out]; simp [h1])
    clear h1
    go_enter Tryd.func42, Tryd.ntmps42
    go_wp2_with fail
    refine (H1.out _ (Below.refl _ w)).mono ?_
    rintro e w1 ⟨rfl, b1⟩
    have B1 := b1
    have c1 := (b1.cell (World.block_lt_of_cell? _ _ c1)).trans c1
    have c2 := (b1.cell (World.block_lt_of_cell? _ _ c2)).trans c2
    have c3 := (b1.cell (World.block_lt_of_cell? _ _ c3)).trans c3
    go_wp2
    go_ret3
    exact ⟨by rw [← HX.out]; rfl, B1⟩
  have z1 : (x1 != 0) = false := by simpa using h1
  by_cases h2 : x2 = 0
  rotate_left
  · have hx : (x2 != 0) = true := by simpa using h2
    have HX : Hid ((x2, -1, -1) = r) := Lib.hid (by rw [← HR.out, HE.out]; simp [h1, h2])
    clear h1
    clear h2
    go_enter Tryd.func42, Tryd.ntmps42
    go_wp2_with fail
    refine (H1.out _ (Below.refl _ w)).mono ?_
    rintro e w1 ⟨rfl, b1⟩
    have B1 := b1
    have c1 := (b1.cell (World.block_lt_of_cell? _ _ c1)).trans c1
    have c2 := (b1.cell (World.block_lt_of_cell? _ _ c2)).trans c2
    have c3 := (b1.cell (World.block_lt_of_cell? _ _ c3)).trans c3
    go_wp2_with fail
    refine (H2.out _ B1).mono ?_
    rintro e w2 ⟨rfl, b2⟩
    have B2 := belowThen B1 b2
    have c2 := (b2.cell (World.block_lt_of_cell? _ _ c2)).trans c2
    have c3 := (b2.cell (World.block_lt_of_cell? _ _ c3)).trans c3
    go_wp2
    go_ret3
    exact ⟨by rw [← HX.out]; rfl, B2⟩
  have z2 : (x2 != 0) = false := by simpa using h2
  by_cases h3 : x3 = 0
  rotate_left
  · have hx : (x3 != 0) = true := by simpa using h3
    have HX : Hid ((x3, -1, -1) = r) := Lib.hid (by rw [← HR.out, HE.out]; simp [h1, h2, h3])
    clear h1 h2
    clear h3
    go_enter Tryd.func42, Tryd.ntmps42
    go_wp2_with fail
    refine (H1.out _ (Below.refl _ w)).mono ?_
    rintro e w1 ⟨rfl, b1⟩
    have B1 := b1
    have c1 := (b1.cell (World.block_lt_of_cell? _ _ c1)).trans c1
    have c2 := (b1.cell (World.block_lt_of_cell? _ _ c2)).trans c2
    have c3 := (b1.cell (World.block_lt_of_cell? _ _ c3)).trans c3
    go_wp2_with fail
    refine (H2.out _ B1).mono ?_
    rintro e w2 ⟨rfl, b2⟩
    have B2 := belowThen B1 b2
    have c2 := (b2.cell (World.block_lt_of_cell? _ _ c2)).trans c2
    have c3 := (b2.cell (World.block_lt_of_cell? _ _ c3)).trans c3
    go_wp2_with fail
    refine (H3.out _ B2).mono ?_
    rintro e w3 ⟨rfl, b3⟩
    have B3 := belowThen B2 b3
    have c3 := (b3.cell (World.block_lt_of_cell? _ _ c3)).trans c3
    go_wp2
    go_ret3
    exact ⟨by rw [← HX.out]; rfl, B3⟩
  have z3 : (x3 != 0) = false := by simpa using h3
  have HX : Hid ((x4, y4, -1) = r) := Lib.hid (by rw [← HR.out, HE.out]; simp [h1, h2, h3])
  clear h1 h2 h3
  go_enter Tryd.func42, Tryd.ntmps42
  go_wp2_with fail
  refine (H1.out _ (Below.refl _ w)).mono ?_
  rintro e w1 ⟨rfl, b1⟩
  have B1 := b1
  have c1 := (b1.cell (World.block_lt_of_cell? _ _ c1)).trans c1
  have c2 := (b1.cell (World.block_lt_of_cell? _ _ c2)).trans c2
  have c3 := (b1.cell (World.block_lt_of_cell? _ _ c3)).trans c3
  go_wp2_with fail
  refine (H2.out _ B1).mono ?_
  rintro e w2 ⟨rfl, b2⟩
  have B2 := belowThen B1 b2
  have c2 := (b2.cell (World.block_lt_of_cell? _ _ c2)).trans c2
  have c3 := (b2.cell (World.block_lt_of_cell? _ _ c3)).trans c3
  go_wp2_with fail
  refine (H3.out _ B2).mono ?_
  rintro e w3 ⟨rfl, b3⟩
  have B3 := belowThen B2 b3
  have c3 := (b3.cell (World.block_lt_of_cell? _ _ c3)).trans c3
  go_wp2_with fail
  refine (H4.out _ B3).mono ?_
  rintro e w4 ⟨rfl, b4⟩
  have B4 := belowThen B3 b4
  go_wp2
  go_ret3
  exact ⟨by rw [← HX.out]; rfl, B4⟩
end Go.Proofs.YtebpnnakcodjdaaDoor
