/-
  The checks of a unit that are closures over it: limits, initial values, initial threads.
-/
import Derived.Test.YtiaendggmamnkaaGreatDoorEAsPc
import Derived.Test.YtiaendggmamnkaaGreatDoorENk
namespace Go.Proofs.YtiaendggmamnkaaGreatDoor
open Go Go.RowKit

set_option maxRecDepth 100000 in
set_option maxHeartbeats 2000000 in
theorem iLimits16 {b : Nat} {a : PgA} {u : Un} {dx d : Nat} (w : World) (hU : UnR w a u dx d) (hB : UBox w b a) : Calls Tryz.prog 100 #[.pointer (some ⟨b, 0, none⟩)] w fun e w' => e = err6 (lmI u, -1, -1) ∧ w' = w := by
  obtain ⟨c0, c1, c2, c3, _⟩ := hB.facts
  obtain ⟨r, hr⟩ : ∃ r, lmI u = r := ⟨_, rfl⟩
  rw [hr]
  have HE : Hid ((if a.n1 ≤ 8 ∧ a.n2 ≤ 4 ∧ a.n3 ≤ 4 ∧ a.n4 ≤ 8 then (0 : Int) else 4) = r) := by rw [← hr]; unfold lmI; rw [hU.l1, hU.l2, hU.l3, hU.l4]; exact Lib.hid rfl
  have m1 := hU.vars.max
  have m2 := hU.muts.max
  have m3 := hU.conds.max
  have m4 := hU.procs.max
  have e1 := hU.vars.le
  have e2 := hU.muts.le
  have e3 := hU.conds.le
  have e4 := hU.procs.le
  rw [hU.l1] at e1
  rw [hU.l2] at e2
  rw [hU.l3] at e3
  rw [hU.l4] at e4
  unfold maxLen at m1 m2 m3 m4
  generalize a.n1 = n1 at *
  generalize a.n2 = n2 at *
  generalize a.n3 = n3 at *
  generalize a.n4 = n4 at *
  clear hU hB hr
  have HT : Hid (∀ X, Calls Tryz.prog 101 #[.bool true, .int .i64 4] X fun e w' => e = .returned (.int .i64 0) ∧ w' = X) := Lib.hid (fun X => iUnless true 4 X)
  have HF : Hid (∀ X, Calls Tryz.prog 101 #[.bool false, .int .i64 4] X fun e w' => e = .returned (.int .i64 4) ∧ w' = X) := Lib.hid (fun X => iUnless false 4 X)
  clear HT
  by_cases h1 : (n1 : Int) ≤ 8
  · by_cases h2 : (n2 : Int) ≤ 4
    · by_cases h3 : (n3 : Int) ≤ 4
      · have hval : (if decide ((n4 : Int) ≤ 8) = true then (0 : Int) else 4) = r := by
          rw [← HE.out]
          by_cases h4 : n4 ≤ 8
          · rw [if_pos (by simp; omega), if_pos ⟨by omega, by omega, by omega, h4⟩]
          · rw [if_neg (by simp; omega), if_neg (by omega)]
        have HD := fun X => iUnless (decide ((n4 : Int) ≤ 8)) 4 X
        simp only [hval] at HD
        have HD := Lib.hid HD
        clear hval HE HF
        go_enter Tryz.func100, Tryz.ntmps100
        go_wp2_with fail
        refine (HD.out _).mono ?_
        rintro e w' ⟨rfl, rfl⟩
        go_wp2_with fail
        go_ret3
        exact ⟨by first | rfl | simp [err6], rfl⟩
      · have hr : 4 = r := by rw [← HE.out, if_neg (by omega)]
        subst hr
        go_enter Tryz.func100, Tryz.ntmps100
        go_wp2_with fail
        refine (HF.out _).mono ?_
        rintro e w' ⟨rfl, rfl⟩
        go_wp2_with fail
        go_ret3
        exact ⟨by first | rfl | simp [err6], rfl⟩
    · have hr : 4 = r := by rw [← HE.out, if_neg (by omega)]
      subst hr
      go_enter Tryz.func100, Tryz.ntmps100
      go_wp2_with fail
      refine (HF.out _).mono ?_
      rintro e w' ⟨rfl, rfl⟩
      go_wp2_with fail
      go_ret3
      exact ⟨by first | rfl | simp [err6], rfl⟩
  · have hr : 4 = r := by rw [← HE.out, if_neg (by omega)]
    subst hr
    go_enter Tryz.func100, Tryz.ntmps100
    go_wp2_with fail
    refine (HF.out _).mono ?_
    rintro e w' ⟨rfl, rfl⟩
    go_wp2_with fail
    go_ret3
    exact ⟨by first | rfl | simp [err6], rfl⟩
theorem iniNo {u : Un} {k : Nat} (hk : k < u.vars.length) (h : vlOk u.vars[k].2 = false) : (u.vars.all fun v => vlOk v.2) = false := by
  rw [List.all_eq_false]
  exact ⟨u.vars[k], List.getElem_mem hk, by rw [h]; decide⟩
theorem iniYes {u : Un} (h : ∀ k (hk : k < u.vars.length), vlOk u.vars[k].2 = true) : (u.vars.all fun v => vlOk v.2) = true := by
  rw [List.all_eq_true]
  intro v hv
  obtain ⟨k, hk, rfl⟩ := List.getElem_of_mem hv
  exact h k hk
theorem iniNext {u : Un} {k : Nat} (HA : ∀ j (hj : j < u.vars.length), j < k → vlOk u.vars[j].2 = true) (hk : k < u.vars.length) (h : vlOk u.vars[k].2 = true) : ∀ j (hj : j < u.vars.length), j < k + 1 → vlOk u.vars[j].2 = true := fun j hj hlt => by
  rcases Nat.lt_or_ge j k with h' | h'
  · exact HA j hj h'
  · have e : j = k := by omega
    subst e
    exact h
set_option maxRecDepth 100000 in
set_option maxHeartbeats 1000000 in
theorem iInits16 {b : Nat} {a : PgA} {u : Un} {dx d : Nat} (w : World) (hU : UnR w a u dx d) (hB : UBox w b a) : Calls Tryz.prog 102 #[.pointer (some ⟨b, 0, none⟩)] w fun e w' => e = err6 (inI u, -1, -1) ∧ Below w.heap.size w w' := by
  obtain ⟨r, hr⟩ : ∃ r, inI u = r := ⟨_, rfl⟩
  rw [hr]
  have HR := Lib.hid hr
  have HP := Lib.hid hU
  obtain ⟨c0, _⟩ := hB.facts
  have HB := Lib.hid hB
  have hm := hU.vars.max
  have hle := hU.vars.le
  have hl := hU.l1
  unfold maxLen at hm
  obtain ⟨n1, hn1⟩ : ∃ n, a.n1 = n := ⟨_, rfl⟩
  obtain ⟨A1, hA1⟩ : ∃ A, a.A1 = A := ⟨_, rfl⟩
  obtain ⟨cp, hcp⟩ : ∃ A, a.c1 = A := ⟨_, rfl⟩
  rw [hn1, hA1, hcp] at c0
  rw [hl, hn1] at hle
  rw [hcp] at hle hm
  have HL := Lib.hid (hl.trans hn1)
  have HA1 := Lib.hid hA1
  clear hr hU hB hl hn1 hA1 hcp
  go_enter Tryz.func102, Tryz.ntmps102
  go_wp2_with fail
  go_loopw [9] (fun i wr => ∃ k : Nat, k ≤ n1 ∧ i = .int .i64 k ∧ Below w.heap.size w wr ∧ Hid (∀ j (hj : j < u.vars.length), j < k → vlOk u.vars[j].2 = true)) (fun i _ => n1 - (intOf i).toNat)
  case atStart => exact ⟨0, Nat.zero_le _, rfl, Below.refl _ _, Lib.hid fun j _ h => by omega⟩
  case round =>
    obtain ⟨k, hk, rfl, hb, HA⟩ := hrel
    by_cases hlt : k < n1
    · have hkl : k < u.vars.length := by rw [HL.out]; exact hlt
      obtain ⟨q, off, hA, _, h1, h2⟩ := (HP.out.below hb).vars.one hkl
      rw [HA1.out] at hA
      subst hA
      obtain ⟨s, hs⟩ : ∃ s, u.vars[k].1 = s := ⟨_, rfl⟩
      obtain ⟨z, hz⟩ : ∃ s, u.vars[k].2 = s := ⟨_, rfl⟩
      rw [hs] at h1
      rw [hz] at h2
      have HZ := Lib.hid hz
      have hk0 : (0 : Int) ≤ k := by omega
      have hk1 : (k : Int) < n1 := by omega
      have HV := Lib.hid (fun X => iValue16 z X)
      cases hv : vlOk z
      · have HX := Lib.hid (show 2 = r by rw [← HR.out]; unfold inI; rw [iniNo hkl (by rw [HZ.out]; exact hv)]; rfl)
        rw [hv] at HV
        clear hv hs hz
        go_wp2_with fail
        refine (HV.out _).mono ?_
        rintro e w' ⟨rfl, rfl⟩
        go_wp2_with fail
        go_ret3
        exact ⟨by rw [← HX.out]; rfl, belowThen hb (belowAlloc wr _)⟩
      · have HX := Lib.hid (iniNext HA.out hkl (by rw [HZ.out]; exact hv))
        have hb2 := fun o => belowThen hb (belowAlloc wr o)
        rw [hv] at HV
        clear hv hs hz
        go_wp2_with fail
        refine (HV.out _).mono ?_
        rintro e w' ⟨rfl, rfl⟩
        go_wp2_with fail
        go_roundw
        case rel => exact ⟨k + 1, by omega, by go_num, hb2 _, HX⟩
        case measure => simp [intOf]; omega
    · have HX := Lib.hid (show 0 = r by rw [← HR.out]; unfold inI; rw [iniYes fun j hj => HA.out j hj (by have := HL.out; omega)]; rfl)
      go_wp2_with fail
      go_ret3
      exact ⟨by rw [← HX.out]; rfl, hb⟩
theorem thGobj {u : Un} {k : Nat} (hk : k < u.thr.length) (h : exB u 4 u.thr[k].1 = false) : thG u (u.thr.drop k) = 11 := by
  have h' : inS u.thr[k].1 (u.procs.map (·.name)) = false := h
  rw [List.drop_eq_getElem_cons hk, thG, if_pos h']
theorem thGval {u : Un} {k : Nat} (hk : k < u.thr.length) (h : exB u 4 u.thr[k].1 = true) (h2 : vlOk u.thr[k].2 = false) : thG u (u.thr.drop k) = 2 := by
  have h' : inS u.thr[k].1 (u.procs.map (·.name)) = true := h
  rw [List.drop_eq_getElem_cons hk, thG, h', if_neg (by decide), if_pos h2]
theorem thGgo {u : Un} {k : Nat} (hk : k < u.thr.length) (h : exB u 4 u.thr[k].1 = true) (h2 : vlOk u.thr[k].2 = true) : thG u (u.thr.drop k) = thG u (u.thr.drop (k + 1)) := by
  have h' : inS u.thr[k].1 (u.procs.map (·.name)) = true := h
  rw [List.drop_eq_getElem_cons hk, thG, h', if_neg (by decide), h2, if_neg (by decide)]
theorem thGend {u : Un} {k : Nat} (hk : u.thr.length ≤ k) : thG u (u.thr.drop k) = 0 := by rw [List.drop_eq_nil_of_le hk, thG]
set_option maxRecDepth 100000 in
set_option maxHeartbeats 2000000 in
theorem iThreads16 {b : Nat} {a : PgA} {u : Un} {dx d : Nat} (w : World) (hU : UnR w a u dx d) (hB : UBox w b a) : Calls Tryz.prog 107 #[.pointer (some ⟨b, 0, none⟩)] w fun e w' => e = err6 (thI16 u, -1, -1) ∧ Below w.heap.size w w' := by
  obtain ⟨r, hr⟩ : ∃ r, thI16 u = r := ⟨_, rfl⟩
  rw [hr]
  have HR := Lib.hid hr
  have HP := Lib.hid hU
  have HB := Lib.hid hB
  have c4 := hB.facts.2.2.2.2
  have hm := hU.thr.max
  have hle := hU.thr.le
  have hl := hU.l5
  unfold maxLen at hm
  obtain ⟨n5, hn5⟩ : ∃ n, a.n5 = n := ⟨_, rfl⟩
  obtain ⟨A5, hA5⟩ : ∃ A, a.A5 = A := ⟨_, rfl⟩
  obtain ⟨c5, hc5⟩ : ∃ A, a.c5 = A := ⟨_, rfl⟩
  rw [hn5, hA5, hc5] at c4
  rw [hl, hn5] at hle
  rw [hc5] at hle hm
  have HL := Lib.hid (hl.trans hn5)
  have HA1 := Lib.hid hA5
  have HEX := Lib.hid (fun (s : ByteArray) (X : World) (hX : Below w.heap.size w X) => iExists u a dx d 4 s X (hU.below hX))
  have HUF := Lib.hid (fun (X : World) (hX : Below w.heap.size w X) => (hB.below hX).facts)
  clear hr hU hB hl hn5 hA5 hc5
  by_cases h1 : (n5 : Int) < 1
  · have HX := Lib.hid (show 4 = r by rw [← HR.out]; unfold thI16; rw [if_pos (.inl (by rw [HL.out]; omega))])
    go_enter Tryz.func107, Tryz.ntmps107
    go_wp2_with fail
    go_ret3
    exact ⟨by rw [← HX.out]; rfl, Below.refl _ _⟩
  by_cases h2 : (8 : Int) < n5
  · have HX := Lib.hid (show 4 = r by rw [← HR.out]; unfold thI16; rw [if_pos (.inr (by rw [HL.out]; omega))])
    go_enter Tryz.func107, Tryz.ntmps107
    go_wp2_with fail
    go_ret3
    exact ⟨by rw [← HX.out]; rfl, Below.refl _ _⟩
  have HR := Lib.hid (show thG u (u.thr.drop 0) = r by rw [← HR.out]; unfold thI16; rw [if_neg (by rw [HL.out]; omega), List.drop_zero])
  go_enter Tryz.func107, Tryz.ntmps107
  go_wp2_with fail
  go_loopw [19] (fun i wr => ∃ k : Nat, k ≤ n5 ∧ i = .int .i64 k ∧ Below w.heap.size w wr ∧ Hid (thG u (u.thr.drop k) = r)) (fun i _ => n5 - (intOf i).toNat)
  case atStart => exact ⟨0, Nat.zero_le _, rfl, Below.refl _ _, HR⟩
  case round =>
    obtain ⟨k, hk, rfl, hb, HA⟩ := hrel
    by_cases hlt : k < n5
    · have hkl : k < u.thr.length := by rw [HL.out]; exact hlt
      obtain ⟨q, off, hA, _, g1, g2⟩ := (HP.out.below hb).thr.one hkl
      rw [HA1.out] at hA
      subst hA
      obtain ⟨s, hs⟩ : ∃ s, u.thr[k].1 = s := ⟨_, rfl⟩
      obtain ⟨z, hz⟩ : ∃ s, u.thr[k].2 = s := ⟨_, rfl⟩
      rw [hs] at g1
      rw [hz] at g2
      have HZ := Lib.hid hz
      have HS := Lib.hid hs
      have hk0 : (0 : Int) ≤ k := by omega
      have hk1 : (k : Int) < n5 := by omega
      obtain ⟨X, hX⟩ : ∃ X, wr.alloc (.cells #[.string s, .int .i64 z] 73) = X := ⟨_, rfl⟩
      have hbX : Below wr.heap.size wr X := by rw [← hX]; exact belowAlloc _ _
      have BX : Blk X wr.heap.size 73 #[.string s, .int .i64 z] := by rw [← hX]; exact Blk.new _ _ _
      have z0 : X.cell? ⟨wr.heap.size, 0, none⟩ = some (.string s) := BX.cell 0
      have z1 : X.cell? ⟨wr.heap.size, 1, none⟩ = some (.int .i64 z) := BX.cell 1
      have hwX := belowThen hb hbX
      obtain ⟨u0, u1, u2, u3, u4⟩ := HUF.out X hwX
      obtain ⟨e1, he1⟩ : ∃ e, exB u 4 s = e := ⟨_, rfl⟩
      obtain ⟨e2, he2⟩ : ∃ e, vlOk z = e := ⟨_, rfl⟩
      have HC := HEX.out s X hwX
      rw [he1] at HC
      have HC := Lib.hid HC
      have HV := fun X' => iValue16 z X'
      simp only [he2] at HV
      have HV := Lib.hid HV
      have HWX := Lib.hid hwX
      have HX := Lib.hid hX
      have HBX := Lib.hid BX
      have HE1 := Lib.hid he1
      have HE2 := Lib.hid he2
      clear hX hbX BX hwX hs hz he1 he2
      go_upto_region 6 with fail
      rw [HX.out]
      go_wp2_with fail
      refine HC.out.mono ?_
      rintro e Y ⟨rfl, hY⟩
      have y1 : Y.cell? ⟨wr.heap.size, 1, none⟩ = some (.int .i64 z) := (HBX.out.below' hY).cell 1
      have HWY := Lib.hid (belowThen HWX.out hY)
      clear hY z0 z1 u0 u1 u2 u3 u4 g1 g2 hb
      cases e1
      · have HN := Lib.hid (Eq.trans (thGobj hkl (by rw [HS.out]; exact HE1.out)).symm HA.out)
        go_wp2_with fail
        go_ret3
        exact ⟨by rw [← HN.out]; rfl, HWY.out⟩
      · go_wp2_with fail
        refine (HV.out _).mono ?_
        rintro e Y2 ⟨rfl, rfl⟩
        cases e2
        · have HN := Lib.hid (Eq.trans (thGval hkl (by rw [HS.out]; exact HE1.out) (by rw [HZ.out]; exact HE2.out)).symm HA.out)
          go_wp2_with fail
          go_ret3
          exact ⟨by rw [← HN.out]; rfl, HWY.out⟩
        · have HN := Lib.hid ((thGgo hkl (by rw [HS.out]; exact HE1.out) (by rw [HZ.out]; exact HE2.out)).symm.trans HA.out)
          go_wp2_with fail
          go_roundw
          case rel => exact ⟨k + 1, by omega, by go_num, HWY.out, HN⟩
          case measure => simp [intOf]; omega
    · have HX := Lib.hid (Eq.trans (thGend (by rw [HL.out]; omega)).symm HA.out)
      go_wp2_with fail
      go_ret3
      exact ⟨by rw [← HX.out]; rfl, hb⟩
end Go.Proofs.YtiaendggmamnkaaGreatDoor

namespace Go.Proofs.YtiaendggmamnkaaGreatDoor
open Go Go.RowKit Go.Maps Go.WideMaps

theorem nmS (s : ByteArray) (X : World) : Calls Tryz.prog 94 #[.string s] X fun e X' => e = .returned (.string s) ∧ Below X.heap.size X X' := by
  go_enter Tryz.func94, Tryz.ntmps94
  go_wp2_with fail
  go_ret
  exact ⟨rfl, Below.refl _ _⟩
theorem nmV (s : ByteArray) (z : Int) (X : World) : Calls Tryz.prog 96 #[.agg #[.string s, .int .i64 z]] X fun e X' => e = .returned (.string s) ∧ Below X.heap.size X X' := by
  go_enter Tryz.func96, Tryz.ntmps96
  go_wp2_with fail
  go_ret
  exact ⟨rfl, belowAlloc _ _⟩
theorem nmP (s t : ByteArray) (A : Option Addr) (n c : Nat) (X : World) : Calls Tryz.prog 99 #[.agg #[.string s, .string t, .slice A n c]] X fun e X' => e = .returned (.string s) ∧ Below X.heap.size X X' := by
  go_enter Tryz.func99, Tryz.ntmps99
  go_wp2_with fail
  go_ret
  exact ⟨rfl, belowAlloc _ _⟩
set_option maxRecDepth 100000 in
set_option maxHeartbeats 2000000 in
theorem iNamesS (l : List ByteArray) (n c : Nat) (hn : l.length = n) (hl : ∀ s ∈ l, (s).size ≤ maxLen) (A : Option Addr) (w : World) (hr : RdE 1 ES w A c l) :
    Calls Tryz.prog 97 #[.slice A n c, .func (.func 94) #[] #[]] w fun e w' => e = .returned (.tuple #[.int .i64 (nmG [] l 0).1, .int .i64 (nmG [] l 0).2]) ∧ Below w.heap.size w w' := by
  obtain ⟨N, hNn⟩ : ∃ N, l = N := ⟨_, rfl⟩
  rw [hNn]
  obtain ⟨r, hr0⟩ : ∃ r, nmG [] N 0 = r := ⟨_, rfl⟩
  rw [hr0]
  have HR := Lib.hid (show nmG (N.take 0) (N.drop 0) 0 = r from hr0)
  have HNL := Lib.hid (show N.length = n by rw [← hNn]; simpa using hn)
  have HAT := Lib.hid (fun k (hk : k < l.length) (hk2 : k < N.length) => show N[k] = l[k] by subst hNn; simp)
  have HL := Lib.hid hl
  have HN := Lib.hid hn
  have HRD := Lib.hid hr
  have hle := hr.le
  have hmax := hr.max
  have hM := MapS.made w
  have hmm := @run_makeMap Tryz.prog
  have hbw := belowAlloc w (.map #[] 0)
  obtain ⟨W, hW⟩ : ∃ W, w.alloc (.map #[] 0) = W := ⟨_, rfl⟩
  rw [hW] at hM hbw
  have HW := Lib.hid hW
  rw [hn] at hle
  unfold maxLen at hmax
  clear hr0 hr hl hn hW hNn
  go_enter Tryz.func97, Tryz.ntmps97
  go_wp2_with fail
  rw [HW.out]
  go_loopw [13] (fun i wr => ∃ k : Nat, k ≤ n ∧ i = .int .i64 k ∧ Hid (MapS wr w.heap.size (N.take k)) ∧ Hid (Below w.heap.size w wr) ∧ Hid (nmG (N.take k) (N.drop k) k = r)) (fun i _ => n - (intOf i).toNat)
  case atStart => exact ⟨0, Nat.zero_le _, rfl, Lib.hid hM, Lib.hid hbw, HR⟩
  case round =>
    obtain ⟨k, hk, rfl, hm, hb, HE⟩ := hrel
    by_cases hlt : k < n
    · have hkl : k < l.length := by rw [HN.out]; exact hlt
      have hkn : k < N.length := by rw [HNL.out]; exact hlt
      have hat := HAT.out k hkl hkn
      have hsz := HL.out _ (List.getElem_mem hkl)
      obtain ⟨q, off, hA, hel, hx⟩ := HRD.out.one hkl
      subst hA
      obtain ⟨t, ht⟩ : ∃ t, l[k] = t := ⟨_, rfl⟩
      rw [ht] at hat hsz hx
      unfold ES at hx
      rw [Nat.mul_one] at hx
      have y0 := (hb.out.cell (p := ⟨q, off + k, none⟩) hel).trans hx
      have HC := Lib.hid (fun X => nmS t X)
      have hk0 : (0 : Int) ≤ k := by omega
      have hk1 : (k : Int) < n := by omega
      have HAT1 := Lib.hid hat
      have HSZ := Lib.hid hsz
      clear hat hsz ht
      go_wp2_with fail
      refine (HC.out _).mono ?_
      rintro e Y ⟨rfl, hY⟩
      have hmY : MapS Y w.heap.size (N.take k) := hm.out.keep (hY.block _ hm.out.lt)
      have hbY := belowThen hb.out hY
      have hv := iName16 (t) HSZ.out Y
      have hlk := hmY.look HSZ.out
      cases h1 : nmA (t)
      · have HX := Lib.hid ((nmGbad hkn (by rw [HAT1.out]; exact h1)).symm.trans HE.out)
        rw [h1] at hv
        have HV := Lib.hid hv
        have HBY := Lib.hid hbY
        clear hv h1 hbY hmY hlk hY
        go_wp2_with fail
        refine HV.out.mono ?_
        rintro e w' ⟨rfl, rfl⟩
        go_wp2_with fail
        go_ret2
        exact ⟨retNm HX.out, HBY.out⟩
      · cases h2 : inS (t) (N.take k)
        · have HX := Lib.hid ((nmGgo hkn (by rw [HAT1.out]; exact h1) (by rw [HAT1.out]; exact h2)).symm.trans HE.out)
          rw [h1] at hv
          rw [h2] at hlk
          have htl : (N.take k).length < maxLen := by rw [List.length_take]; unfold maxLen; omega
          obtain ⟨w2, hput, hm2, hg2⟩ := hmY.put htl HSZ.out
          have e2 : N.take (k + 1) = N.take k ++ [t] := by rw [List.take_succ_eq_append_getElem hkn, HAT1.out]
          rw [← e2] at hm2
          have HM2 := Lib.hid hm2
          have HB2 := Lib.hid (show Below w.heap.size w w2 from hbY.grown hg2 hbY.size (fun k hk => by injection hk with hk; omega))
          have HV := Lib.hid hv
          clear h1 h2 e2 hm2 htl hv hbY hmY hY hg2
          go_wp2_with fail
          refine HV.out.mono ?_
          rintro e w' ⟨rfl, rfl⟩
          go_wp2_with fail
          go_roundw
          case rel => exact ⟨k + 1, by omega, by go_num, HM2, HB2, HX⟩
          case measure => simp [intOf]; omega
        · have HX := Lib.hid ((nmGtwice hkn (by rw [HAT1.out]; exact h1) (by rw [HAT1.out]; exact h2)).symm.trans HE.out)
          rw [h1] at hv
          rw [h2] at hlk
          have HV := Lib.hid hv
          have HBY := Lib.hid hbY
          clear h1 h2 hv hbY hmY hY
          go_wp2_with fail
          refine HV.out.mono ?_
          rintro e w' ⟨rfl, rfl⟩
          go_wp2_with fail
          go_ret2
          exact ⟨retNm HX.out, HBY.out⟩
    · have HX := Lib.hid ((show nmG (N.take k) (N.drop k) k = (0, -1) by rw [List.drop_eq_nil_of_le (by rw [HNL.out]; omega), nmG]).symm.trans HE.out)
      go_wp2_with fail
      go_ret2
      exact ⟨retNm HX.out, hb.out⟩
set_option maxRecDepth 100000 in
set_option maxHeartbeats 2000000 in
theorem iNamesV (l : List (ByteArray × Int)) (n c : Nat) (hn : l.length = n) (hl : ∀ s ∈ l, (s.1).size ≤ maxLen) (A : Option Addr) (w : World) (hr : RdE 2 EV w A c l) :
    Calls Tryz.prog 95 #[.slice A n c, .func (.func 96) #[] #[]] w fun e w' => e = .returned (.tuple #[.int .i64 (nmG [] (l.map (·.1)) 0).1, .int .i64 (nmG [] (l.map (·.1)) 0).2]) ∧ Below w.heap.size w w' := by
  obtain ⟨N, hNn⟩ : ∃ N, (l.map (·.1)) = N := ⟨_, rfl⟩
  rw [hNn]
  obtain ⟨r, hr0⟩ : ∃ r, nmG [] N 0 = r := ⟨_, rfl⟩
  rw [hr0]
  have HR := Lib.hid (show nmG (N.take 0) (N.drop 0) 0 = r from hr0)
  have HNL := Lib.hid (show N.length = n by rw [← hNn]; simpa using hn)
  have HAT := Lib.hid (fun k (hk : k < l.length) (hk2 : k < N.length) => show N[k] = l[k].1 by subst hNn; simp)
  have HL := Lib.hid hl
  have HN := Lib.hid hn
  have HRD := Lib.hid hr
  have hle := hr.le
  have hmax := hr.max
  have hM := MapS.made w
  have hmm := @run_makeMap Tryz.prog
  have hbw := belowAlloc w (.map #[] 0)
  obtain ⟨W, hW⟩ : ∃ W, w.alloc (.map #[] 0) = W := ⟨_, rfl⟩
  rw [hW] at hM hbw
  have HW := Lib.hid hW
  rw [hn] at hle
  unfold maxLen at hmax
  clear hr0 hr hl hn hW hNn
  go_enter Tryz.func95, Tryz.ntmps95
  go_wp2_with fail
  rw [HW.out]
  go_loopw [13] (fun i wr => ∃ k : Nat, k ≤ n ∧ i = .int .i64 k ∧ Hid (MapS wr w.heap.size (N.take k)) ∧ Hid (Below w.heap.size w wr) ∧ Hid (nmG (N.take k) (N.drop k) k = r)) (fun i _ => n - (intOf i).toNat)
  case atStart => exact ⟨0, Nat.zero_le _, rfl, Lib.hid hM, Lib.hid hbw, HR⟩
  case round =>
    obtain ⟨k, hk, rfl, hm, hb, HE⟩ := hrel
    by_cases hlt : k < n
    · have hkl : k < l.length := by rw [HN.out]; exact hlt
      have hkn : k < N.length := by rw [HNL.out]; exact hlt
      have hat := HAT.out k hkl hkn
      have hsz := HL.out _ (List.getElem_mem hkl)
      obtain ⟨q, off, hA, hel, hx⟩ := HRD.out.one hkl
      subst hA
      obtain ⟨t, ht⟩ : ∃ t, l[k] = t := ⟨_, rfl⟩
      rw [ht] at hat hsz hx
      have y0 := (hb.out.cell (p := ⟨q, off + k * 2, none⟩) hel).trans hx.1
      have y1 := (hb.out.cell (p := ⟨q, off + k * 2 + 1, none⟩) hel).trans hx.2
      obtain ⟨ts, tz⟩ := t
      dsimp only at y0 y1 hat hsz
      have HC := Lib.hid (fun X => nmV ts tz X)
      have hk0 : (0 : Int) ≤ k := by omega
      have hk1 : (k : Int) < n := by omega
      have HAT1 := Lib.hid hat
      have HSZ := Lib.hid hsz
      clear hat hsz ht
      go_wp2_with fail
      refine (HC.out _).mono ?_
      rintro e Y ⟨rfl, hY⟩
      replace hY := belowThen (belowAlloc wr _) hY
      have hmY : MapS Y w.heap.size (N.take k) := hm.out.keep (hY.block _ hm.out.lt)
      have hbY := belowThen hb.out hY
      have hv := iName16 (ts) HSZ.out Y
      have hlk := hmY.look HSZ.out
      cases h1 : nmA (ts)
      · have HX := Lib.hid ((nmGbad hkn (by rw [HAT1.out]; exact h1)).symm.trans HE.out)
        rw [h1] at hv
        have HV := Lib.hid hv
        have HBY := Lib.hid hbY
        clear hv h1 hbY hmY hlk hY
        go_wp2_with fail
        refine HV.out.mono ?_
        rintro e w' ⟨rfl, rfl⟩
        go_wp2_with fail
        go_ret2
        exact ⟨retNm HX.out, HBY.out⟩
      · cases h2 : inS (ts) (N.take k)
        · have HX := Lib.hid ((nmGgo hkn (by rw [HAT1.out]; exact h1) (by rw [HAT1.out]; exact h2)).symm.trans HE.out)
          rw [h1] at hv
          rw [h2] at hlk
          have htl : (N.take k).length < maxLen := by rw [List.length_take]; unfold maxLen; omega
          obtain ⟨w2, hput, hm2, hg2⟩ := hmY.put htl HSZ.out
          have e2 : N.take (k + 1) = N.take k ++ [ts] := by rw [List.take_succ_eq_append_getElem hkn, HAT1.out]
          rw [← e2] at hm2
          have HM2 := Lib.hid hm2
          have HB2 := Lib.hid (show Below w.heap.size w w2 from hbY.grown hg2 hbY.size (fun k hk => by injection hk with hk; omega))
          have HV := Lib.hid hv
          clear h1 h2 e2 hm2 htl hv hbY hmY hY hg2
          go_wp2_with fail
          refine HV.out.mono ?_
          rintro e w' ⟨rfl, rfl⟩
          go_wp2_with fail
          go_roundw
          case rel => exact ⟨k + 1, by omega, by go_num, HM2, HB2, HX⟩
          case measure => simp [intOf]; omega
        · have HX := Lib.hid ((nmGtwice hkn (by rw [HAT1.out]; exact h1) (by rw [HAT1.out]; exact h2)).symm.trans HE.out)
          rw [h1] at hv
          rw [h2] at hlk
          have HV := Lib.hid hv
          have HBY := Lib.hid hbY
          clear h1 h2 hv hbY hmY hY
          go_wp2_with fail
          refine HV.out.mono ?_
          rintro e w' ⟨rfl, rfl⟩
          go_wp2_with fail
          go_ret2
          exact ⟨retNm HX.out, HBY.out⟩
    · have HX := Lib.hid ((show nmG (N.take k) (N.drop k) k = (0, -1) by rw [List.drop_eq_nil_of_le (by rw [HNL.out]; omega), nmG]).symm.trans HE.out)
      go_wp2_with fail
      go_ret2
      exact ⟨retNm HX.out, hb.out⟩
set_option maxRecDepth 100000 in
set_option maxHeartbeats 2000000 in
theorem iNamesP (dx d : Nat) (l : List Pc) (n c : Nat) (hn : l.length = n) (hl : ∀ s ∈ l, (s.name).size ≤ maxLen) (A : Option Addr) (w : World) (hr : RdE 3 (EPc dx d) w A c l) :
    Calls Tryz.prog 98 #[.slice A n c, .func (.func 99) #[] #[]] w fun e w' => e = .returned (.tuple #[.int .i64 (nmG [] (l.map (·.name)) 0).1, .int .i64 (nmG [] (l.map (·.name)) 0).2]) ∧ Below w.heap.size w w' := by
  obtain ⟨N, hNn⟩ : ∃ N, (l.map (·.name)) = N := ⟨_, rfl⟩
  rw [hNn]
  obtain ⟨r, hr0⟩ : ∃ r, nmG [] N 0 = r := ⟨_, rfl⟩
  rw [hr0]
  have HR := Lib.hid (show nmG (N.take 0) (N.drop 0) 0 = r from hr0)
  have HNL := Lib.hid (show N.length = n by rw [← hNn]; simpa using hn)
  have HAT := Lib.hid (fun k (hk : k < l.length) (hk2 : k < N.length) => show N[k] = l[k].name by subst hNn; simp)
  have HL := Lib.hid hl
  have HN := Lib.hid hn
  have HRD := Lib.hid hr
  have hle := hr.le
  have hmax := hr.max
  have hM := MapS.made w
  have hmm := @run_makeMap Tryz.prog
  have hbw := belowAlloc w (.map #[] 0)
  obtain ⟨W, hW⟩ : ∃ W, w.alloc (.map #[] 0) = W := ⟨_, rfl⟩
  rw [hW] at hM hbw
  have HW := Lib.hid hW
  rw [hn] at hle
  unfold maxLen at hmax
  clear hr0 hr hl hn hW hNn
  go_enter Tryz.func98, Tryz.ntmps98
  go_wp2_with fail
  rw [HW.out]
  go_loopw [13] (fun i wr => ∃ k : Nat, k ≤ n ∧ i = .int .i64 k ∧ Hid (MapS wr w.heap.size (N.take k)) ∧ Hid (Below w.heap.size w wr) ∧ Hid (nmG (N.take k) (N.drop k) k = r)) (fun i _ => n - (intOf i).toNat)
  case atStart => exact ⟨0, Nat.zero_le _, rfl, Lib.hid hM, Lib.hid hbw, HR⟩
  case round =>
    obtain ⟨k, hk, rfl, hm, hb, HE⟩ := hrel
    by_cases hlt : k < n
    · have hkl : k < l.length := by rw [HN.out]; exact hlt
      have hkn : k < N.length := by rw [HNL.out]; exact hlt
      have hat := HAT.out k hkl hkn
      have hsz := HL.out _ (List.getElem_mem hkl)
      obtain ⟨q, off, hA, hel, hx⟩ := HRD.out.one hkl
      subst hA
      obtain ⟨t, ht⟩ : ∃ t, l[k] = t := ⟨_, rfl⟩
      rw [ht] at hat hsz hx
      obtain ⟨e0, e1, v2, e2, Ab, cb, rfl, hrb⟩ := hx
      obtain ⟨nb, hnb⟩ : ∃ n, t.body.length = n := ⟨_, rfl⟩
      rw [hnb] at e2
      have y0 := (hb.out.cell (p := ⟨q, off + k * 3, none⟩) hel).trans e0
      have y1 := (hb.out.cell (p := ⟨q, off + k * 3 + 1, none⟩) hel).trans e1
      have y2 := (hb.out.cell (p := ⟨q, off + k * 3 + 2, none⟩) hel).trans e2
      have HC := Lib.hid (fun X => nmP t.name t.param Ab nb cb X)
      have hk0 : (0 : Int) ≤ k := by omega
      have hk1 : (k : Int) < n := by omega
      have HAT1 := Lib.hid hat
      have HSZ := Lib.hid hsz
      clear hat hsz ht
      go_wp2_with fail
      refine (HC.out _).mono ?_
      rintro e Y ⟨rfl, hY⟩
      replace hY := belowThen (belowAlloc wr _) hY
      have hmY : MapS Y w.heap.size (N.take k) := hm.out.keep (hY.block _ hm.out.lt)
      have hbY := belowThen hb.out hY
      have hv := iName16 (t.name) HSZ.out Y
      have hlk := hmY.look HSZ.out
      cases h1 : nmA (t.name)
      · have HX := Lib.hid ((nmGbad hkn (by rw [HAT1.out]; exact h1)).symm.trans HE.out)
        rw [h1] at hv
        have HV := Lib.hid hv
        have HBY := Lib.hid hbY
        clear hv h1 hbY hmY hlk hY
        go_wp2_with fail
        refine HV.out.mono ?_
        rintro e w' ⟨rfl, rfl⟩
        go_wp2_with fail
        go_ret2
        exact ⟨retNm HX.out, HBY.out⟩
      · cases h2 : inS (t.name) (N.take k)
        · have HX := Lib.hid ((nmGgo hkn (by rw [HAT1.out]; exact h1) (by rw [HAT1.out]; exact h2)).symm.trans HE.out)
          rw [h1] at hv
          rw [h2] at hlk
          have htl : (N.take k).length < maxLen := by rw [List.length_take]; unfold maxLen; omega
          obtain ⟨w2, hput, hm2, hg2⟩ := hmY.put htl HSZ.out
          have e2 : N.take (k + 1) = N.take k ++ [t.name] := by rw [List.take_succ_eq_append_getElem hkn, HAT1.out]
          rw [← e2] at hm2
          have HM2 := Lib.hid hm2
          have HB2 := Lib.hid (show Below w.heap.size w w2 from hbY.grown hg2 hbY.size (fun k hk => by injection hk with hk; omega))
          have HV := Lib.hid hv
          clear h1 h2 e2 hm2 htl hv hbY hmY hY hg2
          go_wp2_with fail
          refine HV.out.mono ?_
          rintro e w' ⟨rfl, rfl⟩
          go_wp2_with fail
          go_roundw
          case rel => exact ⟨k + 1, by omega, by go_num, HM2, HB2, HX⟩
          case measure => simp [intOf]; omega
        · have HX := Lib.hid ((nmGtwice hkn (by rw [HAT1.out]; exact h1) (by rw [HAT1.out]; exact h2)).symm.trans HE.out)
          rw [h1] at hv
          rw [h2] at hlk
          have HV := Lib.hid hv
          have HBY := Lib.hid hbY
          clear h1 h2 hv hbY hmY hY
          go_wp2_with fail
          refine HV.out.mono ?_
          rintro e w' ⟨rfl, rfl⟩
          go_wp2_with fail
          go_ret2
          exact ⟨retNm HX.out, HBY.out⟩
    · have HX := Lib.hid ((show nmG (N.take k) (N.drop k) k = (0, -1) by rw [List.drop_eq_nil_of_le (by rw [HNL.out]; omega), nmG]).symm.trans HE.out)
      go_wp2_with fail
      go_ret2
      exact ⟨retNm HX.out, hb.out⟩
end Go.Proofs.YtiaendggmamnkaaGreatDoor

namespace Go.Proofs.YtiaendggmamnkaaGreatDoor
open Go Go.RowKit

set_option maxRecDepth 100000 in
set_option maxHeartbeats 4000000 in
theorem iNameChk16 {b : Nat} {a : PgA} {u : Un} {dx d : Nat} (w : World) (hU : UnR w a u dx d) (hB : UBox w b a) (hW : u.Wf) : Calls Tryz.prog 93 #[.pointer (some ⟨b, 0, none⟩)] w fun e w' => e = err6 ((nmI16 u).1, (nmI16 u).2, -1) ∧ Below w.heap.size w w' := by
  obtain ⟨r, hr⟩ : ∃ r : Int × Int × Int, ((nmI16 u).1, (nmI16 u).2, (-1 : Int)) = r := ⟨_, rfl⟩
  rw [hr]
  have HUF := Lib.hid (fun (X : World) (hX : Below w.heap.size w X) => (hB.below hX).facts)
  have H1 := Lib.hid (fun X (hX : Below w.heap.size w X) => iNamesV u.vars a.n1 a.c1 hU.l1 hW.vn a.A1 X (hU.vars.below stabV hX))
  have H2 := Lib.hid (fun X (hX : Below w.heap.size w X) => iNamesS u.muts a.n2 a.c2 hU.l2 hW.mn a.A2 X (hU.muts.below stabS hX))
  have H3 := Lib.hid (fun X (hX : Below w.heap.size w X) => iNamesS u.conds a.n3 a.c3 hU.l3 hW.cn a.A3 X (hU.conds.below stabS hX))
  have H4 := Lib.hid (fun X (hX : Below w.heap.size w X) => iNamesP dx d u.procs a.n4 a.c4 hU.l4 (fun p hp => (hW.pc p hp).nm) a.A4 X (hU.procs.below (stabPc dx d) hX))
  have HE : Hid (nmI16 u = if (nmG [] (u.vars.map (·.1)) 0).1 ≠ 0 then ((nmG [] (u.vars.map (·.1)) 0).1, -1) else if (nmG [] u.muts 0).1 ≠ 0 then ((nmG [] u.muts 0).1, -1) else if (nmG [] u.conds 0).1 ≠ 0 then ((nmG [] u.conds 0).1, -1) else nmG [] (u.procs.map (·.name)) 0) := Lib.hid rfl
  generalize nmG [] (u.vars.map (·.1)) 0 = e1 at H1 HE
  generalize nmG [] u.muts 0 = e2 at H2 HE
  generalize nmG [] u.conds 0 = e3 at H3 HE
  generalize nmG [] (u.procs.map (·.name)) 0 = e4 at H4 HE
  obtain ⟨x1, y1⟩ := e1
  obtain ⟨x2, y2⟩ := e2
  obtain ⟨x3, y3⟩ := e3
  obtain ⟨x4, y4⟩ := e4
  simp only at H1 H2 H3 H4
  have HR := Lib.hid hr
  obtain ⟨c0, c1, c2, c3, _⟩ := hB.facts
  clear hr hU hB hW
  by_cases h1 : x1 = 0
  rotate_left
  · have hx : (x1 != 0) = true := by simpa using h1
    have HX : Hid ((x1, -1, -1) = r) := Lib.hid (by rw [← HR.out, HE.out]; simp [h1])
    clear h1
    go_enter Tryz.func93, Tryz.ntmps93
    go_wp2_with fail
    refine (H1.out _ (Below.refl _ w)).mono ?_
    rintro e w1 ⟨rfl, b1⟩
    have B1 : Below w.heap.size w w1 := b1
    clear c0 c1 c2 c3
    obtain ⟨c0, c1, c2, c3, _⟩ := HUF.out _ B1
    go_wp2_with fail
    go_ret3
    exact ⟨by rw [← HX.out]; rfl, B1⟩
  have z1 : (x1 != 0) = false := by simpa using h1
  by_cases h2 : x2 = 0
  rotate_left
  · have hx : (x2 != 0) = true := by simpa using h2
    have HX : Hid ((x2, -1, -1) = r) := Lib.hid (by rw [← HR.out, HE.out]; simp [h1, h2])
    clear h1 h2
    go_enter Tryz.func93, Tryz.ntmps93
    go_wp2_with fail
    refine (H1.out _ (Below.refl _ w)).mono ?_
    rintro e w1 ⟨rfl, b1⟩
    have B1 : Below w.heap.size w w1 := b1
    clear c0 c1 c2 c3
    obtain ⟨c0, c1, c2, c3, _⟩ := HUF.out _ B1
    go_wp2_with fail
    refine (H2.out _ B1).mono ?_
    rintro e w2 ⟨rfl, b2⟩
    have B2 : Below w.heap.size w w2 := belowThen B1 b2
    clear c0 c1 c2 c3
    obtain ⟨c0, c1, c2, c3, _⟩ := HUF.out _ B2
    go_wp2_with fail
    go_ret3
    exact ⟨by rw [← HX.out]; rfl, B2⟩
  have z2 : (x2 != 0) = false := by simpa using h2
  by_cases h3 : x3 = 0
  rotate_left
  · have hx : (x3 != 0) = true := by simpa using h3
    have HX : Hid ((x3, -1, -1) = r) := Lib.hid (by rw [← HR.out, HE.out]; simp [h1, h2, h3])
    clear h1 h2 h3
    go_enter Tryz.func93, Tryz.ntmps93
    go_wp2_with fail
    refine (H1.out _ (Below.refl _ w)).mono ?_
    rintro e w1 ⟨rfl, b1⟩
    have B1 : Below w.heap.size w w1 := b1
    clear c0 c1 c2 c3
    obtain ⟨c0, c1, c2, c3, _⟩ := HUF.out _ B1
    go_wp2_with fail
    refine (H2.out _ B1).mono ?_
    rintro e w2 ⟨rfl, b2⟩
    have B2 : Below w.heap.size w w2 := belowThen B1 b2
    clear c0 c1 c2 c3
    obtain ⟨c0, c1, c2, c3, _⟩ := HUF.out _ B2
    go_wp2_with fail
    refine (H3.out _ B2).mono ?_
    rintro e w3 ⟨rfl, b3⟩
    have B3 : Below w.heap.size w w3 := belowThen B2 b3
    clear c0 c1 c2 c3
    obtain ⟨c0, c1, c2, c3, _⟩ := HUF.out _ B3
    go_wp2_with fail
    go_ret3
    exact ⟨by rw [← HX.out]; rfl, B3⟩
  have z3 : (x3 != 0) = false := by simpa using h3
  have HX : Hid ((x4, y4, -1) = r) := Lib.hid (by rw [← HR.out, HE.out]; simp [h1, h2, h3])
  clear h1 h2 h3
  go_enter Tryz.func93, Tryz.ntmps93
  go_wp2_with fail
  refine (H1.out _ (Below.refl _ w)).mono ?_
  rintro e w1 ⟨rfl, b1⟩
  have B1 : Below w.heap.size w w1 := b1
  clear c0 c1 c2 c3
  obtain ⟨c0, c1, c2, c3, _⟩ := HUF.out _ B1
  go_wp2_with fail
  refine (H2.out _ B1).mono ?_
  rintro e w2 ⟨rfl, b2⟩
  have B2 : Below w.heap.size w w2 := belowThen B1 b2
  clear c0 c1 c2 c3
  obtain ⟨c0, c1, c2, c3, _⟩ := HUF.out _ B2
  go_wp2_with fail
  refine (H3.out _ B2).mono ?_
  rintro e w3 ⟨rfl, b3⟩
  have B3 : Below w.heap.size w w3 := belowThen B2 b3
  clear c0 c1 c2 c3
  obtain ⟨c0, c1, c2, c3, _⟩ := HUF.out _ B3
  go_wp2_with fail
  refine (H4.out _ B3).mono ?_
  rintro e w4 ⟨rfl, b4⟩
  have B4 : Below w.heap.size w w4 := belowThen B3 b4
  clear c0 c1 c2 c3
  obtain ⟨c0, c1, c2, c3, _⟩ := HUF.out _ B4
  go_wp2_with fail
  go_ret3
  exact ⟨by rw [← HX.out]; rfl, B4⟩
end Go.Proofs.YtiaendggmamnkaaGreatDoor
