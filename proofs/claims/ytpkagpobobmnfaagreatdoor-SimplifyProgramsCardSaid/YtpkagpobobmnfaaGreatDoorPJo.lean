/-
  The checks of package program that are closures over the program: the initial values, the initial threads, the names.
-/
import Derived.Test.YtpkagpobobmnfaaGreatDoorPKl
namespace Go.Proofs.YtpkagpobobmnfaaGreatDoor
open Go Go.RowKit

theorem initNo {p : Prg} {k : Nat} (hk : k < p.vars.length) (h : isVal p.vars[k].2 = false) : (p.vars.all fun v => isVal v.2) = false := by
  rw [List.all_eq_false]
  exact ⟨p.vars[k], List.getElem_mem hk, by rw [h]; decide⟩
theorem initYes {p : Prg} (h : ∀ k (hk : k < p.vars.length), isVal p.vars[k].2 = true) : (p.vars.all fun v => isVal v.2) = true := by
  rw [List.all_eq_true]
  intro v hv
  obtain ⟨k, hk, rfl⟩ := List.getElem_of_mem hv
  exact h k hk
theorem initNext {p : Prg} {k : Nat} (HA : ∀ j (hj : j < p.vars.length), j < k → isVal p.vars[j].2 = true) (hk : k < p.vars.length) (h : isVal p.vars[k].2 = true) : ∀ j (hj : j < p.vars.length), j < k + 1 → isVal p.vars[j].2 = true := fun j hj hlt => by
  rcases Nat.lt_or_ge j k with h' | h'
  · exact HA j hj h'
  · have e : j = k := by omega
    subst e
    exact h
set_option maxHeartbeats 1000000 in
theorem iInit {b : Nat} {a : PgA} {p : Prg} (w : World) (hP : PgW w a p) (hB : PBox w b a) : Calls Tryz.prog 127 #[.pointer (some ⟨b, 0, none⟩)] w fun e w' => e = err3 (if (p.vars.all fun v => isVal v.2) = true then (0, -1, -1) else (2, -1, -1)) ∧ Below w.heap.size w w' := by
  obtain ⟨r, hr⟩ : ∃ r : Int × Int × Int, (if (p.vars.all fun v => isVal v.2) = true then (0, -1, -1) else (2, -1, -1)) = r := ⟨_, rfl⟩
  rw [hr]
  have HR := Lib.hid hr
  have HP := Lib.hid hP
  obtain ⟨c0, _⟩ := hB.facts
  have HB := Lib.hid hB
  have hm := hP.vars.max
  have hle := hP.vars.le
  have hl := hP.l1
  unfold maxLen at hm
  obtain ⟨n1, hn1⟩ : ∃ n, a.n1 = n := ⟨_, rfl⟩
  obtain ⟨A1, hA1⟩ : ∃ A, a.A1 = A := ⟨_, rfl⟩
  obtain ⟨cp, hcp⟩ : ∃ A, a.c1 = A := ⟨_, rfl⟩
  rw [hn1, hA1, hcp] at c0
  rw [hl, hn1] at hle
  rw [hcp] at hle hm
  have HL := Lib.hid (hl.trans hn1)
  have HA1 := Lib.hid hA1
  clear hr hP hB hl hn1 hA1 hcp
  go_enter Tryz.func127, Tryz.ntmps127
  go_wp2
  go_loopw [9] (fun i wr => ∃ k : Nat, k ≤ n1 ∧ i = .int .i64 k ∧ Below w.heap.size w wr ∧ Hid (∀ j (hj : j < p.vars.length), j < k → isVal p.vars[j].2 = true)) (fun i _ => n1 - (intOf i).toNat)
  case atStart => exact ⟨0, Nat.zero_le _, rfl, Below.refl _ _, Lib.hid fun j _ h => by omega⟩
  case round =>
    obtain ⟨k, hk, rfl, hb, HA⟩ := hrel
    by_cases hlt : k < n1
    · have hkl : k < p.vars.length := by rw [HL.out]; exact hlt
      obtain ⟨q, off, hA, _, h1, h2⟩ := (HP.out.below hb).vars.one hkl
      rw [HA1.out] at hA
      subst hA
      obtain ⟨s, hs⟩ : ∃ s, p.vars[k].1 = s := ⟨_, rfl⟩
      obtain ⟨z, hz⟩ : ∃ s, p.vars[k].2 = s := ⟨_, rfl⟩
      rw [hs] at h1
      rw [hz] at h2
      have HZ := Lib.hid hz
      have hk0 : (0 : Int) ≤ k := by omega
      have hk1 : (k : Int) < n1 := by omega
      have HV := Lib.hid (fun X => iIsVal z X)
      cases hv : isVal z
      · have HX := Lib.hid (show (2, -1, -1) = r by rw [← HR.out, initNo hkl (by rw [HZ.out]; exact hv)]; rfl)
        rw [hv] at HV
        clear hv hs hz
        go_wp2_with (go_at_call 128; refine (HV.out _).mono ?_; rintro e w' ⟨rfl, rfl⟩)
        go_ret3
        exact ⟨by rw [← HX.out]; rfl, belowThen hb (belowAlloc wr _)⟩
      · have HX := Lib.hid (initNext HA.out hkl (by rw [HZ.out]; exact hv))
        have hb2 := fun o => belowThen hb (belowAlloc wr o)
        rw [hv] at HV
        clear hv hs hz
        go_wp2_with (go_at_call 128; refine (HV.out _).mono ?_; rintro e w' ⟨rfl, rfl⟩)
        go_roundw
        case rel => exact ⟨k + 1, by omega, by go_num, hb2 _, HX⟩
        case measure => simp [intOf]; omega
    · have HX := Lib.hid (show (0, -1, -1) = r by rw [← HR.out, initYes fun j hj => HA.out j hj (by have := HL.out; omega)]; rfl)
      go_wp2
      go_ret3
      exact ⟨by rw [← HX.out]; rfl, hb⟩

theorem thFobj {p : Prg} {k : Nat} (hk : k < p.thr.length) (h : belB p.thr[k].1 p.funcs.length = false) : p.thF (p.thr.drop k) = 11 := by
  rw [List.drop_eq_getElem_cons hk, Prg.thF, if_pos h]
theorem thFval {p : Prg} {k : Nat} (hk : k < p.thr.length) (h : belB p.thr[k].1 p.funcs.length = true) (h2 : isVal p.thr[k].2 = false) : p.thF (p.thr.drop k) = 2 := by
  rw [List.drop_eq_getElem_cons hk, Prg.thF, h, if_neg (by decide), if_pos h2]
theorem thFgo {p : Prg} {k : Nat} (hk : k < p.thr.length) (h : belB p.thr[k].1 p.funcs.length = true) (h2 : isVal p.thr[k].2 = true) : p.thF (p.thr.drop k) = p.thF (p.thr.drop (k + 1)) := by
  rw [List.drop_eq_getElem_cons hk, Prg.thF, h, if_neg (by decide), h2, if_neg (by decide)]
theorem thFend {p : Prg} {k : Nat} (hk : p.thr.length ≤ k) : p.thF (p.thr.drop k) = 0 := by rw [List.drop_eq_nil_of_le hk, Prg.thF]
set_option maxHeartbeats 1000000 in
theorem iThreads {b : Nat} {a : PgA} {p : Prg} (w : World) (hP : PgW w a p) (hB : PBox w b a) : Calls Tryz.prog 132 #[.pointer (some ⟨b, 0, none⟩)] w fun e w' => e = err3 (p.thE, -1, -1) ∧ Below w.heap.size w w' := by
  obtain ⟨r, hr⟩ : ∃ r, p.thE = r := ⟨_, rfl⟩
  rw [hr]
  have HR := Lib.hid hr
  have HP := Lib.hid hP
  obtain ⟨_, _, _, c3, c4⟩ := hB.facts
  have HB := Lib.hid hB
  have hm := hP.thr.max
  have hle := hP.thr.le
  have hm4 := hP.funcs.max
  have hle4 := hP.funcs.le
  have hl := hP.l5
  have hl4 := hP.l4
  unfold maxLen at hm hm4
  obtain ⟨n5, hn5⟩ : ∃ n, a.n5 = n := ⟨_, rfl⟩
  obtain ⟨A5, hA5⟩ : ∃ A, a.A5 = A := ⟨_, rfl⟩
  obtain ⟨c5, hc5⟩ : ∃ A, a.c5 = A := ⟨_, rfl⟩
  obtain ⟨n4, hn4⟩ : ∃ n, a.n4 = n := ⟨_, rfl⟩
  obtain ⟨A4, hA4⟩ : ∃ A, a.A4 = A := ⟨_, rfl⟩
  obtain ⟨c4', hc4⟩ : ∃ A, a.c4 = A := ⟨_, rfl⟩
  rw [hn5, hA5, hc5] at c4
  rw [hn4, hA4, hc4] at c3
  rw [hl, hn5] at hle
  rw [hc5] at hle hm
  rw [hl4, hn4] at hle4
  rw [hc4] at hle4 hm4
  have HL := Lib.hid (hl.trans hn5)
  have HL4 := Lib.hid (hl4.trans hn4)
  have HA1 := Lib.hid hA5
  clear hr hP hB hl hn5 hA5 hc5 hl4 hn4 hA4 hc4
  by_cases h1 : n5 < 1
  · have HX := Lib.hid (show 4 = r by rw [← HR.out]; unfold Prg.thE; rw [if_pos (.inl (by rw [HL.out]; exact h1))])
    go_enter Tryz.func132, Tryz.ntmps132
    go_wp2
    go_ret3
    exact ⟨by rw [← HX.out]; rfl, Below.refl _ _⟩
  by_cases h2 : 8 < n5
  · have HX := Lib.hid (show 4 = r by rw [← HR.out]; unfold Prg.thE; rw [if_pos (.inr (by rw [HL.out]; exact h2))])
    go_enter Tryz.func132, Tryz.ntmps132
    go_wp2
    go_ret3
    exact ⟨by rw [← HX.out]; rfl, Below.refl _ _⟩
  have HR := Lib.hid (show p.thF (p.thr.drop 0) = r by rw [← HR.out]; unfold Prg.thE; rw [if_neg (by rw [HL.out]; omega), List.drop_zero])
  go_enter Tryz.func132, Tryz.ntmps132
  go_wp2
  go_loopw [19] (fun i wr => ∃ k : Nat, k ≤ n5 ∧ i = .int .i64 k ∧ Below w.heap.size w wr ∧ Hid (p.thF (p.thr.drop k) = r)) (fun i _ => n5 - (intOf i).toNat)
  case atStart => exact ⟨0, Nat.zero_le _, rfl, Below.refl _ _, HR⟩
  case round =>
    obtain ⟨k, hk, rfl, hb, HA⟩ := hrel
    by_cases hlt : k < n5
    · have hkl : k < p.thr.length := by rw [HL.out]; exact hlt
      obtain ⟨q, off, hA, _, h1, h2⟩ := (HP.out.below hb).thr.one hkl
      rw [HA1.out] at hA
      subst hA
      obtain ⟨s, hs⟩ : ∃ s, p.thr[k].1 = s := ⟨_, rfl⟩
      obtain ⟨z, hz⟩ : ∃ s, p.thr[k].2 = s := ⟨_, rfl⟩
      rw [hs] at h1
      rw [hz] at h2
      have HZ := Lib.hid hz
      have HS := Lib.hid hs
      have hk0 : (0 : Int) ≤ k := by omega
      have hk1 : (k : Int) < n5 := by omega
      have hcw := (hb.cell (World.block_lt_of_cell? _ _ c3)).trans c3
      have hcw2 := fun o => ((belowAlloc wr o).cell (World.block_lt_of_cell? _ _ hcw)).trans hcw
      have hb2 := fun o => belowThen hb (belowAlloc wr o)
      have HV := Lib.hid (fun X => iIsVal z X)
      have HW := Lib.hid (fun X => iBelow s n4 X)
      cases hv1 : belB s n4
      · have HX := Lib.hid (Eq.trans (thFobj hkl (by rw [HS.out, HL4.out]; exact hv1)).symm HA.out)
        rw [hv1] at HW
        clear hv1 hs hz
        go_wp2_with (go_at_call 133; refine (HW.out _).mono ?_; rintro e w' ⟨rfl, rfl⟩)
        go_ret3
        exact ⟨by rw [← HX.out]; rfl, hb2 _⟩
      · cases hv : isVal z
        · have HX := Lib.hid (Eq.trans (thFval hkl (by rw [HS.out, HL4.out]; exact hv1) (by rw [HZ.out]; exact hv)).symm HA.out)
          rw [hv1] at HW
          rw [hv] at HV
          clear hv1 hv hs hz
          go_wp2_with (first | (go_at_call 133; refine (HW.out _).mono ?_; rintro e w' ⟨rfl, rfl⟩) | (go_at_call 128; refine (HV.out _).mono ?_; rintro e w' ⟨rfl, rfl⟩))
          go_ret3
          exact ⟨by rw [← HX.out]; rfl, hb2 _⟩
        · have HX := Lib.hid ((thFgo hkl (by rw [HS.out, HL4.out]; exact hv1) (by rw [HZ.out]; exact hv)).symm.trans HA.out)
          rw [hv1] at HW
          rw [hv] at HV
          clear hv1 hv hs hz
          go_wp2_with (first | (go_at_call 133; refine (HW.out _).mono ?_; rintro e w' ⟨rfl, rfl⟩) | (go_at_call 128; refine (HV.out _).mono ?_; rintro e w' ⟨rfl, rfl⟩))
          go_roundw
          case rel => exact ⟨k + 1, by omega, by go_num, hb2 _, HX⟩
          case measure => simp [intOf]; omega
    · have HX := Lib.hid (Eq.trans (thFend (by rw [HL.out]; omega)).symm HA.out)
      go_wp2
      go_ret3
      exact ⟨by rw [← HX.out]; rfl, hb⟩
end Go.Proofs.YtpkagpobobmnfaaGreatDoor

namespace Go.Proofs.YtpkagpobobmnfaaGreatDoor
open Go Go.RowKit

set_option maxHeartbeats 1000000 in
theorem iNameChk {b : Nat} {a : PgA} {p : Prg} (w : World) (hP : PgW w a p) (hB : PBox w b a) (hW : p.Wf) : Calls Tryz.prog 120 #[.pointer (some ⟨b, 0, none⟩)] w fun e w' => e = err3 (p.nmE.1, p.nmE.2, -1) ∧ Below w.heap.size w w' := by
  obtain ⟨r, hr⟩ : ∃ r : Int × Int × Int, (p.nmE.1, p.nmE.2, (-1 : Int)) = r := ⟨_, rfl⟩
  rw [hr]
  have HB := Lib.hid hB
  have g1 : a.n1 ≤ maxLen := by have h1 := hP.vars.le; have h2 := hP.vars.max; rw [hP.l1] at h1; omega
  have g2 : a.n2 ≤ maxLen := by have h1 := hP.muts.le; have h2 := hP.muts.max; rw [hP.l2] at h1; omega
  have g3 : a.n3 ≤ maxLen := by have h1 := hP.conds.le; have h2 := hP.conds.max; rw [hP.l3] at h1; omega
  have g4 : a.n4 ≤ maxLen := by have h1 := hP.funcs.le; have h2 := hP.funcs.max; rw [hP.l4] at h1; omega
  have H1 := Lib.hid (fun X (hX : Below w.heap.size w X) => iNames1 (p.vars.map (·.1)) a.n1 (by simpa using hP.l1) g1 (fun s hs => by obtain ⟨v, hv, rfl⟩ := List.mem_map.1 hs; exact hW.vn v hv) b X (nameAt1 (hP.below hX) (hB.below hX)))
  have H2 := Lib.hid (fun X (hX : Below w.heap.size w X) => iNames2 p.muts a.n2 hP.l2 g2 hW.mn b X (nameAt2 (hP.below hX) (hB.below hX)))
  have H3 := Lib.hid (fun X (hX : Below w.heap.size w X) => iNames3 p.conds a.n3 hP.l3 g3 hW.cn b X (nameAt3 (hP.below hX) (hB.below hX)))
  have H4 := Lib.hid (fun X (hX : Below w.heap.size w X) => iNames4 (p.funcs.map (·.1)) a.n4 (by simpa using hP.l4) g4 (fun s hs => by obtain ⟨v, hv, rfl⟩ := List.mem_map.1 hs; exact hW.fn v hv) b X (nameAt4 (hP.below hX) (hB.below hX)))
  have HE : Hid (p.nmE = if (nmF [] (p.vars.map (·.1)) 0).1 ≠ 0 then ((nmF [] (p.vars.map (·.1)) 0).1, -1) else if (nmF [] p.muts 0).1 ≠ 0 then ((nmF [] p.muts 0).1, -1) else if (nmF [] p.conds 0).1 ≠ 0 then ((nmF [] p.conds 0).1, -1) else nmF [] (p.funcs.map (·.1)) 0) := Lib.hid rfl
  generalize nmF [] (p.vars.map (·.1)) 0 = e1 at H1 HE
  generalize nmF [] p.muts 0 = e2 at H2 HE
  generalize nmF [] p.conds 0 = e3 at H3 HE
  generalize nmF [] (p.funcs.map (·.1)) 0 = e4 at H4 HE
  obtain ⟨x1, y1⟩ := e1
  obtain ⟨x2, y2⟩ := e2
  obtain ⟨x3, y3⟩ := e3
  obtain ⟨x4, y4⟩ := e4
  simp only at H1 H2 H3 H4
  have HR := Lib.hid hr
  obtain ⟨c0, c1, c2, c3, _⟩ := hB.facts
  unfold maxLen at g1 g2 g3 g4
  generalize a.n1 = n1 at *
  generalize a.n2 = n2 at *
  generalize a.n3 = n3 at *
  generalize a.n4 = n4 at *
  clear hr hP hB hW
  by_cases h1 : x1 = 0
  rotate_left
  · have hx : (x1 != 0) = true := by simpa using h1
    have HX : Hid ((x1, -1, -1) = r) := Lib.hid (by rw [← HR.out, HE.out]; simp [h1])
    clear h1
    go_enter Tryz.func120, Tryz.ntmps120
    go_wp2_with fail
    refine (H1.out _ (Below.refl _ w)).mono ?_
    rintro e w1 ⟨rfl, b1⟩
    have B1 := b1
    have c1 := (b1.cell (World.block_lt_of_cell? _ _ c1)).trans c1
    have c2 := (b1.cell (World.block_lt_of_cell? _ _ c2)).trans c2
    have c3 := (b1.cell (World.block_lt_of_cell? _ _ c3)).trans c3
    go_wp2
    go_ret3
    exact ⟨by rw [← HX.out]; rfl, B1⟩
  have z1 : (x1 != 0) = false := by simpa using h1
  by_cases h2 : x2 = 0
  rotate_left
  · have hx : (x2 != 0) = true := by simpa using h2
    have HX : Hid ((x2, -1, -1) = r) := Lib.hid (by rw [← HR.out, HE.out]; simp [h1, h2])
    clear h1
    clear h2
    go_enter Tryz.func120, Tryz.ntmps120
    go_wp2_with fail
    refine (H1.out _ (Below.refl _ w)).mono ?_
    rintro e w1 ⟨rfl, b1⟩
    have B1 := b1
    have c1 := (b1.cell (World.block_lt_of_cell? _ _ c1)).trans c1
    have c2 := (b1.cell (World.block_lt_of_cell? _ _ c2)).trans c2
    have c3 := (b1.cell (World.block_lt_of_cell? _ _ c3)).trans c3
    go_wp2_with fail
    refine (H2.out _ B1).mono ?_
    rintro e w2 ⟨rfl, b2⟩
    have B2 := belowThen B1 b2
    have c2 := (b2.cell (World.block_lt_of_cell? _ _ c2)).trans c2
    have c3 := (b2.cell (World.block_lt_of_cell? _ _ c3)).trans c3
    go_wp2
    go_ret3
    exact ⟨by rw [← HX.out]; rfl, B2⟩
  have z2 : (x2 != 0) = false := by simpa using h2
  by_cases h3 : x3 = 0
  rotate_left
  · have hx : (x3 != 0) = true := by simpa using h3
    have HX : Hid ((x3, -1, -1) = r) := Lib.hid (by rw [← HR.out, HE.out]; simp [h1, h2, h3])
    clear h1 h2
    clear h3
    go_enter Tryz.func120, Tryz.ntmps120
    go_wp2_with fail
    refine (H1.out _ (Below.refl _ w)).mono ?_
    rintro e w1 ⟨rfl, b1⟩
    have B1 := b1
    have c1 := (b1.cell (World.block_lt_of_cell? _ _ c1)).trans c1
    have c2 := (b1.cell (World.block_lt_of_cell? _ _ c2)).trans c2
    have c3 := (b1.cell (World.block_lt_of_cell? _ _ c3)).trans c3
    go_wp2_with fail
    refine (H2.out _ B1).mono ?_
    rintro e w2 ⟨rfl, b2⟩
    have B2 := belowThen B1 b2
    have c2 := (b2.cell (World.block_lt_of_cell? _ _ c2)).trans c2
    have c3 := (b2.cell (World.block_lt_of_cell? _ _ c3)).trans c3
    go_wp2_with fail
    refine (H3.out _ B2).mono ?_
    rintro e w3 ⟨rfl, b3⟩
    have B3 := belowThen B2 b3
    have c3 := (b3.cell (World.block_lt_of_cell? _ _ c3)).trans c3
    go_wp2
    go_ret3
    exact ⟨by rw [← HX.out]; rfl, B3⟩
  have z3 : (x3 != 0) = false := by simpa using h3
  have HX : Hid ((x4, y4, -1) = r) := Lib.hid (by rw [← HR.out, HE.out]; simp [h1, h2, h3])
  clear h1 h2 h3
  go_enter Tryz.func120, Tryz.ntmps120
  go_wp2_with fail
  refine (H1.out _ (Below.refl _ w)).mono ?_
  rintro e w1 ⟨rfl, b1⟩
  have B1 := b1
  have c1 := (b1.cell (World.block_lt_of_cell? _ _ c1)).trans c1
  have c2 := (b1.cell (World.block_lt_of_cell? _ _ c2)).trans c2
  have c3 := (b1.cell (World.block_lt_of_cell? _ _ c3)).trans c3
  go_wp2_with fail
  refine (H2.out _ B1).mono ?_
  rintro e w2 ⟨rfl, b2⟩
  have B2 := belowThen B1 b2
  have c2 := (b2.cell (World.block_lt_of_cell? _ _ c2)).trans c2
  have c3 := (b2.cell (World.block_lt_of_cell? _ _ c3)).trans c3
  go_wp2_with fail
  refine (H3.out _ B2).mono ?_
  rintro e w3 ⟨rfl, b3⟩
  have B3 := belowThen B2 b3
  have c3 := (b3.cell (World.block_lt_of_cell? _ _ c3)).trans c3
  go_wp2_with fail
  refine (H4.out _ B3).mono ?_
  rintro e w4 ⟨rfl, b4⟩
  have B4 := belowThen B3 b4
  go_wp2
  go_ret3
  exact ⟨by rw [← HX.out]; rfl, B4⟩
end Go.Proofs.YtpkagpobobmnfaaGreatDoor

namespace Go.Proofs.YtpkagpobobmnfaaGreatDoor
open Go Go.RowKit

/-- How many objects an operation names, by the lengths alone. -/
def objL (n1 n2 n3 n4 : Nat) (op : Int) : Option Nat :=
  if op = 8 ∨ op = 9 ∨ op = 10 ∨ op = 11 ∨ op = 12 ∨ op = 14 then some n1
  else if op = 15 ∨ op = 16 ∨ op = 17 then some n2
  else if op = 18 ∨ op = 19 ∨ op = 20 then some n3
  else if op = 21 then some n4 else none
theorem objEq {w : World} {a : PgA} {p : Prg} (h : PgW w a p) (op : Int) : p.objN op = objL a.n1 a.n2 a.n3 a.n4 op := by
  unfold Prg.objN objL
  rw [h.l1, h.l2, h.l3, h.l4]
def objR : Option Nat → Ending
  | some c => .returned (.tuple #[.int .i64 (c : Int), .bool true])
  | none => .returned (.tuple #[.int .i64 0, .bool false])
set_option maxHeartbeats 2000000 in
theorem iObjects (a : PgA) (op : Int) (w : World) (g1 : a.n1 ≤ maxLen) (g2 : a.n2 ≤ maxLen) (g3 : a.n3 ≤ maxLen) (g4 : a.n4 ≤ maxLen) : Calls Tryz.prog 154 #[a.val, .int .i64 op] w fun e w' => e = objR (objL a.n1 a.n2 a.n3 a.n4 op) ∧ Below w.heap.size w w' := by
  obtain ⟨A1, n1, c1, A2, n2, c2, A3, n3, c3, A4, n4, c4, A5, n5, c5⟩ := a
  simp only [PgA.val, PgA.fs] at *
  unfold maxLen at g1 g2 g3 g4
  have hbw := belowAlloc w (.cells #[.slice A1 n1 c1, .slice A2 n2 c2, .slice A3 n3 c3, .slice A4 n4 c4, .slice A5 n5 c5] 43)
  by_cases h8 : op = 8
  · subst h8
    have HR := Lib.hid (show objL n1 n2 n3 n4 8 = some n1 from rfl)
    go_enter Tryz.func154, Tryz.ntmps154
    go_wp2
    go_ret2
    exact ⟨by rw [HR.out]; rfl, hbw⟩
  by_cases h9 : op = 9
  · subst h9
    have HR := Lib.hid (show objL n1 n2 n3 n4 9 = some n1 from rfl)
    go_enter Tryz.func154, Tryz.ntmps154
    go_wp2
    go_ret2
    exact ⟨by rw [HR.out]; rfl, hbw⟩
  by_cases h10 : op = 10
  · subst h10
    have HR := Lib.hid (show objL n1 n2 n3 n4 10 = some n1 from rfl)
    go_enter Tryz.func154, Tryz.ntmps154
    go_wp2
    go_ret2
    exact ⟨by rw [HR.out]; rfl, hbw⟩
  by_cases h11 : op = 11
  · subst h11
    have HR := Lib.hid (show objL n1 n2 n3 n4 11 = some n1 from rfl)
    go_enter Tryz.func154, Tryz.ntmps154
    go_wp2
    go_ret2
    exact ⟨by rw [HR.out]; rfl, hbw⟩
  by_cases h12 : op = 12
  · subst h12
    have HR := Lib.hid (show objL n1 n2 n3 n4 12 = some n1 from rfl)
    go_enter Tryz.func154, Tryz.ntmps154
    go_wp2
    go_ret2
    exact ⟨by rw [HR.out]; rfl, hbw⟩
  by_cases h14 : op = 14
  · subst h14
    have HR := Lib.hid (show objL n1 n2 n3 n4 14 = some n1 from rfl)
    go_enter Tryz.func154, Tryz.ntmps154
    go_wp2
    go_ret2
    exact ⟨by rw [HR.out]; rfl, hbw⟩
  by_cases h15 : op = 15
  · subst h15
    have HR := Lib.hid (show objL n1 n2 n3 n4 15 = some n2 from rfl)
    go_enter Tryz.func154, Tryz.ntmps154
    go_wp2
    go_ret2
    exact ⟨by rw [HR.out]; rfl, hbw⟩
  by_cases h16 : op = 16
  · subst h16
    have HR := Lib.hid (show objL n1 n2 n3 n4 16 = some n2 from rfl)
    go_enter Tryz.func154, Tryz.ntmps154
    go_wp2
    go_ret2
    exact ⟨by rw [HR.out]; rfl, hbw⟩
  by_cases h17 : op = 17
  · subst h17
    have HR := Lib.hid (show objL n1 n2 n3 n4 17 = some n2 from rfl)
    go_enter Tryz.func154, Tryz.ntmps154
    go_wp2
    go_ret2
    exact ⟨by rw [HR.out]; rfl, hbw⟩
  by_cases h18 : op = 18
  · subst h18
    have HR := Lib.hid (show objL n1 n2 n3 n4 18 = some n3 from rfl)
    go_enter Tryz.func154, Tryz.ntmps154
    go_wp2
    go_ret2
    exact ⟨by rw [HR.out]; rfl, hbw⟩
  by_cases h19 : op = 19
  · subst h19
    have HR := Lib.hid (show objL n1 n2 n3 n4 19 = some n3 from rfl)
    go_enter Tryz.func154, Tryz.ntmps154
    go_wp2
    go_ret2
    exact ⟨by rw [HR.out]; rfl, hbw⟩
  by_cases h20 : op = 20
  · subst h20
    have HR := Lib.hid (show objL n1 n2 n3 n4 20 = some n3 from rfl)
    go_enter Tryz.func154, Tryz.ntmps154
    go_wp2
    go_ret2
    exact ⟨by rw [HR.out]; rfl, hbw⟩
  by_cases h21 : op = 21
  · subst h21
    have HR := Lib.hid (show objL n1 n2 n3 n4 21 = some n4 from rfl)
    go_enter Tryz.func154, Tryz.ntmps154
    go_wp2
    go_ret2
    exact ⟨by rw [HR.out]; rfl, hbw⟩
  have HR : Hid (objL n1 n2 n3 n4 op = none) := Lib.hid (by unfold objL; simp [h8, h9, h10, h11, h12, h14, h15, h16, h17, h18, h19, h20, h21])
  have z8 : (op == 8) = false := by simpa using h8
  have z9 : (op == 9) = false := by simpa using h9
  have z10 : (op == 10) = false := by simpa using h10
  have z11 : (op == 11) = false := by simpa using h11
  have z12 : (op == 12) = false := by simpa using h12
  have z14 : (op == 14) = false := by simpa using h14
  have z15 : (op == 15) = false := by simpa using h15
  have z16 : (op == 16) = false := by simpa using h16
  have z17 : (op == 17) = false := by simpa using h17
  have z18 : (op == 18) = false := by simpa using h18
  have z19 : (op == 19) = false := by simpa using h19
  have z20 : (op == 20) = false := by simpa using h20
  have z21 : (op == 21) = false := by simpa using h21
  clear h8 h9 h10 h11 h12 h14 h15 h16 h17 h18 h19 h20 h21
  go_enter Tryz.func154, Tryz.ntmps154
  go_wp2
  go_ret2
  exact ⟨by rw [HR.out]; rfl, hbw⟩
theorem iBelowA (n : Int) (c : Nat) (x : Int) (hx : x = (c : Int)) (r : Bool) (hr : belB n c = r) (w : World) : Calls Tryz.prog 133 #[.int .i64 n, .int .i64 x] w fun e w' => e = .returned (.bool r) ∧ w = w' := by
  subst hx
  subst hr
  exact iBelow n c w
theorem retIO {a b : Int} (h : a = b) : Ending.returned (.int .i64 a) = .returned (.int .i64 b) := by rw [h]
theorem iObjSome (a : PgA) (op : Int) (c : Nat) (ho : objL a.n1 a.n2 a.n3 a.n4 op = some c) (w : World) (g1 : a.n1 ≤ maxLen) (g2 : a.n2 ≤ maxLen) (g3 : a.n3 ≤ maxLen) (g4 : a.n4 ≤ maxLen) : Calls Tryz.prog 154 #[a.val, .int .i64 op] w fun e w' => e = .returned (.tuple #[.int .i64 (c : Int), .bool true]) ∧ Below w.heap.size w w' :=
  (iObjects a op w g1 g2 g3 g4).mono fun _ _ h => ⟨h.1.trans (by rw [ho]; rfl), h.2⟩
theorem iObjNone (a : PgA) (op : Int) (ho : objL a.n1 a.n2 a.n3 a.n4 op = none) (w : World) (g1 : a.n1 ≤ maxLen) (g2 : a.n2 ≤ maxLen) (g3 : a.n3 ≤ maxLen) (g4 : a.n4 ≤ maxLen) : Calls Tryz.prog 154 #[a.val, .int .i64 op] w fun e w' => e = .returned (.tuple #[.int .i64 0, .bool false]) ∧ Below w.heap.size w w' :=
  (iObjects a op w g1 g2 g3 g4).mono fun _ _ h => ⟨h.1.trans (by rw [ho]; rfl), h.2⟩
theorem insBad {p : Prg} {len : Nat} {i : I8} (h : i.chk ≠ 0) : p.insE len i = i.chk := by unfold Prg.insE; rw [if_pos h]
theorem insObj {p : Prg} {len c : Nat} {i : I8} (h : i.chk = 0) (ho : p.objN i.op = some c) (hb : belB i.obj c = false) : p.insE len i = 11 := by
  unfold Prg.insE
  rw [if_neg (by rw [h]; simp), ho]
  simp [hb]
theorem insMid {p : Prg} {len c : Nat} {i : I8} (h : i.chk = 0) (ho : p.objN i.op = some c) (hb : belB i.obj c = true) (h18 : i.op ≠ 18) (h4 : i.op ≠ 4) (h5 : i.op ≠ 5) : p.insE len i = 0 := by
  unfold Prg.insE
  rw [if_neg (by rw [h]; simp), ho]
  simp [hb, h18, h4, h5]
theorem insWait {p : Prg} {len c : Nat} {i : I8} (h : i.chk = 0) (ho : p.objN i.op = some c) (hb : belB i.obj c = true) (h18 : i.op = 18) : p.insE len i = if belB i.n p.muts.length = false then 11 else 0 := by
  unfold Prg.insE
  rw [if_neg (by rw [h]; simp), ho]
  simp [hb, h18]
theorem insNone {p : Prg} {len : Nat} {i : I8} (h : i.chk = 0) (ho : p.objN i.op = none) (h18 : i.op ≠ 18) (h4 : i.op ≠ 4) (h5 : i.op ≠ 5) : p.insE len i = 0 := by
  unfold Prg.insE
  rw [if_neg (by rw [h]; simp), ho]
  simp [h18, h4, h5]
theorem insJump {p : Prg} {len : Nat} {i : I8} (h : i.chk = 0) (ho : p.objN i.op = none) (h4 : i.op = 4 ∨ i.op = 5) : p.insE len i = if belB i.n (len + 1) = false then 12 else 0 := by
  unfold Prg.insE
  rw [if_neg (by rw [h]; simp), ho]
  rcases h4 with h4 | h4 <;> simp [h4]
set_option maxRecDepth 100000 in
set_option maxHeartbeats 4000000 in
theorem iInstr (a : PgA) (p : Prg) (i : I8) (len : Nat) (hlen : len + 1 ≤ maxLen) (w : World) (hP : PgW w a p) (hi : i.Wf) (hT : InsT w) (hN : Nm w) : Calls Tryz.prog 131 #[a.val, i.val, .int .i64 (len : Int)] w fun e w' => e = .returned (.int .i64 (p.insE len i)) ∧ Below w.heap.size w w' := by
  have g1 : a.n1 ≤ maxLen := by have h1 := hP.vars.le; have h2 := hP.vars.max; rw [hP.l1] at h1; omega
  have g2 : a.n2 ≤ maxLen := by have h1 := hP.muts.le; have h2 := hP.muts.max; rw [hP.l2] at h1; omega
  have g3 : a.n3 ≤ maxLen := by have h1 := hP.conds.le; have h2 := hP.conds.max; rw [hP.l3] at h1; omega
  have g4 : a.n4 ≤ maxLen := by have h1 := hP.funcs.le; have h2 := hP.funcs.max; rw [hP.l4] at h1; omega
  obtain ⟨r, hr⟩ : ∃ r, p.insE len i = r := ⟨_, rfl⟩
  rw [hr]
  have HM := Lib.hid hP.l2
  have HOE := Lib.hid (objEq hP)
  have HO1 := Lib.hid (fun c op ho X => iObjSome a op c ho X g1 g2 g3 g4)
  have HO2 := Lib.hid (fun op ho X => iObjNone a op ho X g1 g2 g3 g4)
  clear hP
  obtain ⟨A1, n1, c1, A2, n2, c2, A3, n3, c3, A4, n4, c4, A5, n5, c5⟩ := a
  obtain ⟨op, ra, rb, rc, obj, n, fn, ord⟩ := i
  have HC := Lib.hid (fun X x hx hT hN => iCheckA op ra rb rc obj n fn ord x hx hi X hT hN)
  simp only [PgA.val, PgA.fs, I8.val] at *
  unfold maxLen at g1 g2 g3 g4 hlen
  obtain ⟨W, hW⟩ : ∃ W, (w.alloc (.cells #[.slice A1 n1 c1, .slice A2 n2 c2, .slice A3 n3 c3, .slice A4 n4 c4, .slice A5 n5 c5] 43)).alloc (.cells #[.int .i64 op, .int .i64 ra, .int .i64 rb, .int .i64 rc, .int .i64 obj, .int .i64 n, .int .i64 fn, .int .i64 ord] 55) = W := ⟨_, rfl⟩
  have hbW : Below w.heap.size w W := by rw [← hW]; exact (belowAlloc w _).alloc (by simp) _
  have HBP : Hid (Blk W w.heap.size 43 #[.slice A1 n1 c1, .slice A2 n2 c2, .slice A3 n3 c3, .slice A4 n4 c4, .slice A5 n5 c5]) := by rw [← hW]; exact Lib.hid ((Blk.new w _ _).alloc _)
  have HBI : Hid (Blk W (w.heap.size + 1) 55 #[.int .i64 op, .int .i64 ra, .int .i64 rb, .int .i64 rc, .int .i64 obj, .int .i64 n, .int .i64 fn, .int .i64 ord]) := by rw [← hW]; exact Lib.hid (Blk.new1 w _ _ _)
  have HTN := Lib.hid (And.intro (hT.below hbW) (hN.below hbW))
  have HW := Lib.hid hW
  have HR := Lib.hid hr
  have i0 := HBI.out.cell 0
  have i1 := HBI.out.cell 1
  have i2 := HBI.out.cell 2
  have i3 := HBI.out.cell 3
  have i4 := HBI.out.cell 4
  have i5 := HBI.out.cell 5
  have i6 := HBI.out.cell 6
  have i7 := HBI.out.cell 7
  simp only [List.getElem?_toArray, List.getElem?_cons_zero, List.getElem?_cons_succ] at i0 i1 i2 i3 i4 i5 i6 i7
  clear hW hr hT hN hi
  by_cases hx : (I8.mk8 op ra rb rc obj n fn ord).chk = 0
  rotate_left
  · obtain ⟨x, hxe⟩ : ∃ x, (I8.mk8 op ra rb rc obj n fn ord).chk = x := ⟨_, rfl⟩
    have HX : Hid (r = x) := Lib.hid (by rw [← HR.out, insBad hx, hxe])
    have hx0 : (x != 0) = true := by rw [hxe] at hx; simpa using hx
    have HXE := Lib.hid hxe
    clear hx hxe
    go_enter Tryz.func131, Tryz.ntmps131
    go_wp2_with fail
    rw [HW.out]
    refine (HC.out W _ HXE.out HTN.out.1 HTN.out.2).mono ?_
    rintro e w2 ⟨rfl, b2⟩
    have B2 := belowThen hbW b2
    go_wp2
    go_ret
    exact ⟨retIO HX.out.symm, B2⟩
  have HX0 := Lib.hid hx
  clear hx
  by_cases h18 : op = 18
  · subst h18
    have ho : objL n1 n2 n3 n4 18 = some n3 := rfl
    have hon := (HOE.out 18).trans ho
    have HO := Lib.hid (HO1.out n3 18 ho)
    clear HO1 HO2
    cases hb : belB obj n3
    · have HV := Lib.hid (iBelowA obj n3 n3 rfl false hb)
      have HX : Hid (r = 11) := Lib.hid (HR.out.symm.trans (insObj HX0.out hon hb))
      clear hb ho hon
      go_enter Tryz.func131, Tryz.ntmps131
      go_wp2_with fail
      rw [HW.out]
      refine (HC.out W _ HX0.out HTN.out.1 HTN.out.2).mono ?_
      rintro e w2 ⟨rfl, b2⟩
      have B2 := belowThen hbW b2
      have HBP := Lib.hid (HBP.out.below' b2)
      have HBI := Lib.hid (HBI.out.below' b2)
      clear i0 i1 i2 i3 i4 i5 i6 i7
      have i0 := HBI.out.cell 0
      have j0 := HBP.out.cell 0
      have j1 := HBP.out.cell 1
      have j2 := HBP.out.cell 2
      have j3 := HBP.out.cell 3
      have j4 := HBP.out.cell 4
      simp only [List.getElem?_toArray, List.getElem?_cons_zero, List.getElem?_cons_succ] at i0 j0 j1 j2 j3 j4
      go_wp2_with fail
      refine (HO.out _).mono ?_
      rintro e w3 ⟨rfl, b3⟩
      have B3 := belowThen B2 b3
      have HBP := Lib.hid (HBP.out.below' b3)
      have HBI := Lib.hid (HBI.out.below' b3)
      clear i0 j0 j1 j2 j3 j4
      have i0 := HBI.out.cell 0
      have i4 := HBI.out.cell 4
      have i5 := HBI.out.cell 5
      have j1 := HBP.out.cell 1
      simp only [List.getElem?_toArray, List.getElem?_cons_zero, List.getElem?_cons_succ] at i0 i4 i5 j1
      go_wp2_with (first | (go_at_call 133; refine (HV.out _).mono ?_; rintro e w' ⟨rfl, rfl⟩))
      go_ret
      exact ⟨retIO HX.out.symm, B3⟩
    · have HV := Lib.hid (iBelowA obj n3 n3 rfl true hb)
      have hi0 := insWait (len := len) HX0.out hon hb rfl
      rw [HM.out] at hi0
      clear hb ho hon
      cases hb2 : belB n n2
      · have HV2 := Lib.hid (iBelowA n n2 n2 rfl false hb2)
        have HX : Hid (r = 11) := Lib.hid (HR.out.symm.trans (hi0.trans (by rw [hb2]; rfl)))
        clear hb2 hi0
        go_enter Tryz.func131, Tryz.ntmps131
        go_wp2_with fail
        rw [HW.out]
        refine (HC.out W _ HX0.out HTN.out.1 HTN.out.2).mono ?_
        rintro e w2 ⟨rfl, b2⟩
        have B2 := belowThen hbW b2
        have HBP := Lib.hid (HBP.out.below' b2)
        have HBI := Lib.hid (HBI.out.below' b2)
        clear i0 i1 i2 i3 i4 i5 i6 i7
        have i0 := HBI.out.cell 0
        have j0 := HBP.out.cell 0
        have j1 := HBP.out.cell 1
        have j2 := HBP.out.cell 2
        have j3 := HBP.out.cell 3
        have j4 := HBP.out.cell 4
        simp only [List.getElem?_toArray, List.getElem?_cons_zero, List.getElem?_cons_succ] at i0 j0 j1 j2 j3 j4
        go_wp2_with fail
        refine (HO.out _).mono ?_
        rintro e w3 ⟨rfl, b3⟩
        have B3 := belowThen B2 b3
        have HBP := Lib.hid (HBP.out.below' b3)
        have HBI := Lib.hid (HBI.out.below' b3)
        clear i0 j0 j1 j2 j3 j4
        have i0 := HBI.out.cell 0
        have i4 := HBI.out.cell 4
        have i5 := HBI.out.cell 5
        have j1 := HBP.out.cell 1
        simp only [List.getElem?_toArray, List.getElem?_cons_zero, List.getElem?_cons_succ] at i0 i4 i5 j1
        go_wp2_with fail
        refine (HV.out _).mono ?_
        rintro e w' ⟨rfl, rfl⟩
        go_wp2_with fail
        refine (HV2.out _).mono ?_
        rintro e w' ⟨rfl, rfl⟩
        go_wp2
        go_ret
        exact ⟨retIO HX.out.symm, B3⟩
      · have HV2 := Lib.hid (iBelowA n n2 n2 rfl true hb2)
        have HX : Hid (r = 0) := Lib.hid (HR.out.symm.trans (hi0.trans (by rw [hb2]; rfl)))
        clear hb2 hi0
        go_enter Tryz.func131, Tryz.ntmps131
        go_wp2_with fail
        rw [HW.out]
        refine (HC.out W _ HX0.out HTN.out.1 HTN.out.2).mono ?_
        rintro e w2 ⟨rfl, b2⟩
        have B2 := belowThen hbW b2
        have HBP := Lib.hid (HBP.out.below' b2)
        have HBI := Lib.hid (HBI.out.below' b2)
        clear i0 i1 i2 i3 i4 i5 i6 i7
        have i0 := HBI.out.cell 0
        have j0 := HBP.out.cell 0
        have j1 := HBP.out.cell 1
        have j2 := HBP.out.cell 2
        have j3 := HBP.out.cell 3
        have j4 := HBP.out.cell 4
        simp only [List.getElem?_toArray, List.getElem?_cons_zero, List.getElem?_cons_succ] at i0 j0 j1 j2 j3 j4
        go_wp2_with fail
        refine (HO.out _).mono ?_
        rintro e w3 ⟨rfl, b3⟩
        have B3 := belowThen B2 b3
        have HBP := Lib.hid (HBP.out.below' b3)
        have HBI := Lib.hid (HBI.out.below' b3)
        clear i0 j0 j1 j2 j3 j4
        have i0 := HBI.out.cell 0
        have i4 := HBI.out.cell 4
        have i5 := HBI.out.cell 5
        have j1 := HBP.out.cell 1
        simp only [List.getElem?_toArray, List.getElem?_cons_zero, List.getElem?_cons_succ] at i0 i4 i5 j1
        go_wp2_with fail
        refine (HV.out _).mono ?_
        rintro e w' ⟨rfl, rfl⟩
        go_wp2_with fail
        refine (HV2.out _).mono ?_
        rintro e w' ⟨rfl, rfl⟩
        go_wp2
        go_ret
        exact ⟨retIO HX.out.symm, B3⟩
  have z18 : (op == 18) = false := by simpa using h18
  by_cases h4 : op = 4
  · subst h4
    have ho : objL n1 n2 n3 n4 4 = none := rfl
    have hon := (HOE.out 4).trans ho
    have HO := Lib.hid (HO2.out 4 ho)
    have hi0 := insJump (len := len) HX0.out hon (by simp)
    clear HO1 HO2 ho hon
    cases hb : belB n (len + 1)
    · have HV := Lib.hid (iBelowA n (len + 1) (len + 1) (by simp) false hb)
      have HX : Hid (r = 12) := Lib.hid (HR.out.symm.trans (hi0.trans (by rw [hb]; rfl)))
      clear hb hi0
      go_enter Tryz.func131, Tryz.ntmps131
      go_wp2_with fail
      rw [HW.out]
      refine (HC.out W _ HX0.out HTN.out.1 HTN.out.2).mono ?_
      rintro e w2 ⟨rfl, b2⟩
      have B2 := belowThen hbW b2
      have HBP := Lib.hid (HBP.out.below' b2)
      have HBI := Lib.hid (HBI.out.below' b2)
      clear i0 i1 i2 i3 i4 i5 i6 i7
      have i0 := HBI.out.cell 0
      have j0 := HBP.out.cell 0
      have j1 := HBP.out.cell 1
      have j2 := HBP.out.cell 2
      have j3 := HBP.out.cell 3
      have j4 := HBP.out.cell 4
      simp only [List.getElem?_toArray, List.getElem?_cons_zero, List.getElem?_cons_succ] at i0 j0 j1 j2 j3 j4
      go_wp2_with fail
      refine (HO.out _).mono ?_
      rintro e w3 ⟨rfl, b3⟩
      have B3 := belowThen B2 b3
      have HBP := Lib.hid (HBP.out.below' b3)
      have HBI := Lib.hid (HBI.out.below' b3)
      clear i0 j0 j1 j2 j3 j4
      have i0 := HBI.out.cell 0
      have i4 := HBI.out.cell 4
      have i5 := HBI.out.cell 5
      have j1 := HBP.out.cell 1
      simp only [List.getElem?_toArray, List.getElem?_cons_zero, List.getElem?_cons_succ] at i0 i4 i5 j1
      go_wp2_with (first | (go_at_call 133; refine (HV.out _).mono ?_; rintro e w' ⟨rfl, rfl⟩))
      go_ret
      exact ⟨retIO HX.out.symm, B3⟩
    · have HV := Lib.hid (iBelowA n (len + 1) (len + 1) (by simp) true hb)
      have HX : Hid (r = 0) := Lib.hid (HR.out.symm.trans (hi0.trans (by rw [hb]; rfl)))
      clear hb hi0
      go_enter Tryz.func131, Tryz.ntmps131
      go_wp2_with fail
      rw [HW.out]
      refine (HC.out W _ HX0.out HTN.out.1 HTN.out.2).mono ?_
      rintro e w2 ⟨rfl, b2⟩
      have B2 := belowThen hbW b2
      have HBP := Lib.hid (HBP.out.below' b2)
      have HBI := Lib.hid (HBI.out.below' b2)
      clear i0 i1 i2 i3 i4 i5 i6 i7
      have i0 := HBI.out.cell 0
      have j0 := HBP.out.cell 0
      have j1 := HBP.out.cell 1
      have j2 := HBP.out.cell 2
      have j3 := HBP.out.cell 3
      have j4 := HBP.out.cell 4
      simp only [List.getElem?_toArray, List.getElem?_cons_zero, List.getElem?_cons_succ] at i0 j0 j1 j2 j3 j4
      go_wp2_with fail
      refine (HO.out _).mono ?_
      rintro e w3 ⟨rfl, b3⟩
      have B3 := belowThen B2 b3
      have HBP := Lib.hid (HBP.out.below' b3)
      have HBI := Lib.hid (HBI.out.below' b3)
      clear i0 j0 j1 j2 j3 j4
      have i0 := HBI.out.cell 0
      have i4 := HBI.out.cell 4
      have i5 := HBI.out.cell 5
      have j1 := HBP.out.cell 1
      simp only [List.getElem?_toArray, List.getElem?_cons_zero, List.getElem?_cons_succ] at i0 i4 i5 j1
      go_wp2_with (first | (go_at_call 133; refine (HV.out _).mono ?_; rintro e w' ⟨rfl, rfl⟩))
      go_ret
      exact ⟨retIO HX.out.symm, B3⟩
  have z4 : (op == 4) = false := by simpa using h4
  by_cases h5 : op = 5
  · subst h5
    have ho : objL n1 n2 n3 n4 5 = none := rfl
    have hon := (HOE.out 5).trans ho
    have HO := Lib.hid (HO2.out 5 ho)
    have hi0 := insJump (len := len) HX0.out hon (by simp)
    clear HO1 HO2 ho hon
    cases hb : belB n (len + 1)
    · have HV := Lib.hid (iBelowA n (len + 1) (len + 1) (by simp) false hb)
      have HX : Hid (r = 12) := Lib.hid (HR.out.symm.trans (hi0.trans (by rw [hb]; rfl)))
      clear hb hi0
      go_enter Tryz.func131, Tryz.ntmps131
      go_wp2_with fail
      rw [HW.out]
      refine (HC.out W _ HX0.out HTN.out.1 HTN.out.2).mono ?_
      rintro e w2 ⟨rfl, b2⟩
      have B2 := belowThen hbW b2
      have HBP := Lib.hid (HBP.out.below' b2)
      have HBI := Lib.hid (HBI.out.below' b2)
      clear i0 i1 i2 i3 i4 i5 i6 i7
      have i0 := HBI.out.cell 0
      have j0 := HBP.out.cell 0
      have j1 := HBP.out.cell 1
      have j2 := HBP.out.cell 2
      have j3 := HBP.out.cell 3
      have j4 := HBP.out.cell 4
      simp only [List.getElem?_toArray, List.getElem?_cons_zero, List.getElem?_cons_succ] at i0 j0 j1 j2 j3 j4
      go_wp2_with fail
      refine (HO.out _).mono ?_
      rintro e w3 ⟨rfl, b3⟩
      have B3 := belowThen B2 b3
      have HBP := Lib.hid (HBP.out.below' b3)
      have HBI := Lib.hid (HBI.out.below' b3)
      clear i0 j0 j1 j2 j3 j4
      have i0 := HBI.out.cell 0
      have i4 := HBI.out.cell 4
      have i5 := HBI.out.cell 5
      have j1 := HBP.out.cell 1
      simp only [List.getElem?_toArray, List.getElem?_cons_zero, List.getElem?_cons_succ] at i0 i4 i5 j1
      go_wp2_with (first | (go_at_call 133; refine (HV.out _).mono ?_; rintro e w' ⟨rfl, rfl⟩))
      go_ret
      exact ⟨retIO HX.out.symm, B3⟩
    · have HV := Lib.hid (iBelowA n (len + 1) (len + 1) (by simp) true hb)
      have HX : Hid (r = 0) := Lib.hid (HR.out.symm.trans (hi0.trans (by rw [hb]; rfl)))
      clear hb hi0
      go_enter Tryz.func131, Tryz.ntmps131
      go_wp2_with fail
      rw [HW.out]
      refine (HC.out W _ HX0.out HTN.out.1 HTN.out.2).mono ?_
      rintro e w2 ⟨rfl, b2⟩
      have B2 := belowThen hbW b2
      have HBP := Lib.hid (HBP.out.below' b2)
      have HBI := Lib.hid (HBI.out.below' b2)
      clear i0 i1 i2 i3 i4 i5 i6 i7
      have i0 := HBI.out.cell 0
      have j0 := HBP.out.cell 0
      have j1 := HBP.out.cell 1
      have j2 := HBP.out.cell 2
      have j3 := HBP.out.cell 3
      have j4 := HBP.out.cell 4
      simp only [List.getElem?_toArray, List.getElem?_cons_zero, List.getElem?_cons_succ] at i0 j0 j1 j2 j3 j4
      go_wp2_with fail
      refine (HO.out _).mono ?_
      rintro e w3 ⟨rfl, b3⟩
      have B3 := belowThen B2 b3
      have HBP := Lib.hid (HBP.out.below' b3)
      have HBI := Lib.hid (HBI.out.below' b3)
      clear i0 j0 j1 j2 j3 j4
      have i0 := HBI.out.cell 0
      have i4 := HBI.out.cell 4
      have i5 := HBI.out.cell 5
      have j1 := HBP.out.cell 1
      simp only [List.getElem?_toArray, List.getElem?_cons_zero, List.getElem?_cons_succ] at i0 i4 i5 j1
      go_wp2_with (first | (go_at_call 133; refine (HV.out _).mono ?_; rintro e w' ⟨rfl, rfl⟩))
      go_ret
      exact ⟨retIO HX.out.symm, B3⟩
  have z5 : (op == 5) = false := by simpa using h5
  rcases ho : objL n1 n2 n3 n4 op with _ | c
  · have hon := (HOE.out op).trans ho
    have HO := Lib.hid (HO2.out op ho)
    have HX : Hid (r = 0) := Lib.hid (HR.out.symm.trans (insNone HX0.out hon h18 h4 h5))
    clear HO1 HO2 ho hon h18 h4 h5
    go_enter Tryz.func131, Tryz.ntmps131
    go_wp2_with fail
    rw [HW.out]
    refine (HC.out W _ HX0.out HTN.out.1 HTN.out.2).mono ?_
    rintro e w2 ⟨rfl, b2⟩
    have B2 := belowThen hbW b2
    have HBP := Lib.hid (HBP.out.below' b2)
    have HBI := Lib.hid (HBI.out.below' b2)
    clear i0 i1 i2 i3 i4 i5 i6 i7
    have i0 := HBI.out.cell 0
    have j0 := HBP.out.cell 0
    have j1 := HBP.out.cell 1
    have j2 := HBP.out.cell 2
    have j3 := HBP.out.cell 3
    have j4 := HBP.out.cell 4
    simp only [List.getElem?_toArray, List.getElem?_cons_zero, List.getElem?_cons_succ] at i0 j0 j1 j2 j3 j4
    go_wp2_with fail
    refine (HO.out _).mono ?_
    rintro e w3 ⟨rfl, b3⟩
    have B3 := belowThen B2 b3
    have HBP := Lib.hid (HBP.out.below' b3)
    have HBI := Lib.hid (HBI.out.below' b3)
    clear i0 j0 j1 j2 j3 j4
    have i0 := HBI.out.cell 0
    have i4 := HBI.out.cell 4
    have i5 := HBI.out.cell 5
    have j1 := HBP.out.cell 1
    simp only [List.getElem?_toArray, List.getElem?_cons_zero, List.getElem?_cons_succ] at i0 i4 i5 j1
    go_wp2
    go_ret
    exact ⟨retIO HX.out.symm, B3⟩
  · have hon := (HOE.out op).trans ho
    have HO := Lib.hid (HO1.out c op ho)
    cases hb : belB obj c
    · have HV := Lib.hid (iBelowA obj c c rfl false hb)
      have HX : Hid (r = 11) := Lib.hid (HR.out.symm.trans (insObj HX0.out hon hb))
      clear HO1 HO2 ho hon hb h18 h4 h5
      go_enter Tryz.func131, Tryz.ntmps131
      go_wp2_with fail
      rw [HW.out]
      refine (HC.out W _ HX0.out HTN.out.1 HTN.out.2).mono ?_
      rintro e w2 ⟨rfl, b2⟩
      have B2 := belowThen hbW b2
      have HBP := Lib.hid (HBP.out.below' b2)
      have HBI := Lib.hid (HBI.out.below' b2)
      clear i0 i1 i2 i3 i4 i5 i6 i7
      have i0 := HBI.out.cell 0
      have j0 := HBP.out.cell 0
      have j1 := HBP.out.cell 1
      have j2 := HBP.out.cell 2
      have j3 := HBP.out.cell 3
      have j4 := HBP.out.cell 4
      simp only [List.getElem?_toArray, List.getElem?_cons_zero, List.getElem?_cons_succ] at i0 j0 j1 j2 j3 j4
      go_wp2_with fail
      refine (HO.out _).mono ?_
      rintro e w3 ⟨rfl, b3⟩
      have B3 := belowThen B2 b3
      have HBP := Lib.hid (HBP.out.below' b3)
      have HBI := Lib.hid (HBI.out.below' b3)
      clear i0 j0 j1 j2 j3 j4
      have i0 := HBI.out.cell 0
      have i4 := HBI.out.cell 4
      have i5 := HBI.out.cell 5
      have j1 := HBP.out.cell 1
      simp only [List.getElem?_toArray, List.getElem?_cons_zero, List.getElem?_cons_succ] at i0 i4 i5 j1
      go_wp2_with (first | (go_at_call 133; refine (HV.out _).mono ?_; rintro e w' ⟨rfl, rfl⟩))
      go_ret
      exact ⟨retIO HX.out.symm, B3⟩
    · have HV := Lib.hid (iBelowA obj c c rfl true hb)
      have HX : Hid (r = 0) := Lib.hid (HR.out.symm.trans (insMid HX0.out hon hb h18 h4 h5))
      clear HO1 HO2 ho hon hb h18 h4 h5
      go_enter Tryz.func131, Tryz.ntmps131
      go_wp2_with fail
      rw [HW.out]
      refine (HC.out W _ HX0.out HTN.out.1 HTN.out.2).mono ?_
      rintro e w2 ⟨rfl, b2⟩
      have B2 := belowThen hbW b2
      have HBP := Lib.hid (HBP.out.below' b2)
      have HBI := Lib.hid (HBI.out.below' b2)
      clear i0 i1 i2 i3 i4 i5 i6 i7
      have i0 := HBI.out.cell 0
      have j0 := HBP.out.cell 0
      have j1 := HBP.out.cell 1
      have j2 := HBP.out.cell 2
      have j3 := HBP.out.cell 3
      have j4 := HBP.out.cell 4
      simp only [List.getElem?_toArray, List.getElem?_cons_zero, List.getElem?_cons_succ] at i0 j0 j1 j2 j3 j4
      go_wp2_with fail
      refine (HO.out _).mono ?_
      rintro e w3 ⟨rfl, b3⟩
      have B3 := belowThen B2 b3
      have HBP := Lib.hid (HBP.out.below' b3)
      have HBI := Lib.hid (HBI.out.below' b3)
      clear i0 j0 j1 j2 j3 j4
      have i0 := HBI.out.cell 0
      have i4 := HBI.out.cell 4
      have i5 := HBI.out.cell 5
      have j1 := HBP.out.cell 1
      simp only [List.getElem?_toArray, List.getElem?_cons_zero, List.getElem?_cons_succ] at i0 i4 i5 j1
      go_wp2_with (first | (go_at_call 133; refine (HV.out _).mono ?_; rintro e w' ⟨rfl, rfl⟩))
      go_ret
      exact ⟨retIO HX.out.symm, B3⟩
end Go.Proofs.YtpkagpobobmnfaaGreatDoor
