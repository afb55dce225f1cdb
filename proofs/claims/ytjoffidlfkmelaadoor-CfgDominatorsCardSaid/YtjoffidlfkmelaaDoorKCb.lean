/-
  The law CfgDominators returns true for every function, where the tables are laid.
-/
import Derived.Test.YtjoffidlfkmelaaDoorKCa
import Derived.Test.YtjoffidlfkmelaaDoorKC9
import Derived.Test.YtjoffidlfkmelaaDoorKC8
import Derived.Test.YtjoffidlfkmelaaDoorKR
namespace Go.Proofs.YtjoffidlfkmelaaDoor
open Go Go.RowKit Go.Shelf

theorem idLAt {n : Nat} {g : Nat → List Nat} {i : Nat} (hi : i < (idL n g).length) : (idL n g)[i] = idm n g i := by
  have hi' : i < n := by rw [idLLen] at hi; exact hi
  have h : (idL n g)[i]? = some (idm n g i) := by simp [idL, hi']
  rw [List.getElem?_eq_getElem hi] at h
  exact Option.some.inj h
theorem id0 {n : Nat} {g : Nat → List Nat} : idm n g 0 = -1 := by
  have key : ∀ d, dmB n g d 0 = true → d = 0 := fun d hd => Classical.byContradiction fun hne => by
    have h := dmIff.1 hd
    exact h.2 (Rc.refl (avdIff.2 ⟨(avdIff.1 h.1.left).1, fun e => hne (by omega)⟩))
  refine idNone fun d hd => ?_
  have := key d hd
  subst this
  omega
theorem idOff {n : Nat} {g : Nat → List Nat} {i : Nat} (h : rcB n g (-1) i = false) : idm n g i = -1 := idNone fun d hd => by
  have := rcIff.2 (dmIff.1 hd).1
  rw [h] at this; cases this
theorem dmOnB {n : Nat} {g : Nat → List Nat} {d i : Nat} (h : rcB n g (-1) i = true) : dmB n g d i = !rcB n g d i := by unfold dmB; rw [h]; rfl
set_option maxRecDepth 100000 in
set_option maxHeartbeats 4000000 in
theorem iAbove (n : Nat) (g : Nat → List Nat) (hn : n ≤ 64) (d i0 : Nat) (hi : rcB n g (-1) i0 = true) (A : Option Addr) (c : Nat) (w : World) (hr : Rd w A c (idL n g)) :
    Calls Tryd.prog 20 #[.slice A n c, .int .i64 (d : Int), .int .i64 (i0 : Int)] w fun e w' => e = .returned (.bool (dmB n g d i0)) ∧ w' = w := by
  have HA0 := Lib.hid (abStart (d := d) hi)
  obtain ⟨r, hr0⟩ : ∃ r, dmB n g d i0 = r := ⟨_, rfl⟩
  rw [hr0] at HA0 ⊢
  have HRD := Lib.hid hr
  have hle := hr.le
  have hmx := hr.max
  unfold maxLen at hmx
  have hle : n ≤ c := by rw [idLLen] at hle; exact hle
  clear hr hr0 hi
  go_enter Tryd.func20, Tryd.ntmps20
  go_wp2
  go_loopw [2, 7] (fun av iv X => ∃ (j : Nat) (m : Int), j ≤ n + 1 ∧ iv = .int .i64 j ∧ av = .int .i64 m ∧ Hid (AbTo n g d r j m) ∧ X = w) (fun _ iv _ => n + 2 - (intOf iv).toNat)
  case atStart => exact ⟨0, _, by omega, rfl, rfl, HA0, rfl⟩
  case round =>
    obtain ⟨j, m, hj, rfl, rfl, HAB, rfl⟩ := hrel
    by_cases hm : 0 ≤ m
    · obtain ⟨i, rfl, hin, hjn⟩ := abIn HAB.out hm
      have d1 : decide ((j : Int) ≤ (n : Int)) = true := decide_eq_true (by omega)
      have d2 : decide ((0 : Int) ≤ (i : Int)) = true := decide_eq_true (by omega)
      by_cases hd : i = d
      · have hrt := abYes HAB.out hd
        subst hrt
        have d3 : ((i : Int) == (d : Int)) = true := by simp; omega
        clear hd
        go_wp2
        go_ret
        exact ⟨rfl, rfl⟩
      · have d3 : ((i : Int) == (d : Int)) = false := by simp; omega
        have HN := Lib.hid (abNext HAB.out hd)
        obtain ⟨ad, eA, _, hc⟩ := HRD.out.one (k := i) (by rw [idLLen]; exact hin)
        rw [idLAt] at hc
        subst eA
        have hi0 : (0 : Int) ≤ i := by omega
        have hi1 : (i : Int) < n := by omega
        clear hd
        go_wp2
        go_roundw
        case rel => exact ⟨j + 1, _, by omega, by go_num, rfl, HN, by first | rfl | trivial⟩
        case measure => simp [intOf]; omega
    · have hrf := abLow HAB.out (by omega)
      subst hrf
      have d2 : decide ((0 : Int) ≤ m) = false := decide_eq_false (by omega)
      by_cases hjn : j ≤ n
      · have d1 : decide ((j : Int) ≤ (n : Int)) = true := decide_eq_true (by omega)
        go_wp2
        go_ret
        exact ⟨rfl, rfl⟩
      · have d1 : decide ((j : Int) ≤ (n : Int)) = false := decide_eq_false (by omega)
        go_wp2
        go_ret
        exact ⟨rfl, rfl⟩
theorem rowBelow {X Y : World} {g n : Nat} {E : Nat → Bool} (h : RowB X g n E) (hb : Below X.heap.size X Y) : RowB Y g n E := h.chg (Chg.ofBelow hb fun _ => True) trivial
set_option maxRecDepth 100000 in
set_option maxHeartbeats 16000000 in
theorem lawDominators (nm : ByteArray) (C : List I8) (n : Nat) (hn : C.length = n) (A : Option Addr) (c : Nat) (w : World) (h : CdW w A c C) :
    Calls Tryd.prog 6 #[fnV nm A n c] w (LawOkC w) := by
  obtain ⟨W, hW⟩ : ∃ W, w.alloc (.cells #[.string nm, .slice A n c] 24) = W := ⟨_, rfl⟩
  have hbW : Below w.heap.size w W := by rw [← hW]; exact belowAlloc w _
  have hB : Blk W w.heap.size 24 #[.string nm, .slice A n c] := by rw [← hW]; exact Blk.new w _ _
  have k0 : W.cell? ⟨w.heap.size, 0, none⟩ = some (.string nm) := hB.cell 0
  have k1 : W.cell? ⟨w.heap.size, 1, none⟩ = some (.slice A n c) := hB.cell 1
  have HK := Lib.hid (fun X (hX : Below W.heap.size W X) => (⟨(hB.below' hX).cell 0, (hB.below' hX).cell 1⟩ : X.cell? ⟨w.heap.size, 0, none⟩ = some (.string nm) ∧ X.cell? ⟨w.heap.size, 1, none⟩ = some (.slice A n c)))
  have hcd := h.below hbW
  have HEX := Lib.hid (fun X (hX : Below W.heap.size W X) => exHolds X (hcd.ld.below hX))
  have HDO := Lib.hid (fun X (hX : Below W.heap.size W X) => iDominators nm C n hn A c X (hcd.below hX))
  have HRE := Lib.hid (fun (hc : cfE C = 0) (h0 : 0 < n) (d : Int) X (hX : Below W.heap.size W X) => rReached nm C hc n hn h0 d A c X (hcd.below hX))
  have HW := Lib.hid hW
  have HBW := Lib.hid hbW
  have hle := h.rd.le
  have hmx := h.rd.max
  rw [hn] at hle
  unfold maxLen at hmx
  unfold fnV at HDO HRE ⊢
  clear h hB hW hbW hcd
  by_cases hsm : n < 1 ∨ 20 < n
  · go_enter Tryd.func6, Tryd.ntmps6
    go_wp2_with fail
    all_goals first
      | (exfalso; omega)
      | skip
    all_goals (
      rw [HW.out]
      refine (HEX.out _ (Below.refl _ _)).mono ?_
      rintro e w1 ⟨rfl, b1⟩
      go_wp2
      go_ret
      exact ⟨rfl, belowThen HBW.out b1⟩)
  have d1 : decide ((n : Int) < 1) = false := decide_eq_false (by omega)
  have d2 : decide ((20 : Int) < (n : Int)) = false := decide_eq_false (by omega)
  have h0 : 0 < n := by omega
  have h20 : n ≤ 20 := by omega
  by_cases hc : cfE C = 0
  rotate_left
  · have hne : (cfE C != 0) = true := by simpa using hc
    have e2 : doR C = [] := by unfold doR; rw [if_neg hc]
    rw [e2] at HDO
    clear HRE
    generalize cfE C = E at HDO hne
    clear hc e2
    go_enter Tryd.func6, Tryd.ntmps6
    go_wp2_with fail
    rw [HW.out]
    refine (HDO.out _ (Below.refl _ _)).mono ?_
    rintro e w1 ⟨Aa, ca, he, _, b1⟩
    have he : e = .returned (.tuple #[.slice Aa 0 ca, .int .i64 E]) := he
    subst he
    go_wp2_with fail
    refine (HEX.out _ b1).mono ?_
    rintro e w2 ⟨rfl, b2⟩
    go_wp2
    go_ret
    exact ⟨rfl, belowThen HBW.out (belowThen b1 b2)⟩
  have e2 : doR C = idL n (sc C) := by unfold doR; rw [if_pos hc, hn]
  have HRE := Lib.hid (HRE.out hc h0)
  rw [e2, hc] at HDO
  obtain ⟨g, hg⟩ : ∃ g, sc C = g := ⟨_, rfl⟩
  rw [hg] at HDO HRE
  have HDO := Lib.hid (fun X (hX : Below W.heap.size W X) => (HDO.out X hX).mono fun e w' h => toEq (idLLen (n := n) (g := g)) h)
  clear e2 hc hg hn hsm
  go_enter Tryd.func6, Tryd.ntmps6
  go_wp2_with fail
  rw [HW.out]
  refine (HDO.out _ (Below.refl _ _)).mono ?_
  rintro e w1 ⟨Aa, ca, rfl, ra, b1⟩
  have HB1 := Lib.hid b1
  have HRA1 := Lib.hid ra
  have hla : n ≤ ca := by have := ra.le; rw [idLLen] at this; exact this
  have hma := ra.max
  unfold maxLen at hma
  clear b1 ra k0 k1
  obtain ⟨k0, k1⟩ := HK.out w1 HB1.out
  go_wp2_with fail
  refine (HRE.out (-1) _ HB1.out).mono ?_
  rintro e w2 ⟨g1, n1, E1, rfl, hr1, hn1, hm1, hE1, _, b2⟩
  have HB2 := Lib.hid (belowThen HB1.out b2)
  have HRA := Lib.hid (fun X (hX : Below w2.heap.size w2 X) => Rd.below (Rd.below HRA1.out b2) hX)
  have HR1 := Lib.hid (fun X (hX : Below w2.heap.size w2 X) => rowBelow hr1 hX)
  have HE1 := Lib.hid hE1
  have ra2 := HRA.out w2 (Below.refl _ _)
  obtain ⟨ad0, eA, _, hc0⟩ := ra2.one (k := 0) (by rw [idLLen]; exact h0)
  rw [idLAt, id0] at hc0
  subst eA
  have hc0 : w2.cell? ad0 = some (.int .i64 (-1)) := hc0
  have hn0 : (0 : Int) < n := by omega
  clear b2 hr1 hE1 ra2 k0 k1
  obtain ⟨k0, k1⟩ := HK.out w2 HB2.out
  go_wp2_with fail
  clear k0 k1 hc0
  go_loopw [50] (fun v X => ∃ d : Nat, d ≤ n ∧ v = .int .i64 d ∧ Hid (Below w2.heap.size w2 X)) (fun v _ => n - (intOf v).toNat)
  case atStart => exact ⟨0, Nat.zero_le _, rfl, Lib.hid (Below.refl _ _)⟩
  case round =>
    obtain ⟨d, hd, rfl, HB⟩ := hrel
    by_cases hdn : d < n
    · have HBX := Lib.hid (belowThen HB2.out HB.out)
      obtain ⟨k0, k1⟩ := HK.out wr HBX.out
      have HC := Lib.hid (HRE.out (d : Int) wr HBX.out)
      go_wp2_with fail
      refine HC.out.mono ?_
      rintro e w4 ⟨g2, n2, E2, rfl, hr2, hn2, hm2, hE2, _, b4⟩
      have HB4 := Lib.hid (belowThen HB.out b4)
      have HR2 := Lib.hid (fun X (hX : Below w4.heap.size w4 X) => rowBelow hr2 hX)
      have HE2 := Lib.hid hE2
      clear b4 hr2 hE2 k0 k1 HC
      obtain ⟨k0, k1⟩ := HK.out w4 (belowThen HB2.out HB4.out)
      go_wp2_with fail
      clear k0 k1
      go_loopw [59] (fun v X => ∃ i : Nat, i ≤ n ∧ v = .int .i64 i ∧ Hid (Below w4.heap.size w4 X)) (fun v _ => n - (intOf v).toNat)
      case atStart => exact ⟨0, Nat.zero_le _, rfl, Lib.hid (Below.refl _ _)⟩
      case round =>
        obtain ⟨i, hi, rfl, HBi⟩ := hrel
        by_cases hin : i < n
        · have HBj := Lib.hid (belowThen HB4.out HBi.out)
          have ra := HRA.out wr HBj.out
          have HRAi := Lib.hid (fun q => (ra.drewN q : Rd (wr.drewN q) _ _ _))
          obtain ⟨ad, eA, _, hci⟩ := ra.one (k := i) (by rw [idLLen]; exact hin)
          injection eA with eA
          subst eA
          rw [idLAt] at hci
          have ce1 := (HR1.out wr HBj.out).cell (i := i) (by omega)
          have ce2 := (HR2.out wr HBi.out).cell (i := i) (by omega)
          have hlow := idLow n g i
          obtain ⟨m, hm⟩ : ∃ m, idm n g i = m := ⟨_, rfl⟩
          rw [hm] at hci hlow
          have q1 : decide (m < -1) = false := decide_eq_false (by omega)
          have q2 : decide ((n : Int) ≤ m) = false := decide_eq_false (by omega)
          have hi0 : (0 : Int) ≤ i := by omega
          have hi1 : (i : Int) < n := by omega
          have hi2 : (i : Int) < n1 := by omega
          have hi3 : (i : Int) < n2 := by omega
          have HM := Lib.hid hm
          have HF := Lib.hid (fun q => (belowDrewN HBi.out q : Below w4.heap.size w4 (wr.drewN q)))
          clear hm hlow ra
          cases hE : E1 i with
          | false =>
            have hm1 : m = -1 := by rw [← HM.out]; exact idOff (by rw [← HE1.out i hin, hE])
            subst hm1
            rw [hE] at ce1
            clear hE
            go_wp2_with fail
            try go_quiet (fail)
            all_goals go_wp2
            all_goals go_roundw
            case rel => exact ⟨i + 1, by omega, by go_num, Lib.hid (HF.out _)⟩
            case measure => simp [intOf]; omega
          | true =>
            have hon : rcB n g (-1) i = true := by rw [← HE1.out i hin, hE]
            have hab : dmB n g d i = !E2 i := by rw [HE2.out i hin, dmOnB hon]
            have HAB := Lib.hid (fun q => iAbove n g (by omega) d i hon _ _ (wr.drewN q) (HRAi.out q))
            rw [hab] at HAB
            rw [hE] at ce1
            clear hE hon hab
            cases hE2 : E2 i with
            | false =>
              rw [hE2] at ce2 HAB
              clear hE2
              go_wp2_with fail
              try go_quiet ((go_at_call 20; exact Calls.quiet_of_same (HAB.out _)))
              all_goals go_wp2
              all_goals go_roundw
              case rel => exact ⟨i + 1, by omega, by go_num, Lib.hid (HF.out _)⟩
              case measure => simp [intOf]; omega
            | true =>
              rw [hE2] at ce2 HAB
              clear hE2
              go_wp2_with fail
              try go_quiet ((go_at_call 20; exact Calls.quiet_of_same (HAB.out _)))
              all_goals go_wp2
              all_goals go_roundw
              case rel => exact ⟨i + 1, by omega, by go_num, Lib.hid (HF.out _)⟩
              case measure => simp [intOf]; omega
        · obtain rfl : i = n := by omega
          have HF := Lib.hid (belowThen HB4.out HBi.out)
          go_wp2
          go_roundw
          case rel => exact ⟨d + 1, by omega, by go_num, HF⟩
          case measure => simp [intOf]; omega
    · obtain rfl : d = n := by omega
      have HBX := Lib.hid (belowThen HB2.out HB.out)
      go_wp2_with fail
      refine (HEX.out _ HBX.out).mono ?_
      rintro e w9 ⟨rfl, b9⟩
      go_wp2
      go_ret
      exact ⟨rfl, belowThen HBW.out (belowThen HBX.out b9)⟩
end Go.Proofs.YtjoffidlfkmelaaDoor

namespace Go.Proofs.YtjoffidlfkmelaaDoor
open Go Go.RowKit Go.Shelf

theorem addZero9 (a : Addr) : a.add 0 = a := rfl
theorem rIntersectN (l m : List Int) (n k : Nat) (hn : l.length = n) (hk : m.length = k) (r : List Int) (hr : int' l m = r) (q : Nat) (hq : r.length = q) (hs : n ≤ 30000) (A B : Option Addr) (c d : Nat) (w : World) (ha : Rd w A c l) (hb : Rd w B d m) :
    Calls Tryd.prog 21 #[.slice A n c, .slice B k d] w fun e w' => ∃ A' c', e = .returned (.slice A' q c') ∧ Below w.heap.size w w' := by
  subst hn; subst hk; subst hq
  exact (rIntersect l m r hr hs A B c d w ha hb).mono fun e w' ⟨A', c', he, _, hb⟩ => ⟨A', c', he, hb⟩
theorem rSubsetN9 (l m : List Int) (n k : Nat) (hn : l.length = n) (hk : m.length = k) (r : Bool) (hr : subB l m = r) (A B : Option Addr) (c d : Nat) (w : World) (ha : Rd w A c l) (hb : Rd w B d m) :
    Calls Tryd.prog 22 #[.slice A n c, .slice B k d] w fun e w' => e = .returned (.bool r) ∧ w = w' := by
  subst hn; subst hk
  exact rSubset l m r hr A B c d w ha hb
set_option maxRecDepth 100000 in
set_option maxHeartbeats 16000000 in
theorem lawHeaders (nm : ByteArray) (C : List I8) (n : Nat) (hn : C.length = n) (A : Option Addr) (c : Nat) (w : World) (h : CdW w A c C) :
    Calls Tryd.prog 7 #[fnV nm A n c] w (LawOkC w) := by
  obtain ⟨W, hW⟩ : ∃ W, w.alloc (.cells #[.string nm, .slice A n c] 24) = W := ⟨_, rfl⟩
  have hbW : Below w.heap.size w W := by rw [← hW]; exact belowAlloc w _
  have hB : Blk W w.heap.size 24 #[.string nm, .slice A n c] := by rw [← hW]; exact Blk.new w _ _
  have k0 : W.cell? ⟨w.heap.size, 0, none⟩ = some (.string nm) := hB.cell 0
  have k1 : W.cell? ⟨w.heap.size, 1, none⟩ = some (.slice A n c) := hB.cell 1
  have HK := Lib.hid (fun X (hX : Below W.heap.size W X) => (⟨(hB.below' hX).cell 0, (hB.below' hX).cell 1⟩ : X.cell? ⟨w.heap.size, 0, none⟩ = some (.string nm) ∧ X.cell? ⟨w.heap.size, 1, none⟩ = some (.slice A n c)))
  have hcd := h.below hbW
  have HEX := Lib.hid (fun X (hX : Below W.heap.size W X) => exHolds X (hcd.ld.below hX))
  have HLO := Lib.hid (fun X (hX : Below W.heap.size W X) => iLoops nm C n hn A c X (hcd.below hX))
  have HDO := Lib.hid (fun X (hX : Below W.heap.size W X) => iDominators nm C n hn A c X (hcd.below hX))
  have HW := Lib.hid hW
  have HBW := Lib.hid hbW
  have hle := h.rd.le
  have hmx := h.rd.max
  rw [hn] at hle
  unfold maxLen at hmx
  unfold fnV at HDO HLO ⊢
  clear h hB hW hbW hcd
  by_cases hsm : n < 1 ∨ 20 < n
  · go_enter Tryd.func7, Tryd.ntmps7
    go_wp2_with fail
    all_goals first
      | (exfalso; omega)
      | skip
    all_goals (
      rw [HW.out]
      refine (HEX.out _ (Below.refl _ _)).mono ?_
      rintro e w1 ⟨rfl, b1⟩
      go_wp2
      go_ret
      exact ⟨rfl, belowThen HBW.out b1⟩)
  have d1 : decide ((n : Int) < 1) = false := decide_eq_false (by omega)
  have d2 : decide ((20 : Int) < (n : Int)) = false := decide_eq_false (by omega)
  have h0 : 0 < n := by omega
  have h20 : n ≤ 20 := by omega
  by_cases hc : cfE C = 0
  rotate_left
  · have hne : (cfE C != 0) = true := by simpa using hc
    have e1 : loR C = [] := by unfold loR; rw [if_neg hc]
    have e2 : doR C = [] := by unfold doR; rw [if_neg hc]
    rw [e1] at HLO
    rw [e2] at HDO
    generalize cfE C = E at HDO HLO hne
    have hee : (E == E) = true := by simp
    clear hc e1 e2
    go_enter Tryd.func7, Tryd.ntmps7
    go_wp2_with fail
    rw [HW.out]
    refine (HLO.out _ (Below.refl _ _)).mono ?_
    rintro e w1 ⟨Aa, ca, he, _, b1⟩
    have he : e = .returned (.tuple #[.slice Aa 0 ca, .int .i64 E]) := he
    subst he
    clear k0 k1
    obtain ⟨k0, k1⟩ := HK.out w1 b1
    go_wp2_with fail
    refine (HDO.out _ b1).mono ?_
    rintro e w2 ⟨Ab, cb, he, _, b2⟩
    have he : e = .returned (.tuple #[.slice Ab 0 cb, .int .i64 E]) := he
    subst he
    have b3 := belowThen b1 b2
    go_wp2_with fail
    refine (HEX.out _ b3).mono ?_
    rintro e w3 ⟨rfl, b4⟩
    go_wp2
    go_ret
    exact ⟨rfl, belowThen HBW.out (belowThen b3 b4)⟩
  have e1 : loR C = lpP n (sc C) n := by unfold loR; rw [if_pos hc, hn]
  have e2 : doR C = idL n (sc C) := by unfold doR; rw [if_pos hc, hn]
  rw [e1, hc] at HLO
  rw [e2, hc] at HDO
  obtain ⟨g, hg⟩ : ∃ g, sc C = g := ⟨_, rfl⟩
  rw [hg] at HDO HLO
  have HDO := Lib.hid (fun X (hX : Below W.heap.size W X) => (HDO.out X hX).mono fun e w' h => toEq (idLLen (n := n) (g := g)) h)
  obtain ⟨p, hp⟩ : ∃ p, (lpP n g n).length = p := ⟨_, rfl⟩
  have HLO := Lib.hid (fun X (hX : Below W.heap.size W X) => (HLO.out X hX).mono fun e w' h => toQq hp h)
  have HP := Lib.hid hp
  clear e1 e2 hc hg hn hsm hp
  go_enter Tryd.func7, Tryd.ntmps7
  go_wp2_with fail
  rw [HW.out]
  refine (HLO.out _ (Below.refl _ _)).mono ?_
  rintro e w1 ⟨Al, cl, rfl, rl, b1⟩
  have HB1 := Lib.hid b1
  have HRL1 := Lib.hid rl
  clear b1 rl k0 k1
  obtain ⟨k0, k1⟩ := HK.out w1 HB1.out
  go_wp2_with fail
  refine (HDO.out _ HB1.out).mono ?_
  rintro e w2 ⟨Ad, cd, rfl, rd, b2⟩
  have HB2 := Lib.hid (belowThen HB1.out b2)
  have HRL := Lib.hid (fun X (hX : Below w2.heap.size w2 X) => (HRL1.out.below b2).below hX)
  have HRD := Lib.hid (fun X (hX : Below w2.heap.size w2 X) => Rd.below rd hX)
  have hll : p ≤ cl := by have := HRL1.out.le; rw [HP.out] at this; exact this
  have hml := HRL1.out.max
  unfold maxLen at hml
  clear b2 rd k0 k1
  go_wp2_with fail
  go_loopw [54] (fun v X => ∃ i : Nat, i ≤ p ∧ v = .int .i64 i ∧ Hid (Below w2.heap.size w2 X)) (fun v _ => p - (intOf v).toNat)
  case atStart => exact ⟨0, Nat.zero_le _, rfl, Lib.hid (Below.refl _ _)⟩
  case round =>
    obtain ⟨i, hi, rfl, HB⟩ := hrel
    by_cases hip : i < p
    · have hil : i < (lpP n g n).length := by rw [HP.out]; exact hip
      obtain ⟨ad, Aa, ca, eA, hcc, hra⟩ := (HRL.out wr HB.out).one hil
      subst eA
      obtain ⟨h, eh, hb, _⟩ := lpAt hil
      have HPR := Lib.hid (fun k (hk : k < i) => lpPair (i := i) (k := k) (by omega) hil (by omega))
      obtain ⟨L, hL⟩ : ∃ L, (lpP n g n)[i] = L := ⟨_, rfl⟩
      rw [hL] at hcc hra eh HPR
      have hpos : 0 < L.length := by rw [eh]; exact Nat.succ_pos _
      have hhd : L[0]? = some (h : Int) := by rw [eh]; rfl
      have HIN := Lib.hid (fun (k : Nat) (hk : k < L.length) => (show ∃ y : Nat, L[k] = (y : Int) ∧ y < n ∧ rcB n g (-1) y = true ∧ dmB n g h y = true from by
        have hm : L[k] ∈ lpL n g h := eh ▸ List.getElem_mem hk
        obtain ⟨y, e, hy⟩ := lpLMem.1 hm
        have hd := inDom hb hy
        exact ⟨y, e, (dmLt hd).2, rcIff.2 (dmIff.1 hd).1, hd⟩))
      have hqa : L.length ≤ 30000 := by
        rw [eh]
        unfold lpL
        rw [List.length_cons, List.length_map]
        have := List.length_filter_le (bdB n g h) (List.range n)
        rw [List.length_range] at this
        omega
      have HH0 := Lib.hid (fun X (hX : Rd X Aa ca L) => (by
        obtain ⟨a0, e0, _, hc0⟩ := hX.one hpos
        have e1 : L[0] = (h : Int) := by
          rw [List.getElem?_eq_getElem hpos] at hhd
          exact Option.some.inj hhd
        rw [e1] at hc0
        exact ⟨a0, e0, hc0⟩ : ∃ a0, Aa = some a0 ∧ X.cell? (a0.add 0) = some (.int .i64 (h : Int))))
      obtain ⟨q, hq⟩ : ∃ q, L.length = q := ⟨_, rfl⟩
      rw [hq] at hcc hpos hqa
      have HRA := Lib.hid (fun X (hX : Below wr.heap.size wr X) => Rd.below hra hX)
      have hlea := hra.le
      have hmxa := hra.max
      rw [hq] at hlea
      unfold maxLen at hmxa
      have HQ := Lib.hid hq
      have hi0 : (0 : Int) ≤ i := by omega
      have hi1 : (i : Int) < p := by omega
      have hq0 : ((q : Int) == 0) = false := by simp; omega
      have HL := Lib.hid hL
      rename World => Y0
      clear hhd hra hq hb eh hL
      go_wp2_with fail
      clear hcc
      go_loopw [64] (fun v X => ∃ j : Nat, j ≤ q ∧ v = .int .i64 j ∧ Hid (Below Y0.heap.size Y0 X)) (fun v _ => q - (intOf v).toNat)
      case atStart => exact ⟨0, Nat.zero_le _, rfl, Lib.hid (Below.refl _ _)⟩
      case round =>
        obtain ⟨j, hj, rfl, HBj⟩ := hrel
        by_cases hjq : j < q
        · have hjl : j < L.length := by rw [HQ.out]; exact hjq
          have hra := HRA.out wr HBj.out
          obtain ⟨y, hy, hyn, hon, hdm⟩ := HIN.out j hjl
          obtain ⟨a1, e1, _, hcj⟩ := hra.one hjl
          rw [hy] at hcj
          obtain ⟨a0, e0, hc0⟩ := HH0.out wr hra
          rw [e1] at e0
          injection e0 with e0
          subst e0
          subst e1
          rw [addZero9] at hc0
          have HAB := Lib.hid (iAbove n g (by omega) h y hon Ad cd wr (HRD.out wr (belowThen HB.out HBj.out)))
          rw [hdm] at HAB
          have q1 : decide ((y : Int) < 0) = false := decide_eq_false (by omega)
          have q2 : decide ((n : Int) ≤ (y : Int)) = false := decide_eq_false (by omega)
          have hj0 : (0 : Int) ≤ j := by omega
          have hj1 : (j : Int) < q := by omega
          have hqq : (0 : Int) < q := by omega
          clear hy hra hon hdm
          go_wp2_with fail
          refine HAB.out.mono ?_
          rintro e w6 ⟨rfl, rfl⟩
          go_wp2
          go_roundw
          case rel => exact ⟨j + 1, by omega, by go_num, HBj⟩
          case measure => simp [intOf]; omega
        · obtain rfl : j = q := by omega
          go_wp2_with fail
          rename World => Y1
          go_loopw [90] (fun v X => ∃ k : Nat, k ≤ i ∧ v = .int .i64 k ∧ Hid (Below Y1.heap.size Y1 X)) (fun v _ => i - (intOf v).toNat)
          case atStart => exact ⟨0, Nat.zero_le _, rfl, Lib.hid (Below.refl _ _)⟩
          case round =>
            obtain ⟨k, hk, rfl, HBk⟩ := hrel
            by_cases hki : k < i
            · have HBa := Lib.hid (belowThen HBj.out HBk.out)
              have HBb := Lib.hid (belowThen HB.out HBa.out)
              have hkl : k < (lpP n g n).length := by rw [HP.out]; omega
              obtain ⟨ad2, Ab, cb, eA, hcb, hrb⟩ := (HRL.out wr HBb.out).one hkl
              injection eA with eA
              subst eA
              have HPK := Lib.hid (HPR.out k hki)
              obtain ⟨M, hM⟩ : ∃ M, (lpP n g n)[k] = M := ⟨_, rfl⟩
              rw [hM] at hcb hrb HPK
              obtain ⟨qb, hqb⟩ : ∃ qb, M.length = qb := ⟨_, rfl⟩
              rw [hqb] at hcb
              have hleb := hrb.le
              have hmxb := hrb.max
              rw [hqb] at hleb
              unfold maxLen at hmxb
              have HRB := Lib.hid (fun X (hX : Below wr.heap.size wr X) => Rd.below hrb hX)
              have HRA2 := Lib.hid (fun X (hX : Below wr.heap.size wr X) => Rd.below (HRA.out wr HBa.out) hX)
              obtain ⟨r, hr⟩ : ∃ r, int' L M = r := ⟨_, rfl⟩
              obtain ⟨qr, hqr⟩ : ∃ qr, r.length = qr := ⟨_, rfl⟩
              have HC := Lib.hid (rIntersectN L M j qb HQ.out hqb r hr qr hqr hqa Aa Ab ca cb wr (HRA.out wr HBa.out) hrb)
              obtain ⟨s1, hs1⟩ : ∃ s1, subB L M = s1 := ⟨_, rfl⟩
              obtain ⟨s2, hs2⟩ : ∃ s2, subB M L = s2 := ⟨_, rfl⟩
              have HS1 := Lib.hid (fun X (hX : Below wr.heap.size wr X) => rSubsetN9 L M j qb HQ.out hqb s1 hs1 Aa Ab ca cb X (HRA2.out X hX) (HRB.out X hX))
              have HS2 := Lib.hid (fun X (hX : Below wr.heap.size wr X) => rSubsetN9 M L qb j hqb HQ.out s2 hs2 Ab Aa cb ca X (HRB.out X hX) (HRA2.out X hX))
              have hor : qr = 0 ∨ s1 = true ∨ s2 = true := by
                rcases HPK.out with h | h | h
                · left; rw [← hqr, ← hr, h]; rfl
                · right; left; rw [← hs1, h]
                · right; right; rw [← hs2, h]
              have hk0 : (0 : Int) ≤ k := by omega
              have hk1 : (k : Int) < i := by omega
              clear hrb hM hqb hr hqr hs1 hs2
              go_wp2_with fail
              refine HC.out.mono ?_
              rintro e w7 ⟨Ar, cr, rfl, b7⟩
              have HF7 := Lib.hid (belowThen HBk.out b7)
              have HS1 := Lib.hid (HS1.out w7 b7)
              have HS2 := Lib.hid (HS2.out w7 b7)
              clear b7
              by_cases hqr0 : qr = 0
              · subst hqr0
                go_wp2
                go_roundw
                case rel => exact ⟨k + 1, by omega, by go_num, HF7⟩
                case measure => simp [intOf]; omega
              · have q3 : decide ((0 : Int) < (qr : Int)) = true := decide_eq_true (by omega)
                cases s1 with
                | true =>
                  go_wp2_with fail
                  all_goals first
                    | (exfalso; omega)
                    | skip
                  refine HS1.out.mono ?_
                  rintro e w8 ⟨rfl, rfl⟩
                  go_wp2
                  go_roundw
                  case rel => exact ⟨k + 1, by omega, by go_num, HF7⟩
                  case measure => simp [intOf]; omega
                | false =>
                  have hs2 : s2 = true := by
                    rcases hor with h | h | h
                    · exact absurd h hqr0
                    · cases h
                    · exact h
                  subst hs2
                  go_wp2_with fail
                  all_goals first
                    | (exfalso; omega)
                    | skip
                  refine HS1.out.mono ?_
                  rintro e w8 ⟨rfl, rfl⟩
                  go_wp2_with fail
                  refine HS2.out.mono ?_
                  rintro e w9 ⟨rfl, rfl⟩
                  go_wp2
                  go_roundw
                  case rel => exact ⟨k + 1, by omega, by go_num, HF7⟩
                  case measure => simp [intOf]; omega
            · obtain rfl : k = i := by omega
              have HF := Lib.hid (belowThen HB.out (belowThen HBj.out HBk.out))
              go_wp2
              go_roundw
              case rel => exact ⟨k + 1, by omega, by go_num, HF⟩
              case measure => simp [intOf]; omega
    · obtain rfl : i = p := by omega
      have HBX := Lib.hid (belowThen HB2.out HB.out)
      go_wp2_with fail
      refine (HEX.out _ HBX.out).mono ?_
      rintro e w9 ⟨rfl, b9⟩
      go_wp2
      go_ret
      exact ⟨rfl, belowThen HBW.out (belowThen HBX.out b9)⟩
end Go.Proofs.YtjoffidlfkmelaaDoor
