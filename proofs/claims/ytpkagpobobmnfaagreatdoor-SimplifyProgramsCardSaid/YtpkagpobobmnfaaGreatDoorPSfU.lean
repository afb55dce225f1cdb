/-
  The specification's Check, final and Thread.
-/
import Derived.Test.YtpkagpobobmnfaaGreatDoorPSh
import Derived.Test.YtpkagpobobmnfaaGreatDoorPCt
namespace Go.Proofs.YtpkagpobobmnfaaGreatDoor
open Go Go.RowKit Go.Maps

theorem rChk15 (nm : ByteArray) (C : List I8) (n : Nat) (hn : C.length = n) (A : Option Addr) (c : Nat) (w : World) (h : CdW w A c C) :
    Calls Tryz.prog 136 #[fnV nm A n c] w fun e w' => e = .returned (.int .i64 (cfE C)) ∧ Below w.heap.size w w' := by
  obtain ⟨W, hW⟩ : ∃ W, w.alloc (.cells #[.string nm, .slice A n c] 24) = W := ⟨_, rfl⟩
  have hbW : Below w.heap.size w W := by rw [← hW]; exact belowAlloc w _
  have hB : Blk W w.heap.size 24 #[.string nm, .slice A n c] := by rw [← hW]; exact Blk.new w _ _
  have k0 : W.cell? ⟨w.heap.size, 0, none⟩ = some (.string nm) := hB.cell 0
  have k1 : W.cell? ⟨w.heap.size, 1, none⟩ = some (.slice A n c) := hB.cell 1
  have HC := Lib.hid (rCk12 nm C n hn A c W (h.below hbW))
  have HW := Lib.hid hW
  have HBW := Lib.hid hbW
  unfold fnV at HC ⊢
  generalize cfE C = er at HC ⊢
  clear h hB hW hbW hn
  go_enter Tryz.func136, Tryz.ntmps136
  go_wp2_with fail
  rw [HW.out]
  go_wp2_with fail
  refine HC.out.mono ?_
  rintro e w1 ⟨rfl, b1⟩
  go_wp2
  go_ret
  exact ⟨rfl, belowThen HBW.out b1⟩
set_option maxRecDepth 100000 in
set_option maxHeartbeats 4000000 in
theorem rFinal15 (nm : ByteArray) (C : List I8) (hok : CfOk C) (n : Nat) (hn : C.length = n) (A : Option Addr) (c : Nat) (w : World) (hr : RdE 8 EI w A c C) (t : Nat) (htn : t ≤ n) :
    Calls Tryz.prog 140 #[fnV nm A n c, .int .i64 (t : Int)] w fun e w' => e = .returned (.int .i64 ((fin C t : Nat) : Int)) ∧ Below w.heap.size w w' := by
  obtain ⟨W, hW⟩ : ∃ W, w.alloc (.cells #[.string nm, .slice A n c] 24) = W := ⟨_, rfl⟩
  have hbW : Below w.heap.size w W := by rw [← hW]; exact belowAlloc w _
  have hB : Blk W w.heap.size 24 #[.string nm, .slice A n c] := by rw [← hW]; exact Blk.new w _ _
  have HK := Lib.hid (fun X (hX : Below W.heap.size W X) => (hB.below' hX).cell 1)
  have k1 : W.cell? ⟨w.heap.size, 1, none⟩ = some (.slice A n c) := hB.cell 1
  have HRD := Lib.hid (fun X (hX : Below W.heap.size W X) => (hr.below stabI hbW).below stabI hX)
  obtain ⟨r, hre⟩ : ∃ r, fin C t = r := ⟨_, rfl⟩
  have HY := Lib.hid (fun j u (h1 : ptJ C t j = some u) (h2 : nxJ C u = none) => ((finYes ⟨j, h1, h2⟩).symm.trans hre : u = r))
  have HNO := Lib.hid (fun u v (h1 : ptJ C t C.length = some u) (h2 : nxJ C u = some v) => ((finLong h1 (Nat.le_refl _) h2).symm.trans hre : t = r))
  have HT := Lib.hid (fun u (hu : u < C.length) (h4 : C[u].op = 4) => hok.tgt _ (List.getElem_mem hu) (jmp4 h4))
  have HN := Lib.hid hn
  have h64 : n ≤ 64 := by have := hok.len; omega
  have hle := hr.le
  have hmx := hr.max
  rw [hn] at hle
  unfold maxLen at hmx
  have HW := Lib.hid hW
  have HBW := Lib.hid hbW
  rw [hre]
  unfold fnV
  clear hre hr hok hW hbW hB
  go_enter Tryz.func140, Tryz.ntmps140
  go_wp2_with fail
  rw [HW.out]
  go_wp2_with fail
  go_loopg [5, 6] (n + 1) (fun g u i X => ∃ j z : Nat, j + g = n + 1 ∧ i = .int .i64 j ∧ u = .int .i64 (z : Int) ∧ z ≤ n ∧ Hid (ptJ C t j = some z) ∧ Below W.heap.size W X)
  case atStart => exact ⟨0, t, by omega, rfl, rfl, htn, Lib.hid rfl, Below.refl _ _⟩
  case round =>
    obtain ⟨j, z, hj, rfl, rfl, hz, HP, hb⟩ := hrel
    clear k1
    have k1 := HK.out wr hb
    cases gk with
    | zero =>
      have hjn : j = n + 1 := by omega
      subst hjn
      have hjz : ¬ (((n + 1 : Nat) : Int) ≤ n) := by omega
      have HX := Lib.hid (show t = r by
        have hp := HP.out
        obtain ⟨u, hu⟩ := ptLess (show n ≤ n + 1 by omega) ⟨z, hp⟩
        rw [ptS hu] at hp
        rw [← HN.out] at hu
        exact HNO.out u z hu hp)
      go_wp2
      all_goals first
        | (exfalso; omega)
        | (go_ret; exact ⟨retN HX.out, belowThen HBW.out hb⟩)
    | succ g2 =>
      have hj1 : (j : Int) ≤ n := by omega
      by_cases hzn : z = n
      · subst hzn
        have HX := Lib.hid (HY.out j z HP.out (nxOut (by rw [HN.out]; exact Nat.le_refl _)))
        go_wp2
        all_goals first
          | (exfalso; omega)
          | (go_ret; exact ⟨retN HX.out, belowThen HBW.out hb⟩)
      · have hzl : z < C.length := by rw [HN.out]; omega
        obtain ⟨q, off, hA, _, i0, i1, i2, i3, i4, i5, i6, i7⟩ := (HRD.out wr hb).one hzl
        have hA : A = _ := hA
        subst hA
        have hz0 : (0 : Int) ≤ z := by omega
        have hz1 : (z : Int) < n := by omega
        have ze : ((z : Int) == (n : Int)) = false := by simp; omega
        have HNX := Lib.hid (nxAtF hzl)
        have HTT := Lib.hid (HT.out z hzl)
        obtain ⟨ii, hii⟩ : ∃ x, C[z] = x := ⟨_, rfl⟩
        rw [hii] at i0 i5 HNX HTT
        clear hii i1 i2 i3 i4 i6 i7 hzn
        obtain ⟨op, ra, rb, rc, obj, m, fn, ord⟩ := ii
        simp only at i0 i5 HNX HTT
        by_cases h4 : op = 4
        · subst h4
          have hm := HTT.out rfl
          have HP2 : Hid (ptJ C t (j + 1) = some m.toNat) := Lib.hid (by rw [ptS HP.out, HNX.out, if_pos rfl])
          have hmn : m.toNat ≤ n := by rw [HN.out] at hm; omega
          have em : m = ((m.toNat : Nat) : Int) := by omega
          generalize m.toNat = m2 at HP2 hmn em
          subst em
          clear hm
          go_wp2
          all_goals first
            | (exfalso; omega)
            | skip
          go_roundg g2
          case measure => omega
          case rel => exact ⟨j + 1, m2, by omega, by go_num, rfl, hmn, HP2, hb⟩
        · have z4 : (op != 4) = true := by simpa using h4
          have HX := Lib.hid (HY.out j z HP.out (by rw [HNX.out, if_neg h4]))
          clear h4
          go_wp2
          all_goals first
            | (exfalso; omega)
            | (go_ret; exact ⟨retN HX.out, belowThen HBW.out hb⟩)
set_option maxRecDepth 100000 in
set_option maxHeartbeats 8000000 in
theorem rThread15 (nm : ByteArray) (C : List I8) (n : Nat) (hn : C.length = n) (A : Option Addr) (c : Nat) (w : World) (h : CdW w A c C) :
    Calls Tryz.prog 89 #[fnV nm A n c] w (GivesFn (nmRf C nm) (cdR C (thL C)) (cfE C) w) := by
  obtain ⟨W, hW⟩ : ∃ W, (w.alloc (.cells #[.string nm, .slice A n c] 24)).alloc (.cells #[.string ⟨#[]⟩, .slice none 0 0] 24) = W := ⟨_, rfl⟩
  obtain ⟨h1, h2, hbW, hsz⟩ := two8 w _ _ hW
  have HB1 := Lib.hid (show Blk W w.heap.size 24 _ from h1)
  have HB2 := Lib.hid (show Blk W (w.heap.size + 1) 24 _ from h2)
  have hcd := h.below hbW
  have HCD := Lib.hid (fun X (hX : Below W.heap.size W X) => hcd.below hX)
  have HLE := Lib.hid (rChk15 nm C n hn A c W hcd)
  have HW := Lib.hid hW
  have HBW := Lib.hid hbW
  have HSZ := Lib.hid hsz
  have HN := Lib.hid hn
  have hle := h.rd.le
  have hmx := h.rd.max
  rw [hn] at hle
  unfold maxLen at hmx
  have a0 := HB1.out.cell 0
  have a1 := HB1.out.cell 1
  clear h h1 h2 hbW hW hsz hcd hn
  unfold fnV at HLE ⊢
  by_cases hc : cfE C = 0
  rotate_left
  · have hne : (cfE C != 0) = true := by simpa using hc
    unfold GivesFn
    rw [nmR1 hc, cdR1 hc]
    obtain ⟨er, her⟩ : ∃ er, cfE C = er := ⟨_, rfl⟩
    rw [her] at HLE hne ⊢
    clear hc her
    go_enter Tryz.func89, Tryz.ntmps89
    go_wp2_with fail
    rw [HW.out]
    go_wp2_with fail
    refine HLE.out.mono ?_
    rintro e w1 ⟨rfl, b1⟩
    have HB2' := Lib.hid (HB2.out.below' b1)
    have HG := Lib.hid (belowThen HBW.out b1)
    have g0 := HB2'.out.cell 0
    have g1 := HB2'.out.cell 1
    have fg0 := HB2'.out.frozen 0
    have fg1 := HB2'.out.frozen 1
    clear b1 a0 a1
    go_wp2_with fail
    refine bodyPost_ret ((stored2F HB2'.out).res2 rfl _ rfl Tryz.underlying24 rfl infoFn2) rfl ?_
    exact ⟨none, 0, rfl, RdE.nil, below2F HG.out (by omega)⟩
  have hok := cfOk hc
  unfold GivesFn
  rw [nmR0 hc, cdR0 hc]
  rw [hc] at HLE ⊢
  have h64 : n ≤ 64 := by have := hok.len; rw [HN.out] at this; exact this
  have HOK := Lib.hid hok
  have e9 : (thL C).length = n := by rw [thLen]; exact HN.out
  rw [e9]
  clear hc hok e9
  go_enter Tryz.func89, Tryz.ntmps89
  go_wp2_with fail
  rw [HW.out]
  go_wp2_with fail
  refine HLE.out.mono ?_
  rintro e w1 ⟨rfl, b1⟩
  have HB1' := Lib.hid b1
  have HB2' := Lib.hid (HB2.out.below' b1)
  have HST0 := Lib.hid (thStartF w1 nm)
  have HSZ1 : Hid (w.heap.size + 2 ≤ w1.heap.size) := Lib.hid (by have := b1.size; have := HSZ.out; omega)
  clear a0 a1
  have a0 := (HB1.out.below' b1).cell 0
  have a1 := (HB1.out.below' b1).cell 1
  have HA1 := Lib.hid a1
  have HA0 := Lib.hid a0
  obtain ⟨w2, hw2⟩ : ∃ w2, w1.alloc (.cells #[.string nm, .slice none 0 0] 24) = w2 := ⟨_, rfl⟩
  rw [hw2] at HST0
  have a1' := (HST0.out.bel.cell (p := ⟨w.heap.size, 1, none⟩) (by have := HSZ1.out; show w.heap.size < _; omega)).trans a1
  have HW2 := Lib.hid hw2
  clear b1 hw2
  go_upto_region 5 with fail
  rw [HW2.out]
  clear a0 a1
  go_wp2_with fail
  go_loopg [6] n (fun g i X => ∃ k : Nat, k + g = n ∧ i = .int .i64 k ∧ ThStF w1 nm (thK C k) X)
  case atStart => exact ⟨0, by omega, rfl, HST0.out⟩
  case round =>
    obtain ⟨k, hk, rfl, hst⟩ := hrel
    have HS := Lib.hid hst
    clear a1'
    have ha8 := (hst.bel.cell (p := ⟨w.heap.size, 1, none⟩) (by have := HSZ1.out; show w.heap.size < _; omega)).trans HA1.out
    have HA8 := Lib.hid ha8
    obtain ⟨v, hv⟩ := hst.fn
    obtain ⟨Av, cv, ev, -⟩ := hv.row.rd
    have hlk : (thK C k).length = k := thKLen (by rw [HN.out]; omega)
    rw [hlk] at ev
    subst ev
    obtain ⟨d0, d1, fd0, fd1⟩ := hv.cells
    have HV := Lib.hid hv
    have HLK := Lib.hid hlk
    cases gk with
    | zero =>
      have hkn : k = n := by omega
      subst hkn
      have hjz : ¬ ((k : Int) < k) := by omega
      have HB3 := Lib.hid (HB2'.out.below' hst.bel)
      have g0 := HB3.out.cell 0
      have g1 := HB3.out.cell 1
      have fg0 := HB3.out.frozen 0
      have fg1 := HB3.out.frozen 1
      have HG := Lib.hid (belowThen (belowThen HBW.out HB1'.out) hst.bel)
      have HL : Hid (thK C k = thL C) := Lib.hid (by rw [← HN.out]; exact thKAll)
      have HZ := HSZ1.out
      clear hst hv hlk
      go_wp2_with fail
      refine bodyPost_ret ((stored2F HB3.out).res2 rfl _ rfl Tryz.underlying24 rfl infoFn2) rfl ?_
      have hrow := HV.out.row.chg ((chgSetF wr (w.heap.size + 1) 0 (.string nm)).trans (chgSetF _ (w.heap.size + 1) 1 (.slice Av k cv)) fun _ _ h => h) fun g hg => by
        have := (World.ownsRow.lt HV.out.row g hg).1
        show g ≠ _
        omega
      obtain ⟨A6, c6, e6, r6⟩ := hrow.rd
      rw [HLK.out] at e6
      injection e6 with e7 _ e8
      subst e7 e8
      rw [HL.out] at r6
      exact ⟨Av, cv, rfl, r6, below2F HG.out (by omega)⟩
    | succ g2 =>
      have hkn : k < n := by omega
      have hkl : k < C.length := by rw [HN.out]; exact hkn
      have hk0 : (0 : Int) ≤ k := by omega
      have hk1 : (k : Int) < n := by omega
      have hbw := belowThen HB1'.out hst.bel
      have hcdw := HCD.out wr hbw
      obtain ⟨q8, off, hA, _, i0, i1, i2, i3, i4, i5, i6, i7⟩ := hcdw.rd.one hkl
      have hA : A = _ := hA
      have HPU := Lib.hid (thKS hkl)
      have HTG := Lib.hid (fun (hj : C[k].jmp = true) => HOK.out.tgt _ (List.getElem_mem hkl) hj)
      have HFT := Lib.hid (fun (hj : C[k].jmp = true) X (hX : Below W.heap.size W X) => rFinal15 nm C HOK.out n HN.out A c X (HCD.out X hX).rd C[k].n.toNat (by have h1 := HOK.out.tgt _ (List.getElem_mem hkl) hj; have h2 := HN.out; omega))
      have HTI1 := Lib.hid (fun (hj : C[k].jmp = true) => (show thI C C[k] = setNf C[k] (fin C C[k].n.toNat : Nat) from if_pos hj))
      have HTI0 := Lib.hid (fun (hj : C[k].jmp = false) => (show thI C C[k] = C[k] from if_neg (by rw [hj]; simp)))
      obtain ⟨b, hb⟩ : ∃ b, C[k].jmp = b := ⟨_, rfl⟩
      rw [hb] at HTG HFT HTI1 HTI0
      subst hA
      have HKL : Hid ((thK C k).length ≤ 1000) := Lib.hid (by rw [hlk]; omega)
      obtain ⟨ii, hii⟩ : ∃ x, C[k] = x := ⟨_, rfl⟩
      rw [hii] at i0 i1 i2 i3 i4 i5 i6 i7 HTG HFT HTI1 HTI0 HPU
      obtain ⟨R, hR⟩ : ∃ R, thI C ii = R := ⟨_, rfl⟩
      rw [hR] at HTI1 HTI0 HPU
      have HJB : Hid ((decide (ii.op = 4) || decide (ii.op = 5)) = b) := Lib.hid (by rw [hii] at hb; exact hb)
      clear hb hii hR
      obtain ⟨op, ra, rb, rc, obj, nn, fn, ord⟩ := ii
      unfold setNf at HTI1
      simp only at i0 i1 i2 i3 i4 i5 i6 i7 HTG HFT HTI1 HTI0 HJB
      unfold fnV at HFT
      obtain ⟨wb, hwb⟩ : ∃ x, wr.alloc (.cells #[.int .i64 op, .int .i64 ra, .int .i64 rb, .int .i64 rc, .int .i64 obj, .int .i64 nn, .int .i64 fn, .int .i64 ord] 55) = x := ⟨_, rfl⟩
      have hbb : Below wr.heap.size wr wb := by rw [← hwb]; exact belowAlloc wr _
      have hbi : Blk wb wr.heap.size 55 #[.int .i64 op, .int .i64 ra, .int .i64 rb, .int .i64 rc, .int .i64 obj, .int .i64 nn, .int .i64 fn, .int .i64 ord] := by rw [← hwb]; exact Blk.new wr _ _
      have HBI := Lib.hid hbi
      have HBB := Lib.hid (belowThen hst.bel hbb)
      have HVB := Lib.hid (hv.below hbb)
      have HWB := Lib.hid hwb
      have HSW : Hid (w1.heap.size + 1 ≤ wr.heap.size) := Lib.hid hv.le
      obtain ⟨k1, hk1e⟩ : ∃ k1, k + 1 = k1 := ⟨_, rfl⟩
      have hwk : IntKind.i64.wrap ((k : Int) + 1) = (k1 : Int) := by rw [IntKind.wrap_i64]; omega
      rw [hk1e] at HPU
      have HK1 := Lib.hid hk1e
      obtain ⟨x0, x1, x2, x3, x4, x5, x6, x7⟩ := boxFactsW hbi
      clear hst hv hbw hcdw hbb hbi hwb hk1e hlk
      obtain ⟨j0, j1, j2, j3, j4, j5, j6, j7⟩ := R
      go_upto_region 9 with fail
      rw [HWB.out]
      go_cut [36] from 17 to 47 (fun s36 wx => s36 = .bool b ∧ wx = wb)
      case first =>
        by_cases h4 : op = 4
        · have hbt : b = true := by rw [← HJB.out, decide_eq_true h4]; rfl
          subst h4
          go_wp2_with fail
          go_meet
          case rel => exact ⟨by rw [hbt], rfl⟩
        · have z4 : (op == 4) = false := by simpa using h4
          by_cases h5 : op = 5
          · have hbt : b = true := by rw [← HJB.out, decide_eq_true h5, Bool.or_true]
            subst h5
            go_wp2_with fail
            go_meet
            case rel => exact ⟨by rw [hbt], rfl⟩
          · have z5 : (op == 5) = false := by simpa using h5
            have hbt : b = false := by rw [← HJB.out, decide_eq_false h4, decide_eq_false h5]; rfl
            clear h4 h5
            go_wp2_with fail
            go_meet
            case rel => exact ⟨by rw [hbt], rfl⟩
      case rest =>
      obtain ⟨rfl, rfl⟩ := hcut
      clear x0 x1 x2 x3 x4 x5 x6 x7
      obtain ⟨⟨x0, x1, x2, x3, x4, x5, x6, x7⟩, fx0, fx1, fx2, fx3, fx4, fx5, fx6, fx7⟩ := blkFacts HBI.out
      have ha4 := (HBB.out.cell (p := ⟨w.heap.size, 1, none⟩) (by have := HSZ1.out; show w.heap.size < _; omega)).trans HA1.out
      have ha5 := (HBB.out.cell (p := ⟨w.heap.size, 0, none⟩) (by have := HSZ1.out; show w.heap.size < _; omega)).trans HA0.out
      go_upto_if 36 with fail
      go_cut [] from 17 to 47 (fun wx => Below w1.heap.size w1 wx ∧ FnSv wx w1.heap.size (w1.heap.size + 1) nm (.slice Av k cv) (thK C k) ∧ Blk wx wr.heap.size 55 #[.int .i64 j0, .int .i64 j1, .int .i64 j2, .int .i64 j3, .int .i64 j4, .int .i64 j5, .int .i64 j6, .int .i64 j7])
      case first =>
        cases b
        · have hti := HTI0.out rfl
          injection hti with t0 t1 t2 t3 t4 t5 t6 t7
          subst t0 t1 t2 t3 t4 t5 t6 t7
          go_wp2_with fail
          go_meet
          case rel => exact ⟨HBB.out, HVB.out, HBI.out⟩
        · have hti := HTI1.out rfl
          have htg := HTG.out rfl
          have HF4 := Lib.hid (HFT.out rfl wc (belowThen HB1'.out HBB.out))
          have hnn : nn = ((nn.toNat : Nat) : Int) := by omega
          generalize nn.toNat = n2 at HF4 hti hnn
          subst hnn
          injection hti with t0 t1 t2 t3 t4 t5 t6 t7
          subst t0 t1 t2 t3 t4 t6 t7
          obtain ⟨ff, hff⟩ : ∃ ff, fin C n2 = ff := ⟨_, rfl⟩
          rw [hff] at HF4 t5
          subst t5
          clear htg hff
          go_wp2_with fail
          refine HF4.out.mono ?_
          rintro e w5 ⟨rfl, b5⟩
          have hI5 := HBI.out.below' b5
          have f5 := hI5.frozen 5
          have y5 := hI5.cell 5
          have HC := Lib.hid (chgSetF w5 wr.heap.size 5 (.int .i64 (ff : Int)))
          have HB6 := Lib.hid (belChgF (belowThen HBB.out b5) HC.out (by have := HSW.out; have := hI5.lt; omega) fun k hk => (show k ≠ wr.heap.size by have := HSW.out; omega))
          have HV6 := Lib.hid ((HVB.out.below b5).chg HC.out (show w1.heap.size ≠ wr.heap.size by have := HSW.out; omega) fun k hk hv => (by have := (World.ownsRow.lt HV.out.row k hv).2; show k ≠ wr.heap.size; omega))
          have HI6 := Lib.hid (hI5.set 5 (.int .i64 (ff : Int)))
          clear b5 hI5
          go_wp2_with fail
          go_meet
          case rel => exact ⟨HB6.out, HV6.out, HI6.out⟩
      case rest =>
      obtain ⟨hbc, hvc, hic⟩ := hcut
      have hb8 := belowAlloc wc (.cells #[.int .i64 j0, .int .i64 j1, .int .i64 j2, .int .i64 j3, .int .i64 j4, .int .i64 j5, .int .i64 j6, .int .i64 j7] 55)
      obtain ⟨v', w9, hrun9, hbl9, hfn9, hc9⟩ := (hvc.below hb8).push HKL.out (i := ⟨j0, j1, j2, j3, j4, j5, j6, j7⟩) (Blk.new wc _ _)
      rw [← HPU.out] at hfn9
      have HFN9 := Lib.hid hfn9
      obtain ⟨A9, c9, e9, -⟩ := hfn9.row.rd
      subst e9
      have HB9 := Lib.hid (belChgF (belowThen hbc hb8) hc9 (by have := (belowThen hbc hb8).size; omega) fun k hk => ⟨(show k ≠ w1.heap.size by omega), (show k < w1.heap.size + 1 by omega)⟩)
      have f1 := hvc.cells.2.1
      have f9 := hbl9.cell 1
      have g9 := hbl9.frozen 1
      clear x0 x1 x2 x3 x4 x5 x6 x7
      obtain ⟨x0, x1, x2, x3, x4, x5, x6, x7⟩ := boxFactsW hic
      clear hbc hvc hic hb8 hbl9 hfn9 hc9
      go_wp2_with (at_builtin; refine Lib.wpList_append_run _ rfl _ _ _ _ rfl _ _ rfl rfl _ _ (hrun9 _) ?_)
      go_roundg g2
      case measure => omega
      case rel => exact ⟨k1, by have := HK1.out; omega, by first | rfl | go_num, ⟨HB9.out, ⟨_, HFN9.out⟩⟩⟩
end Go.Proofs.YtpkagpobobmnfaaGreatDoor
