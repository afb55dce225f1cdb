/-
  iThreadF again, the row of its result said to be new.
-/
import Derived.Test.YtnnpkbonbemeaaaDoorYSh
import Derived.Test.YtnnpkbonbemeaaaDoorYSfCf
import Derived.Deep.CutRange
import Derived.Deep.DeepCutAuto
namespace Go.Proofs.YtnnpkbonbemeaaaDoor
open Go Go.RowKit Go.Maps

set_option maxRecDepth 100000 in
set_option maxHeartbeats 8000000 in
theorem iThreadFF (nm : ByteArray) (C : List I8) (n : Nat) (hn : C.length = n) (A : Option Addr) (c : Nat) (w : World) (h : CdW w A c C) :
    Calls Tryd.prog 19 #[fnV nm A n c] w (GivesFnF (nmRf C nm) (cdR C (thL C)) (cfE C) w) := by
  obtain ⟨W, hW⟩ : ∃ W, (w.alloc (.cells #[.string nm, .slice A n c] 42)).alloc (.cells #[.string ⟨#[]⟩, .slice none 0 0] 42) = W := ⟨_, rfl⟩
  obtain ⟨h1, h2, hbW, hsz⟩ := two8 w _ _ hW
  have HB1 := Lib.hid (show Blk W w.heap.size 42 _ from h1)
  have HB2 := Lib.hid (show Blk W (w.heap.size + 1) 42 _ from h2)
  have hcd := h.below hbW
  have HCD := Lib.hid (fun X (hX : Below W.heap.size W X) => hcd.below hX)
  have HLE := Lib.hid (iLeaders nm C n hn A c W hcd)
  have HW := Lib.hid hW
  have HBW := Lib.hid hbW
  have HSZ := Lib.hid hsz
  have HN := Lib.hid hn
  have hle := h.rd.le
  have hmx := h.rd.max
  rw [hn] at hle
  unfold maxLen at hmx
  have a0 := HB1.out.cell 0
  have a1 := HB1.out.cell 1
  clear h h1 h2 hbW hW hsz hcd hn
  unfold fnV at HLE ⊢
  by_cases hc : cfE C = 0
  rotate_left
  · have hne : (cfE C != 0) = true := by simpa using hc
    unfold GivesFnF
    rw [nmR1 hc, cdR1 hc]
    obtain ⟨er, her⟩ : ∃ er, cfE C = er := ⟨_, rfl⟩
    rw [her] at HLE hne ⊢
    obtain ⟨q, hq⟩ : ∃ q, (ldR C).length = q := ⟨_, rfl⟩
    clear hc her
    go_enter Tryd.func19, Tryd.ntmps19
    go_wp2_with fail
    rw [HW.out]
    go_wp2_with fail
    refine HLE.out.mono ?_
    rintro e w1 ⟨A1, c1, rfl, -, b1⟩
    rw [hq]
    have HB2' := Lib.hid (HB2.out.below' b1)
    have HG := Lib.hid (belowThen HBW.out b1)
    have g0 := HB2'.out.cell 0
    have g1 := HB2'.out.cell 1
    have fg0 := HB2'.out.frozen 0
    have fg1 := HB2'.out.frozen 1
    clear b1 a0 a1
    go_wp2_with fail
    refine bodyPost_ret ((stored2F HB2'.out).res2 rfl _ rfl Tryd.underlying42 rfl infoFn2) rfl ?_
    exact ⟨none, 0, rfl, ⟨RdE.nil, fun _ h => by cases h⟩, below2F HG.out (by omega)⟩
  have hok := cfOk hc
  unfold GivesFnF
  rw [nmR0 hc, cdR0 hc]
  rw [hc] at HLE ⊢
  have h64 : n ≤ 64 := by have := hok.len; rw [HN.out] at this; exact this
  have HOK := Lib.hid hok
  obtain ⟨q, hq⟩ : ∃ q, (ldR C).length = q := ⟨_, rfl⟩
  have e9 : (thL C).length = n := by rw [thLen]; exact HN.out
  rw [e9]
  clear hc hok e9
  go_enter Tryd.func19, Tryd.ntmps19
  go_wp2_with fail
  rw [HW.out]
  go_wp2_with fail
  refine HLE.out.mono ?_
  rintro e w1 ⟨A1, c1, rfl, -, b1⟩
  rw [hq]
  have HB1' := Lib.hid b1
  have HB2' := Lib.hid (HB2.out.below' b1)
  have HST0 := Lib.hid (thStartF w1 nm)
  have HSZ1 : Hid (w.heap.size + 2 ≤ w1.heap.size) := Lib.hid (by have := b1.size; have := HSZ.out; omega)
  clear a0 a1 hq
  have a0 := (HB1.out.below' b1).cell 0
  have a1 := (HB1.out.below' b1).cell 1
  have HA1 := Lib.hid a1
  obtain ⟨w2, hw2⟩ : ∃ w2, w1.alloc (.cells #[.string nm, .slice none 0 0] 42) = w2 := ⟨_, rfl⟩
  rw [hw2] at HST0
  have a1' := (HST0.out.bel.cell (p := ⟨w.heap.size, 1, none⟩) (by have := HSZ1.out; show w.heap.size < _; omega)).trans a1
  have HW2 := Lib.hid hw2
  clear b1 hw2
  go_upto_region 5 with fail
  rw [HW2.out]
  clear a0 a1
  go_wp2_with fail
  go_loopg [24] n (fun g i X => ∃ k : Nat, k + g = n ∧ i = .int .i64 k ∧ ThStF w1 nm (thK C k) X)
  case atStart => exact ⟨0, by omega, rfl, HST0.out⟩
  case round =>
    obtain ⟨k, hk, rfl, hst⟩ := hrel
    have HS := Lib.hid hst
    clear a1'
    obtain ⟨v, hv⟩ := hst.fn
    obtain ⟨Av, cv, ev, -⟩ := hv.row.rd
    have hlk : (thK C k).length = k := thKLen (by rw [HN.out]; omega)
    rw [hlk] at ev
    subst ev
    obtain ⟨d0, d1, fd0, fd1⟩ := hv.cells
    have HV := Lib.hid hv
    have HLK := Lib.hid hlk
    cases gk with
    | zero =>
      have hkn : k = n := by omega
      subst hkn
      have hjz : ¬ ((k : Int) < k) := by omega
      have HB3 := Lib.hid (HB2'.out.below' hst.bel)
      have g0 := HB3.out.cell 0
      have g1 := HB3.out.cell 1
      have fg0 := HB3.out.frozen 0
      have fg1 := HB3.out.frozen 1
      have HG := Lib.hid (belowThen (belowThen HBW.out HB1'.out) hst.bel)
      have HL : Hid (thK C k = thL C) := Lib.hid (by rw [← HN.out]; exact thKAll)
      have HZ := HSZ1.out
      clear hst hv hlk
      go_wp2_with fail
      refine bodyPost_ret ((stored2F HB3.out).res2 rfl _ rfl Tryd.underlying42 rfl infoFn2) rfl ?_
      have hrow := HV.out.row.chg ((chgSetF wr (w.heap.size + 1) 0 (.string nm)).trans (chgSetF _ (w.heap.size + 1) 1 (.slice Av k cv)) fun _ _ h => h) fun g hg => by
        have := (World.ownsRow.lt HV.out.row g hg).1
        show g ≠ _
        omega
      obtain ⟨A6, c6, e6, r6⟩ := hrow.rd
      rw [HLK.out] at e6
      injection e6 with e7 _ e8
      subst e7 e8
      rw [HL.out] at r6
      exact ⟨Av, cv, rfl, ⟨r6, fun ad e9 => by subst e9; have h9 := (World.ownsRow.lt hrow ad.block rfl).1; have h8 := HSZ1.out; omega⟩, below2F HG.out (by omega)⟩
    | succ g2 =>
      have hkn : k < n := by omega
      have hkl : k < C.length := by rw [HN.out]; exact hkn
      have hk0 : (0 : Int) ≤ k := by omega
      have hk1 : (k : Int) < n := by omega
      have hbw := belowThen HB1'.out hst.bel
      have hcdw := HCD.out wr hbw
      obtain ⟨q8, off, hA, _, i0, i1, i2, i3, i4, i5, i6, i7⟩ := hcdw.rd.one hkl
      have hA : A = _ := hA
      have HPU := Lib.hid (thKS hkl)
      have HHT := Lib.hid (fun X => iHasTgt C[k] X)
      have HTG := Lib.hid (fun (hj : C[k].jmp = true) => HOK.out.tgt _ (List.getElem_mem hkl) hj)
      have HFT := Lib.hid (fun (hj : C[k].jmp = true) X (hX : Below W.heap.size W X) => iFinalT C HOK.out n HN.out A c X (HCD.out X hX).rd k _ hkl hj rfl)
      have HTI1 := Lib.hid (fun (hj : C[k].jmp = true) => (show thI C C[k] = setNf C[k] (fin C C[k].n.toNat : Nat) from if_pos hj))
      have HTI0 := Lib.hid (fun (hj : C[k].jmp = false) => (show thI C C[k] = C[k] from if_neg (by rw [hj]; simp)))
      obtain ⟨b, hb⟩ : ∃ b, C[k].jmp = b := ⟨_, rfl⟩
      rw [hb] at HHT HTG HFT HTI1 HTI0
      subst hA
      have HKL : Hid ((thK C k).length ≤ 1000) := Lib.hid (by rw [hlk]; omega)
      obtain ⟨ii, hii⟩ : ∃ x, C[k] = x := ⟨_, rfl⟩
      rw [hii] at i0 i1 i2 i3 i4 i5 i6 i7 HHT HTG HFT HTI1 HTI0 HPU
      obtain ⟨R, hR⟩ : ∃ R, thI C ii = R := ⟨_, rfl⟩
      rw [hR] at HTI1 HTI0 HPU
      clear hb hii hR
      obtain ⟨op, ra, rb, rc, obj, nn, fn, ord⟩ := ii
      unfold I8.val at HHT
      unfold setNf at HTI1
      simp only at i0 i1 i2 i3 i4 i5 i6 i7 HHT HTG HFT HTI1 HTI0
      obtain ⟨wb, hwb⟩ : ∃ x, wr.alloc (.cells #[.int .i64 op, .int .i64 ra, .int .i64 rb, .int .i64 rc, .int .i64 obj, .int .i64 nn, .int .i64 fn, .int .i64 ord] 47) = x := ⟨_, rfl⟩
      have hbb : Below wr.heap.size wr wb := by rw [← hwb]; exact belowAlloc wr _
      have hbi : Blk wb wr.heap.size 47 #[.int .i64 op, .int .i64 ra, .int .i64 rb, .int .i64 rc, .int .i64 obj, .int .i64 nn, .int .i64 fn, .int .i64 ord] := by rw [← hwb]; exact Blk.new wr _ _
      have HBI := Lib.hid hbi
      have HBB := Lib.hid (belowThen hst.bel hbb)
      have HVB := Lib.hid (hv.below hbb)
      have HWB := Lib.hid hwb
      have HSW : Hid (w1.heap.size + 1 ≤ wr.heap.size) := Lib.hid hv.le
      obtain ⟨k1, hk1e⟩ : ∃ k1, k + 1 = k1 := ⟨_, rfl⟩
      have hwk : IntKind.i64.wrap ((k : Int) + 1) = (k1 : Int) := by rw [IntKind.wrap_i64]; omega
      rw [hk1e] at HPU
      have HK1 := Lib.hid hk1e
      obtain ⟨x0, x1, x2, x3, x4, x5, x6, x7⟩ := boxFactsW hbi
      clear hst hv hbw hcdw hbb hbi hwb hk1e hlk
      obtain ⟨j0, j1, j2, j3, j4, j5, j6, j7⟩ := R
      go_wp2_with fail
      rw [HWB.out]
      go_wp2_with fail
      refine (HHT.out _).mono ?_
      rintro e w4 ⟨rfl, b4⟩
      have HB4 := Lib.hid (belowThen HBB.out b4)
      have HV4 := Lib.hid (HVB.out.below b4)
      have HI4 := Lib.hid (HBI.out.below' b4)
      clear x0 x1 x2 x3 x4 x5 x6 x7 b4
      obtain ⟨⟨x0, x1, x2, x3, x4, x5, x6, x7⟩, fx0, fx1, fx2, fx3, fx4, fx5, fx6, fx7⟩ := blkFacts HI4.out
      have HA4 := Lib.hid ((HB4.out.cell (p := ⟨w.heap.size, 1, none⟩) (by have := HSZ1.out; show w.heap.size < _; omega)).trans HA1.out)
      have ha4 := HA4.out
      go_upto_if 29 with fail
      go_cut [24] from 24 to 42 (fun s24 wx => s24 = .int .i64 (k : Int) ∧ Below w1.heap.size w1 wx ∧ FnSv wx w1.heap.size (w1.heap.size + 1) nm (.slice Av k cv) (thK C k) ∧ Blk wx wr.heap.size 47 #[.int .i64 j0, .int .i64 j1, .int .i64 j2, .int .i64 j3, .int .i64 j4, .int .i64 j5, .int .i64 j6, .int .i64 j7])
      case first =>
        cases b
        · have hti := HTI0.out rfl
          injection hti with t0 t1 t2 t3 t4 t5 t6 t7
          subst t0 t1 t2 t3 t4 t5 t6 t7
          go_wp2_with fail
          go_meet
          case rel => exact ⟨rfl, HB4.out, HV4.out, HI4.out⟩
        · have hti := HTI1.out rfl
          have htg := HTG.out rfl
          have HF4 := Lib.hid (HFT.out rfl w4 (belowThen HB1'.out HB4.out))
          have hnn : nn = ((nn.toNat : Nat) : Int) := by omega
          generalize nn.toNat = n2 at HF4 hti hnn
          subst hnn
          injection hti with t0 t1 t2 t3 t4 t5 t6 t7
          subst t0 t1 t2 t3 t4 t6 t7
          obtain ⟨ff, hff⟩ : ∃ ff, fin C n2 = ff := ⟨_, rfl⟩
          rw [hff] at HF4 t5
          subst t5
          clear htg hff
          go_wp2_with fail
          refine HF4.out.mono ?_
          rintro e w5 ⟨rfl, b5⟩
          have hI5 := HI4.out.below' b5
          have f5 := hI5.frozen 5
          have y5 := hI5.cell 5
          have HC := Lib.hid (chgSetF w5 wr.heap.size 5 (.int .i64 (ff : Int)))
          have HB6 := Lib.hid (belChgF (belowThen HB4.out b5) HC.out (by have := HSW.out; have := hI5.lt; omega) fun k hk => (show k ≠ wr.heap.size by have := HSW.out; omega))
          have HV6 := Lib.hid ((HV4.out.below b5).chg HC.out (show w1.heap.size ≠ wr.heap.size by have := HSW.out; omega) fun k hk hv => (by have := (World.ownsRow.lt HV.out.row k hv).2; show k ≠ wr.heap.size; omega))
          have HI6 := Lib.hid (hI5.set 5 (.int .i64 (ff : Int)))
          clear b5 hI5
          go_wp2_with fail
          go_meet
          case rel => exact ⟨rfl, HB6.out, HV6.out, HI6.out⟩
      case rest =>
      obtain ⟨rfl, hbc, hvc, hic⟩ := hcut
      have hb8 := belowAlloc wc (.cells #[.int .i64 j0, .int .i64 j1, .int .i64 j2, .int .i64 j3, .int .i64 j4, .int .i64 j5, .int .i64 j6, .int .i64 j7] 47)
      obtain ⟨v', w9, hrun9, hbl9, hfn9, hc9⟩ := (hvc.below hb8).push HKL.out (i := ⟨j0, j1, j2, j3, j4, j5, j6, j7⟩) (Blk.new wc _ _)
      rw [← HPU.out] at hfn9
      have HFN9 := Lib.hid hfn9
      obtain ⟨A9, c9, e9, -⟩ := hfn9.row.rd
      subst e9
      have HB9 := Lib.hid (belChgF (belowThen hbc hb8) hc9 (by have := (belowThen hbc hb8).size; omega) fun k hk => ⟨(show k ≠ w1.heap.size by omega), (show k < w1.heap.size + 1 by omega)⟩)
      have f1 := hvc.cells.2.1
      have f9 := hbl9.cell 1
      have g9 := hbl9.frozen 1
      clear x0 x1 x2 x3 x4 x5 x6 x7
      obtain ⟨x0, x1, x2, x3, x4, x5, x6, x7⟩ := boxFactsW hic
      clear hbc hvc hic hb8 hbl9 hfn9 hc9
      go_wp2_with (at_builtin; refine Lib.wpList_append_run _ rfl _ _ _ _ rfl _ _ rfl rfl _ _ (hrun9 _) ?_)
      go_roundg g2
      case measure => omega
      case rel => exact ⟨k1, by have := HK1.out; omega, by first | rfl | go_num, ⟨HB9.out, ⟨_, HFN9.out⟩⟩⟩
end Go.Proofs.YtnnpkbonbemeaaaDoor
