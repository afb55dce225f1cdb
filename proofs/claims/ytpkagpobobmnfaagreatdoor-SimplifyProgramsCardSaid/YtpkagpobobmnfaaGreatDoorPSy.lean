/-
  The specification's Prune.
-/
import Derived.Test.YtpkagpobobmnfaaGreatDoorPSfU
import Derived.Test.YtpkagpobobmnfaaGreatDoorPSh
import Derived.Test.YtpkagpobobmnfaaGreatDoorPCv
import Derived.Test.YtpkagpobobmnfaaGreatDoorPSf
namespace Go.Proofs.YtpkagpobobmnfaaGreatDoor
open Go Go.RowKit Go.Maps

noncomputable def nmL (C : List I8) (k : Nat) : List Int := (List.range k).map fun x => ((rmN C x : Nat) : Int)
theorem nmLS {C : List I8} {k : Nat} : nmL C (k + 1) = nmL C k ++ [((rmN C k : Nat) : Int)] := by unfold nmL; rw [List.range_succ, List.map_append]; rfl
theorem nmLLen {C : List I8} {k : Nat} : (nmL C k).length = k := by simp [nmL]
theorem nmLAt {C : List I8} {k t : Nat} (h : t < k) : (nmL C k).getD t 0 = ((rmN C t : Nat) : Int) := by simp [nmL, List.getD, h]
theorem prKLen2 {C : List I8} {k : Nat} : (prK C k).length = rmN C k := by unfold prK rmN; rw [List.length_map]
end Go.Proofs.YtpkagpobobmnfaaGreatDoor

namespace Go.Proofs.YtpkagpobobmnfaaGreatDoor
open Go Go.RowKit Go.Maps

set_option maxRecDepth 100000 in
set_option maxHeartbeats 8000000 in
theorem rPrune15F (nm : ByteArray) (C : List I8) (n : Nat) (hn : C.length = n) (A : Option Addr) (c : Nat) (w : World) (h : CdW w A c C) :
    Calls Tryz.prog 90 #[fnV nm A n c] w (GivesFnF (nmRf C nm) (cdR C (prL C)) (cfE C) w) := by
  obtain ⟨W, hW⟩ : ∃ W, (w.alloc (.cells #[.string nm, .slice A n c] 24)).alloc (.cells #[.string ⟨#[]⟩, .slice none 0 0] 24) = W := ⟨_, rfl⟩
  obtain ⟨h1, h2, hbW, hsz⟩ := two8 w _ _ hW
  have HB1 := Lib.hid (show Blk W w.heap.size 24 _ from h1)
  have HB2 := Lib.hid (show Blk W (w.heap.size + 1) 24 _ from h2)
  have hcd := h.below hbW
  have HCD := Lib.hid (fun X (hX : Below W.heap.size W X) => hcd.below hX)
  have HLE := Lib.hid (rChk15 nm C n hn A c W hcd)
  have HW := Lib.hid hW
  have HBW := Lib.hid hbW
  have HSZ := Lib.hid hsz
  have HN := Lib.hid hn
  have hle := h.rd.le
  have hmx := h.rd.max
  rw [hn] at hle
  unfold maxLen at hmx
  have a0 := HB1.out.cell 0
  have a1 := HB1.out.cell 1
  clear h h1 h2 hbW hW hsz hcd hn
  unfold fnV at HLE ⊢
  by_cases hc : cfE C = 0
  rotate_left
  · have hne : (cfE C != 0) = true := by simpa using hc
    unfold GivesFnF
    rw [nmR1 hc, cdR1 hc]
    obtain ⟨er, her⟩ : ∃ er, cfE C = er := ⟨_, rfl⟩
    rw [her] at HLE hne ⊢
    clear hc her
    go_enter Tryz.func90, Tryz.ntmps90
    go_wp2_with fail
    rw [HW.out]
    go_wp2_with fail
    refine HLE.out.mono ?_
    rintro e w1 ⟨rfl, b1⟩
    have HB2' := Lib.hid (HB2.out.below' b1)
    have HG := Lib.hid (belowThen HBW.out b1)
    have g0 := HB2'.out.cell 0
    have g1 := HB2'.out.cell 1
    have fg0 := HB2'.out.frozen 0
    have fg1 := HB2'.out.frozen 1
    clear b1 a0 a1
    go_wp2_with fail
    refine bodyPost_ret ((stored2F HB2'.out).res2 rfl _ rfl Tryz.underlying24 rfl infoFn2) rfl ?_
    exact ⟨none, 0, rfl, ⟨RdE.nil, fun _ h => by cases h⟩, below2F HG.out (by omega)⟩
  have hok := cfOk hc
  unfold GivesFnF
  rw [nmR0 hc, cdR0 hc]
  rw [hc] at HLE ⊢
  have h64 : n ≤ 64 := by have := hok.len; rw [HN.out] at this; exact this
  have HOK := Lib.hid hok
  obtain ⟨m, hm⟩ : ∃ m, (prL C).length = m := ⟨_, rfl⟩
  rw [hm]
  have HM := Lib.hid hm
  have HWO := Lib.hid (fun X (hX : Below W.heap.size W X) => rWithout nm C hok n HN.out (-1) A c X (HCD.out X hX).rd)
  have HON : Hid (∀ x, rcB n (sc C) (-1) x = onB C x) := Lib.hid fun x => by unfold onB; rw [HN.out]
  unfold fnV at HWO
  clear hc hok hm
  go_enter Tryz.func90, Tryz.ntmps90
  go_wp2_with fail
  rw [HW.out]
  go_wp2_with fail
  refine HLE.out.mono ?_
  rintro e w1 ⟨rfl, b1⟩
  have HWO1 := Lib.hid (HWO.out w1 b1)
  have HA1' := Lib.hid ((HB1.out.below' b1).cell 1)
  have HA0' := Lib.hid ((HB1.out.below' b1).cell 0)
  have HSZ0 : Hid (w.heap.size + 2 ≤ w1.heap.size) := Lib.hid (by have := b1.size; have := HSZ.out; omega)
  have HB01 := Lib.hid b1
  clear a0 a1 b1 HWO
  have a0 := HA0'.out
  have a1 := HA1'.out
  go_wp2_with fail
  refine HWO1.out.mono ?_
  rintro e w2 ⟨gb, n1, E0, rfl, hrow, hn1, hn2, hE0, hgb, b2⟩
  have HRW := Lib.hid hrow
  have HE0 : Hid (∀ x, x < n → E0 x = onB C x) := Lib.hid fun x hx => (hE0 x hx).trans (HON.out x)
  have HB12 := Lib.hid b2
  have HSZ2 : Hid (w.heap.size + 2 ≤ w2.heap.size) := Lib.hid (by have := b2.size; have := HSZ0.out; omega)
  have HA1 := Lib.hid ((b2.cell (p := ⟨w.heap.size, 1, none⟩) (by have := HSZ0.out; show w.heap.size < _; omega)).trans HA1'.out)
  have HA0 := Lib.hid ((b2.cell (p := ⟨w.heap.size, 0, none⟩) (by have := HSZ0.out; show w.heap.size < _; omega)).trans HA0'.out)
  clear a0 a1 hrow hE0 hgb b2 HWO1
  have a1 := HA1.out
  go_upto_region 8 with fail
  go_loopg [6, 7, 8] n (fun g v ct i X => ∃ k : Nat, k + g = n ∧ i = .int .i64 k ∧ ct = .int .i64 ((rmN C k : Nat) : Int) ∧ Hid (OwnI X w2.heap.size v (nmL C k)) ∧ Hid (Below w2.heap.size w2 X))
  case atStart => exact ⟨0, by omega, rfl, rfl, Lib.hid ⟨rfl, .inl ⟨rfl, rfl⟩⟩, Lib.hid (Below.refl _ _)⟩
  case round =>
    obtain ⟨k, hk, rfl, rfl, HO, HB⟩ := hrel
    obtain ⟨A6, c6, rfl, r6, _⟩ := HO.out.rd
    have hlk := nmLLen (C := C) (k := k)
    rw [hlk] at HO ⊢
    clear a1 r6
    have a1 := (HB.out.cell (p := ⟨w.heap.size, 1, none⟩) (by have := HSZ2.out; show w.heap.size < _; omega)).trans HA1.out
    have HLI := Lib.hid (nmLS (C := C) (k := k))
    have hrk := rmNLe (C := C) (k := k)
    have HRS := Lib.hid (rmNS (C := C) (k := k))
    obtain ⟨ct, hct⟩ : ∃ ct, rmN C k = ct := ⟨_, rfl⟩
    rw [hct] at HLI hrk HRS ⊢
    have hlen : (nmL C k).length + 1 ≤ 1000000 := by rw [hlk]; omega
    have HRL := Lib.hid (litI9 wr (ct : Int) 3)
    have hzb : w2.heap.size ≤ wr.heap.size := HB.out.size
    have HAK := Lib.hid (fun X (hX : Below w2.heap.size w2 X) => (⟨(hX.cell (p := ⟨w.heap.size, 0, none⟩) (by have := HSZ2.out; show w.heap.size < _; omega)).trans HA0.out, (hX.cell (p := ⟨w.heap.size, 1, none⟩) (by have := HSZ2.out; show w.heap.size < _; omega)).trans HA1.out⟩ : X.cell? ⟨w.heap.size, 0, none⟩ = some (.string nm) ∧ X.cell? ⟨w.heap.size, 1, none⟩ = some (.slice A n c)))
    clear hct hlk
    cases gk with
    | zero =>
      have hkn : k = n := by omega
      subst hkn
      have hjz : ¬ ((k : Int) < k) := by omega
      go_wp2_with (at_builtin; refine appI _ rfl (.tmp 37) (.tmp 39) rfl w2.heap.size _ (nmL C k) rfl (HO.out.alloc _) (some ⟨wr.heap.size, 0, none⟩) 1 1 [(ct : Int)] rfl rfl HRL.out (by rw [List.length_singleton]; exact hlen) (by simp; omega) ?_; intro v1 w3 o1 _ b4; have HO4 := Lib.hid (show OwnI w3 w2.heap.size v1 (nmL C (k + 1)) by rw [HLI.out]; exact o1); have HB4 := Lib.hid (stepA HB.out b4); obtain ⟨a03, a13⟩ := HAK.out w3 HB4.out; clear o1 b4)
      obtain ⟨A7, c7, rfl, r7, _⟩ := HO4.out.rd
      rw [nmLLen]
      have HR7 := Lib.hid r7
      have h7l := r7.le
      have h7m := r7.max
      rw [nmLLen] at h7l
      unfold maxLen at h7m
      have HB1' := Lib.hid (belowThen (belowThen HB01.out HB12.out) HB4.out)
      have HB2' := Lib.hid (HB2.out.below' HB1'.out)
      have HST0 := Lib.hid (thStartF w3 nm)
      have HRW3 := Lib.hid (HRW.out.chg (Chg.ofBelow HB4.out fun _ => True) trivial)
      have HSZ1 : Hid (w.heap.size + 2 ≤ w3.heap.size) := Lib.hid (by have := HB4.out.size; have := HSZ2.out; omega)
      have HA13 := Lib.hid a13
      have HA03 := Lib.hid a03
      clear a1 r7
      obtain ⟨w4, hw4⟩ : ∃ w4, w3.alloc (.cells #[.string nm, .slice none 0 0] 24) = w4 := ⟨_, rfl⟩
      rw [hw4] at HST0
      have a1' := (HST0.out.bel.cell (p := ⟨w.heap.size, 1, none⟩) (by have := HSZ1.out; show w.heap.size < _; omega)).trans a13
      have HW4 := Lib.hid hw4
      clear hw4 HO HB HRL hlen a03 a13
      rw [HW4.out]
      go_loopg [10] k (fun g i X => ∃ j : Nat, j + g = k ∧ i = .int .i64 j ∧ ThStF w3 nm (prK C j) X)
      case atStart => exact ⟨0, by omega, rfl, by have := HST0.out; simpa [prK, rmK] using this⟩
      case round =>
        obtain ⟨j, hj, rfl, hst⟩ := hrel
        clear a1'
        have ha8 := (hst.bel.cell (p := ⟨w.heap.size, 1, none⟩) (by have := HSZ1.out; show w.heap.size < _; omega)).trans HA13.out
        obtain ⟨v, hv⟩ := hst.fn
        obtain ⟨Av, cv, ev, -⟩ := hv.row.rd
        rw [prKLen2] at ev
        obtain ⟨lj, hlj⟩ : ∃ lj, rmN C j = lj := ⟨_, rfl⟩
        rw [hlj] at ev
        subst ev
        have HLJ := Lib.hid hlj
        obtain ⟨d0, d1, fd0, fd1⟩ := hv.cells
        have HV := Lib.hid hv
        cases gk with
        | zero =>
          have hjn : j = k := by omega
          subst hjn
          have hjz : ¬ ((j : Int) < j) := by omega
          have hljm : lj = m := by rw [← hlj, ← HM.out, prLen, HN.out]
          subst hljm
          have HB3 := Lib.hid (HB2'.out.below' hst.bel)
          have g0 := HB3.out.cell 0
          have g1 := HB3.out.cell 1
          have fg0 := HB3.out.frozen 0
          have fg1 := HB3.out.frozen 1
          have HG := Lib.hid (belowThen (belowThen HBW.out HB1'.out) hst.bel)
          have HL : Hid (prK C j = prL C) := Lib.hid (by unfold prL; rw [HN.out])
          have HZ := HSZ1.out
          clear hst hv hlj
          go_wp2_with fail
          refine bodyPost_ret ((stored2F HB3.out).res2 rfl _ rfl Tryz.underlying24 rfl infoFn2) rfl ?_
          have hrow := HV.out.row.chg ((chgSetF wr (w.heap.size + 1) 0 (.string nm)).trans (chgSetF _ (w.heap.size + 1) 1 (.slice Av lj cv)) fun _ _ h => h) fun g hg => by
            have := (World.ownsRow.lt HV.out.row g hg).1
            show g ≠ _
            omega
          obtain ⟨A8, c8, e8, r8⟩ := hrow.rd
          rw [prKLen2, HLJ.out] at e8
          injection e8 with e9 _ e10
          subst e9 e10
          rw [HL.out] at r8
          exact ⟨Av, cv, rfl, ⟨r8, fun ad e9 => by subst e9; have h9 := (World.ownsRow.lt hrow ad.block rfl).1; have h8 := HSZ1.out; omega⟩, below2F HG.out (by omega)⟩
        | succ g2 =>
          have hjn : j < k := by omega
          have hjl : j < C.length := by rw [HN.out]; exact hjn
          have hj0 : (0 : Int) ≤ j := by omega
          have hj1 : (j : Int) < k := by omega
          have hbw := belowThen HB1'.out hst.bel
          have hcdw := HCD.out wr hbw
          obtain ⟨q8, off, hA, _, i0, i1, i2, i3, i4, i5, i6, i7⟩ := hcdw.rd.one hjl
          have hA : A = _ := hA
          have HPU := Lib.hid (prKS (C := C) (k := j))
          rw [gIAt hjl] at HPU
          have HTG := Lib.hid (fun (hj : C[j].jmp = true) => HOK.out.tgt _ (List.getElem_mem hjl) hj)
          have HTI1 := Lib.hid (fun (hj : C[j].jmp = true) => (show prI C C[j] = setNf C[j] (rmN C C[j].n.toNat : Nat) from if_pos hj))
          have HTI0 := Lib.hid (fun (hj : C[j].jmp = false) => (show prI C C[j] = C[j] from if_neg (by rw [hj]; simp)))
          obtain ⟨b, hb⟩ : ∃ b, C[j].jmp = b := ⟨_, rfl⟩
          rw [hb] at HTG HTI1 HTI0
          have hoe : E0 j = onB C j := HE0.out j hjn
          have HRWX := Lib.hid (fun X (hX : Below w3.heap.size w3 X) => (by
            have := (HRW3.out.chg (Chg.ofBelow hX fun _ => True) trivial).cell (i := j) (by omega)
            rw [hoe] at this
            exact this : X.cell? ⟨gb, j, none⟩ = some (.bool (onB C j))))
          obtain ⟨on, hon⟩ : ∃ on, onB C j = on := ⟨_, rfl⟩
          rw [hon] at HPU HRWX
          subst hA
          have HKL : Hid ((prK C j).length ≤ 1000) := Lib.hid (by rw [prKLen2]; have := rmNLe (C := C) (k := j); omega)
          obtain ⟨ii, hii⟩ : ∃ x, C[j] = x := ⟨_, rfl⟩
          rw [hii] at i0 i1 i2 i3 i4 i5 i6 i7 HTG HTI1 HTI0 HPU
          obtain ⟨R, hR⟩ : ∃ R, prI C ii = R := ⟨_, rfl⟩
          rw [hR] at HTI1 HTI0 HPU
          have HJB : Hid ((decide (ii.op = 4) || decide (ii.op = 5)) = b) := Lib.hid (by rw [hii] at hb; exact hb)
          clear hb hii hR hoe hon
          obtain ⟨op, ra, rb, rc, obj, nn, fn, ord⟩ := ii
          unfold setNf at HTI1
          simp only at i0 i1 i2 i3 i4 i5 i6 i7 HTG HTI1 HTI0 HJB
          obtain ⟨wb, hwb⟩ : ∃ x, wr.alloc (.cells #[.int .i64 op, .int .i64 ra, .int .i64 rb, .int .i64 rc, .int .i64 obj, .int .i64 nn, .int .i64 fn, .int .i64 ord] 55) = x := ⟨_, rfl⟩
          have hbb : Below wr.heap.size wr wb := by rw [← hwb]; exact belowAlloc wr _
          have hbi : Blk wb wr.heap.size 55 #[.int .i64 op, .int .i64 ra, .int .i64 rb, .int .i64 rc, .int .i64 obj, .int .i64 nn, .int .i64 fn, .int .i64 ord] := by rw [← hwb]; exact Blk.new wr _ _
          have HBI := Lib.hid hbi
          have HBB := Lib.hid (belowThen hst.bel hbb)
          have HVB := Lib.hid (hv.below hbb)
          have HWB := Lib.hid hwb
          have HSW : Hid (w3.heap.size + 1 ≤ wr.heap.size) := Lib.hid hv.le
          obtain ⟨k1, hk1e⟩ : ∃ k1, j + 1 = k1 := ⟨_, rfl⟩
          have hwk : IntKind.i64.wrap ((j : Int) + 1) = (k1 : Int) := by rw [IntKind.wrap_i64]; omega
          rw [hk1e] at HPU
          have HK1 := Lib.hid hk1e
          have hcb := HRWX.out wb HBB.out
          clear hst hv hbw hcdw hbb hwb hk1e hlj
          obtain ⟨j0, j1, j2, j3, j4, j5, j6, j7⟩ := R
          cases on
          · have HPU2 : Hid (prK C k1 = prK C j) := Lib.hid (by rw [HPU.out]; simp)
            clear hbi
            go_upto_region 19 with fail
            rw [HWB.out]
            go_wp2_with fail
            go_roundg g2
            case measure => omega
            case rel => exact ⟨k1, by have := HK1.out; omega, by first | rfl | go_num, ⟨HBB.out, ⟨_, by rw [HPU2.out]; exact HVB.out⟩⟩⟩
          · have HPU2 : Hid (prK C k1 = prK C j ++ [⟨j0, j1, j2, j3, j4, j5, j6, j7⟩]) := Lib.hid (by rw [HPU.out]; simp)
            obtain ⟨x0, x1, x2, x3, x4, x5, x6, x7⟩ := boxFactsW hbi
            clear hbi
            go_upto_region 19 with fail
            rw [HWB.out]
            go_upto_region 20 with fail
            go_cut [68] from 44 to 80 (fun s68 wx => s68 = .bool b ∧ wx = wb)
            case first =>
              by_cases h4 : op = 4
              · have hbt : b = true := by rw [← HJB.out, decide_eq_true h4]; rfl
                subst h4
                go_wp2_with fail
                go_meet
                case rel => exact ⟨by rw [hbt], rfl⟩
              · have z4 : (op == 4) = false := by simpa using h4
                by_cases h5 : op = 5
                · have hbt : b = true := by rw [← HJB.out, decide_eq_true h5, Bool.or_true]
                  subst h5
                  go_wp2_with fail
                  go_meet
                  case rel => exact ⟨by rw [hbt], rfl⟩
                · have z5 : (op == 5) = false := by simpa using h5
                  have hbt : b = false := by rw [← HJB.out, decide_eq_false h4, decide_eq_false h5]; rfl
                  clear h4 h5
                  go_wp2_with fail
                  go_meet
                  case rel => exact ⟨by rw [hbt], rfl⟩
            case rest =>
            obtain ⟨rfl, rfl⟩ := hcut
            clear x0 x1 x2 x3 x4 x5 x6 x7
            obtain ⟨⟨x0, x1, x2, x3, x4, x5, x6, x7⟩, fx0, fx1, fx2, fx3, fx4, fx5, fx6, fx7⟩ := blkFacts HBI.out
            go_upto_if 68 with fail
            go_cut [] from 44 to 80 (fun wx => Below w3.heap.size w3 wx ∧ FnSv wx w3.heap.size (w3.heap.size + 1) nm (.slice Av lj cv) (prK C j) ∧ Blk wx wr.heap.size 55 #[.int .i64 j0, .int .i64 j1, .int .i64 j2, .int .i64 j3, .int .i64 j4, .int .i64 j5, .int .i64 j6, .int .i64 j7])
            case first =>
              cases b
              · have hti := HTI0.out rfl
                injection hti with t0 t1 t2 t3 t4 t5 t6 t7
                subst t0 t1 t2 t3 t4 t5 t6 t7
                go_wp2_with fail
                go_meet
                case rel => exact ⟨HBB.out, HVB.out, HBI.out⟩
              · have hti := HTI1.out rfl
                have htg := HTG.out rfl
                rw [HN.out] at htg
                have hnn : nn = ((nn.toNat : Nat) : Int) := by omega
                generalize nn.toNat = n2 at hti hnn
                subst hnn
                injection hti with t0 t1 t2 t3 t4 t5 t6 t7
                subst t0 t1 t2 t3 t4 t6 t7
                have h2n : n2 < k + 1 := by omega
                obtain ⟨nb, noff, eN, _, hnc⟩ := rdPlain9 (HR7.out.below HBB.out) (by rw [nmLLen]; omega)
                have hnc2 := hnc n2 (by rw [nmLLen]; exact h2n)
                rw [nmLAt h2n] at hnc2
                obtain ⟨ff, hff⟩ : ∃ ff, rmN C n2 = ff := ⟨_, rfl⟩
                rw [hff] at hnc2 t5
                subst t5 eN
                have hn20 : (0 : Int) ≤ n2 := by omega
                have hn21 : (n2 : Int) < ((k + 1 : Nat) : Int) := by omega
                have HC := Lib.hid (chgSetF wc wr.heap.size 5 (.int .i64 (ff : Int)))
                have HB6 := Lib.hid (belChgF HBB.out HC.out (by have := HSW.out; have := HBI.out.lt; omega) fun k hk => (show k ≠ wr.heap.size by have := HSW.out; omega))
                have HV6 := Lib.hid (HVB.out.chg HC.out (show w3.heap.size ≠ wr.heap.size by have := HSW.out; omega) fun k hk hv => (by have := (World.ownsRow.lt HV.out.row k hv).2; show k ≠ wr.heap.size; omega))
                have HI6 := Lib.hid (HBI.out.set 5 (.int .i64 (ff : Int)))
                clear hnc hff htg
                go_wp2_with fail
                go_meet
                case rel => exact ⟨HB6.out, HV6.out, HI6.out⟩
            case rest =>
            obtain ⟨hbc, hvc, hic⟩ := hcut
            have hb8 := belowAlloc wc (.cells #[.int .i64 j0, .int .i64 j1, .int .i64 j2, .int .i64 j3, .int .i64 j4, .int .i64 j5, .int .i64 j6, .int .i64 j7] 55)
            obtain ⟨v', w9, hrun9, hbl9, hfn9, hc9⟩ := (hvc.below hb8).push HKL.out (i := ⟨j0, j1, j2, j3, j4, j5, j6, j7⟩) (Blk.new wc _ _)
            rw [← HPU2.out] at hfn9
            have HFN9 := Lib.hid hfn9
            obtain ⟨A9, c9, e9, -⟩ := hfn9.row.rd
            subst e9
            have HB9 := Lib.hid (belChgF (belowThen hbc hb8) hc9 (by have := (belowThen hbc hb8).size; omega) fun k hk => ⟨(show k ≠ w3.heap.size by omega), (show k < w3.heap.size + 1 by omega)⟩)
            have f1 := hvc.cells.2.1
            have f9 := hbl9.cell 1
            have g9 := hbl9.frozen 1
            clear x0 x1 x2 x3 x4 x5 x6 x7
            obtain ⟨x0, x1, x2, x3, x4, x5, x6, x7⟩ := boxFactsW hic
            clear hbc hvc hic hb8 hbl9 hfn9 hc9
            go_wp2_with (at_builtin; refine Lib.wpList_append_run _ rfl _ _ _ _ rfl _ _ rfl rfl _ _ (hrun9 _) ?_)
            go_roundg g2
            case measure => omega
            case rel => exact ⟨k1, by have := HK1.out; omega, by first | rfl | go_num, ⟨HB9.out, ⟨_, HFN9.out⟩⟩⟩
    | succ g2 =>
      have hkn : k < n := by omega
      have hk0 : (0 : Int) ≤ k := by omega
      have hk1 : (k : Int) < n := by omega
      have HCE := Lib.hid (fun X (hX : Below w2.heap.size w2 X) => (by
        have := (HRW.out.chg (Chg.ofBelow hX fun _ => True) trivial).cell (i := k) (by omega)
        rw [HE0.out k hkn] at this
        exact this : X.cell? ⟨gb, k, none⟩ = some (.bool (onB C k))))
      obtain ⟨b, hb⟩ : ∃ b, onB C k = b := ⟨_, rfl⟩
      rw [hb] at HRS HCE
      clear hb
      have hwk2 : IntKind.i64.wrap ((ct : Int) + 1) = ((ct + 1 : Nat) : Int) := by rw [IntKind.wrap_i64]; omega
      cases b
      · have HR2 : Hid (rmN C (k + 1) = ct) := Lib.hid (by rw [HRS.out]; simp)
        go_wp2_with (at_builtin; refine appI _ rfl (.tmp 27) (.tmp 29) rfl w2.heap.size _ (nmL C k) rfl (HO.out.alloc _) (some ⟨wr.heap.size, 0, none⟩) 1 1 [(ct : Int)] rfl rfl HRL.out (by rw [List.length_singleton]; exact hlen) (by simp; omega) ?_; intro v1 w3 o1 _ b4; have HO4 := Lib.hid (show OwnI w3 w2.heap.size v1 (nmL C (k + 1)) by rw [HLI.out]; exact o1); have HB4 := Lib.hid (stepA HB.out b4); have hce := HCE.out w3 HB4.out; clear o1 b4)
        go_roundg g2
        case measure => omega
        case rel => exact ⟨k + 1, by omega, by go_num, by rw [HR2.out], HO4, HB4⟩
      · have HR2 : Hid (rmN C (k + 1) = ct + 1) := Lib.hid (by rw [HRS.out]; simp)
        go_wp2_with (at_builtin; refine appI _ rfl (.tmp 27) (.tmp 29) rfl w2.heap.size _ (nmL C k) rfl (HO.out.alloc _) (some ⟨wr.heap.size, 0, none⟩) 1 1 [(ct : Int)] rfl rfl HRL.out (by rw [List.length_singleton]; exact hlen) (by simp; omega) ?_; intro v1 w3 o1 _ b4; have HO4 := Lib.hid (show OwnI w3 w2.heap.size v1 (nmL C (k + 1)) by rw [HLI.out]; exact o1); have HB4 := Lib.hid (stepA HB.out b4); have hce := HCE.out w3 HB4.out; clear o1 b4)
        go_roundg g2
        case measure => omega
        case rel => exact ⟨k + 1, by omega, by go_num, by rw [HR2.out, Int.natCast_add]; rfl, HO4, HB4⟩
end Go.Proofs.YtpkagpobobmnfaaGreatDoor
