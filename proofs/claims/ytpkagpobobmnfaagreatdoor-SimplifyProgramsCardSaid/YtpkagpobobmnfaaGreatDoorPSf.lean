/-
  iFoldF again, the row of its result said to be new.
-/
import Derived.Test.YtpkagpobobmnfaaGreatDoorPSb
import Derived.Deep.CutRange
import Derived.Deep.DeepCutAuto
import Derived.Test.YtpkagpobobmnfaaGreatDoorPSh
namespace Go.Proofs.YtpkagpobobmnfaaGreatDoor
open Go Go.RowKit Go.Maps

def GivesFnF (nm : ByteArray) (D : List I8) (er : Int) (w : World) (e : Ending) (w' : World) : Prop := ∃ A c, e = .returned (.tuple #[fnV nm A D.length c, .int .i64 er]) ∧ (RdE 8 EI w' A c D ∧ ∀ ad, A = some ad → w.heap.size ≤ ad.block) ∧ Below w.heap.size w w'
set_option maxRecDepth 100000 in
set_option maxHeartbeats 8000000 in
theorem iFoldFF (nm : ByteArray) (C : List I8) (n : Nat) (hn : C.length = n) (A : Option Addr) (c : Nat) (w : World) (h : CdW w A c C) :
    Calls Tryz.prog 19 #[fnV nm A n c] w (GivesFnF (nmRf C nm) (cdR C (fdL C)) (cfE C) w) := by
  obtain ⟨W, hW⟩ : ∃ W, (w.alloc (.cells #[.string nm, .slice A n c] 24)).alloc (.cells #[.string ⟨#[]⟩, .slice none 0 0] 24) = W := ⟨_, rfl⟩
  obtain ⟨h1, h2, hbW, hsz⟩ := two8 w _ _ hW
  have HB1 := Lib.hid (show Blk W w.heap.size 24 _ from h1)
  have HB2 := Lib.hid (show Blk W (w.heap.size + 1) 24 _ from h2)
  have hcd := h.below hbW
  have HCD := Lib.hid (fun X (hX : Below W.heap.size W X) => hcd.below hX)
  have HLE := Lib.hid (iLeaders nm C n hn A c W hcd)
  have HW := Lib.hid hW
  have HBW := Lib.hid hbW
  have HSZ := Lib.hid hsz
  have HN := Lib.hid hn
  have hle := h.rd.le
  have hmx := h.rd.max
  rw [hn] at hle
  unfold maxLen at hmx
  have a0 := HB1.out.cell 0
  have a1 := HB1.out.cell 1
  clear h h1 h2 hbW hW hsz hcd hn
  unfold fnV at HLE ⊢
  by_cases hc : cfE C = 0
  rotate_left
  · have hne : (cfE C != 0) = true := by simpa using hc
    unfold GivesFnF
    rw [nmR1 hc, cdR1 hc]
    obtain ⟨er, her⟩ : ∃ er, cfE C = er := ⟨_, rfl⟩
    rw [her] at HLE hne ⊢
    obtain ⟨q, hq⟩ : ∃ q, (ldR C).length = q := ⟨_, rfl⟩
    clear hc her
    go_enter Tryz.func19, Tryz.ntmps19
    go_wp2_with fail
    rw [HW.out]
    go_wp2_with fail
    refine HLE.out.mono ?_
    rintro e w1 ⟨A1, c1, rfl, -, b1⟩
    rw [hq]
    have HB2' := Lib.hid (HB2.out.below' b1)
    have HG := Lib.hid (belowThen HBW.out b1)
    have g0 := HB2'.out.cell 0
    have g1 := HB2'.out.cell 1
    have fg0 := HB2'.out.frozen 0
    have fg1 := HB2'.out.frozen 1
    clear b1 a0 a1
    go_wp2_with fail
    refine bodyPost_ret ((stored2F HB2'.out).res2 rfl _ rfl Tryz.underlying24 rfl infoFn2) rfl ?_
    exact ⟨none, 0, rfl, ⟨RdE.nil, fun _ h => by cases h⟩, below2F HG.out (by omega)⟩
  have hok := cfOk hc
  unfold GivesFnF
  rw [nmR0 hc, cdR0 hc]
  rw [hc] at HLE ⊢
  have h64 : n ≤ 64 := by have := hok.len; rw [HN.out] at this; exact this
  have HOK := Lib.hid hok
  obtain ⟨q, hq⟩ : ∃ q, (ldR C).length = q := ⟨_, rfl⟩
  have HQ := Lib.hid hq
  have e9 : (fdL C).length = n := by rw [fdLLen]; exact HN.out
  rw [e9]
  clear hc hok e9
  go_enter Tryz.func19, Tryz.ntmps19
  go_wp2_with fail
  rw [HW.out]
  go_wp2_with fail
  refine HLE.out.mono ?_
  rintro e w1 ⟨A1, c1, rfl, r1, b1⟩
  rw [hq]
  have HR1 := Lib.hid r1
  have HB1' := Lib.hid b1
  have HB2' := Lib.hid (HB2.out.below' b1)
  have HST0 := Lib.hid (fdStartF w1 nm C)
  have hsz1 : w.heap.size + 2 ≤ w1.heap.size := by have := b1.size; have := HSZ.out; omega
  have HSZ1 := Lib.hid hsz1
  clear a0 a1 r1 hq hsz1
  have a0 := (HB1.out.below' b1).cell 0
  have a1 := (HB1.out.below' b1).cell 1
  have hmm := @run_makeMap Tryz.prog
  obtain ⟨w2, hw2⟩ : ∃ w2, (w1.alloc (.cells #[.string nm, .slice none 0 0] 24)).alloc (.map #[] 0) = w2 := ⟨_, rfl⟩
  rw [hw2] at HST0
  have a1' := (HST0.out.bel.cell (p := ⟨w.heap.size, 1, none⟩) (by have := HSZ1.out; show w.heap.size < _; omega)).trans a1
  have HW2 := Lib.hid hw2
  clear b1 hw2
  go_upto_region 6 with fail
  rw [HW2.out]
  clear hmm a0 a1
  go_wp2_with fail
  go_loopg [26] n (fun g i X => ∃ k : Nat, k + g = n ∧ i = .int .i64 k ∧ FdStF w1 nm C k X)
  case atStart => exact ⟨0, by omega, rfl, HST0.out⟩
  case round =>
    obtain ⟨k, hk, rfl, hst⟩ := hrel
    obtain ⟨v, hv⟩ := hst.fn
    obtain ⟨Av, cv, ev, -⟩ := hv.row.rd
    rw [fdKLen] at ev
    subst ev
    obtain ⟨d0, d1, fd0, fd1⟩ := hv.cells
    have HV := Lib.hid hv
    cases gk with
    | zero =>
      have hkn : k = n := by omega
      subst hkn
      have hjz : ¬ ((k : Int) < k) := by omega
      have HB3 := Lib.hid (HB2'.out.below' hst.bel)
      have g0 := HB3.out.cell 0
      have g1 := HB3.out.cell 1
      have fg0 := HB3.out.frozen 0
      have fg1 := HB3.out.frozen 1
      have HG := Lib.hid (belowThen (belowThen HBW.out HB1'.out) hst.bel)
      have HL : Hid (fdK C k = fdL C) := Lib.hid (by unfold fdL; rw [HN.out])
      have HZ := HSZ1.out
      clear hst hv a1'
      go_wp2_with fail
      refine bodyPost_ret ((stored2F HB3.out).res2 rfl _ rfl Tryz.underlying24 rfl infoFn2) rfl ?_
      have hrow := HV.out.row.chg ((chgSetF wr (w.heap.size + 1) 0 (.string nm)).trans (chgSetF _ (w.heap.size + 1) 1 (.slice Av k cv)) fun _ _ h => h) fun g hg => by
        have := (World.ownsRow.lt HV.out.row g hg).1
        show g ≠ _
        omega
      obtain ⟨A6, c6, e6, r6⟩ := hrow.rd
      rw [fdKLen] at e6
      injection e6 with e7 _ e8
      subst e7 e8
      rw [HL.out] at r6
      exact ⟨Av, cv, rfl, ⟨r6, fun ad e9 => by subst e9; have h9 := (World.ownsRow.lt hrow ad.block rfl).1; have h8 := HSZ1.out; omega⟩, below2F HG.out (by omega)⟩
    | succ g2 =>
      have hkn : k < n := by omega
      have hkl : k < C.length := by rw [HN.out]; exact hkn
      have hk0 : (0 : Int) ≤ k := by omega
      have hk1 : (k : Int) < n := by omega
      have hbw := belowThen HB1'.out hst.bel
      have hcdw := HCD.out wr hbw
      obtain ⟨q8, off, hA, _, i0, i1, i2, i3, i4, i5, i6, i7⟩ := hcdw.rd.one hkl
      have hA : A = _ := hA
      have hokk := HOK.out
      have hKO := knBOk (C := C) (k := k) (knAOk hokk (k := k) (by omega))
      have hgI : gI C k = C[k] := gIAt hkl
      have hwfC := hcdw.wf C[k] (List.getElem_mem hkl)
      have hckC := hokk.chk C[k] (List.getElem_mem hkl)
      have hFA : fdAt C k = fdI (knB C k (knA C k)) ((k + 1 : Nat) : Int) C[k] := by unfold fdAt; rw [hgI]
      have HF1 := Lib.hid (fun X (hX : MapK X (w1.heap.size + 1) k (knB C k (knA C k))) (hL : Laid7 X) => iFold1 (knB C k (knA C k)) hKO (w1.heap.size + 1) k C[k] hwfC hckC ((k + 1 : Nat) : Int) X hX hL.ins hL.nm)
      rw [← hFA] at HF1
      have hwfR := fdWf hokk hkl hwfC (by rw [HN.out]; exact h64)
      have hckR := fdAtChk hokk hkl
      have HE1 := Lib.hid (fun X (hX : MapK X (w1.heap.size + 1) k (knB C k (knA C k))) (hL : Laid7 X) => iExec (knB C k (knA C k)) (w1.heap.size + 1) k (by omega) (fdAt C k) hwfR hckR X hX hL.ins hL.nm)
      rw [← knAS] at HE1
      have HPU := Lib.hid (fdKS (C := C) (k := k))
      have HCT := Lib.hid (fun X (hX : Below w1.heap.size w1 X) b (hb : ldQ C k = b) => iContains9 (ldR C) q HQ.out (k : Int) b (memBQ hb) A1 c1 X (HR1.out.below hX))
      have HKB1 : Hid (ldQ C k = true → knB C k (knA C k) = knNo) := Lib.hid fun h => if_pos h
      have HKB0 : Hid (ldQ C k = false → knB C k (knA C k) = knA C k) := Lib.hid fun h => if_neg (by rw [h]; simp)
      have hkl2 : (fdK C k).length ≤ 1000 := by rw [fdKLen]; omega
      have HKL := Lib.hid hkl2
      subst hA
      clear hKO hgI hwfC hckC hFA hwfR hckR hokk hkl2
      obtain ⟨ii, hii⟩ : ∃ x, C[k] = x := ⟨_, rfl⟩
      rw [hii] at i0 i1 i2 i3 i4 i5 i6 i7 HF1
      obtain ⟨R, hR⟩ : ∃ R, fdAt C k = R := ⟨_, rfl⟩
      rw [hR] at HF1 HE1 HPU
      obtain ⟨KB, hKB⟩ : ∃ K, knB C k (knA C k) = K := ⟨_, rfl⟩
      rw [hKB] at HF1 HE1 HKB1 HKB0
      clear hii hR hKB
      obtain ⟨op, ra, rb, rc, obj, nn, fn, ord⟩ := ii
      obtain ⟨j0, j1, j2, j3, j4, j5, j6, j7⟩ := R
      unfold GivesI at HF1
      unfold I8.val at HF1 HE1
      simp only at i0 i1 i2 i3 i4 i5 i6 i7 HF1 HE1
      obtain ⟨wb, hwb⟩ : ∃ x, wr.alloc (.cells #[.int .i64 op, .int .i64 ra, .int .i64 rb, .int .i64 rc, .int .i64 obj, .int .i64 nn, .int .i64 fn, .int .i64 ord] 55) = x := ⟨_, rfl⟩
      have hbb : Below wr.heap.size wr wb := by rw [← hwb]; exact belowAlloc wr _
      have hbi : Blk wb wr.heap.size 55 #[.int .i64 op, .int .i64 ra, .int .i64 rb, .int .i64 rc, .int .i64 obj, .int .i64 nn, .int .i64 fn, .int .i64 ord] := by rw [← hwb]; exact Blk.new wr _ _
      have HBI := Lib.hid hbi
      have HBB := Lib.hid (belowThen hst.bel hbb)
      have HMB := Lib.hid (hst.map.below hbb)
      have HVB := Lib.hid (hv.below hbb)
      have HWB := Lib.hid hwb
      have hsz2 : w1.heap.size + 2 ≤ wr.heap.size := hv.le
      have hwk : IntKind.i64.wrap ((k : Int) + 1) = ((k + 1 : Nat) : Int) := by rw [IntKind.wrap_i64]; omega
      have HCTB := Lib.hid (HCT.out wb HBB.out)
      obtain ⟨k1, hk1e⟩ : ∃ k1, k + 1 = k1 := ⟨_, rfl⟩
      rw [hk1e] at hwk HF1 HE1 HPU
      have HK1 := Lib.hid hk1e
      clear hst hv hbw hcdw hbb hbi hwb HCT hk1e
      have hmne : wr.heap.size ≠ w1.heap.size + 1 := by omega
      cases hlq : ldQ C k
      · have HCQ := Lib.hid (HCTB.out false hlq)
        have HM4 : Hid (MapK wb (w1.heap.size + 1) k KB) := Lib.hid (by rw [HKB0.out hlq]; exact HMB.out)
        have HC4 : Hid (Chg wb wb (fun x => x ≠ w1.heap.size + 1)) := Lib.hid (Chg.refl _ _)
        clear hlq
        go_wp2_with fail
        rw [HWB.out]
        go_wp2_with fail
        refine HCQ.out.mono ?_
        rintro e w3 ⟨rfl, rfl⟩
        have hBI4 : Blk wb wr.heap.size 55 _ := (HC4.out.block _ (show wr.heap.size < wb.heap.size from HBI.out.lt) hmne).trans HBI.out
        have HB4 := Lib.hid (belChgF HBB.out HC4.out (show w1.heap.size ≤ wb.heap.size by have := HBB.out.size; omega) fun k hk => (show k ≠ w1.heap.size + 1 by omega))
        have HF4 := Lib.hid (HF1.out wb HM4.out (HCD.out wb (belowThen HB1'.out HB4.out)).ld)
        have HV4 := Lib.hid (HVB.out.chg HC4.out (show w1.heap.size ≠ w1.heap.size + 1 by omega) fun k hk _ => (show k ≠ w1.heap.size + 1 by omega))
        have HBI4 := Lib.hid hBI4
        obtain ⟨x0, x1, x2, x3, x4, x5, x6, x7⟩ := boxFactsW hBI4
        have HSW : Hid (w1.heap.size + 2 ≤ wr.heap.size) := Lib.hid hsz2
        clear hBI4 hsz2
        go_upto_region 11 with fail
        go_cut [26] from 26 to 49 (fun s26 wx => s26 = .int .i64 (k : Int) ∧ Below w1.heap.size w1 wx ∧ MapK wx (w1.heap.size + 1) k KB ∧ FnSv wx w1.heap.size (w1.heap.size + 2) nm (.slice Av k cv) (fdK C k) ∧ Blk wx wr.heap.size 55 #[.int .i64 j0, .int .i64 j1, .int .i64 j2, .int .i64 j3, .int .i64 j4, .int .i64 j5, .int .i64 j6, .int .i64 j7])
        case first =>
          go_wp2_with fail
          refine HF4.out.mono ?_
          rintro e w5 ⟨rfl, b5⟩
          have hBI5 : Blk w5 wr.heap.size 55 _ := HBI4.out.below' b5
          obtain ⟨⟨y0, y1, y2, y3, y4, y5, y6, y7⟩, fx0, fx1, fx2, fx3, fx4, fx5, fx6, fx7⟩ := blkFacts hBI5
          have hC6 := chgSt8 w5 wr.heap.size ⟨j0, j1, j2, j3, j4, j5, j6, j7⟩
          have HB5 := Lib.hid b5
          have HB6 := Lib.hid (belChgF (belowThen HB4.out b5) hC6 (by have := HSW.out; have := hBI5.lt; omega) fun k hk => (show k ≠ wr.heap.size by have := HSW.out; omega))
          have HM6 := Lib.hid ((HM4.out.below b5).chg hC6 (Ne.symm hmne))
          have HV6 := Lib.hid ((HV4.out.below b5).chg hC6 (show w1.heap.size ≠ wr.heap.size by have := HSW.out; omega) fun k hk hv => (by have := (World.ownsRow.lt HV.out.row k hv).2; show k ≠ wr.heap.size; omega))
          have HBI6 := Lib.hid (stored8 (v0 := .int .i64 j0) (v1 := .int .i64 j1) (v2 := .int .i64 j2) (v3 := .int .i64 j3) (v4 := .int .i64 j4) (v5 := .int .i64 j5) (v6 := .int .i64 j6) (v7 := .int .i64 j7) hBI5)
          clear x0 x1 x2 x3 x4 x5 x6 x7 hBI5 hC6 b5
          go_wp2_with fail
          go_meet
          case rel => exact ⟨rfl, HB6.out, HM6.out, HV6.out, HBI6.out⟩
        case rest =>
        obtain ⟨rfl, hbc, hmc, hvc, hic⟩ := hcut
        have HE6 := Lib.hid (HE1.out _ hmc (HCD.out _ (belowThen HB1'.out hbc)).ld)
        have HBC := Lib.hid hbc
        have HVC := Lib.hid hvc
        have HIC := Lib.hid hic
        clear x0 x1 x2 x3 x4 x5 x6 x7 hmc
        obtain ⟨x0, x1, x2, x3, x4, x5, x6, x7⟩ := boxFactsW hic
        clear hic hbc hvc
        go_wp2_with fail
        refine HE6.out.mono ?_
        rintro e w7 ⟨rfl, hm7, hc7⟩
        have hBI7 := (hc7.block _ HIC.out.lt hmne).trans HIC.out
        have hV7 := HVC.out.chg hc7 (show w1.heap.size ≠ w1.heap.size + 1 by omega) fun k hk _ => (show k ≠ w1.heap.size + 1 by omega)
        have hB7 := belChgF HBC.out hc7 (by have := HBC.out.size; omega) fun k hk => (show k ≠ w1.heap.size + 1 by omega)
        have hb8 := belowAlloc w7 (.cells #[.int .i64 j0, .int .i64 j1, .int .i64 j2, .int .i64 j3, .int .i64 j4, .int .i64 j5, .int .i64 j6, .int .i64 j7] 55)
        obtain ⟨v', w9, hrun9, hbl9, hfn9, hc9⟩ := (hV7.below hb8).push HKL.out (i := ⟨j0, j1, j2, j3, j4, j5, j6, j7⟩) (Blk.new w7 _ _)
        rw [← HPU.out] at hfn9
        have HFN9 := Lib.hid hfn9
        obtain ⟨A9, c9, e9, -⟩ := hfn9.row.rd
        subst e9
        have HM9 := Lib.hid ((hm7.below hb8).chg hc9 ⟨(show w1.heap.size + 1 ≠ w1.heap.size by omega), (show w1.heap.size + 1 < w1.heap.size + 2 by omega)⟩)
        have HB9 := Lib.hid (belChgF (belowThen hB7 hb8) hc9 (by have := (belowThen hB7 hb8).size; omega) fun k hk => ⟨(show k ≠ w1.heap.size by omega), (show k < w1.heap.size + 2 by omega)⟩)
        have f1 := hV7.cells.2.1
        have f9 := hbl9.cell 1
        have g9 := hbl9.frozen 1
        clear x0 x1 x2 x3 x4 x5 x6 x7
        obtain ⟨x0, x1, x2, x3, x4, x5, x6, x7⟩ := boxFactsW hBI7
        clear hm7 hc7 hBI7 hV7 hB7 hb8 hbl9 hfn9 hc9
        go_wp2_with (at_builtin; refine Lib.wpList_append_run _ rfl _ _ _ _ rfl _ _ rfl rfl _ _ (hrun9 _) ?_)
        go_roundg g2
        case measure => omega
        case rel => exact ⟨k1, by have := HK1.out; omega, by first | rfl | go_num, ⟨HB9.out, ⟨_, HFN9.out⟩, HM9.out⟩⟩
      · have HCQ := Lib.hid (HCTB.out true hlq)
        obtain ⟨w4, hrun4, hm4, ht4⟩ := HMB.out.clear 33
        have hrun4 : ∀ ty, (Builtin.clear_ #[86] ty #[.map (some (w1.heap.size + 1))]).run Tryz.prog wb = .ok (.tuple #[]) w4 := fun ty => hrun4
        have HM4 : Hid (MapK w4 (w1.heap.size + 1) k KB) := Lib.hid (by rw [HKB1.out hlq]; exact hm4.mono (Nat.zero_le _))
        have HC4 : Hid (Chg wb w4 (fun x => x ≠ w1.heap.size + 1)) := Lib.hid (Chg.ofGrown (F := fun k => k ≠ w1.heap.size + 1) ht4.grown fun k hk e => hk (by injection e with e; exact e.symm))
        clear hlq hm4 ht4
        go_wp2_with fail
        rw [HWB.out]
        go_wp2_with fail
        refine HCQ.out.mono ?_
        rintro e w3 ⟨rfl, rfl⟩
        have hBI4 : Blk w4 wr.heap.size 55 _ := (HC4.out.block _ (show wr.heap.size < wb.heap.size from HBI.out.lt) hmne).trans HBI.out
        have HB4 := Lib.hid (belChgF HBB.out HC4.out (show w1.heap.size ≤ wb.heap.size by have := HBB.out.size; omega) fun k hk => (show k ≠ w1.heap.size + 1 by omega))
        have HF4 := Lib.hid (HF1.out w4 HM4.out (HCD.out w4 (belowThen HB1'.out HB4.out)).ld)
        have HV4 := Lib.hid (HVB.out.chg HC4.out (show w1.heap.size ≠ w1.heap.size + 1 by omega) fun k hk _ => (show k ≠ w1.heap.size + 1 by omega))
        have HBI4 := Lib.hid hBI4
        obtain ⟨x0, x1, x2, x3, x4, x5, x6, x7⟩ := boxFactsW hBI4
        have HSW : Hid (w1.heap.size + 2 ≤ wr.heap.size) := Lib.hid hsz2
        clear hBI4 hsz2
        go_upto_region 11 with fail
        go_cut [26] from 26 to 49 (fun s26 wx => s26 = .int .i64 (k : Int) ∧ Below w1.heap.size w1 wx ∧ MapK wx (w1.heap.size + 1) k KB ∧ FnSv wx w1.heap.size (w1.heap.size + 2) nm (.slice Av k cv) (fdK C k) ∧ Blk wx wr.heap.size 55 #[.int .i64 j0, .int .i64 j1, .int .i64 j2, .int .i64 j3, .int .i64 j4, .int .i64 j5, .int .i64 j6, .int .i64 j7])
        case first =>
          go_wp2_with fail
          refine HF4.out.mono ?_
          rintro e w5 ⟨rfl, b5⟩
          have hBI5 : Blk w5 wr.heap.size 55 _ := HBI4.out.below' b5
          obtain ⟨⟨y0, y1, y2, y3, y4, y5, y6, y7⟩, fx0, fx1, fx2, fx3, fx4, fx5, fx6, fx7⟩ := blkFacts hBI5
          have hC6 := chgSt8 w5 wr.heap.size ⟨j0, j1, j2, j3, j4, j5, j6, j7⟩
          have HB5 := Lib.hid b5
          have HB6 := Lib.hid (belChgF (belowThen HB4.out b5) hC6 (by have := HSW.out; have := hBI5.lt; omega) fun k hk => (show k ≠ wr.heap.size by have := HSW.out; omega))
          have HM6 := Lib.hid ((HM4.out.below b5).chg hC6 (Ne.symm hmne))
          have HV6 := Lib.hid ((HV4.out.below b5).chg hC6 (show w1.heap.size ≠ wr.heap.size by have := HSW.out; omega) fun k hk hv => (by have := (World.ownsRow.lt HV.out.row k hv).2; show k ≠ wr.heap.size; omega))
          have HBI6 := Lib.hid (stored8 (v0 := .int .i64 j0) (v1 := .int .i64 j1) (v2 := .int .i64 j2) (v3 := .int .i64 j3) (v4 := .int .i64 j4) (v5 := .int .i64 j5) (v6 := .int .i64 j6) (v7 := .int .i64 j7) hBI5)
          clear x0 x1 x2 x3 x4 x5 x6 x7 hBI5 hC6 b5
          go_wp2_with fail
          go_meet
          case rel => exact ⟨rfl, HB6.out, HM6.out, HV6.out, HBI6.out⟩
        case rest =>
        obtain ⟨rfl, hbc, hmc, hvc, hic⟩ := hcut
        have HE6 := Lib.hid (HE1.out _ hmc (HCD.out _ (belowThen HB1'.out hbc)).ld)
        have HBC := Lib.hid hbc
        have HVC := Lib.hid hvc
        have HIC := Lib.hid hic
        clear x0 x1 x2 x3 x4 x5 x6 x7 hmc
        obtain ⟨x0, x1, x2, x3, x4, x5, x6, x7⟩ := boxFactsW hic
        clear hic hbc hvc
        go_wp2_with fail
        refine HE6.out.mono ?_
        rintro e w7 ⟨rfl, hm7, hc7⟩
        have hBI7 := (hc7.block _ HIC.out.lt hmne).trans HIC.out
        have hV7 := HVC.out.chg hc7 (show w1.heap.size ≠ w1.heap.size + 1 by omega) fun k hk _ => (show k ≠ w1.heap.size + 1 by omega)
        have hB7 := belChgF HBC.out hc7 (by have := HBC.out.size; omega) fun k hk => (show k ≠ w1.heap.size + 1 by omega)
        have hb8 := belowAlloc w7 (.cells #[.int .i64 j0, .int .i64 j1, .int .i64 j2, .int .i64 j3, .int .i64 j4, .int .i64 j5, .int .i64 j6, .int .i64 j7] 55)
        obtain ⟨v', w9, hrun9, hbl9, hfn9, hc9⟩ := (hV7.below hb8).push HKL.out (i := ⟨j0, j1, j2, j3, j4, j5, j6, j7⟩) (Blk.new w7 _ _)
        rw [← HPU.out] at hfn9
        have HFN9 := Lib.hid hfn9
        obtain ⟨A9, c9, e9, -⟩ := hfn9.row.rd
        subst e9
        have HM9 := Lib.hid ((hm7.below hb8).chg hc9 ⟨(show w1.heap.size + 1 ≠ w1.heap.size by omega), (show w1.heap.size + 1 < w1.heap.size + 2 by omega)⟩)
        have HB9 := Lib.hid (belChgF (belowThen hB7 hb8) hc9 (by have := (belowThen hB7 hb8).size; omega) fun k hk => ⟨(show k ≠ w1.heap.size by omega), (show k < w1.heap.size + 2 by omega)⟩)
        have f1 := hV7.cells.2.1
        have f9 := hbl9.cell 1
        have g9 := hbl9.frozen 1
        clear x0 x1 x2 x3 x4 x5 x6 x7
        obtain ⟨x0, x1, x2, x3, x4, x5, x6, x7⟩ := boxFactsW hBI7
        clear hm7 hc7 hBI7 hV7 hB7 hb8 hbl9 hfn9 hc9
        go_wp2_with (at_builtin; refine Lib.wpList_append_run _ rfl _ _ _ _ rfl _ _ rfl rfl _ _ (hrun9 _) ?_)
        go_roundg g2
        case measure => omega
        case rel => exact ⟨k1, by have := HK1.out; omega, by first | rfl | go_num, ⟨HB9.out, ⟨_, HFN9.out⟩, HM9.out⟩⟩
end Go.Proofs.YtpkagpobobmnfaaGreatDoor

namespace Go.Proofs.YtpkagpobobmnfaaGreatDoor
open Go Go.RowKit Go.Maps

set_option maxRecDepth 100000 in
set_option maxHeartbeats 8000000 in
theorem iThreadFF (nm : ByteArray) (C : List I8) (n : Nat) (hn : C.length = n) (A : Option Addr) (c : Nat) (w : World) (h : CdW w A c C) :
    Calls Tryz.prog 20 #[fnV nm A n c] w (GivesFnF (nmRf C nm) (cdR C (thL C)) (cfE C) w) := by
  obtain ⟨W, hW⟩ : ∃ W, (w.alloc (.cells #[.string nm, .slice A n c] 24)).alloc (.cells #[.string ⟨#[]⟩, .slice none 0 0] 24) = W := ⟨_, rfl⟩
  obtain ⟨h1, h2, hbW, hsz⟩ := two8 w _ _ hW
  have HB1 := Lib.hid (show Blk W w.heap.size 24 _ from h1)
  have HB2 := Lib.hid (show Blk W (w.heap.size + 1) 24 _ from h2)
  have hcd := h.below hbW
  have HCD := Lib.hid (fun X (hX : Below W.heap.size W X) => hcd.below hX)
  have HLE := Lib.hid (iLeaders nm C n hn A c W hcd)
  have HW := Lib.hid hW
  have HBW := Lib.hid hbW
  have HSZ := Lib.hid hsz
  have HN := Lib.hid hn
  have hle := h.rd.le
  have hmx := h.rd.max
  rw [hn] at hle
  unfold maxLen at hmx
  have a0 := HB1.out.cell 0
  have a1 := HB1.out.cell 1
  clear h h1 h2 hbW hW hsz hcd hn
  unfold fnV at HLE ⊢
  by_cases hc : cfE C = 0
  rotate_left
  · have hne : (cfE C != 0) = true := by simpa using hc
    unfold GivesFnF
    rw [nmR1 hc, cdR1 hc]
    obtain ⟨er, her⟩ : ∃ er, cfE C = er := ⟨_, rfl⟩
    rw [her] at HLE hne ⊢
    obtain ⟨q, hq⟩ : ∃ q, (ldR C).length = q := ⟨_, rfl⟩
    clear hc her
    go_enter Tryz.func20, Tryz.ntmps20
    go_wp2_with fail
    rw [HW.out]
    go_wp2_with fail
    refine HLE.out.mono ?_
    rintro e w1 ⟨A1, c1, rfl, -, b1⟩
    rw [hq]
    have HB2' := Lib.hid (HB2.out.below' b1)
    have HG := Lib.hid (belowThen HBW.out b1)
    have g0 := HB2'.out.cell 0
    have g1 := HB2'.out.cell 1
    have fg0 := HB2'.out.frozen 0
    have fg1 := HB2'.out.frozen 1
    clear b1 a0 a1
    go_wp2_with fail
    refine bodyPost_ret ((stored2F HB2'.out).res2 rfl _ rfl Tryz.underlying24 rfl infoFn2) rfl ?_
    exact ⟨none, 0, rfl, ⟨RdE.nil, fun _ h => by cases h⟩, below2F HG.out (by omega)⟩
  have hok := cfOk hc
  unfold GivesFnF
  rw [nmR0 hc, cdR0 hc]
  rw [hc] at HLE ⊢
  have h64 : n ≤ 64 := by have := hok.len; rw [HN.out] at this; exact this
  have HOK := Lib.hid hok
  obtain ⟨q, hq⟩ : ∃ q, (ldR C).length = q := ⟨_, rfl⟩
  have e9 : (thL C).length = n := by rw [thLen]; exact HN.out
  rw [e9]
  clear hc hok e9
  go_enter Tryz.func20, Tryz.ntmps20
  go_wp2_with fail
  rw [HW.out]
  go_wp2_with fail
  refine HLE.out.mono ?_
  rintro e w1 ⟨A1, c1, rfl, -, b1⟩
  rw [hq]
  have HB1' := Lib.hid b1
  have HB2' := Lib.hid (HB2.out.below' b1)
  have HST0 := Lib.hid (thStartF w1 nm)
  have HSZ1 : Hid (w.heap.size + 2 ≤ w1.heap.size) := Lib.hid (by have := b1.size; have := HSZ.out; omega)
  clear a0 a1 hq
  have a0 := (HB1.out.below' b1).cell 0
  have a1 := (HB1.out.below' b1).cell 1
  have HA1 := Lib.hid a1
  obtain ⟨w2, hw2⟩ : ∃ w2, w1.alloc (.cells #[.string nm, .slice none 0 0] 24) = w2 := ⟨_, rfl⟩
  rw [hw2] at HST0
  have a1' := (HST0.out.bel.cell (p := ⟨w.heap.size, 1, none⟩) (by have := HSZ1.out; show w.heap.size < _; omega)).trans a1
  have HW2 := Lib.hid hw2
  clear b1 hw2
  go_upto_region 5 with fail
  rw [HW2.out]
  clear a0 a1
  go_wp2_with fail
  go_loopg [24] n (fun g i X => ∃ k : Nat, k + g = n ∧ i = .int .i64 k ∧ ThStF w1 nm (thK C k) X)
  case atStart => exact ⟨0, by omega, rfl, HST0.out⟩
  case round =>
    obtain ⟨k, hk, rfl, hst⟩ := hrel
    have HS := Lib.hid hst
    clear a1'
    obtain ⟨v, hv⟩ := hst.fn
    obtain ⟨Av, cv, ev, -⟩ := hv.row.rd
    have hlk : (thK C k).length = k := thKLen (by rw [HN.out]; omega)
    rw [hlk] at ev
    subst ev
    obtain ⟨d0, d1, fd0, fd1⟩ := hv.cells
    have HV := Lib.hid hv
    have HLK := Lib.hid hlk
    cases gk with
    | zero =>
      have hkn : k = n := by omega
      subst hkn
      have hjz : ¬ ((k : Int) < k) := by omega
      have HB3 := Lib.hid (HB2'.out.below' hst.bel)
      have g0 := HB3.out.cell 0
      have g1 := HB3.out.cell 1
      have fg0 := HB3.out.frozen 0
      have fg1 := HB3.out.frozen 1
      have HG := Lib.hid (belowThen (belowThen HBW.out HB1'.out) hst.bel)
      have HL : Hid (thK C k = thL C) := Lib.hid (by rw [← HN.out]; exact thKAll)
      have HZ := HSZ1.out
      clear hst hv hlk
      go_wp2_with fail
      refine bodyPost_ret ((stored2F HB3.out).res2 rfl _ rfl Tryz.underlying24 rfl infoFn2) rfl ?_
      have hrow := HV.out.row.chg ((chgSetF wr (w.heap.size + 1) 0 (.string nm)).trans (chgSetF _ (w.heap.size + 1) 1 (.slice Av k cv)) fun _ _ h => h) fun g hg => by
        have := (World.ownsRow.lt HV.out.row g hg).1
        show g ≠ _
        omega
      obtain ⟨A6, c6, e6, r6⟩ := hrow.rd
      rw [HLK.out] at e6
      injection e6 with e7 _ e8
      subst e7 e8
      rw [HL.out] at r6
      exact ⟨Av, cv, rfl, ⟨r6, fun ad e9 => by subst e9; have h9 := (World.ownsRow.lt hrow ad.block rfl).1; have h8 := HSZ1.out; omega⟩, below2F HG.out (by omega)⟩
    | succ g2 =>
      have hkn : k < n := by omega
      have hkl : k < C.length := by rw [HN.out]; exact hkn
      have hk0 : (0 : Int) ≤ k := by omega
      have hk1 : (k : Int) < n := by omega
      have hbw := belowThen HB1'.out hst.bel
      have hcdw := HCD.out wr hbw
      obtain ⟨q8, off, hA, _, i0, i1, i2, i3, i4, i5, i6, i7⟩ := hcdw.rd.one hkl
      have hA : A = _ := hA
      have HPU := Lib.hid (thKS hkl)
      have HHT := Lib.hid (fun X => iHasTgt C[k] X)
      have HTG := Lib.hid (fun (hj : C[k].jmp = true) => HOK.out.tgt _ (List.getElem_mem hkl) hj)
      have HFT := Lib.hid (fun (hj : C[k].jmp = true) X (hX : Below W.heap.size W X) => iFinalT C HOK.out n HN.out A c X (HCD.out X hX).rd k _ hkl hj rfl)
      have HTI1 := Lib.hid (fun (hj : C[k].jmp = true) => (show thI C C[k] = setNf C[k] (fin C C[k].n.toNat : Nat) from if_pos hj))
      have HTI0 := Lib.hid (fun (hj : C[k].jmp = false) => (show thI C C[k] = C[k] from if_neg (by rw [hj]; simp)))
      obtain ⟨b, hb⟩ : ∃ b, C[k].jmp = b := ⟨_, rfl⟩
      rw [hb] at HHT HTG HFT HTI1 HTI0
      subst hA
      have HKL : Hid ((thK C k).length ≤ 1000) := Lib.hid (by rw [hlk]; omega)
      obtain ⟨ii, hii⟩ : ∃ x, C[k] = x := ⟨_, rfl⟩
      rw [hii] at i0 i1 i2 i3 i4 i5 i6 i7 HHT HTG HFT HTI1 HTI0 HPU
      obtain ⟨R, hR⟩ : ∃ R, thI C ii = R := ⟨_, rfl⟩
      rw [hR] at HTI1 HTI0 HPU
      clear hb hii hR
      obtain ⟨op, ra, rb, rc, obj, nn, fn, ord⟩ := ii
      unfold I8.val at HHT
      unfold setNf at HTI1
      simp only at i0 i1 i2 i3 i4 i5 i6 i7 HHT HTG HFT HTI1 HTI0
      obtain ⟨wb, hwb⟩ : ∃ x, wr.alloc (.cells #[.int .i64 op, .int .i64 ra, .int .i64 rb, .int .i64 rc, .int .i64 obj, .int .i64 nn, .int .i64 fn, .int .i64 ord] 55) = x := ⟨_, rfl⟩
      have hbb : Below wr.heap.size wr wb := by rw [← hwb]; exact belowAlloc wr _
      have hbi : Blk wb wr.heap.size 55 #[.int .i64 op, .int .i64 ra, .int .i64 rb, .int .i64 rc, .int .i64 obj, .int .i64 nn, .int .i64 fn, .int .i64 ord] := by rw [← hwb]; exact Blk.new wr _ _
      have HBI := Lib.hid hbi
      have HBB := Lib.hid (belowThen hst.bel hbb)
      have HVB := Lib.hid (hv.below hbb)
      have HWB := Lib.hid hwb
      have HSW : Hid (w1.heap.size + 1 ≤ wr.heap.size) := Lib.hid hv.le
      obtain ⟨k1, hk1e⟩ : ∃ k1, k + 1 = k1 := ⟨_, rfl⟩
      have hwk : IntKind.i64.wrap ((k : Int) + 1) = (k1 : Int) := by rw [IntKind.wrap_i64]; omega
      rw [hk1e] at HPU
      have HK1 := Lib.hid hk1e
      obtain ⟨x0, x1, x2, x3, x4, x5, x6, x7⟩ := boxFactsW hbi
      clear hst hv hbw hcdw hbb hbi hwb hk1e hlk
      obtain ⟨j0, j1, j2, j3, j4, j5, j6, j7⟩ := R
      go_wp2_with fail
      rw [HWB.out]
      go_wp2_with fail
      refine (HHT.out _).mono ?_
      rintro e w4 ⟨rfl, b4⟩
      have HB4 := Lib.hid (belowThen HBB.out b4)
      have HV4 := Lib.hid (HVB.out.below b4)
      have HI4 := Lib.hid (HBI.out.below' b4)
      clear x0 x1 x2 x3 x4 x5 x6 x7 b4
      obtain ⟨⟨x0, x1, x2, x3, x4, x5, x6, x7⟩, fx0, fx1, fx2, fx3, fx4, fx5, fx6, fx7⟩ := blkFacts HI4.out
      have HA4 := Lib.hid ((HB4.out.cell (p := ⟨w.heap.size, 1, none⟩) (by have := HSZ1.out; show w.heap.size < _; omega)).trans HA1.out)
      have ha4 := HA4.out
      go_upto_if 29 with fail
      go_cut [24] from 24 to 42 (fun s24 wx => s24 = .int .i64 (k : Int) ∧ Below w1.heap.size w1 wx ∧ FnSv wx w1.heap.size (w1.heap.size + 1) nm (.slice Av k cv) (thK C k) ∧ Blk wx wr.heap.size 55 #[.int .i64 j0, .int .i64 j1, .int .i64 j2, .int .i64 j3, .int .i64 j4, .int .i64 j5, .int .i64 j6, .int .i64 j7])
      case first =>
        cases b
        · have hti := HTI0.out rfl
          injection hti with t0 t1 t2 t3 t4 t5 t6 t7
          subst t0 t1 t2 t3 t4 t5 t6 t7
          go_wp2_with fail
          go_meet
          case rel => exact ⟨rfl, HB4.out, HV4.out, HI4.out⟩
        · have hti := HTI1.out rfl
          have htg := HTG.out rfl
          have HF4 := Lib.hid (HFT.out rfl w4 (belowThen HB1'.out HB4.out))
          have hnn : nn = ((nn.toNat : Nat) : Int) := by omega
          generalize nn.toNat = n2 at HF4 hti hnn
          subst hnn
          injection hti with t0 t1 t2 t3 t4 t5 t6 t7
          subst t0 t1 t2 t3 t4 t6 t7
          obtain ⟨ff, hff⟩ : ∃ ff, fin C n2 = ff := ⟨_, rfl⟩
          rw [hff] at HF4 t5
          subst t5
          clear htg hff
          go_wp2_with fail
          refine HF4.out.mono ?_
          rintro e w5 ⟨rfl, b5⟩
          have hI5 := HI4.out.below' b5
          have f5 := hI5.frozen 5
          have y5 := hI5.cell 5
          have HC := Lib.hid (chgSetF w5 wr.heap.size 5 (.int .i64 (ff : Int)))
          have HB6 := Lib.hid (belChgF (belowThen HB4.out b5) HC.out (by have := HSW.out; have := hI5.lt; omega) fun k hk => (show k ≠ wr.heap.size by have := HSW.out; omega))
          have HV6 := Lib.hid ((HV4.out.below b5).chg HC.out (show w1.heap.size ≠ wr.heap.size by have := HSW.out; omega) fun k hk hv => (by have := (World.ownsRow.lt HV.out.row k hv).2; show k ≠ wr.heap.size; omega))
          have HI6 := Lib.hid (hI5.set 5 (.int .i64 (ff : Int)))
          clear b5 hI5
          go_wp2_with fail
          go_meet
          case rel => exact ⟨rfl, HB6.out, HV6.out, HI6.out⟩
      case rest =>
      obtain ⟨rfl, hbc, hvc, hic⟩ := hcut
      have hb8 := belowAlloc wc (.cells #[.int .i64 j0, .int .i64 j1, .int .i64 j2, .int .i64 j3, .int .i64 j4, .int .i64 j5, .int .i64 j6, .int .i64 j7] 55)
      obtain ⟨v', w9, hrun9, hbl9, hfn9, hc9⟩ := (hvc.below hb8).push HKL.out (i := ⟨j0, j1, j2, j3, j4, j5, j6, j7⟩) (Blk.new wc _ _)
      rw [← HPU.out] at hfn9
      have HFN9 := Lib.hid hfn9
      obtain ⟨A9, c9, e9, -⟩ := hfn9.row.rd
      subst e9
      have HB9 := Lib.hid (belChgF (belowThen hbc hb8) hc9 (by have := (belowThen hbc hb8).size; omega) fun k hk => ⟨(show k ≠ w1.heap.size by omega), (show k < w1.heap.size + 1 by omega)⟩)
      have f1 := hvc.cells.2.1
      have f9 := hbl9.cell 1
      have g9 := hbl9.frozen 1
      clear x0 x1 x2 x3 x4 x5 x6 x7
      obtain ⟨x0, x1, x2, x3, x4, x5, x6, x7⟩ := boxFactsW hic
      clear hbc hvc hic hb8 hbl9 hfn9 hc9
      go_wp2_with (at_builtin; refine Lib.wpList_append_run _ rfl _ _ _ _ rfl _ _ rfl rfl _ _ (hrun9 _) ?_)
      go_roundg g2
      case measure => omega
      case rel => exact ⟨k1, by have := HK1.out; omega, by first | rfl | go_num, ⟨HB9.out, ⟨_, HFN9.out⟩⟩⟩
end Go.Proofs.YtpkagpobobmnfaaGreatDoor

namespace Go.Proofs.YtpkagpobobmnfaaGreatDoor
open Go Go.RowKit Go.Maps

set_option maxRecDepth 100000 in
set_option maxHeartbeats 8000000 in
theorem iPruneFF (nm : ByteArray) (C : List I8) (n : Nat) (hn : C.length = n) (A : Option Addr) (c : Nat) (w : World) (h : CdW w A c C) :
    Calls Tryz.prog 21 #[fnV nm A n c] w (GivesFnF (nmRf C nm) (cdR C (prL C)) (cfE C) w) := by
  obtain ⟨W, hW⟩ : ∃ W, (w.alloc (.cells #[.string nm, .slice A n c] 24)).alloc (.cells #[.string ⟨#[]⟩, .slice none 0 0] 24) = W := ⟨_, rfl⟩
  obtain ⟨h1, h2, hbW, hsz⟩ := two8 w _ _ hW
  have HB1 := Lib.hid (show Blk W w.heap.size 24 _ from h1)
  have HB2 := Lib.hid (show Blk W (w.heap.size + 1) 24 _ from h2)
  have hcd := h.below hbW
  have HCD := Lib.hid (fun X (hX : Below W.heap.size W X) => hcd.below hX)
  have HLE := Lib.hid (iReachF nm C n hn A c W hcd)
  have HW := Lib.hid hW
  have HBW := Lib.hid hbW
  have HSZ := Lib.hid hsz
  have HN := Lib.hid hn
  have hle := h.rd.le
  have hmx := h.rd.max
  rw [hn] at hle
  unfold maxLen at hmx
  have a0 := HB1.out.cell 0
  have a1 := HB1.out.cell 1
  clear h h1 h2 hbW hW hsz hcd hn
  unfold fnV at HLE ⊢
  by_cases hc : cfE C = 0
  rotate_left
  · have hne : (cfE C != 0) = true := by simpa using hc
    unfold GivesFnF
    rw [nmR1 hc, cdR1 hc]
    obtain ⟨er, her⟩ : ∃ er, cfE C = er := ⟨_, rfl⟩
    rw [her] at HLE hne ⊢
    obtain ⟨q, hq⟩ : ∃ q, (rchO C).length = q := ⟨_, rfl⟩
    clear hc her
    go_enter Tryz.func21, Tryz.ntmps21
    go_wp2_with fail
    rw [HW.out]
    go_wp2_with fail
    refine HLE.out.mono ?_
    rintro e w1 ⟨A1, c1, rfl, -, b1⟩
    rw [hq]
    have HB2' := Lib.hid (HB2.out.below' b1)
    have HG := Lib.hid (belowThen HBW.out b1)
    have g0 := HB2'.out.cell 0
    have g1 := HB2'.out.cell 1
    have fg0 := HB2'.out.frozen 0
    have fg1 := HB2'.out.frozen 1
    clear b1 a0 a1
    go_wp2_with fail
    refine bodyPost_ret ((stored2F HB2'.out).res2 rfl _ rfl Tryz.underlying24 rfl infoFn2) rfl ?_
    exact ⟨none, 0, rfl, ⟨RdE.nil, fun _ h => by cases h⟩, below2F HG.out (by omega)⟩
  have hok := cfOk hc
  unfold GivesFnF
  rw [nmR0 hc, cdR0 hc]
  rw [hc] at HLE ⊢
  have h64 : n ≤ 64 := by have := hok.len; rw [HN.out] at this; exact this
  have HOK := Lib.hid hok
  obtain ⟨q, hq⟩ : ∃ q, (rchO C).length = q := ⟨_, rfl⟩
  have ero : rchO C = (rmK C C.length).map Int.ofNat := if_pos hc
  have hqm : (rmK C C.length).length = q := by rw [ero, List.length_map] at hq; exact hq
  have e9 : (prL C).length = q := by rw [prLen]; exact hqm
  rw [e9]
  have HQM := Lib.hid hqm
  have HRO := Lib.hid ero
  have hq64 : q ≤ 64 := by have h9 := rmNLe (C := C) (k := C.length); have h8 : rmN C C.length = q := hqm; have h7 := HN.out; omega
  clear hc hok e9 hqm ero
  go_enter Tryz.func21, Tryz.ntmps21
  go_wp2_with fail
  rw [HW.out]
  go_wp2_with fail
  refine HLE.out.mono ?_
  rintro e w1 ⟨A1, c1, rfl, r1, b1⟩
  rw [hq]
  rw [HRO.out] at r1
  have HR1 := Lib.hid r1
  have hle1 := r1.le
  have hmx1 := r1.max
  rw [List.length_map, HQM.out] at hle1
  unfold maxLen at hmx1
  clear r1
  have HB1' := Lib.hid b1
  have HB2' := Lib.hid (HB2.out.below' b1)
  have HST0 := Lib.hid (thStartF w1 nm)
  have HSZ1 : Hid (w.heap.size + 2 ≤ w1.heap.size) := Lib.hid (by have := b1.size; have := HSZ.out; omega)
  clear a0 a1 hq
  have a0 := (HB1.out.below' b1).cell 0
  have a1 := (HB1.out.below' b1).cell 1
  have HA1 := Lib.hid a1
  obtain ⟨w2, hw2⟩ : ∃ w2, w1.alloc (.cells #[.string nm, .slice none 0 0] 24) = w2 := ⟨_, rfl⟩
  rw [hw2] at HST0
  have a1' := (HST0.out.bel.cell (p := ⟨w.heap.size, 1, none⟩) (by have := HSZ1.out; show w.heap.size < _; omega)).trans a1
  have HW2 := Lib.hid hw2
  clear b1 hw2
  go_upto_region 5 with fail
  rw [HW2.out]
  clear a0 a1
  go_wp2_with fail
  go_loopg [24] q (fun g i X => ∃ k : Nat, k + g = q ∧ i = .int .i64 k ∧ ThStF w1 nm (prT C k) X)
  case atStart => exact ⟨0, by omega, rfl, HST0.out⟩
  case round =>
    obtain ⟨k, hk, rfl, hst⟩ := hrel
    have HS := Lib.hid hst
    clear a1'
    obtain ⟨v, hv⟩ := hst.fn
    obtain ⟨Av, cv, ev, -⟩ := hv.row.rd
    have hlk : (prT C k).length = k := prTLen (by rw [HQM.out]; omega)
    rw [hlk] at ev
    subst ev
    obtain ⟨d0, d1, fd0, fd1⟩ := hv.cells
    have HV := Lib.hid hv
    have HLK := Lib.hid hlk
    cases gk with
    | zero =>
      have hkn : k = q := by omega
      subst hkn
      have hjz : ¬ ((k : Int) < k) := by omega
      have HB3 := Lib.hid (HB2'.out.below' hst.bel)
      have g0 := HB3.out.cell 0
      have g1 := HB3.out.cell 1
      have fg0 := HB3.out.frozen 0
      have fg1 := HB3.out.frozen 1
      have HG := Lib.hid (belowThen (belowThen HBW.out HB1'.out) hst.bel)
      have HL : Hid (prT C k = prL C) := Lib.hid (by rw [← HQM.out]; exact prTAll)
      have HZ := HSZ1.out
      clear hst hv hlk
      go_wp2_with fail
      refine bodyPost_ret ((stored2F HB3.out).res2 rfl _ rfl Tryz.underlying24 rfl infoFn2) rfl ?_
      have hrow := HV.out.row.chg ((chgSetF wr (w.heap.size + 1) 0 (.string nm)).trans (chgSetF _ (w.heap.size + 1) 1 (.slice Av k cv)) fun _ _ h => h) fun g hg => by
        have := (World.ownsRow.lt HV.out.row g hg).1
        show g ≠ _
        omega
      obtain ⟨A6, c6, e6, r6⟩ := hrow.rd
      rw [HLK.out] at e6
      injection e6 with e7 _ e8
      subst e7 e8
      rw [HL.out] at r6
      exact ⟨Av, cv, rfl, ⟨r6, fun ad e9 => by subst e9; have h9 := (World.ownsRow.lt hrow ad.block rfl).1; have h8 := HSZ1.out; omega⟩, below2F HG.out (by omega)⟩
    | succ g2 =>
      have hkq : k < q := by omega
      have hkr : k < (rmK C C.length).length := by rw [HQM.out]; exact hkq
      have hj0 : (0 : Int) ≤ k := by omega
      have hj1 : (k : Int) < q := by omega
      have hbw := belowThen HB1'.out hst.bel
      have hcdw := HCD.out wr hbw
      have hrw := HR1.out.below hst.bel
      have ha8 := (hst.bel.cell (p := ⟨w.heap.size, 1, none⟩) (by have := HSZ1.out; show w.heap.size < _; omega)).trans HA1.out
      obtain ⟨rb, roff, eR, _, hrc⟩ := rdPlain9 hrw (by rw [List.length_map]; omega)
      have hx0 := hrc k (by rw [List.length_map]; exact hkr)
      obtain ⟨y, hy⟩ : ∃ y, (rmK C C.length)[k] = y := ⟨_, rfl⟩
      have ey : ((rmK C C.length).map Int.ofNat).getD k 0 = (y : Int) := by rw [← hy]; simp [List.getD, hkr]
      rw [ey] at hx0
      have hyl : y < C.length := by have := (rmMem.1 (List.getElem_mem hkr)).1; rw [hy] at this; exact this
      have hyn : y < n := by rw [HN.out] at hyl; exact hyl
      have hk0 : (0 : Int) ≤ y := by omega
      have hk1 : (y : Int) < n := by omega
      obtain ⟨q8, off, hA, _, i0, i1, i2, i3, i4, i5, i6, i7⟩ := hcdw.rd.one hyl
      have hA : A = _ := hA
      have HPU0 := prTS hkr
      rw [hy, gIAt hyl] at HPU0
      have HPU := Lib.hid HPU0
      have HHT := Lib.hid (fun X => iHasTgt C[y] X)
      have HTG := Lib.hid (fun (hj : C[y].jmp = true) => HOK.out.tgt _ (List.getElem_mem hyl) hj)
      have HFT := Lib.hid (fun (hj : C[y].jmp = true) X (hX : Below w1.heap.size w1 X) => iBin (C := C) (t := C[y].n.toNat) (m := q) (by have := HOK.out.tgt _ (List.getElem_mem hyl) hj; omega) (by rw [HN.out]; exact h64) HQM.out (by omega) A1 c1 X (HR1.out.below hX))
      have HTI1 := Lib.hid (fun (hj : C[y].jmp = true) => (show prI C C[y] = setNf C[y] (rmN C C[y].n.toNat : Nat) from if_pos hj))
      have HTI0 := Lib.hid (fun (hj : C[y].jmp = false) => (show prI C C[y] = C[y] from if_neg (by rw [hj]; simp)))
      obtain ⟨b, hb⟩ : ∃ b, C[y].jmp = b := ⟨_, rfl⟩
      rw [hb] at HHT HTG HFT HTI1 HTI0
      subst hA eR
      have HKL : Hid ((prT C k).length ≤ 1000) := Lib.hid (by rw [hlk]; omega)
      obtain ⟨ii, hii⟩ : ∃ x, C[y] = x := ⟨_, rfl⟩
      rw [hii] at i0 i1 i2 i3 i4 i5 i6 i7 HHT HTG HFT HTI1 HTI0 HPU
      obtain ⟨R, hR⟩ : ∃ R, prI C ii = R := ⟨_, rfl⟩
      rw [hR] at HTI1 HTI0 HPU
      clear hb hii hR HPU0 hy ey hrc hrw hyl
      obtain ⟨op, ra, rb2, rc, obj, nn, fn, ord⟩ := ii
      unfold I8.val at HHT
      unfold setNf at HTI1
      simp only at i0 i1 i2 i3 i4 i5 i6 i7 HHT HTG HFT HTI1 HTI0
      obtain ⟨wb, hwb⟩ : ∃ x, wr.alloc (.cells #[.int .i64 op, .int .i64 ra, .int .i64 rb2, .int .i64 rc, .int .i64 obj, .int .i64 nn, .int .i64 fn, .int .i64 ord] 55) = x := ⟨_, rfl⟩
      have hbb : Below wr.heap.size wr wb := by rw [← hwb]; exact belowAlloc wr _
      have hbi : Blk wb wr.heap.size 55 #[.int .i64 op, .int .i64 ra, .int .i64 rb2, .int .i64 rc, .int .i64 obj, .int .i64 nn, .int .i64 fn, .int .i64 ord] := by rw [← hwb]; exact Blk.new wr _ _
      have HBI := Lib.hid hbi
      have HBB := Lib.hid (belowThen hst.bel hbb)
      have HVB := Lib.hid (hv.below hbb)
      have HWB := Lib.hid hwb
      have HSW : Hid (w1.heap.size + 1 ≤ wr.heap.size) := Lib.hid hv.le
      obtain ⟨k1, hk1e⟩ : ∃ k1, k + 1 = k1 := ⟨_, rfl⟩
      have hwk : IntKind.i64.wrap ((k : Int) + 1) = (k1 : Int) := by rw [IntKind.wrap_i64]; omega
      rw [hk1e] at HPU
      have HK1 := Lib.hid hk1e
      obtain ⟨x0, x1, x2, x3, x4, x5, x6, x7⟩ := boxFactsW hbi
      clear hst hv hbw hcdw hbb hbi hwb hk1e hlk
      obtain ⟨j0, j1, j2, j3, j4, j5, j6, j7⟩ := R
      go_wp2_with fail
      rw [HWB.out]
      go_wp2_with fail
      refine (HHT.out _).mono ?_
      rintro e w4 ⟨rfl, b4⟩
      have HB4 := Lib.hid (belowThen HBB.out b4)
      have HV4 := Lib.hid (HVB.out.below b4)
      have HI4 := Lib.hid (HBI.out.below' b4)
      clear x0 x1 x2 x3 x4 x5 x6 x7 b4
      obtain ⟨⟨x0, x1, x2, x3, x4, x5, x6, x7⟩, fx0, fx1, fx2, fx3, fx4, fx5, fx6, fx7⟩ := blkFacts HI4.out
      go_upto_if 34 with fail
      go_cut [24] from 24 to 49 (fun s24 wx => s24 = .int .i64 (k : Int) ∧ Below w1.heap.size w1 wx ∧ FnSv wx w1.heap.size (w1.heap.size + 1) nm (.slice Av k cv) (prT C k) ∧ Blk wx wr.heap.size 55 #[.int .i64 j0, .int .i64 j1, .int .i64 j2, .int .i64 j3, .int .i64 j4, .int .i64 j5, .int .i64 j6, .int .i64 j7])
      case first =>
        cases b
        · have hti := HTI0.out rfl
          injection hti with t0 t1 t2 t3 t4 t5 t6 t7
          subst t0 t1 t2 t3 t4 t5 t6 t7
          go_wp2_with fail
          go_meet
          case rel => exact ⟨rfl, HB4.out, HV4.out, HI4.out⟩
        · have hti := HTI1.out rfl
          have htg := HTG.out rfl
          have HF4 := Lib.hid (HFT.out rfl w4 HB4.out)
          have hnn : nn = ((nn.toNat : Nat) : Int) := by omega
          generalize nn.toNat = n2 at HF4 hti hnn
          subst hnn
          injection hti with t0 t1 t2 t3 t4 t5 t6 t7
          subst t0 t1 t2 t3 t4 t6 t7
          obtain ⟨ff, hff⟩ : ∃ ff, rmN C n2 = ff := ⟨_, rfl⟩
          rw [hff] at HF4 t5
          subst t5
          clear htg hff
          go_wp2_with fail
          refine HF4.out.mono ?_
          rintro e w5 ⟨bf, rfl, b5⟩
          have hI5 := HI4.out.below' b5
          have f5 := hI5.frozen 5
          have y5 := hI5.cell 5
          have HC := Lib.hid (chgSetF w5 wr.heap.size 5 (.int .i64 (ff : Int)))
          have HB6 := Lib.hid (belChgF (belowThen HB4.out b5) HC.out (by have := HSW.out; have := hI5.lt; omega) fun k hk => (show k ≠ wr.heap.size by have := HSW.out; omega))
          have HV6 := Lib.hid ((HV4.out.below b5).chg HC.out (show w1.heap.size ≠ wr.heap.size by have := HSW.out; omega) fun k hk hv => (by have := (World.ownsRow.lt HV.out.row k hv).2; show k ≠ wr.heap.size; omega))
          have HI6 := Lib.hid (hI5.set 5 (.int .i64 (ff : Int)))
          clear b5 hI5
          go_wp2_with fail
          go_meet
          case rel => exact ⟨rfl, HB6.out, HV6.out, HI6.out⟩
      case rest =>
      obtain ⟨rfl, hbc, hvc, hic⟩ := hcut
      have hb8 := belowAlloc wc (.cells #[.int .i64 j0, .int .i64 j1, .int .i64 j2, .int .i64 j3, .int .i64 j4, .int .i64 j5, .int .i64 j6, .int .i64 j7] 55)
      obtain ⟨v', w9, hrun9, hbl9, hfn9, hc9⟩ := (hvc.below hb8).push HKL.out (i := ⟨j0, j1, j2, j3, j4, j5, j6, j7⟩) (Blk.new wc _ _)
      rw [← HPU.out] at hfn9
      have HFN9 := Lib.hid hfn9
      obtain ⟨A9, c9, e9, -⟩ := hfn9.row.rd
      subst e9
      have HB9 := Lib.hid (belChgF (belowThen hbc hb8) hc9 (by have := (belowThen hbc hb8).size; omega) fun k hk => ⟨(show k ≠ w1.heap.size by omega), (show k < w1.heap.size + 1 by omega)⟩)
      have f1 := hvc.cells.2.1
      have f9 := hbl9.cell 1
      have g9 := hbl9.frozen 1
      clear x0 x1 x2 x3 x4 x5 x6 x7
      obtain ⟨x0, x1, x2, x3, x4, x5, x6, x7⟩ := boxFactsW hic
      clear hbc hvc hic hb8 hbl9 hfn9 hc9
      go_wp2_with (at_builtin; refine Lib.wpList_append_run _ rfl _ _ _ _ rfl _ _ rfl rfl _ _ (hrun9 _) ?_)
      go_roundg g2
      case measure => omega
      case rel => exact ⟨k1, by have := HK1.out; omega, by first | rfl | go_num, ⟨HB9.out, ⟨_, HFN9.out⟩⟩⟩
end Go.Proofs.YtpkagpobobmnfaaGreatDoor
