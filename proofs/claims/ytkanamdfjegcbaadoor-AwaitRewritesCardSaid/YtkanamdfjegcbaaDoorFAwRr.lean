/-
  The specification's Rewrite, given what its Condition gives.
-/
import Derived.Test.YtkanamdfjegcbaaDoorFAwRw
import Derived.Test.YtkanamdfjegcbaaDoorFAwFr
import Derived.Deep.CutRange
import Derived.Deep.DeepCutAuto
namespace Go.Proofs.YtkanamdfjegcbaaDoor
open Go Go.RowKit

set_option maxRecDepth 100000 in
set_option maxHeartbeats 4000000 in
theorem rRewrite14 (HCO : CondOk) {a : PgA} {p : Prg} (w : World) (hP : PgW w a p) (hW : p.Wf) (hsm : p.small = true) :
    Calls Tryd.prog 32 #[a.val] w (GivesRw p w) := by
  obtain ⟨W0, hW0⟩ : ∃ W, w.alloc (.cells a.fs 54) = W := ⟨_, rfl⟩
  obtain ⟨W, hWE⟩ : ∃ W, W0.alloc (.cells zer5 54) = W := ⟨_, rfl⟩
  have hbW : Below w.heap.size w W := by rw [← hWE, ← hW0]; exact belowThen (belowAlloc w _) (belowAlloc _ _)
  have hB : PBox W w.heap.size a := by rw [← hWE, ← hW0]; exact (Blk.new w _ _).alloc _
  have hR : Blk W (w.heap.size + 1) 54 zer5 := by rw [← hWE, ← hW0]; exact Blk.new1 w _ _ _
  have HRB := Lib.hid hR
  have HK := Lib.hid (fun Y (hY : Below W.heap.size W Y) => (hB.below hY).facts)
  have HFI := Lib.hid (rFind14 HCO W (hP.below hbW) hW hsm)
  have few := fewOf hsm
  have HCL := Lib.hid (fun X (hX : Below W.heap.size W X) => rClone8 p a X ((hP.below hbW).below hX) (by have := hP.l1; omega) (by have := hP.l2; omega) (by have := hP.l3; omega) (by have := hP.l4; omega) (by have := hP.l5; omega) (fun f hf => by have := shortOf hsm f hf; omega))
  have HSH := Lib.hid (shortOf hsm)
  have HSL := Lib.hid (show p.spins.length ≤ 2000 by have := spFLen (F := p.funcs) (shortOf hsm) (Nat.le_refl _); have := few.2.2.2.1; unfold Prg.spins; omega)
  have HW := Lib.hid hWE
  have HW0 := Lib.hid hW0
  have HBW := Lib.hid hbW
  have HCO' := Lib.hid HCO
  have HPF := Lib.hid (fun X (hX : Below W.heap.size W X) => ((hP.below hbW).below hX).funcs.at_)
  have HP4 := Lib.hid hP.l4
  have hpl := hP.funcs.le
  have hpm := hP.funcs.max
  rw [hP.l4] at hpl
  unfold maxLen at hpm
  have HRR : Hid (p.chk.1 = 0 → rwR p = rwP p p.spins) := Lib.hid fun h => by unfold rwR; rw [if_pos h]
  have HRN : Hid (p.chk.1 ≠ 0 → rwR p = Prg.none) := Lib.hid fun h => by unfold rwR; rw [if_neg h]
  have HSP0 : Hid (p.chk.1 = 0 → spR p = p.spins) := Lib.hid fun h => by unfold spR; rw [if_pos h]
  unfold GivesRw
  unfold GivesN at HFI
  obtain ⟨x, hx⟩ : ∃ x, p.chk.1 = x := ⟨_, rfl⟩
  rw [hx] at HFI HRR HRN HSP0 ⊢
  obtain ⟨A1, n1, c1, A2, n2, c2, A3, n3, c3, A4, n4, c4, A5, n5, c5⟩ := a
  simp only [PgA.val, PgA.fs] at *
  clear HCO hP hW hsm hWE hbW hB hx few hR hW0
  unfold zer5 at HW
  by_cases hne : x = 0
  rotate_left
  · have hq : (x != 0) = true := by simpa using hne
    have HN := Lib.hid (HRN.out hne)
    clear hne HRR HRN HSP0 HCL HSL HSH
    go_enter Tryd.func32, Tryd.ntmps32
    obtain ⟨f0, f1, f2, f3, f4⟩ := HK.out W (Below.refl _ _)
    go_wp2_with fail
    rw [HW0.out, HW.out]
    go_wp2_with fail
    refine HFI.out.mono ?_
    rintro e w1 ⟨v, rfl, -, b1⟩
    have HRB1 := Lib.hid (HRB.out.below' b1)
    have HB1 := Lib.hid b1
    obtain ⟨⟨r0, r1, r2, r3, r4⟩, fr0, fr1, fr2, fr3, fr4⟩ := blkFacts5 HRB1.out
    clear b1 f0 f1 f2 f3 f4
    go_wp2_with fail
    refine bodyPost_ret ((stored5 HRB1.out _ _ _ _ _).res2 rfl _ rfl Tryd.underlying54 rfl infoPg) rfl ?_
    exact ⟨⟨none, 0, 0, none, 0, 0, none, 0, 0, none, 0, 0, none, 0, 0⟩, rfl, by rw [HN.out]; exact pgNone _, below5 (belowThen HBW.out HB1.out) (Nat.le_succ _) _ _ _ _ _⟩
  subst hne
  have HRW := Lib.hid (HRR.out rfl)
  have HSP := Lib.hid (HSP0.out rfl)
  rw [HSP.out] at HFI
  rw [HRW.out]
  clear HRR HRN HSP0
  obtain ⟨m, hm⟩ : ∃ m, p.spins.length = m := ⟨_, rfl⟩
  have HM := Lib.hid hm
  have hm2 := HSL.out
  rw [hm] at hm2
  have HKS := Lib.hid (fun k (hk : k < p.spins.length) => spKOf hk)
  clear hm
  go_enter Tryd.func32, Tryd.ntmps32
  obtain ⟨f0, f1, f2, f3, f4⟩ := HK.out W (Below.refl _ _)
  go_wp2_with fail
  rw [HW0.out, HW.out]
  go_wp2_with fail
  refine HFI.out.mono ?_
  rintro e w1 ⟨v, rfl, o1, b1⟩
  obtain ⟨As, cs, rfl, rs⟩ := o1.rd
  rw [HM.out]
  have HRB1 := Lib.hid (HRB.out.below' b1)
  have HB1 := Lib.hid b1
  have HRS := Lib.hid rs
  have hcs := rs.le
  have hcm := rs.max
  rw [HM.out] at hcs
  unfold maxLen at hcm
  clear f0 f1 f2 f3 f4 o1 rs
  obtain ⟨f0, f1, f2, f3, f4⟩ := HK.out w1 b1
  have HCL1 := Lib.hid (HCL.out w1 b1)
  clear b1 HCL
  go_wp2_with fail
  refine HCL1.out.mono ?_
  rintro e w2 ⟨a', rfl, b2, hc⟩
  have HC := Lib.hid hc
  have HB2 := Lib.hid b2
  clear f0 f1 f2 f3 f4
  obtain ⟨w3, hw3⟩ : ∃ w3, w2.alloc (.cells a'.fs 54) = w3 := ⟨_, rfl⟩
  have HST : Hid (RwSt w1 w2.heap.size a' p 0 w3) := Lib.hid (by
    have hb3 : Below w2.heap.size w2 w3 := by rw [← hw3]; exact belowAlloc _ _
    exact ⟨belowThen b2 hb3, by rw [spGo]; exact hc.below hb3, by rw [← hw3]; exact Blk.new w2 _ _⟩)
  have HW3 := Lib.hid hw3
  clear hw3 b2 hc
  obtain ⟨D1, k1, e1, D2, k2, e2, D3, k3, e3, D4, k4, e4, D5, k5, e5⟩ := a'
  simp only [PgA.fs] at *
  have hle4 := HC.out.pg.funcs.le
  have hmx4 := HC.out.pg.funcs.max
  have hl4 := HC.out.pg.l4
  simp only at hle4 hmx4 hl4
  unfold maxLen at hmx4
  go_wp2_with fail
  rw [HW3.out]
  go_wp2_with fail
  go_loopg [7] m (fun g i wr => ∃ k : Nat, k + g = m ∧ i = .int .i64 k ∧ RwSt w1 w2.heap.size ⟨D1, k1, e1, D2, k2, e2, D3, k3, e3, D4, k4, e4, D5, k5, e5⟩ p k wr)
  case atStart => exact ⟨0, by omega, rfl, HST.out⟩
  case round =>
    obtain ⟨k, hk, rfl, hst⟩ := hrel
    have HX := Lib.hid hst
    cases gk with
    | zero =>
      have hkm : k = m := by omega
      subst hkm
      have hjz : ¬ ((k : Int) < k) := by omega
      have HE : Hid (p.spins.take k = p.spins) := Lib.hid (List.take_of_length_le (by rw [HM.out]; exact Nat.le_refl _))
      have HRB2 := Lib.hid (HRB1.out.below' hst.bel)
      obtain ⟨⟨r0, r1, r2, r3, r4⟩, fr0, fr1, fr2, fr3, fr4⟩ := blkFacts5 HRB2.out
      obtain ⟨f0, f1, f2, f3, f4⟩ := hst.box.facts
      simp only at f0 f1 f2 f3 f4
      have HPG : Hid (PgW wr ⟨D1, k1, e1, D2, k2, e2, D3, k3, e3, D4, k4, e4, D5, k5, e5⟩ (rwP p p.spins)) := Lib.hid (by have := hst.cl.pg; rw [HE.out] at this; exact this)
      clear hst
      go_wp2_with fail
      refine bodyPost_ret ((stored5 HRB2.out _ _ _ _ _).res2 rfl _ rfl Tryd.underlying54 rfl infoPg) rfl ?_
      refine ⟨⟨D1, k1, e1, D2, k2, e2, D3, k3, e3, D4, k4, e4, D5, k5, e5⟩, rfl, ?_, below5 (belowThen HBW.out (belowThen HB1.out HX.out.bel)) (Nat.le_succ _) _ _ _ _ _⟩
      exact HPG.out.but (onlySl HRB2.out) (but5 _ _ _ _ _ _ _)
    | succ g2 =>
      have hk0 : (0 : Int) ≤ k := by omega
      have hk1 : (k : Int) < m := by omega
      have hkl : k < p.spins.length := by rw [HM.out]; omega
      obtain ⟨f, n, l, c, hs, hp⟩ := HKS.out k hkl
      obtain ⟨bs, os, hAs, hbs, he⟩ := (HRS.out.below stabSn hst.bel).one hkl
      rw [hs] at he
      have z0 := he.c0
      have z1 := he.c1
      simp only at z0 z1
      subst hAs
      have hBW := belowThen HB1.out hst.bel
      obtain ⟨f0, f1, f2, f3, f4⟩ := HK.out wr hBW
      obtain ⟨pb, poff, hPA, hplt, hprow⟩ := HPF.out wr hBW (by have := hp.hf; omega)
      obtain ⟨pg1, pv, pg2, Ac, mm, cc, rfl, hmm, hpr⟩ := hprow f hp.hf
      have hPA : A4 = some ⟨pb, poff, none⟩ := hPA
      subst hPA
      have hsh := HSH.out _ (List.getElem_mem hp.hf)
      have hn2 := hp.hn
      have HCN := Lib.hid (fun X (hX : Below wr.heap.size wr X) => HCO'.out (p.funcs[f]'hp.hf).1 (p.funcs[f]'hp.hf).2 mm hmm n (by omega) Ac cc X (hpr.below stabI hX))
      have hcn : cnI (p.funcs[f]'hp.hf).2 n = awOf l c := by
        unfold cnI
        rw [if_pos, hp.aw]
        have hm2 : p.spins[k] ∈ p.spins := List.getElem_mem hkl
        rw [hs] at hm2
        exact ((spFMem (Nat.le_refl _)).1 hm2).2.2
      unfold GivesCn at HCN
      rw [hcn] at HCN
      obtain ⟨tb, htb⟩ : ∃ t, spB (p.funcs[f]'hp.hf).2 n = t := ⟨_, rfl⟩
      rw [htb] at HCN
      obtain ⟨nm, hnm⟩ : ∃ nm, (p.funcs[f]'hp.hf).1 = nm := ⟨_, rfl⟩
      rw [hnm] at HCN pg1
      have HS8 := Lib.hid (fun X (hX : Below wr.heap.size wr X) => (⟨(hX.cell (World.block_lt_of_cell? _ _ f3)).trans f3, (hX.cell hbs).trans z0, (hX.cell hbs).trans z1, (hX.cell hplt).trans pg1, (hX.cell hplt).trans pg2⟩ :
        X.cell? ⟨w.heap.size, 3, none⟩ = some (.slice (some ⟨pb, poff, none⟩) n4 c4) ∧ X.cell? ⟨bs, os + k * 3, none⟩ = some (.int .i64 (f : Int)) ∧ X.cell? ⟨bs, os + k * 3 + 1, none⟩ = some (.int .i64 (n : Int)) ∧ X.cell? ⟨pb, poff + f * 2, none⟩ = some (.string nm) ∧ X.cell? ⟨pb, poff + f * 2 + 1, none⟩ = some (.slice Ac mm cc)))
      have hpf : f < n4 := by have := hp.hf; have : p.funcs.length = n4 := HP4.out; omega
      obtain ⟨I, hI⟩ : ∃ I, awOf l c = I := ⟨_, rfl⟩
      have HPUTK := Lib.hid hp.put
      rw [hI] at HCN HPUTK
      obtain ⟨j0, j1, j2, j3, j4, j5, j6, j7⟩ := I
      unfold I8.val at HCN
      simp only at HCN
      have HPK := Lib.hid hp
      have hf0 : (0 : Int) ≤ f := by omega
      have hf1 : (f : Int) < n4 := by omega
      have HDR : Hid (Below wr.heap.size wr wr.drew) := Lib.hid ((Below.refl _ wr).drew)
      have HBS := Lib.hid hbs
      have HZ0 := Lib.hid (And.intro z0 z1)
      clear hst hs he hBW hprow hpr hsh hn2 hcn htb hnm hI hkl hmm hp f0 f1 f2 f4
      go_wp2_with fail
      go_cut [8, 9] from 21 to 61 (fun s8 s9 wx => ∃ g8, s8 = .pointer (some ⟨g8, 0, none⟩) ∧ wr.heap.size ≤ g8 ∧ Blk wx g8 44 #[.int .i64 j0, .int .i64 j1, .int .i64 j2, .int .i64 j3, .int .i64 j4, .int .i64 j5, .int .i64 j6, .int .i64 j7] ∧ Below wr.heap.size wr wx)
      case first =>
        refine wp_region_held_drew (S := fun X => X.cell? ⟨w.heap.size, 3, none⟩ = some (.slice (some ⟨pb, poff, none⟩) n4 c4) ∧ X.cell? ⟨bs, os + k * 3, none⟩ = some (.int .i64 (f : Int)) ∧ X.cell? ⟨bs, os + k * 3 + 1, none⟩ = some (.int .i64 (n : Int)) ∧ X.cell? ⟨pb, poff + f * 2, none⟩ = some (.string nm) ∧ X.cell? ⟨pb, poff + f * 2 + 1, none⟩ = some (.slice Ac mm cc)) (by kernel_rfl) (HS8.out wr.drew HDR.out) (fun hHeld => ?_)
        refine wpAnyH_take (i := 0) (oi := ⟨some 28, _, _, _, _, _⟩) (v := ?v0_1) rfl (by kernel_rfl) (by kernel_rfl) (by kernel_rfl) (fun _ _ _ h => h) (Or.inl ⟨by rfl, ?h0_1⟩) (by assumption) ?r0_1
        case h0_1 => (intro w hSw; (try dsimp only at hSw); go_simp; try with_reducible rfl)
        (try simp only [Act.put, List.setIfInBounds_toArray, List.set_cons_zero, List.set_cons_succ])
        refine wpAnyH_take (i := 1) (oi := ⟨some 29, _, _, _, _, _⟩) (v := ?v1_2) rfl (by kernel_rfl) (by kernel_rfl) (by kernel_rfl) (fun _ _ _ h => h) (Or.inl ⟨by rfl, ?h1_2⟩) (by assumption) ?r1_2
        case h1_2 => (intro w hSw; (try dsimp only at hSw); go_simp; try with_reducible rfl)
        (try simp only [Act.put, List.setIfInBounds_toArray, List.set_cons_zero, List.set_cons_succ])
        refine wpAnyH_take (i := 2) (oi := ⟨some 30, _, _, _, _, _⟩) (v := ?v2_3) rfl (by kernel_rfl) (by kernel_rfl) (by kernel_rfl) (fun _ _ _ h => h) (Or.inl ⟨by rfl, ?h2_3⟩) (by assumption) ?r2_3
        case h2_3 => (intro w hSw; (try dsimp only at hSw); go_simp; try with_reducible rfl)
        (try simp only [Act.put, List.setIfInBounds_toArray, List.set_cons_zero, List.set_cons_succ])
        refine wpAnyH_take (i := 3) (oi := ⟨some 31, _, _, _, _, _⟩) (v := ?v3_4) rfl (by kernel_rfl) (by kernel_rfl) (by kernel_rfl) (fun _ _ _ h => h) (Or.inl ⟨by rfl, ?h3_4⟩) (by assumption) ?r3_4
        case h3_4 => (intro w hSw; (try dsimp only at hSw); go_simp; try with_reducible rfl)
        (try simp only [Act.put, List.setIfInBounds_toArray, List.set_cons_zero, List.set_cons_succ])
        refine wpAnyH_take (i := 4) (oi := ⟨some 32, _, _, _, _, _⟩) (v := ?v4_5) rfl (by kernel_rfl) (by kernel_rfl) (by kernel_rfl) (fun _ _ _ h => h) (Or.inl ⟨by rfl, ?h4_5⟩) (by assumption) ?r4_5
        case h4_5 => (intro w hSw; (try dsimp only at hSw); go_simp; try with_reducible rfl)
        (try simp only [Act.put, List.setIfInBounds_toArray, List.set_cons_zero, List.set_cons_succ])
        refine wpAnyH_take (i := 5) (oi := ⟨some 33, _, _, _, _, _⟩) (v := ?v5_6) rfl (by kernel_rfl) (by kernel_rfl) (by kernel_rfl) (fun _ _ _ h => h) (Or.inl ⟨by rfl, ?h5_6⟩) (by assumption) ?r5_6
        case h5_6 => (intro w hSw; (try dsimp only at hSw); go_simp; try with_reducible rfl)
        (try simp only [Act.put, List.setIfInBounds_toArray, List.set_cons_zero, List.set_cons_succ])
        refine wpAnyH_take (i := 6) (oi := ⟨some 34, _, _, _, _, _⟩) (v := ?v6_7) rfl (by kernel_rfl) (by kernel_rfl) (by kernel_rfl) (fun _ _ _ h => h) (Or.inl ⟨by rfl, ?h6_7⟩) (by assumption) ?r6_7
        case h6_7 => (intro w hSw; (try dsimp only at hSw); go_simp; try with_reducible rfl)
        (try simp only [Act.put, List.setIfInBounds_toArray, List.set_cons_zero, List.set_cons_succ])
        refine wpAnyH_take (i := 7) (oi := ⟨some 35, _, _, _, _, _⟩) (v := ?v7_8) rfl (by kernel_rfl) (by kernel_rfl) (by kernel_rfl) (fun _ _ _ h => h) (Or.inl ⟨by rfl, ?h7_8⟩) (by assumption) ?r7_8
        case h7_8 => (intro w hSw; (try dsimp only at hSw); go_simp; try with_reducible rfl)
        (try simp only [Act.put, List.setIfInBounds_toArray, List.set_cons_zero, List.set_cons_succ])
        refine wpAnyH_take (i := 8) (oi := ⟨some 36, _, _, _, _, _⟩) (v := ?v8_9) rfl (by kernel_rfl) (by kernel_rfl) (by kernel_rfl) (fun _ _ _ h => h) (Or.inl ⟨by rfl, ?h8_9⟩) (by assumption) ?r8_9
        case h8_9 => (intro w hSw; (try dsimp only at hSw); go_simp; try with_reducible rfl)
        (try simp only [Act.put, List.setIfInBounds_toArray, List.set_cons_zero, List.set_cons_succ])
        refine wpAnyH_take (i := 9) (oi := ⟨some 37, _, _, _, _, _⟩) (v := ?v9_10) rfl (by kernel_rfl) (by kernel_rfl) (by kernel_rfl) (fun _ _ _ h => h) (Or.inl ⟨by rfl, ?h9_10⟩) (by assumption) ?r9_10
        case h9_10 => (intro w hSw; (try dsimp only at hSw); go_simp; try with_reducible rfl)
        (try simp only [Act.put, List.setIfInBounds_toArray, List.set_cons_zero, List.set_cons_succ])
        refine wpAnyH_take (i := 10) (oi := ⟨some 38, _, _, _, _, _⟩) (v := ?v10_11) rfl (by kernel_rfl) (by kernel_rfl) (by kernel_rfl) (fun _ _ _ h => h) (Or.inl ⟨by rfl, ?h10_11⟩) (by assumption) ?r10_11
        case h10_11 => (intro w hSw; (try dsimp only at hSw); go_simp; try with_reducible rfl)
        (try simp only [Act.put, List.setIfInBounds_toArray, List.set_cons_zero, List.set_cons_succ])
        refine wpAnyH_take (i := 11) (oi := ⟨some 39, _, _, _, _, _⟩) (v := ?v11_12) rfl (by kernel_rfl) (by kernel_rfl) (by kernel_rfl) (fun _ _ _ h => h) (Or.inl ⟨by rfl, ?h11_12⟩) (by assumption) ?r11_12
        case h11_12 => (intro w hSw; (try dsimp only at hSw); go_simp; try with_reducible rfl)
        (try simp only [Act.put, List.setIfInBounds_toArray, List.set_cons_zero, List.set_cons_succ])
        refine wpAnyH_take (i := 12) (oi := ⟨some 40, _, _, _, _, _⟩) (v := ?v12_13) rfl (by kernel_rfl) (by kernel_rfl) (by kernel_rfl) (fun _ _ _ h => h) (Or.inl ⟨by rfl, ?h12_13⟩) (by assumption) ?r12_13
        case h12_13 => (intro w hSw; (try dsimp only at hSw); go_simp; try with_reducible rfl)
        (try simp only [Act.put, List.setIfInBounds_toArray, List.set_cons_zero, List.set_cons_succ])
        refine wpAnyH_take (i := 13) (oi := ⟨some 41, _, _, _, _, _⟩) (v := ?v13_14) rfl (by kernel_rfl) (by kernel_rfl) (by kernel_rfl) (fun _ _ _ h => h) (Or.inl ⟨by rfl, ?h13_14⟩) (by assumption) ?r13_14
        case h13_14 => (intro w hSw; (try dsimp only at hSw); go_simp; try with_reducible rfl)
        (try simp only [Act.put, List.setIfInBounds_toArray, List.set_cons_zero, List.set_cons_succ])
        refine wpAnyH_ready (rs := [14, 18]) (by kernel_rfl) (by simp) ?_
        refine AllReadyH.cons (o := ⟨some 42, _, _, _, _, _⟩) rfl (fun K hK => ?_) (AllReadyH.cons (o := ⟨some 8, _, _, _, _, _⟩) rfl (fun K hK => ?_) (AllReadyH.nil))
        · go_simp
          refine (HCN.out _ HDR.out).mono ?_
          rintro e u1 ⟨rfl, gu⟩
          have HU := belowThen HDR.out gu
          try dsimp only
          refine hK.out _ _ (HS8.out _ HU) (fun hHeld => ?_)
          clear hK K
          (try simp only [Act.put, List.setIfInBounds_toArray, List.set_cons_zero, List.set_cons_succ])
          refine wpAnyH_take (i := 15) (oi := ⟨some 27, _, _, _, _, _⟩) (v := ?v15_15) rfl (by kernel_rfl) (by kernel_rfl) (by kernel_rfl) (fun _ _ _ h => h) (Or.inl ⟨by rfl, ?h15_15⟩) (by assumption) ?r15_15
          case h15_15 => (intro w hSw; (try dsimp only at hSw); go_simp; try with_reducible rfl)
          (try simp only [Act.put, List.setIfInBounds_toArray, List.set_cons_zero, List.set_cons_succ])
          refine wpAnyH_take (i := 16) (oi := ⟨some 43, _, _, _, _, _⟩) (v := ?v16_16) rfl (by kernel_rfl) (by kernel_rfl) (by kernel_rfl) (fun _ _ _ h => h) (Or.inl ⟨by rfl, ?h16_16⟩) (by assumption) ?r16_16
          case h16_16 => (intro w hSw; (try dsimp only at hSw); go_simp; try with_reducible rfl)
          (try simp only [Act.put, List.setIfInBounds_toArray, List.set_cons_zero, List.set_cons_succ])
          refine wpAnyH_take (i := 17) (oi := ⟨some 44, _, _, _, _, _⟩) (v := ?v17_17) rfl (by kernel_rfl) (by kernel_rfl) (by kernel_rfl) (fun _ _ _ h => h) (Or.inl ⟨by rfl, ?h17_17⟩) (by assumption) ?r17_17
          case h17_17 => (intro w hSw; (try dsimp only at hSw); go_simp; try with_reducible rfl)
          (try simp only [Act.put, List.setIfInBounds_toArray, List.set_cons_zero, List.set_cons_succ])
          refine wpAnyH_ready (rs := [18]) (by kernel_rfl) (by simp) ?_
          refine AllReadyH.cons (o := ⟨some 8, _, _, _, _, _⟩) rfl (fun K hK => ?_) (AllReadyH.nil)
          obtain ⟨Xa, hXa⟩ : ∃ Xa, u1.alloc (.cells #[.int .i64 0, .int .i64 0, .int .i64 0, .int .i64 0, .int .i64 0, .int .i64 0, .int .i64 0, .int .i64 0] 44) = Xa := ⟨_, rfl⟩
          have bXa := belowThen HU (show Below u1.heap.size u1 Xa by rw [← hXa]; exact belowAlloc _ _)
          have BXa : Blk Xa u1.heap.size 44 zeros8 := by rw [← hXa]; exact Blk.new _ _ _
          have hsz8 : wr.heap.size ≤ u1.heap.size := HU.size
          go_simp
          try rw [hXa]
          refine hK.out _ _ (HS8.out _ bXa) (fun hHeld => ?_)
          clear hK K
          clear hXa
          (try simp only [Act.put, List.setIfInBounds_toArray, List.set_cons_zero, List.set_cons_succ])
          obtain ⟨⟨r0, r1, r2, r3, r4, r5, r6, r7⟩, fr0, fr1, fr2, fr3, fr4, fr5, fr6, fr7⟩ := blkFacts BXa
          refine wpAnyH_ready (rs := [19]) (by kernel_rfl) (by simp) ?_
          refine AllReadyH.cons (o := ⟨none, _, _, _, _, _⟩) rfl (fun K hK => ?_) (AllReadyH.nil)
          go_simp
          refine hK.out _ _ (HS8.out _ (below8 bXa hsz8)) (fun hHeld => ?_)
          clear hK K
          (try simp only [Act.put, List.setIfInBounds_toArray, List.set_cons_zero, List.set_cons_succ])
          refine wpAnyH_take (i := 20) (oi := ⟨some 9, _, _, _, _, _⟩) (v := ?v20_18) rfl (by kernel_rfl) (by kernel_rfl) (by kernel_rfl) (fun _ _ _ h => h) (Or.inl ⟨by rfl, ?h20_18⟩) (by assumption) ?r20_18
          case h20_18 => (intro w hSw; (try dsimp only at hSw); go_simp; try with_reducible rfl)
          (try simp only [Act.put, List.setIfInBounds_toArray, List.set_cons_zero, List.set_cons_succ])
          refine wpAnyH_done (by kernel_rfl) ?_ _
          go_wp2_with fail
          go_meet
          exact ⟨_, rfl, hsz8, stored8 BXa, below8 bXa hsz8⟩
        · obtain ⟨Xa, hXa⟩ : ∃ Xa, wr.drew.alloc (.cells #[.int .i64 0, .int .i64 0, .int .i64 0, .int .i64 0, .int .i64 0, .int .i64 0, .int .i64 0, .int .i64 0] 44) = Xa := ⟨_, rfl⟩
          have bXa := belowThen HDR.out (show Below wr.drew.heap.size wr.drew Xa by rw [← hXa]; exact belowAlloc _ _)
          have BXa : Blk Xa wr.heap.size 44 zeros8 := by rw [← hXa]; exact Blk.new wr.drew _ _
          have hsz8 : wr.heap.size ≤ wr.heap.size := Nat.le_refl _
          go_simp
          try rw [hXa]
          refine hK.out _ _ (HS8.out _ bXa) (fun hHeld => ?_)
          clear hK K
          clear hXa
          (try simp only [Act.put, List.setIfInBounds_toArray, List.set_cons_zero, List.set_cons_succ])
          refine wpAnyH_ready (rs := [14]) (by kernel_rfl) (by simp) ?_
          refine AllReadyH.cons (o := ⟨some 42, _, _, _, _, _⟩) rfl (fun K hK => ?_) (AllReadyH.nil)
          go_simp
          refine (HCN.out _ bXa).mono ?_
          rintro e u1 ⟨rfl, gu⟩
          have HU := belowThen bXa gu
          have BU := BXa.below' gu
          try dsimp only
          refine hK.out _ _ (HS8.out _ HU) (fun hHeld => ?_)
          clear hK K
          (try simp only [Act.put, List.setIfInBounds_toArray, List.set_cons_zero, List.set_cons_succ])
          refine wpAnyH_take (i := 15) (oi := ⟨some 27, _, _, _, _, _⟩) (v := ?v15_19) rfl (by kernel_rfl) (by kernel_rfl) (by kernel_rfl) (fun _ _ _ h => h) (Or.inl ⟨by rfl, ?h15_19⟩) (by assumption) ?r15_19
          case h15_19 => (intro w hSw; (try dsimp only at hSw); go_simp; try with_reducible rfl)
          (try simp only [Act.put, List.setIfInBounds_toArray, List.set_cons_zero, List.set_cons_succ])
          refine wpAnyH_take (i := 16) (oi := ⟨some 43, _, _, _, _, _⟩) (v := ?v16_20) rfl (by kernel_rfl) (by kernel_rfl) (by kernel_rfl) (fun _ _ _ h => h) (Or.inl ⟨by rfl, ?h16_20⟩) (by assumption) ?r16_20
          case h16_20 => (intro w hSw; (try dsimp only at hSw); go_simp; try with_reducible rfl)
          (try simp only [Act.put, List.setIfInBounds_toArray, List.set_cons_zero, List.set_cons_succ])
          refine wpAnyH_take (i := 17) (oi := ⟨some 44, _, _, _, _, _⟩) (v := ?v17_21) rfl (by kernel_rfl) (by kernel_rfl) (by kernel_rfl) (fun _ _ _ h => h) (Or.inl ⟨by rfl, ?h17_21⟩) (by assumption) ?r17_21
          case h17_21 => (intro w hSw; (try dsimp only at hSw); go_simp; try with_reducible rfl)
          (try simp only [Act.put, List.setIfInBounds_toArray, List.set_cons_zero, List.set_cons_succ])
          obtain ⟨⟨r0, r1, r2, r3, r4, r5, r6, r7⟩, fr0, fr1, fr2, fr3, fr4, fr5, fr6, fr7⟩ := blkFacts BU
          refine wpAnyH_ready (rs := [19]) (by kernel_rfl) (by simp) ?_
          refine AllReadyH.cons (o := ⟨none, _, _, _, _, _⟩) rfl (fun K hK => ?_) (AllReadyH.nil)
          go_simp
          refine hK.out _ _ (HS8.out _ (below8 HU hsz8)) (fun hHeld => ?_)
          clear hK K
          (try simp only [Act.put, List.setIfInBounds_toArray, List.set_cons_zero, List.set_cons_succ])
          refine wpAnyH_take (i := 20) (oi := ⟨some 9, _, _, _, _, _⟩) (v := ?v20_22) rfl (by kernel_rfl) (by kernel_rfl) (by kernel_rfl) (fun _ _ _ h => h) (Or.inl ⟨by rfl, ?h20_22⟩) (by assumption) ?r20_22
          case h20_22 => (intro w hSw; (try dsimp only at hSw); go_simp; try with_reducible rfl)
          (try simp only [Act.put, List.setIfInBounds_toArray, List.set_cons_zero, List.set_cons_succ])
          refine wpAnyH_done (by kernel_rfl) ?_ _
          go_wp2_with fail
          go_meet
          exact ⟨_, rfl, hsz8, stored8 BU, below8 HU hsz8⟩
      case rest =>
        obtain ⟨g8, rfl, hg8, hB8, hbx⟩ := hcut
        have hX2 := HX.out.below hbx
        obtain ⟨f0, f1, f2, f3', f4⟩ := hX2.box.facts
        simp only at f0 f1 f2 f3' f4
        have hp := HPK.out
        obtain ⟨b, off, g, d, cur, hA, hb1, hb2, hcell, hg1, hBg, hcz, hrd⟩ := hX2.cl.code hp.f2 (by have := hp.n2; omega)
        have hA : D4 = some ⟨b, off, none⟩ := hA
        subst hA
        obtain ⟨g', off', eA, hg2, hx⟩ := hrd.at_ (by have := hp.n2; omega)
        cases eA
        have i0 := hx n (by have := hp.n2; omega)
        rw [hp.l2, Nat.zero_add] at i0
        have hrl := hrd.le
        have hrm := hrd.max
        have hn2 := hp.n2
        have hf2 := hp.f2
        have hl4' : (rwP p (p.spins.take k)).funcs.length = k4 := hX2.cl.pg.l4
        rw [hl4'] at hf2
        obtain ⟨L, hL⟩ : ∃ L, (rwP p (p.spins.take k)).funcs[f].2.length = L := ⟨_, rfl⟩
        have hgold : g < wr.heap.size := by
          -- the code's row was there ahead of the round
          obtain ⟨b', off', g', d', cur', qA, _, qb2, qcell, _, qB, _, _⟩ := HX.out.cl.code hp.f2 (by have := hp.n2; omega)
          have qA : (some ⟨b, off, none⟩ : Option Addr) = some ⟨b', off', none⟩ := qA
          cases qA
          have e := (hbx.cell qb2).trans qcell
          rw [hcell] at e
          cases e
          exact (show Blk wr g 44 cur' from qB).lt
        have HPUT := Lib.hid (fun Y (hY : Below wc.heap.size wc Y) => (show RwSt w1 w2.heap.size ⟨D1, k1, e1, D2, k2, e2, D3, k3, e3, some ⟨b, off, none⟩, k4, e4, D5, k5, e5⟩ p (k + 1) (put8 Y g (n * 8) ⟨j0, j1, j2, j3, j4, j5, j6, j7⟩) from by
          have hY2 := hX2.below hY
          have hBY := hBg.below' hY
          have := Cl8.put hY2.cl hp.f2 (n := n) (by omega) ⟨j0, j1, j2, j3, j4, j5, j6, j7⟩ rfl ((hY.cell hb2).trans hcell)
          rw [HPUTK.out] at this
          refine ⟨belPut8 hY2.bel hg1 _ _, this, ((butPut8 Y g (n * 8) ⟨j0, j1, j2, j3, j4, j5, j6, j7⟩).block _ hY2.box.lt fun hh => ?_).trans hY2.box⟩
          have hBY : Blk Y g 44 cur := hBY
          rw [← hh] at hBY
          exact blkOther hY2.box (e := 44) (by decide) _ _ hBY))
        have HFZ := Lib.hid (fun Y (hY : Below wc.heap.size wc Y) => frz8 (hBg.below' hY) (n * 8))
        rw [hL] at hcell hrl hn2
        obtain ⟨x0, x1, x2, x3, x4, x5, x6, x7⟩ := l
        obtain ⟨p0, p1, p2, p3, p4, p5, p6, p7⟩ := i0
        simp only at p0 p1 p2 p3 p4 p5 p6 p7
        have hz := HZ0.out
        have HS9 := Lib.hid (fun X (hX : Below wc.heap.size wc X) => (⟨(hX.cell hX2.box.lt).trans f3', (hX.cell (Nat.lt_of_lt_of_le HBS.out hbx.size)).trans ((hbx.cell HBS.out).trans hz.1), (hX.cell (Nat.lt_of_lt_of_le HBS.out hbx.size)).trans ((hbx.cell HBS.out).trans hz.2), (hX.cell hb2).trans hcell, (hB8.below' hX).cell 0, (hB8.below' hX).cell 1, (hB8.below' hX).cell 2, (hB8.below' hX).cell 3, (hB8.below' hX).cell 4, (hB8.below' hX).cell 5, (hB8.below' hX).cell 6, (hB8.below' hX).cell 7⟩ :
          X.cell? ⟨w2.heap.size, 3, none⟩ = some (.slice (some ⟨b, off, none⟩) k4 e4) ∧ X.cell? ⟨bs, os + k * 3, none⟩ = some (.int .i64 (f : Int)) ∧ X.cell? ⟨bs, os + k * 3 + 1, none⟩ = some (.int .i64 (n : Int)) ∧ X.cell? ⟨b, off + f * 2 + 1, none⟩ = some (.slice (some ⟨g, 0, none⟩) L d) ∧ X.cell? ⟨g8, 0, none⟩ = some (.int .i64 j0) ∧ X.cell? ⟨g8, 1, none⟩ = some (.int .i64 j1) ∧ X.cell? ⟨g8, 2, none⟩ = some (.int .i64 j2) ∧ X.cell? ⟨g8, 3, none⟩ = some (.int .i64 j3) ∧ X.cell? ⟨g8, 4, none⟩ = some (.int .i64 j4) ∧ X.cell? ⟨g8, 5, none⟩ = some (.int .i64 j5) ∧ X.cell? ⟨g8, 6, none⟩ = some (.int .i64 j6) ∧ X.cell? ⟨g8, 7, none⟩ = some (.int .i64 j7)))
        have hg6 : w2.heap.size ≠ g := fun e => by
          have hBg : Blk wc g 44 cur := hBg
          rw [← e] at hBg
          exact blkOther hX2.box (e := 44) (by decide) _ _ hBg
        have hbg : b ≠ g := fun e => by
          obtain ⟨b', off', hr⟩ := hX2.cl.fn (show 0 < k4 by omega)
          have e2 := hr.adr
          have e2 : (some ⟨b, off, none⟩ : Option Addr) = some ⟨b', off', none⟩ := e2
          cases e2
          obtain ⟨c2, hc2⟩ := hr.blk
          have hBg : Blk wc g 44 cur := hBg
          unfold Blk at hBg
          rw [← e, hc2] at hBg
          injection hBg with hBg
          injection hBg with _ ht
          exact absurd ht (by decide)
        have hsg : bs < w1.heap.size := by
          obtain ⟨b', o', eA, hlt, _⟩ := HRS.out.at_ (by rw [HM.out]; omega)
          cases eA
          exact hlt
        have HS92 := Lib.hid (fun Y (hY : Below wc.heap.size wc Y) => (by
          have h1 := HS9.out Y hY
          have hbut := butPut8 Y g (n * 8) ⟨j0, j1, j2, j3, j4, j5, j6, j7⟩
          have ho : ∀ t o, t < wc.heap.size → t ≠ g → (put8 Y g (n * 8) ⟨j0, j1, j2, j3, j4, j5, j6, j7⟩).cell? ⟨t, o, none⟩ = Y.cell? ⟨t, o, none⟩ := fun t o ht hne => World.cell?_of_block (hbut.block t (Nat.lt_of_lt_of_le ht hY.size) hne)
          have t8 := hB8.lt
          have n8 : g8 ≠ g := by omega
          have ts : bs < wc.heap.size := Nat.lt_of_lt_of_le HBS.out hbx.size
          have ns : bs ≠ g := by omega
          exact ⟨(ho _ _ hX2.box.lt hg6).trans h1.1, (ho _ _ ts ns).trans h1.2.1, (ho _ _ ts ns).trans h1.2.2.1, (ho _ _ hb2 hbg).trans h1.2.2.2.1, (ho _ _ t8 n8).trans h1.2.2.2.2.1, (ho _ _ t8 n8).trans h1.2.2.2.2.2.1, (ho _ _ t8 n8).trans h1.2.2.2.2.2.2.1, (ho _ _ t8 n8).trans h1.2.2.2.2.2.2.2.1, (ho _ _ t8 n8).trans h1.2.2.2.2.2.2.2.2.1, (ho _ _ t8 n8).trans h1.2.2.2.2.2.2.2.2.2.1, (ho _ _ t8 n8).trans h1.2.2.2.2.2.2.2.2.2.2.1, (ho _ _ t8 n8).trans h1.2.2.2.2.2.2.2.2.2.2.2⟩ :
          (fun X : World => X.cell? ⟨w2.heap.size, 3, none⟩ = some (.slice (some ⟨b, off, none⟩) k4 e4) ∧ X.cell? ⟨bs, os + k * 3, none⟩ = some (.int .i64 (f : Int)) ∧ X.cell? ⟨bs, os + k * 3 + 1, none⟩ = some (.int .i64 (n : Int)) ∧ X.cell? ⟨b, off + f * 2 + 1, none⟩ = some (.slice (some ⟨g, 0, none⟩) L d) ∧ X.cell? ⟨g8, 0, none⟩ = some (.int .i64 j0) ∧ X.cell? ⟨g8, 1, none⟩ = some (.int .i64 j1) ∧ X.cell? ⟨g8, 2, none⟩ = some (.int .i64 j2) ∧ X.cell? ⟨g8, 3, none⟩ = some (.int .i64 j3) ∧ X.cell? ⟨g8, 4, none⟩ = some (.int .i64 j4) ∧ X.cell? ⟨g8, 5, none⟩ = some (.int .i64 j5) ∧ X.cell? ⟨g8, 6, none⟩ = some (.int .i64 j6) ∧ X.cell? ⟨g8, 7, none⟩ = some (.int .i64 j7)) (put8 Y g (n * 8) ⟨j0, j1, j2, j3, j4, j5, j6, j7⟩)))
        have hk4 : (f : Int) < k4 := by omega
        have hn0 : (0 : Int) ≤ n := by omega
        have hnL : (n : Int) < L := by omega
        unfold maxLen at hrm
        have HDC : Hid (Below wc.heap.size wc wc.drew) := Lib.hid ((Below.refl _ wc).drew)
        have S0 := HS9.out wc.drew HDC.out
        obtain ⟨y0, y1, y2, y3, y4, y5, y6, y7, y8, y9, y10, y11⟩ := HS9.out wc (Below.refl _ _)
        obtain ⟨fz0, fz1, fz2, fz3, fz4, fz5, fz6, fz7⟩ := HFZ.out wc.drew HDC.out
        replace p0 := (HDC.out.cell hg2).trans p0
        replace p1 := (HDC.out.cell hg2).trans p1
        replace p2 := (HDC.out.cell hg2).trans p2
        replace p3 := (HDC.out.cell hg2).trans p3
        replace p4 := (HDC.out.cell hg2).trans p4
        replace p5 := (HDC.out.cell hg2).trans p5
        replace p6 := (HDC.out.cell hg2).trans p6
        replace p7 := (HDC.out.cell hg2).trans p7
        clear hX2 hp hBg hcz hrd hx hL hf2 hl4' hg6 hbg hsg hgold hb1 hb2 hg1 hg2 hB8 hbx hg8 HS8 HCN z0 z1 f0 f1 f2 f3 f4 pg1 pg2 hz
        go_wp2_with fail
        refine wp_region_held_drew (S := fun X => X.cell? ⟨w2.heap.size, 3, none⟩ = some (.slice (some ⟨b, off, none⟩) k4 e4) ∧ X.cell? ⟨bs, os + k * 3, none⟩ = some (.int .i64 (f : Int)) ∧ X.cell? ⟨bs, os + k * 3 + 1, none⟩ = some (.int .i64 (n : Int)) ∧ X.cell? ⟨b, off + f * 2 + 1, none⟩ = some (.slice (some ⟨g, 0, none⟩) L d) ∧ X.cell? ⟨g8, 0, none⟩ = some (.int .i64 j0) ∧ X.cell? ⟨g8, 1, none⟩ = some (.int .i64 j1) ∧ X.cell? ⟨g8, 2, none⟩ = some (.int .i64 j2) ∧ X.cell? ⟨g8, 3, none⟩ = some (.int .i64 j3) ∧ X.cell? ⟨g8, 4, none⟩ = some (.int .i64 j4) ∧ X.cell? ⟨g8, 5, none⟩ = some (.int .i64 j5) ∧ X.cell? ⟨g8, 6, none⟩ = some (.int .i64 j6) ∧ X.cell? ⟨g8, 7, none⟩ = some (.int .i64 j7)) (by kernel_rfl) S0 (fun hHeld => ?_)
        clear y0 y1 y2 y3 y4 y5 y6 y7 y8 y9 y10 y11
        generalize wc.drew = wd at HDC S0 p0 p1 p2 p3 p4 p5 p6 p7 fz0 fz1 fz2 fz3 fz4 fz5 fz6 fz7 hHeld ⊢
        refine wpAnyH_take (i := 0) (oi := ⟨some 45, _, _, _, _, _⟩) (v := ?v0_23) rfl (by kernel_rfl) (by kernel_rfl) (by kernel_rfl) (fun _ _ _ h => h) (Or.inl ⟨by rfl, ?h0_23⟩) (by assumption) ?r0_23
        case h0_23 => (intro w hSw; (try dsimp only at hSw); go_simp; try with_reducible rfl)
        (try simp only [Act.put, List.setIfInBounds_toArray, List.set_cons_zero, List.set_cons_succ])
        refine wpAnyH_take (i := 1) (oi := ⟨some 46, _, _, _, _, _⟩) (v := ?v1_24) rfl (by kernel_rfl) (by kernel_rfl) (by kernel_rfl) (fun _ _ _ h => h) (Or.inl ⟨by rfl, ?h1_24⟩) (by assumption) ?r1_24
        case h1_24 => (intro w hSw; (try dsimp only at hSw); go_simp; try with_reducible rfl)
        (try simp only [Act.put, List.setIfInBounds_toArray, List.set_cons_zero, List.set_cons_succ])
        refine wpAnyH_take (i := 2) (oi := ⟨some 47, _, _, _, _, _⟩) (v := ?v2_25) rfl (by kernel_rfl) (by kernel_rfl) (by kernel_rfl) (fun _ _ _ h => h) (Or.inl ⟨by rfl, ?h2_25⟩) (by assumption) ?r2_25
        case h2_25 => (intro w hSw; (try dsimp only at hSw); go_simp; try with_reducible rfl)
        (try simp only [Act.put, List.setIfInBounds_toArray, List.set_cons_zero, List.set_cons_succ])
        refine wpAnyH_take (i := 3) (oi := ⟨some 48, _, _, _, _, _⟩) (v := ?v3_26) rfl (by kernel_rfl) (by kernel_rfl) (by kernel_rfl) (fun _ _ _ h => h) (Or.inl ⟨by rfl, ?h3_26⟩) (by assumption) ?r3_26
        case h3_26 => (intro w hSw; (try dsimp only at hSw); go_simp; try with_reducible rfl)
        (try simp only [Act.put, List.setIfInBounds_toArray, List.set_cons_zero, List.set_cons_succ])
        refine wpAnyH_take (i := 4) (oi := ⟨some 49, _, _, _, _, _⟩) (v := ?v4_27) rfl (by kernel_rfl) (by kernel_rfl) (by kernel_rfl) (fun _ _ _ h => h) (Or.inl ⟨by rfl, ?h4_27⟩) (by assumption) ?r4_27
        case h4_27 => (intro w hSw; (try dsimp only at hSw); go_simp; try with_reducible rfl)
        (try simp only [Act.put, List.setIfInBounds_toArray, List.set_cons_zero, List.set_cons_succ])
        refine wpAnyH_take (i := 5) (oi := ⟨some 50, _, _, _, _, _⟩) (v := ?v5_28) rfl (by kernel_rfl) (by kernel_rfl) (by kernel_rfl) (fun _ _ _ h => h) (Or.inl ⟨by rfl, ?h5_28⟩) (by assumption) ?r5_28
        case h5_28 => (intro w hSw; (try dsimp only at hSw); go_simp; try with_reducible rfl)
        (try simp only [Act.put, List.setIfInBounds_toArray, List.set_cons_zero, List.set_cons_succ])
        refine wpAnyH_take (i := 6) (oi := ⟨some 51, _, _, _, _, _⟩) (v := ?v6_29) rfl (by kernel_rfl) (by kernel_rfl) (by kernel_rfl) (fun _ _ _ h => h) (Or.inl ⟨by rfl, ?h6_29⟩) (by assumption) ?r6_29
        case h6_29 => (intro w hSw; (try dsimp only at hSw); go_simp; try with_reducible rfl)
        (try simp only [Act.put, List.setIfInBounds_toArray, List.set_cons_zero, List.set_cons_succ])
        refine wpAnyH_take (i := 7) (oi := ⟨some 52, _, _, _, _, _⟩) (v := ?v7_30) rfl (by kernel_rfl) (by kernel_rfl) (by kernel_rfl) (fun _ _ _ h => h) (Or.inl ⟨by rfl, ?h7_30⟩) (by assumption) ?r7_30
        case h7_30 => (intro w hSw; (try dsimp only at hSw); go_simp; try with_reducible rfl)
        (try simp only [Act.put, List.setIfInBounds_toArray, List.set_cons_zero, List.set_cons_succ])
        refine wpAnyH_take (i := 8) (oi := ⟨some 53, _, _, _, _, _⟩) (v := ?v8_31) rfl (by kernel_rfl) (by kernel_rfl) (by kernel_rfl) (fun _ _ _ h => h) (Or.inl ⟨by rfl, ?h8_31⟩) (by assumption) ?r8_31
        case h8_31 => (intro w hSw; (try dsimp only at hSw); go_simp; try with_reducible rfl)
        (try simp only [Act.put, List.setIfInBounds_toArray, List.set_cons_zero, List.set_cons_succ])
        refine wpAnyH_take (i := 9) (oi := ⟨some 54, _, _, _, _, _⟩) (v := ?v9_32) rfl (by kernel_rfl) (by kernel_rfl) (by kernel_rfl) (fun _ _ _ h => h) (Or.inl ⟨by rfl, ?h9_32⟩) (by assumption) ?r9_32
        case h9_32 => (intro w hSw; (try dsimp only at hSw); go_simp; try with_reducible rfl)
        (try simp only [Act.put, List.setIfInBounds_toArray, List.set_cons_zero, List.set_cons_succ])
        refine wpAnyH_take (i := 10) (oi := ⟨some 55, _, _, _, _, _⟩) (v := ?v10_33) rfl (by kernel_rfl) (by kernel_rfl) (by kernel_rfl) (fun _ _ _ h => h) (Or.inl ⟨by rfl, ?h10_33⟩) (by assumption) ?r10_33
        case h10_33 => (intro w hSw; (try dsimp only at hSw); go_simp; try with_reducible rfl)
        (try simp only [Act.put, List.setIfInBounds_toArray, List.set_cons_zero, List.set_cons_succ])
        refine wpAnyH_take (i := 11) (oi := ⟨some 56, _, _, _, _, _⟩) (v := ?v11_34) rfl (by kernel_rfl) (by kernel_rfl) (by kernel_rfl) (fun _ _ _ h => h) (Or.inl ⟨by rfl, ?h11_34⟩) (by assumption) ?r11_34
        case h11_34 => (intro w hSw; (try dsimp only at hSw); go_simp; try with_reducible rfl)
        (try simp only [Act.put, List.setIfInBounds_toArray, List.set_cons_zero, List.set_cons_succ])
        refine wpAnyH_take (i := 12) (oi := ⟨some 57, _, _, _, _, _⟩) (v := ?v12_35) rfl (by kernel_rfl) (by kernel_rfl) (by kernel_rfl) (fun _ _ _ h => h) (Or.inl ⟨by rfl, ?h12_35⟩) (by assumption) ?r12_35
        case h12_35 => (intro w hSw; (try dsimp only at hSw); go_simp; try with_reducible rfl)
        (try simp only [Act.put, List.setIfInBounds_toArray, List.set_cons_zero, List.set_cons_succ])
        refine wpAnyH_take (i := 13) (oi := ⟨some 58, _, _, _, _, _⟩) (v := ?v13_36) rfl (by kernel_rfl) (by kernel_rfl) (by kernel_rfl) (fun _ _ _ h => h) (Or.inl ⟨by rfl, ?h13_36⟩) (by assumption) ?r13_36
        case h13_36 => (intro w hSw; (try dsimp only at hSw); go_simp; try with_reducible rfl)
        (try simp only [Act.put, List.setIfInBounds_toArray, List.set_cons_zero, List.set_cons_succ])
        refine wpAnyH_take (i := 14) (oi := ⟨some 59, _, _, _, _, _⟩) (v := ?v14_37) rfl (by kernel_rfl) (by kernel_rfl) (by kernel_rfl) (fun _ _ _ h => h) (Or.inl ⟨by rfl, ?h14_37⟩) (by assumption) ?r14_37
        case h14_37 => (intro w hSw; (try dsimp only at hSw); go_simp; try with_reducible rfl)
        (try simp only [Act.put, List.setIfInBounds_toArray, List.set_cons_zero, List.set_cons_succ])
        refine wpAnyH_take (i := 15) (oi := ⟨some 60, _, _, _, _, _⟩) (v := ?v15_38) rfl (by kernel_rfl) (by kernel_rfl) (by kernel_rfl) (fun _ _ _ h => h) (Or.inl ⟨by rfl, ?h15_38⟩) (by assumption) ?r15_38
        case h15_38 => (intro w hSw; (try dsimp only at hSw); go_simp; try with_reducible rfl)
        (try simp only [Act.put, List.setIfInBounds_toArray, List.set_cons_zero, List.set_cons_succ])
        refine wpAnyH_take (i := 16) (oi := ⟨some 61, _, _, _, _, _⟩) (v := ?v16_39) rfl (by kernel_rfl) (by kernel_rfl) (by kernel_rfl) (fun _ _ _ h => h) (Or.inl ⟨by rfl, ?h16_39⟩) (by assumption) ?r16_39
        case h16_39 => (intro w hSw; (try dsimp only at hSw); go_simp; try with_reducible rfl)
        (try simp only [Act.put, List.setIfInBounds_toArray, List.set_cons_zero, List.set_cons_succ])
        refine wpAnyH_ready (rs := [17]) (by kernel_rfl) (by simp) ?_
        refine AllReadyH.cons (o := ⟨none, _, _, _, _, _⟩) rfl (fun K hK => ?_) (AllReadyH.nil)
        go_simp
        refine hK.out _ _ (HS92.out wd HDC.out) (fun hHeld => ?_)
        clear hK K
        (try simp only [Act.put, List.setIfInBounds_toArray, List.set_cons_zero, List.set_cons_succ])
        refine wpAnyH_done (by kernel_rfl) ?_ _
        go_wp2_with fail
        go_roundg g2
        case measure => omega
        case rel => exact ⟨k + 1, by omega, by go_num, HPUT.out wd HDC.out⟩
end Go.Proofs.YtkanamdfjegcbaaDoor
