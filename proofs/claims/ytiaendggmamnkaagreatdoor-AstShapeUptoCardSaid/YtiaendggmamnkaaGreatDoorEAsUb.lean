/-
  Clone of units: a copy in new memory.
-/
import Derived.Test.YtiaendggmamnkaaGreatDoorEAsUa
import Derived.BigQuiet
namespace Go.Proofs.YtiaendggmamnkaaGreatDoor
open Go Go.RowKit

set_option maxRecDepth 100000 in
set_option maxHeartbeats 4000000 in
theorem iCloneU (dx D : Nat) (p : Un) (a : PgA) (w : World) (ha : UnR w a p dx D) (h1 : a.n1 ≤ 4000000) (h2 : a.n2 ≤ 4000000) (h3 : a.n3 ≤ 4000000) (h4 : a.n4 ≤ 4000000) (h5 : a.n5 ≤ 4000000) (h6 : EqU p) :
    Calls Tryz.prog 28 #[a.val] w fun e w' => ∃ a', e = .returned a'.val ∧ Below w.heap.size w w' ∧ Cl16 w.heap.size dx D w' p a' := by
  obtain ⟨A1, n1, c1, A2, n2, c2, A3, n3, c3, A4, n4, c4, A5, n5, c5⟩ := a
  unfold PgA.val PgA.fs
  obtain ⟨W, hW⟩ : ∃ W, (w.alloc (.cells #[.slice A1 n1 c1, .slice A2 n2 c2, .slice A3 n3 c3, .slice A4 n4 c4, .slice A5 n5 c5] 27)) = W := ⟨_, rfl⟩
  obtain ⟨W1, hW1⟩ : ∃ W1, (W.alloc (.cells #[.slice none 0 0, .slice none 0 0, .slice none 0 0, .slice none 0 0, .slice none 0 0] 27)) = W1 := ⟨_, rfl⟩
  have hbW : Below w.heap.size w W := by rw [← hW]; exact belowAlloc w _
  have hbW1 : Below W.heap.size W W1 := by rw [← hW1]; exact belowAlloc W _
  have HB : UBox W w.heap.size ⟨A1, n1, c1, A2, n2, c2, A3, n3, c3, A4, n4, c4, A5, n5, c5⟩ := by rw [← hW]; exact Blk.new w _ _
  have HB1 := HB.below hbW1
  obtain ⟨k1, k2, k3, k4, k5⟩ := HB1.facts
  have hS : Below W1.heap.size W1 W1.drew := (Below.refl _ W1).drew
  have C1 := Lib.hid (fun X (hX : Below W1.heap.size W1 X) => iCopy16V p.vars n1 c1 ha.l1 (by simp only at *; omega) A1 X ((((ha.below hbW).below hbW1).below hX).vars))
  have C2 := Lib.hid (fun X (hX : Below W1.heap.size W1 X) => iCopy16S p.muts n2 c2 ha.l2 (by simp only at *; omega) A2 X ((((ha.below hbW).below hbW1).below hX).muts))
  have C3 := Lib.hid (fun X (hX : Below W1.heap.size W1 X) => iCopy16S p.conds n3 c3 ha.l3 (by simp only at *; omega) A3 X ((((ha.below hbW).below hbW1).below hX).conds))
  have C4 := Lib.hid (fun X (hX : Below W1.heap.size W1 X) => iCopyGP w.heap.size dx D p.procs n4 c4 ha.l4 (by simp only at *; omega) A4 X (((ha.procs.toGPi.below (stabGPi _ _ _) hbW).below (stabGPi _ _ _) hbW1).below (stabGPi _ _ _) hX))
  have C5 := Lib.hid (fun X (hX : Below W1.heap.size W1 X) => iCopy16H p.thr n5 c5 ha.l5 (by simp only at *; omega) A5 X ((((ha.below hbW).below hbW1).below hX).thr))
  have HB0 : w.heap.size ≤ W1.heap.size := Nat.le_trans hbW.size hbW1.size
  have HK := Lib.hid (fun X (hX : Below W1.heap.size W1 X) => (⟨hX, (HB1.below hX).facts⟩ : _ ∧ _))
  have HW1 := Lib.hid hW1
  have HW := Lib.hid hW
  have HA := Lib.hid ha
  clear hbW hbW1 HB HB1 ha hW hW1
  go_enter Tryz.func28, Tryz.ntmps28
  go_wp2_with fail
  rw [HW.out]
  go_wp2_with fail
  rw [HW1.out]
  refine Code.wp_mono (Q := fun e s X => ∃ (a : PgA) (g : Nat), e = .normal ∧ s = ⟨#[.agg #[.slice A1 n1 c1, .slice A2 n2 c2, .slice A3 n3 c3, .slice A4 n4 c4, .slice A5 n5 c5], .pointer (some ⟨w.heap.size, 0, none⟩), .pointer (some ⟨w.heap.size + 1, 0, none⟩), .pointer (some ⟨g, 0, none⟩), undef,
    .pointer (some ⟨w.heap.size, 0, none⟩), .slice A1 n1 c1, .slice a.A1 a.n1 a.c1, .pointer (some ⟨w.heap.size, 1, none⟩), .slice A2 n2 c2, .slice a.A2 a.n2 a.c2, .pointer (some ⟨w.heap.size, 2, none⟩), .slice A3 n3 c3, .slice a.A3 a.n3 a.c3, .pointer (some ⟨w.heap.size, 3, none⟩), .slice A4 n4 c4, .slice a.A4 a.n4 a.c4, .pointer (some ⟨w.heap.size, 4, none⟩), .slice A5 n5 c5, .slice a.A5 a.n5 a.c5, a.val,
    undef, undef, undef, undef, undef, undef, undef, undef, undef, undef, undef, undef, undef, undef, undef, undef, undef, undef, undef, undef], []⟩ ∧ Made16 w.heap.size dx D W1 X p a g) ?_ ?_
  · rintro e s X ⟨⟨A1', n1', c1', A2', n2', c2', A3', n3', c3', A4', n4', c4', A5', n5', c5'⟩, g, rfl, rfl, hm⟩
    clear C1 C2 C3 C4 C5 hS k1 k2 k3 k4 k5 h1 h2 h3 h4 h5
    have HL0 := Lib.hid hm.start
    obtain ⟨x0, x1, x2, x3, x4⟩ := hm.box.facts
    have hn4 := hm.l4
    have hle4 := hm.start.le4
    have hmx4 := hm.start.mx4
    simp only at x0 x1 x2 x3 x4 hn4 hle4 hmx4
    unfold maxLen at hmx4
    clear hm x0 x1 x2 x4
    have H6 := Lib.hid h6
    have HN4 := Lib.hid hn4
    clear h6
    go_wp2_with fail
    go_loopw [4, 24] (fun _ i Y => ∃ k : Nat, k ≤ n4' ∧ i = .int .i64 k ∧ LpU w.heap.size dx D W1 Y p ⟨A1', n1', c1', A2', n2', c2', A3', n3', c3', A4', n4', c4', A5', n5', c5'⟩ g k) (fun _ i _ => n4' - (intOf i).toNat)
    case atStart => exact ⟨0, Nat.zero_le _, rfl, HL0.out⟩
    case round =>
      obtain ⟨k, hk, rfl, hL⟩ := hrel
      by_cases hlt : k < n4'
      · have hk' : k < p.procs.length := by rw [HN4.out]; exact hlt
        obtain ⟨b, hWb, hF⟩ := hL.fn (by simp only; omega)
        have adr := hF.adr
        simp only at adr
        subst adr
        obtain ⟨q0, q1, B, d, q2, q4, _⟩ := hF.at_ k hk'
        obtain ⟨m, q3⟩ : ∃ m, p.procs[k].body.length = m := ⟨_, rfl⟩
        rw [q3] at q2
        obtain ⟨x0, x1, x2, x3, x4⟩ := hL.box.facts
        simp only at x3
        have hm1 := H6.out _ (List.getElem_mem hk')
        have bdw : Below wr.heap.size wr wr.drew := (Below.refl _ wr).drew
        have HI : Hid (Calls Tryz.prog 66 #[.slice B m d, .func (.func 67) #[] #[], .func (.func 68) #[] #[]] wr.drew fun e w' => ∃ v, e = .returned v ∧ ∃ B' d', v = .slice B' m d' ∧ RdE 9 (GM wr.heap.size dx D) w' B' d' p.procs[k].body ∧ AllM wr.heap.size w' B' p.procs[k].body ∧ Below wr.heap.size wr.drew w') := Lib.hid ((iCloneM dx D p.procs[k].body m d q3 hm1.sz hm1.ex B wr.drew ((q4.mono16 fun _ _ _ h => h.to).below (stabM dx D) bdw)).mono fun e w' h => by
          obtain ⟨B', d', e1, e2, e3, e4⟩ := h
          exact ⟨_, e1, B', d', rfl, e2, e3, e4⟩)
        have HST := Lib.hid (fun Y1 (hb : Below wr.heap.size wr Y1) B' d' hr hfr => hL.step hk' hWb hF q3 hb (A' := B') (d := d') hr hfr)
        have HFZ := Lib.hid (fun X (hX : Below wr.heap.size wr X) => by
          obtain ⟨cur, hcur⟩ := hF.blk
          exact (Blk.below' (show Blk wr b 44 cur from hcur) hX).frozen (k * 3 + 2))
        have HQ2 := Lib.hid (fun X (hX : Below wr.heap.size wr X) => by
          obtain ⟨cur, hcur⟩ := hF.blk
          exact (hX.cell (p := ⟨b, k * 3 + 2, none⟩) (Array.getElem?_eq_some_iff.1 hcur).1).trans q2)
        have HS := Lib.hid (fun X (hX : Below wr.heap.size wr X) => (⟨belowThen hL.below hX, (hL.box.below hX).facts.2.2.2.1⟩ : Below W1.heap.size W1 X ∧ X.cell? ⟨g, 3, none⟩ = some (.slice (some ⟨b, 0, none⟩) n4' c4')))
        have HSS := Lib.hid (fun X (hX : Below wr.heap.size wr X) v => (⟨(belowThen hL.below hX).setCell hWb _, Blk.cell (Blk.other (hL.box.below hX) (hL.ne hF) (k * 3 + 2) v) 3⟩ : Below W1.heap.size W1 (X.setCell ⟨b, k * 3 + 2, none⟩ v) ∧ (X.setCell ⟨b, k * 3 + 2, none⟩ v).cell? ⟨g, 3, none⟩ = some (.slice (some ⟨b, 0, none⟩) n4' c4')))
        have hS0 := HS.out _ bdw
        have q2' : wr.drew.cell? ⟨b, k * 3 + 2, none⟩ = some (.slice B m d) := q2
        have hk0 : (0 : Int) ≤ k := by omega
        have hk1 : (k : Int) < n4' := by omega
        clear hL hF q0 q1 q3 q4 x0 x1 x2 x4 hn4 H6 HL0 hm1
        go_wp2_with fail
        refine wp_region_held_drew (S := (fun w' => Below W1.heap.size W1 w' ∧ w'.cell? ⟨g, 3, none⟩ = some (.slice (some ⟨b, 0, none⟩) n4' c4'))) (by kernel_rfl) hS0 (fun hHeld => ?_)
        refine wpAnyH_take (i := 0) (oi := ⟨some 27, _, _, _, _, _⟩) (v := ?v0_17) rfl (by kernel_rfl) (by kernel_rfl) (by kernel_rfl) (fun _ _ _ h => h) (Or.inl ⟨by rfl, ?h0_17⟩) (by assumption) ?r0_17
        case h0_17 => (intro w hSw; (try dsimp only at hSw); go_simp; try with_reducible rfl)
        (try simp only [Act.put, List.setIfInBounds_toArray, List.set_cons_zero, List.set_cons_succ])
        refine wpAnyH_take (i := 1) (oi := ⟨some 28, _, _, _, _, _⟩) (v := ?v1_18) rfl (by kernel_rfl) (by kernel_rfl) (by kernel_rfl) (fun _ _ _ h => h) (Or.inl ⟨by rfl, ?h1_18⟩) (by assumption) ?r1_18
        case h1_18 => (intro w hSw; (try dsimp only at hSw); go_simp; try with_reducible rfl)
        (try simp only [Act.put, List.setIfInBounds_toArray, List.set_cons_zero, List.set_cons_succ])
        refine wpAnyH_take (i := 2) (oi := ⟨some 29, _, _, _, _, _⟩) (v := ?v2_19) rfl (by kernel_rfl) (by kernel_rfl) (by kernel_rfl) (fun _ _ _ h => h) (Or.inl ⟨by rfl, ?h2_19⟩) (by assumption) ?r2_19
        case h2_19 => (intro w hSw; (try dsimp only at hSw); go_simp; try with_reducible rfl)
        (try simp only [Act.put, List.setIfInBounds_toArray, List.set_cons_zero, List.set_cons_succ])
        refine wpAnyH_take (i := 3) (oi := ⟨some 30, _, _, _, _, _⟩) (v := ?v3_20) rfl (by kernel_rfl) (by kernel_rfl) (by kernel_rfl) (fun _ _ _ h => h) (Or.inl ⟨by rfl, ?h3_20⟩) (by assumption) ?r3_20
        case h3_20 => (intro w hSw; (try dsimp only at hSw); go_simp; try with_reducible rfl)
        (try simp only [Act.put, List.setIfInBounds_toArray, List.set_cons_zero, List.set_cons_succ])
        refine wpAnyH_take (i := 4) (oi := ⟨some 31, _, _, _, _, _⟩) (v := ?v4_21) rfl (by kernel_rfl) (by kernel_rfl) (by kernel_rfl) (fun _ _ _ h => h) (Or.inl ⟨by rfl, ?h4_21⟩) (by assumption) ?r4_21
        case h4_21 => (intro w hSw; (try dsimp only at hSw); go_simp; try with_reducible rfl)
        (try simp only [Act.put, List.setIfInBounds_toArray, List.set_cons_zero, List.set_cons_succ])
        refine wpAnyH_take (i := 5) (oi := ⟨some 32, _, _, _, _, _⟩) (v := ?v5_22) rfl (by kernel_rfl) (by kernel_rfl) (by kernel_rfl) (fun _ _ _ h => h) (Or.inl ⟨by rfl, ?h5_22⟩) (by assumption) ?r5_22
        case h5_22 => (intro w hSw; (try dsimp only at hSw); go_simp; try with_reducible rfl)
        (try simp only [Act.put, List.setIfInBounds_toArray, List.set_cons_zero, List.set_cons_succ])
        refine wpAnyH_take (i := 6) (oi := ⟨some 33, _, _, _, _, _⟩) (v := ?v6_23) rfl (by kernel_rfl) (by kernel_rfl) (by kernel_rfl) (fun _ _ _ h => h) (Or.inl ⟨by rfl, ?h6_23⟩) (by assumption) ?r6_23
        case h6_23 => (intro w hSw; (try dsimp only at hSw); go_simp; try with_reducible rfl)
        (try simp only [Act.put, List.setIfInBounds_toArray, List.set_cons_zero, List.set_cons_succ])
        refine wpAnyH_take (i := 7) (oi := ⟨some 34, _, _, _, _, _⟩) (v := ?v7_24) rfl (by kernel_rfl) (by kernel_rfl) (by kernel_rfl) (fun _ _ _ h => h) (Or.inl ⟨by rfl, ?h7_24⟩) (by assumption) ?r7_24
        case h7_24 => (intro w hSw; (try dsimp only at hSw); go_simp; try with_reducible rfl)
        (try simp only [Act.put, List.setIfInBounds_toArray, List.set_cons_zero, List.set_cons_succ])
        refine wpAnyH_ready (rs := [8]) (by kernel_rfl) (by simp) ?_
        refine AllReadyH.cons (o := ⟨some 35, _, _, _, _, _⟩) rfl (fun K hK => ?_) AllReadyH.nil
        go_simp
        refine hK.out _ _ hS0 (fun hHeld => ?_)
        clear hK K
        (try simp only [Act.put, List.setIfInBounds_toArray, List.set_cons_zero, List.set_cons_succ])
        refine wpAnyH_ready (rs := [9]) (by kernel_rfl) (by simp) ?_
        refine AllReadyH.cons (o := ⟨some 36, _, _, _, _, _⟩) rfl (fun K hK => ?_) AllReadyH.nil
        go_simp
        refine (HI.out).mono ?_
        rintro e Y1 ⟨_, rfl, B', d', rfl, gY⟩
        have bY := belowThen bdw gY.2.2
        have sY := HS.out _ bY
        have fz := HFZ.out _ bY
        have q2Y := HQ2.out _ bY
        refine hK.out _ _ sY (fun hHeld => ?_)
        clear hK K
        (try simp only [Act.put, List.setIfInBounds_toArray, List.set_cons_zero, List.set_cons_succ])
        refine wpAnyH_take (i := 10) (oi := ⟨some 37, _, _, _, _, _⟩) (v := ?v10_25) rfl (by kernel_rfl) (by kernel_rfl) (by kernel_rfl) (fun _ _ _ h => h) (Or.inl ⟨by rfl, ?h10_25⟩) (by assumption) ?r10_25
        case h10_25 => (intro w hSw; (try dsimp only at hSw); go_simp; try with_reducible rfl)
        (try simp only [Act.put, List.setIfInBounds_toArray, List.set_cons_zero, List.set_cons_succ])
        refine wpAnyH_take (i := 11) (oi := ⟨some 38, _, _, _, _, _⟩) (v := ?v11_26) rfl (by kernel_rfl) (by kernel_rfl) (by kernel_rfl) (fun _ _ _ h => h) (Or.inl ⟨by rfl, ?h11_26⟩) (by assumption) ?r11_26
        case h11_26 => (intro w hSw; (try dsimp only at hSw); go_simp; try with_reducible rfl)
        (try simp only [Act.put, List.setIfInBounds_toArray, List.set_cons_zero, List.set_cons_succ])
        refine wpAnyH_ready (rs := [12]) (by kernel_rfl) (by simp) ?_
        refine AllReadyH.cons (o := ⟨none, _, _, _, _, _⟩) rfl (fun K hK => ?_) AllReadyH.nil
        go_simp
        refine hK.out _ _ (HSS.out _ bY _) (fun hHeld => ?_)
        clear hK K
        (try simp only [Act.put, List.setIfInBounds_toArray, List.set_cons_zero, List.set_cons_succ])
        refine wpAnyH_done (by kernel_rfl) ?_ _
        have HN := Lib.hid (HST.out Y1 bY B' d' gY.1 gY.2.1)
        clear gY hHeld sY fz q2Y bY
        go_wp2
        go_roundw
        case rel => exact ⟨k + 1, by omega, by go_num, HN.out⟩
        case measure => simp [intOf]; omega
      · have hkn : k = n4' := by omega
        subst hkn
        have HC := Lib.hid hL
        have HLB := Lib.hid hL.below
        have HRB := Lib.hid (Blk.below' (show Blk W1 W.heap.size 27 zer16 by rw [← HW1.out]; exact Blk.new _ _ _) hL.below)
        obtain ⟨x0, x1, x2, x3, x4⟩ := hL.box.facts
        simp only at x0 x1 x2 x3 x4
        obtain ⟨y1, y2, y3, y4, y5, z1, z2, z3, z4, z5⟩ := boxG HRB.out
        have hWs : W.heap.size = w.heap.size + 1 := by rw [← HW.out, World.size_alloc]
        rw [hWs] at y1 y2 y3 y4 y5 z1 z2 z3 z4 z5 HRB
        have HX := Lib.hid (retClone16 HW.out HW1.out HRB.out rfl HC.out)
        clear hL H6 HL0 HA HC
        go_wp2
        refine bodyPost_ret ((HX.out.2.2).res rfl _ rfl Tryz.underlying27 rfl infoUn5) rfl ?_
        exact ⟨⟨A1', n1', c1', A2', n2', c2', A3', n3', c3', A4', k, c4', A5', n5', c5'⟩, rfl, HX.out.1, HX.out.2.1⟩
  refine wp_region_held_drew (S := (fun w' => Below W1.heap.size W1 w' ∧ w'.cell? ⟨w.heap.size, 0, none⟩ = some (.slice A1 n1 c1) ∧ w'.cell? ⟨w.heap.size, 1, none⟩ = some (.slice A2 n2 c2) ∧ w'.cell? ⟨w.heap.size, 2, none⟩ = some (.slice A3 n3 c3) ∧ w'.cell? ⟨w.heap.size, 3, none⟩ = some (.slice A4 n4 c4) ∧ w'.cell? ⟨w.heap.size, 4, none⟩ = some (.slice A5 n5 c5))) (by kernel_rfl) (HK.out _ hS) (fun hHeld => ?_)
  refine wpAnyH_take (i := 0) (oi := ⟨some 5, _, _, _, _, _⟩) (v := ?v0_1) rfl (by kernel_rfl) (by kernel_rfl) (by kernel_rfl) (fun _ _ _ h => by obtain ⟨_, _, h, _⟩ := h; cases h) (Or.inl ⟨by rfl, ?h0_1⟩) (by assumption) ?r0_1
  case h0_1 => (intro w hSw; (try dsimp only at hSw); go_simp; try with_reducible rfl)
  (try simp only [Act.put, List.setIfInBounds_toArray, List.set_cons_zero, List.set_cons_succ])
  refine wpAnyH_take (i := 1) (oi := ⟨some 6, _, _, _, _, _⟩) (v := ?v1_2) rfl (by kernel_rfl) (by kernel_rfl) (by kernel_rfl) (fun _ _ _ h => by obtain ⟨_, _, h, _⟩ := h; cases h) (Or.inl ⟨by rfl, ?h1_2⟩) (by assumption) ?r1_2
  case h1_2 => (intro w hSw; (try dsimp only at hSw); go_simp; try with_reducible rfl)
  (try simp only [Act.put, List.setIfInBounds_toArray, List.set_cons_zero, List.set_cons_succ])
  refine wpAnyH_take (i := 3) (oi := ⟨some 8, _, _, _, _, _⟩) (v := ?v3_3) rfl (by kernel_rfl) (by kernel_rfl) (by kernel_rfl) (fun _ _ _ h => by obtain ⟨_, _, h, _⟩ := h; cases h) (Or.inl ⟨by rfl, ?h3_3⟩) (by assumption) ?r3_3
  case h3_3 => (intro w hSw; (try dsimp only at hSw); go_simp; try with_reducible rfl)
  (try simp only [Act.put, List.setIfInBounds_toArray, List.set_cons_zero, List.set_cons_succ])
  refine wpAnyH_take (i := 4) (oi := ⟨some 9, _, _, _, _, _⟩) (v := ?v4_4) rfl (by kernel_rfl) (by kernel_rfl) (by kernel_rfl) (fun _ _ _ h => by obtain ⟨_, _, h, _⟩ := h; cases h) (Or.inl ⟨by rfl, ?h4_4⟩) (by assumption) ?r4_4
  case h4_4 => (intro w hSw; (try dsimp only at hSw); go_simp; try with_reducible rfl)
  (try simp only [Act.put, List.setIfInBounds_toArray, List.set_cons_zero, List.set_cons_succ])
  refine wpAnyH_take (i := 6) (oi := ⟨some 11, _, _, _, _, _⟩) (v := ?v6_5) rfl (by kernel_rfl) (by kernel_rfl) (by kernel_rfl) (fun _ _ _ h => by obtain ⟨_, _, h, _⟩ := h; cases h) (Or.inl ⟨by rfl, ?h6_5⟩) (by assumption) ?r6_5
  case h6_5 => (intro w hSw; (try dsimp only at hSw); go_simp; try with_reducible rfl)
  (try simp only [Act.put, List.setIfInBounds_toArray, List.set_cons_zero, List.set_cons_succ])
  refine wpAnyH_take (i := 7) (oi := ⟨some 12, _, _, _, _, _⟩) (v := ?v7_6) rfl (by kernel_rfl) (by kernel_rfl) (by kernel_rfl) (fun _ _ _ h => by obtain ⟨_, _, h, _⟩ := h; cases h) (Or.inl ⟨by rfl, ?h7_6⟩) (by assumption) ?r7_6
  case h7_6 => (intro w hSw; (try dsimp only at hSw); go_simp; try with_reducible rfl)
  (try simp only [Act.put, List.setIfInBounds_toArray, List.set_cons_zero, List.set_cons_succ])
  refine wpAnyH_take (i := 9) (oi := ⟨some 14, _, _, _, _, _⟩) (v := ?v9_7) rfl (by kernel_rfl) (by kernel_rfl) (by kernel_rfl) (fun _ _ _ h => by obtain ⟨_, _, h, _⟩ := h; cases h) (Or.inl ⟨by rfl, ?h9_7⟩) (by assumption) ?r9_7
  case h9_7 => (intro w hSw; (try dsimp only at hSw); go_simp; try with_reducible rfl)
  (try simp only [Act.put, List.setIfInBounds_toArray, List.set_cons_zero, List.set_cons_succ])
  refine wpAnyH_take (i := 10) (oi := ⟨some 15, _, _, _, _, _⟩) (v := ?v10_8) rfl (by kernel_rfl) (by kernel_rfl) (by kernel_rfl) (fun _ _ _ h => by obtain ⟨_, _, h, _⟩ := h; cases h) (Or.inl ⟨by rfl, ?h10_8⟩) (by assumption) ?r10_8
  case h10_8 => (intro w hSw; (try dsimp only at hSw); go_simp; try with_reducible rfl)
  (try simp only [Act.put, List.setIfInBounds_toArray, List.set_cons_zero, List.set_cons_succ])
  refine wpAnyH_take (i := 12) (oi := ⟨some 17, _, _, _, _, _⟩) (v := ?v12_9) rfl (by kernel_rfl) (by kernel_rfl) (by kernel_rfl) (fun _ _ _ h => by obtain ⟨_, _, h, _⟩ := h; cases h) (Or.inl ⟨by rfl, ?h12_9⟩) (by assumption) ?r12_9
  case h12_9 => (intro w hSw; (try dsimp only at hSw); go_simp; try with_reducible rfl)
  (try simp only [Act.put, List.setIfInBounds_toArray, List.set_cons_zero, List.set_cons_succ])
  refine wpAnyH_take (i := 13) (oi := ⟨some 18, _, _, _, _, _⟩) (v := ?v13_10) rfl (by kernel_rfl) (by kernel_rfl) (by kernel_rfl) (fun _ _ _ h => by obtain ⟨_, _, h, _⟩ := h; cases h) (Or.inl ⟨by rfl, ?h13_10⟩) (by assumption) ?r13_10
  case h13_10 => (intro w hSw; (try dsimp only at hSw); go_simp; try with_reducible rfl)
  (try simp only [Act.put, List.setIfInBounds_toArray, List.set_cons_zero, List.set_cons_succ])
  refine wpAnyH_ready (rs := [2, 16]) (by kernel_rfl) (by simp) ?_
  refine AllReadyH.cons (o := ⟨some 7, _, _, _, _, _⟩) rfl (fun K hK => ?_) (AllReadyH.cons (o := ⟨some 3, _, _, _, _, _⟩) rfl (fun K hK => ?_) (AllReadyH.nil))
  · go_simp
    refine (C1.out _ hS).mono ?_
    rintro e w1 ⟨_, rfl, B1, d1, rfl, g1⟩
    have bw1 := belowThen hS g1.2.2
    refine hK.out _ _ (HK.out _ bw1) (fun hHeld => ?_)
    clear hK K
    (try simp only [Act.put, List.setIfInBounds_toArray, List.set_cons_zero, List.set_cons_succ])
    refine wpAnyH_ready (rs := [5, 16]) (by kernel_rfl) (by simp) ?_
    refine AllReadyH.cons (o := ⟨some 10, _, _, _, _, _⟩) rfl (fun K hK => ?_) (AllReadyH.cons (o := ⟨some 3, _, _, _, _, _⟩) rfl (fun K hK => ?_) (AllReadyH.nil))
    · go_simp
      refine (C2.out _ bw1).mono ?_
      rintro e w2 ⟨_, rfl, B2, d2, rfl, g2⟩
      have bw2 := belowThen bw1 g2.2.2
      refine hK.out _ _ (HK.out _ bw2) (fun hHeld => ?_)
      clear hK K
      (try simp only [Act.put, List.setIfInBounds_toArray, List.set_cons_zero, List.set_cons_succ])
      refine wpAnyH_ready (rs := [8, 16]) (by kernel_rfl) (by simp) ?_
      refine AllReadyH.cons (o := ⟨some 13, _, _, _, _, _⟩) rfl (fun K hK => ?_) (AllReadyH.cons (o := ⟨some 3, _, _, _, _, _⟩) rfl (fun K hK => ?_) (AllReadyH.nil))
      · go_simp
        refine (C3.out _ bw2).mono ?_
        rintro e w3 ⟨_, rfl, B3, d3, rfl, g3⟩
        have bw3 := belowThen bw2 g3.2.2
        refine hK.out _ _ (HK.out _ bw3) (fun hHeld => ?_)
        clear hK K
        (try simp only [Act.put, List.setIfInBounds_toArray, List.set_cons_zero, List.set_cons_succ])
        refine wpAnyH_ready (rs := [11, 16]) (by kernel_rfl) (by simp) ?_
        refine AllReadyH.cons (o := ⟨some 16, _, _, _, _, _⟩) rfl (fun K hK => ?_) (AllReadyH.cons (o := ⟨some 3, _, _, _, _, _⟩) rfl (fun K hK => ?_) (AllReadyH.nil))
        · go_simp
          refine (C4.out _ bw3).mono ?_
          rintro e w4 ⟨_, rfl, B4, d4, rfl, g4⟩
          have bw4 := belowThen bw3 g4.2.2
          refine hK.out _ _ (HK.out _ bw4) (fun hHeld => ?_)
          clear hK K
          (try simp only [Act.put, List.setIfInBounds_toArray, List.set_cons_zero, List.set_cons_succ])
          refine wpAnyH_ready (rs := [14, 16]) (by kernel_rfl) (by simp) ?_
          refine AllReadyH.cons (o := ⟨some 19, _, _, _, _, _⟩) rfl (fun K hK => ?_) (AllReadyH.cons (o := ⟨some 3, _, _, _, _, _⟩) rfl (fun K hK => ?_) (AllReadyH.nil))
          · go_simp
            refine (C5.out _ bw4).mono ?_
            rintro e w5 ⟨_, rfl, B5, d5, rfl, g5⟩
            have bw5 := belowThen bw4 g5.2.2
            refine hK.out _ _ (HK.out _ bw5) (fun hHeld => ?_)
            clear hK K
            (try simp only [Act.put, List.setIfInBounds_toArray, List.set_cons_zero, List.set_cons_succ])
            refine wpAnyH_take (i := 15) (oi := ⟨some 20, _, _, _, _, _⟩) (v := ?v15_11) rfl (by kernel_rfl) (by kernel_rfl) (by kernel_rfl) (fun _ _ _ h => by obtain ⟨_, _, h, _⟩ := h; cases h) (Or.inl ⟨by rfl, ?h15_11⟩) (by assumption) ?r15_11
            case h15_11 => (intro w hSw; (try dsimp only at hSw); go_simp; try with_reducible rfl)
            (try simp only [Act.put, List.setIfInBounds_toArray, List.set_cons_zero, List.set_cons_succ])
            refine wpAnyH_ready (rs := [16]) (by kernel_rfl) (by simp) ?_
            refine AllReadyH.cons (o := ⟨some 3, _, _, _, _, _⟩) rfl (fun K hK => ?_) (AllReadyH.nil)
            · obtain ⟨wa, hwa⟩ : ∃ wa, World.alloc w5 (.cells #[.slice none 0 0, .slice none 0 0, .slice none 0 0, .slice none 0 0, .slice none 0 0] 27) = wa := ⟨_, rfl⟩
              have sa : Below (World.heap w5).size w5 wa := by rw [← hwa]; exact belowAlloc _ _
              have bwa := belowThen bw5 sa
              have G0 : Blk wa (World.heap w5).size 27 #[.slice none 0 0, .slice none 0 0, .slice none 0 0, .slice none 0 0, .slice none 0 0] := by rw [← hwa]; exact Blk.new _ _ _
              have glo : W1.heap.size ≤ (World.heap w5).size := (bw5).size
              go_simp
              try rw [hwa]
              refine hK.out _ _ (HK.out _ bwa) (fun hHeld => ?_)
              clear hK K hwa
              (try simp only [Act.put, List.setIfInBounds_toArray, List.set_cons_zero, List.set_cons_succ])
              have G1 := G0.below' (Below.refl _ wa)
              refine wpAnyH_ready (rs := [17]) (by kernel_rfl) (by simp) ?_
              refine AllReadyH.cons (o := ⟨none, _, _, _, _, _⟩) rfl (fun K hK => ?_) (AllReadyH.nil)
              · obtain ⟨x1, x2, x3, x4, x5, z1, z2, z3, z4, z5⟩ := boxG G1
                go_simp
                refine hK.out _ _ (HK.out _ (below5 bwa glo _ _ _ _ _)) (fun hHeld => ?_)
                clear hK K
                (try simp only [Act.put, List.setIfInBounds_toArray, List.set_cons_zero, List.set_cons_succ])
                refine wpAnyH_done (by kernel_rfl) ?_ _
                have hm := made16 (B := w.heap.size) (dx := dx) (D := D) (fun _ => rfl) (a := ⟨B1, n1, d1, B2, n2, d2, B3, n3, d3, B4, n4, d4, B5, n5, d5⟩) HB0 glo bwa G1 ⟨HA.out.l1, HA.out.l2, HA.out.l3, HA.out.l4, HA.out.l5, (g1.1.below stabV (belowThen (belowThen (belowThen (belowThen g2.2.2 g3.2.2) g4.2.2) g5.2.2) sa)), (g2.1.below stabS (belowThen (belowThen (belowThen g3.2.2 g4.2.2) g5.2.2) sa)), (g3.1.below stabS (belowThen (belowThen g4.2.2 g5.2.2) sa)), (RdE.ofGPi (g4.1.below (stabGPi _ _ _) (belowThen g5.2.2 sa))), (g5.1.below stabV sa)⟩ (g4.1.below (stabGPi _ _ _) (belowThen g5.2.2 sa)) ((g1.2.1.mono hS.size).below (belowThen (belowThen (belowThen (belowThen g2.2.2 g3.2.2) g4.2.2) g5.2.2) sa)) ((g2.2.1.mono bw1.size).below (belowThen (belowThen (belowThen g3.2.2 g4.2.2) g5.2.2) sa)) ((g3.2.1.mono bw2.size).below (belowThen (belowThen g4.2.2 g5.2.2) sa)) ((g4.2.1.mono bw3.size).below (belowThen g5.2.2 sa)) ((g5.2.1.mono bw4.size).below sa)
                exact ⟨⟨B1, n1, d1, B2, n2, d2, B3, n3, d3, B4, n4, d4, B5, n5, d5⟩, _, rfl, rfl, hm⟩
          · obtain ⟨wa, hwa⟩ : ∃ wa, World.alloc w4 (.cells #[.slice none 0 0, .slice none 0 0, .slice none 0 0, .slice none 0 0, .slice none 0 0] 27) = wa := ⟨_, rfl⟩
            have sa : Below (World.heap w4).size w4 wa := by rw [← hwa]; exact belowAlloc _ _
            have bwa := belowThen bw4 sa
            have G0 : Blk wa (World.heap w4).size 27 #[.slice none 0 0, .slice none 0 0, .slice none 0 0, .slice none 0 0, .slice none 0 0] := by rw [← hwa]; exact Blk.new _ _ _
            have glo : W1.heap.size ≤ (World.heap w4).size := (bw4).size
            go_simp
            try rw [hwa]
            refine hK.out _ _ (HK.out _ bwa) (fun hHeld => ?_)
            clear hK K hwa
            refine wpAnyH_ready (rs := [14]) (by kernel_rfl) (by simp) ?_
            refine AllReadyH.cons (o := ⟨some 19, _, _, _, _, _⟩) rfl (fun K hK => ?_) (AllReadyH.nil)
            · go_simp
              refine (C5.out _ bwa).mono ?_
              rintro e w5 ⟨_, rfl, B5, d5, rfl, g5⟩
              have bw5 := belowThen bwa g5.2.2
              refine hK.out _ _ (HK.out _ bw5) (fun hHeld => ?_)
              clear hK K
              (try simp only [Act.put, List.setIfInBounds_toArray, List.set_cons_zero, List.set_cons_succ])
              refine wpAnyH_take (i := 15) (oi := ⟨some 20, _, _, _, _, _⟩) (v := ?v15_12) rfl (by kernel_rfl) (by kernel_rfl) (by kernel_rfl) (fun _ _ _ h => by obtain ⟨_, _, h, _⟩ := h; cases h) (Or.inl ⟨by rfl, ?h15_12⟩) (by assumption) ?r15_12
              case h15_12 => (intro w hSw; (try dsimp only at hSw); go_simp; try with_reducible rfl)
              (try simp only [Act.put, List.setIfInBounds_toArray, List.set_cons_zero, List.set_cons_succ])
              have G1 := G0.below' g5.2.2
              refine wpAnyH_ready (rs := [17]) (by kernel_rfl) (by simp) ?_
              refine AllReadyH.cons (o := ⟨none, _, _, _, _, _⟩) rfl (fun K hK => ?_) (AllReadyH.nil)
              · obtain ⟨x1, x2, x3, x4, x5, z1, z2, z3, z4, z5⟩ := boxG G1
                go_simp
                refine hK.out _ _ (HK.out _ (below5 bw5 glo _ _ _ _ _)) (fun hHeld => ?_)
                clear hK K
                (try simp only [Act.put, List.setIfInBounds_toArray, List.set_cons_zero, List.set_cons_succ])
                refine wpAnyH_done (by kernel_rfl) ?_ _
                have hm := made16 (B := w.heap.size) (dx := dx) (D := D) (fun _ => rfl) (a := ⟨B1, n1, d1, B2, n2, d2, B3, n3, d3, B4, n4, d4, B5, n5, d5⟩) HB0 glo bw5 G1 ⟨HA.out.l1, HA.out.l2, HA.out.l3, HA.out.l4, HA.out.l5, (g1.1.below stabV (belowThen (belowThen (belowThen (belowThen g2.2.2 g3.2.2) g4.2.2) sa) g5.2.2)), (g2.1.below stabS (belowThen (belowThen (belowThen g3.2.2 g4.2.2) sa) g5.2.2)), (g3.1.below stabS (belowThen (belowThen g4.2.2 sa) g5.2.2)), (RdE.ofGPi (g4.1.below (stabGPi _ _ _) (belowThen sa g5.2.2))), (g5.1.below stabV (Below.refl _ w5))⟩ (g4.1.below (stabGPi _ _ _) (belowThen sa g5.2.2)) ((g1.2.1.mono hS.size).below (belowThen (belowThen (belowThen (belowThen g2.2.2 g3.2.2) g4.2.2) sa) g5.2.2)) ((g2.2.1.mono bw1.size).below (belowThen (belowThen (belowThen g3.2.2 g4.2.2) sa) g5.2.2)) ((g3.2.1.mono bw2.size).below (belowThen (belowThen g4.2.2 sa) g5.2.2)) ((g4.2.1.mono bw3.size).below (belowThen sa g5.2.2)) ((g5.2.1.mono bwa.size).below (Below.refl _ w5))
                exact ⟨⟨B1, n1, d1, B2, n2, d2, B3, n3, d3, B4, n4, d4, B5, n5, d5⟩, _, rfl, rfl, hm⟩
        · obtain ⟨wa, hwa⟩ : ∃ wa, World.alloc w3 (.cells #[.slice none 0 0, .slice none 0 0, .slice none 0 0, .slice none 0 0, .slice none 0 0] 27) = wa := ⟨_, rfl⟩
          have sa : Below (World.heap w3).size w3 wa := by rw [← hwa]; exact belowAlloc _ _
          have bwa := belowThen bw3 sa
          have G0 : Blk wa (World.heap w3).size 27 #[.slice none 0 0, .slice none 0 0, .slice none 0 0, .slice none 0 0, .slice none 0 0] := by rw [← hwa]; exact Blk.new _ _ _
          have glo : W1.heap.size ≤ (World.heap w3).size := (bw3).size
          go_simp
          try rw [hwa]
          refine hK.out _ _ (HK.out _ bwa) (fun hHeld => ?_)
          clear hK K hwa
          refine wpAnyH_ready (rs := [11]) (by kernel_rfl) (by simp) ?_
          refine AllReadyH.cons (o := ⟨some 16, _, _, _, _, _⟩) rfl (fun K hK => ?_) (AllReadyH.nil)
          · go_simp
            refine (C4.out _ bwa).mono ?_
            rintro e w4 ⟨_, rfl, B4, d4, rfl, g4⟩
            have bw4 := belowThen bwa g4.2.2
            refine hK.out _ _ (HK.out _ bw4) (fun hHeld => ?_)
            clear hK K
            (try simp only [Act.put, List.setIfInBounds_toArray, List.set_cons_zero, List.set_cons_succ])
            refine wpAnyH_ready (rs := [14]) (by kernel_rfl) (by simp) ?_
            refine AllReadyH.cons (o := ⟨some 19, _, _, _, _, _⟩) rfl (fun K hK => ?_) (AllReadyH.nil)
            · go_simp
              refine (C5.out _ bw4).mono ?_
              rintro e w5 ⟨_, rfl, B5, d5, rfl, g5⟩
              have bw5 := belowThen bw4 g5.2.2
              refine hK.out _ _ (HK.out _ bw5) (fun hHeld => ?_)
              clear hK K
              (try simp only [Act.put, List.setIfInBounds_toArray, List.set_cons_zero, List.set_cons_succ])
              refine wpAnyH_take (i := 15) (oi := ⟨some 20, _, _, _, _, _⟩) (v := ?v15_13) rfl (by kernel_rfl) (by kernel_rfl) (by kernel_rfl) (fun _ _ _ h => by obtain ⟨_, _, h, _⟩ := h; cases h) (Or.inl ⟨by rfl, ?h15_13⟩) (by assumption) ?r15_13
              case h15_13 => (intro w hSw; (try dsimp only at hSw); go_simp; try with_reducible rfl)
              (try simp only [Act.put, List.setIfInBounds_toArray, List.set_cons_zero, List.set_cons_succ])
              have G1 := G0.below' (belowThen g4.2.2 g5.2.2)
              refine wpAnyH_ready (rs := [17]) (by kernel_rfl) (by simp) ?_
              refine AllReadyH.cons (o := ⟨none, _, _, _, _, _⟩) rfl (fun K hK => ?_) (AllReadyH.nil)
              · obtain ⟨x1, x2, x3, x4, x5, z1, z2, z3, z4, z5⟩ := boxG G1
                go_simp
                refine hK.out _ _ (HK.out _ (below5 bw5 glo _ _ _ _ _)) (fun hHeld => ?_)
                clear hK K
                (try simp only [Act.put, List.setIfInBounds_toArray, List.set_cons_zero, List.set_cons_succ])
                refine wpAnyH_done (by kernel_rfl) ?_ _
                have hm := made16 (B := w.heap.size) (dx := dx) (D := D) (fun _ => rfl) (a := ⟨B1, n1, d1, B2, n2, d2, B3, n3, d3, B4, n4, d4, B5, n5, d5⟩) HB0 glo bw5 G1 ⟨HA.out.l1, HA.out.l2, HA.out.l3, HA.out.l4, HA.out.l5, (g1.1.below stabV (belowThen (belowThen (belowThen (belowThen g2.2.2 g3.2.2) sa) g4.2.2) g5.2.2)), (g2.1.below stabS (belowThen (belowThen (belowThen g3.2.2 sa) g4.2.2) g5.2.2)), (g3.1.below stabS (belowThen (belowThen sa g4.2.2) g5.2.2)), (RdE.ofGPi (g4.1.below (stabGPi _ _ _) g5.2.2)), (g5.1.below stabV (Below.refl _ w5))⟩ (g4.1.below (stabGPi _ _ _) g5.2.2) ((g1.2.1.mono hS.size).below (belowThen (belowThen (belowThen (belowThen g2.2.2 g3.2.2) sa) g4.2.2) g5.2.2)) ((g2.2.1.mono bw1.size).below (belowThen (belowThen (belowThen g3.2.2 sa) g4.2.2) g5.2.2)) ((g3.2.1.mono bw2.size).below (belowThen (belowThen sa g4.2.2) g5.2.2)) ((g4.2.1.mono bwa.size).below g5.2.2) ((g5.2.1.mono bw4.size).below (Below.refl _ w5))
                exact ⟨⟨B1, n1, d1, B2, n2, d2, B3, n3, d3, B4, n4, d4, B5, n5, d5⟩, _, rfl, rfl, hm⟩
      · obtain ⟨wa, hwa⟩ : ∃ wa, World.alloc w2 (.cells #[.slice none 0 0, .slice none 0 0, .slice none 0 0, .slice none 0 0, .slice none 0 0] 27) = wa := ⟨_, rfl⟩
        have sa : Below (World.heap w2).size w2 wa := by rw [← hwa]; exact belowAlloc _ _
        have bwa := belowThen bw2 sa
        have G0 : Blk wa (World.heap w2).size 27 #[.slice none 0 0, .slice none 0 0, .slice none 0 0, .slice none 0 0, .slice none 0 0] := by rw [← hwa]; exact Blk.new _ _ _
        have glo : W1.heap.size ≤ (World.heap w2).size := (bw2).size
        go_simp
        try rw [hwa]
        refine hK.out _ _ (HK.out _ bwa) (fun hHeld => ?_)
        clear hK K hwa
        refine wpAnyH_ready (rs := [8]) (by kernel_rfl) (by simp) ?_
        refine AllReadyH.cons (o := ⟨some 13, _, _, _, _, _⟩) rfl (fun K hK => ?_) (AllReadyH.nil)
        · go_simp
          refine (C3.out _ bwa).mono ?_
          rintro e w3 ⟨_, rfl, B3, d3, rfl, g3⟩
          have bw3 := belowThen bwa g3.2.2
          refine hK.out _ _ (HK.out _ bw3) (fun hHeld => ?_)
          clear hK K
          (try simp only [Act.put, List.setIfInBounds_toArray, List.set_cons_zero, List.set_cons_succ])
          refine wpAnyH_ready (rs := [11]) (by kernel_rfl) (by simp) ?_
          refine AllReadyH.cons (o := ⟨some 16, _, _, _, _, _⟩) rfl (fun K hK => ?_) (AllReadyH.nil)
          · go_simp
            refine (C4.out _ bw3).mono ?_
            rintro e w4 ⟨_, rfl, B4, d4, rfl, g4⟩
            have bw4 := belowThen bw3 g4.2.2
            refine hK.out _ _ (HK.out _ bw4) (fun hHeld => ?_)
            clear hK K
            (try simp only [Act.put, List.setIfInBounds_toArray, List.set_cons_zero, List.set_cons_succ])
            refine wpAnyH_ready (rs := [14]) (by kernel_rfl) (by simp) ?_
            refine AllReadyH.cons (o := ⟨some 19, _, _, _, _, _⟩) rfl (fun K hK => ?_) (AllReadyH.nil)
            · go_simp
              refine (C5.out _ bw4).mono ?_
              rintro e w5 ⟨_, rfl, B5, d5, rfl, g5⟩
              have bw5 := belowThen bw4 g5.2.2
              refine hK.out _ _ (HK.out _ bw5) (fun hHeld => ?_)
              clear hK K
              (try simp only [Act.put, List.setIfInBounds_toArray, List.set_cons_zero, List.set_cons_succ])
              refine wpAnyH_take (i := 15) (oi := ⟨some 20, _, _, _, _, _⟩) (v := ?v15_14) rfl (by kernel_rfl) (by kernel_rfl) (by kernel_rfl) (fun _ _ _ h => by obtain ⟨_, _, h, _⟩ := h; cases h) (Or.inl ⟨by rfl, ?h15_14⟩) (by assumption) ?r15_14
              case h15_14 => (intro w hSw; (try dsimp only at hSw); go_simp; try with_reducible rfl)
              (try simp only [Act.put, List.setIfInBounds_toArray, List.set_cons_zero, List.set_cons_succ])
              have G1 := G0.below' (belowThen (belowThen g3.2.2 g4.2.2) g5.2.2)
              refine wpAnyH_ready (rs := [17]) (by kernel_rfl) (by simp) ?_
              refine AllReadyH.cons (o := ⟨none, _, _, _, _, _⟩) rfl (fun K hK => ?_) (AllReadyH.nil)
              · obtain ⟨x1, x2, x3, x4, x5, z1, z2, z3, z4, z5⟩ := boxG G1
                go_simp
                refine hK.out _ _ (HK.out _ (below5 bw5 glo _ _ _ _ _)) (fun hHeld => ?_)
                clear hK K
                (try simp only [Act.put, List.setIfInBounds_toArray, List.set_cons_zero, List.set_cons_succ])
                refine wpAnyH_done (by kernel_rfl) ?_ _
                have hm := made16 (B := w.heap.size) (dx := dx) (D := D) (fun _ => rfl) (a := ⟨B1, n1, d1, B2, n2, d2, B3, n3, d3, B4, n4, d4, B5, n5, d5⟩) HB0 glo bw5 G1 ⟨HA.out.l1, HA.out.l2, HA.out.l3, HA.out.l4, HA.out.l5, (g1.1.below stabV (belowThen (belowThen (belowThen (belowThen g2.2.2 sa) g3.2.2) g4.2.2) g5.2.2)), (g2.1.below stabS (belowThen (belowThen (belowThen sa g3.2.2) g4.2.2) g5.2.2)), (g3.1.below stabS (belowThen g4.2.2 g5.2.2)), (RdE.ofGPi (g4.1.below (stabGPi _ _ _) g5.2.2)), (g5.1.below stabV (Below.refl _ w5))⟩ (g4.1.below (stabGPi _ _ _) g5.2.2) ((g1.2.1.mono hS.size).below (belowThen (belowThen (belowThen (belowThen g2.2.2 sa) g3.2.2) g4.2.2) g5.2.2)) ((g2.2.1.mono bw1.size).below (belowThen (belowThen (belowThen sa g3.2.2) g4.2.2) g5.2.2)) ((g3.2.1.mono bwa.size).below (belowThen g4.2.2 g5.2.2)) ((g4.2.1.mono bw3.size).below g5.2.2) ((g5.2.1.mono bw4.size).below (Below.refl _ w5))
                exact ⟨⟨B1, n1, d1, B2, n2, d2, B3, n3, d3, B4, n4, d4, B5, n5, d5⟩, _, rfl, rfl, hm⟩
    · obtain ⟨wa, hwa⟩ : ∃ wa, World.alloc w1 (.cells #[.slice none 0 0, .slice none 0 0, .slice none 0 0, .slice none 0 0, .slice none 0 0] 27) = wa := ⟨_, rfl⟩
      have sa : Below (World.heap w1).size w1 wa := by rw [← hwa]; exact belowAlloc _ _
      have bwa := belowThen bw1 sa
      have G0 : Blk wa (World.heap w1).size 27 #[.slice none 0 0, .slice none 0 0, .slice none 0 0, .slice none 0 0, .slice none 0 0] := by rw [← hwa]; exact Blk.new _ _ _
      have glo : W1.heap.size ≤ (World.heap w1).size := (bw1).size
      go_simp
      try rw [hwa]
      refine hK.out _ _ (HK.out _ bwa) (fun hHeld => ?_)
      clear hK K hwa
      refine wpAnyH_ready (rs := [5]) (by kernel_rfl) (by simp) ?_
      refine AllReadyH.cons (o := ⟨some 10, _, _, _, _, _⟩) rfl (fun K hK => ?_) (AllReadyH.nil)
      · go_simp
        refine (C2.out _ bwa).mono ?_
        rintro e w2 ⟨_, rfl, B2, d2, rfl, g2⟩
        have bw2 := belowThen bwa g2.2.2
        refine hK.out _ _ (HK.out _ bw2) (fun hHeld => ?_)
        clear hK K
        (try simp only [Act.put, List.setIfInBounds_toArray, List.set_cons_zero, List.set_cons_succ])
        refine wpAnyH_ready (rs := [8]) (by kernel_rfl) (by simp) ?_
        refine AllReadyH.cons (o := ⟨some 13, _, _, _, _, _⟩) rfl (fun K hK => ?_) (AllReadyH.nil)
        · go_simp
          refine (C3.out _ bw2).mono ?_
          rintro e w3 ⟨_, rfl, B3, d3, rfl, g3⟩
          have bw3 := belowThen bw2 g3.2.2
          refine hK.out _ _ (HK.out _ bw3) (fun hHeld => ?_)
          clear hK K
          (try simp only [Act.put, List.setIfInBounds_toArray, List.set_cons_zero, List.set_cons_succ])
          refine wpAnyH_ready (rs := [11]) (by kernel_rfl) (by simp) ?_
          refine AllReadyH.cons (o := ⟨some 16, _, _, _, _, _⟩) rfl (fun K hK => ?_) (AllReadyH.nil)
          · go_simp
            refine (C4.out _ bw3).mono ?_
            rintro e w4 ⟨_, rfl, B4, d4, rfl, g4⟩
            have bw4 := belowThen bw3 g4.2.2
            refine hK.out _ _ (HK.out _ bw4) (fun hHeld => ?_)
            clear hK K
            (try simp only [Act.put, List.setIfInBounds_toArray, List.set_cons_zero, List.set_cons_succ])
            refine wpAnyH_ready (rs := [14]) (by kernel_rfl) (by simp) ?_
            refine AllReadyH.cons (o := ⟨some 19, _, _, _, _, _⟩) rfl (fun K hK => ?_) (AllReadyH.nil)
            · go_simp
              refine (C5.out _ bw4).mono ?_
              rintro e w5 ⟨_, rfl, B5, d5, rfl, g5⟩
              have bw5 := belowThen bw4 g5.2.2
              refine hK.out _ _ (HK.out _ bw5) (fun hHeld => ?_)
              clear hK K
              (try simp only [Act.put, List.setIfInBounds_toArray, List.set_cons_zero, List.set_cons_succ])
              refine wpAnyH_take (i := 15) (oi := ⟨some 20, _, _, _, _, _⟩) (v := ?v15_15) rfl (by kernel_rfl) (by kernel_rfl) (by kernel_rfl) (fun _ _ _ h => by obtain ⟨_, _, h, _⟩ := h; cases h) (Or.inl ⟨by rfl, ?h15_15⟩) (by assumption) ?r15_15
              case h15_15 => (intro w hSw; (try dsimp only at hSw); go_simp; try with_reducible rfl)
              (try simp only [Act.put, List.setIfInBounds_toArray, List.set_cons_zero, List.set_cons_succ])
              have G1 := G0.below' (belowThen (belowThen (belowThen g2.2.2 g3.2.2) g4.2.2) g5.2.2)
              refine wpAnyH_ready (rs := [17]) (by kernel_rfl) (by simp) ?_
              refine AllReadyH.cons (o := ⟨none, _, _, _, _, _⟩) rfl (fun K hK => ?_) (AllReadyH.nil)
              · obtain ⟨x1, x2, x3, x4, x5, z1, z2, z3, z4, z5⟩ := boxG G1
                go_simp
                refine hK.out _ _ (HK.out _ (below5 bw5 glo _ _ _ _ _)) (fun hHeld => ?_)
                clear hK K
                (try simp only [Act.put, List.setIfInBounds_toArray, List.set_cons_zero, List.set_cons_succ])
                refine wpAnyH_done (by kernel_rfl) ?_ _
                have hm := made16 (B := w.heap.size) (dx := dx) (D := D) (fun _ => rfl) (a := ⟨B1, n1, d1, B2, n2, d2, B3, n3, d3, B4, n4, d4, B5, n5, d5⟩) HB0 glo bw5 G1 ⟨HA.out.l1, HA.out.l2, HA.out.l3, HA.out.l4, HA.out.l5, (g1.1.below stabV (belowThen (belowThen (belowThen (belowThen sa g2.2.2) g3.2.2) g4.2.2) g5.2.2)), (g2.1.below stabS (belowThen (belowThen g3.2.2 g4.2.2) g5.2.2)), (g3.1.below stabS (belowThen g4.2.2 g5.2.2)), (RdE.ofGPi (g4.1.below (stabGPi _ _ _) g5.2.2)), (g5.1.below stabV (Below.refl _ w5))⟩ (g4.1.below (stabGPi _ _ _) g5.2.2) ((g1.2.1.mono hS.size).below (belowThen (belowThen (belowThen (belowThen sa g2.2.2) g3.2.2) g4.2.2) g5.2.2)) ((g2.2.1.mono bwa.size).below (belowThen (belowThen g3.2.2 g4.2.2) g5.2.2)) ((g3.2.1.mono bw2.size).below (belowThen g4.2.2 g5.2.2)) ((g4.2.1.mono bw3.size).below g5.2.2) ((g5.2.1.mono bw4.size).below (Below.refl _ w5))
                exact ⟨⟨B1, n1, d1, B2, n2, d2, B3, n3, d3, B4, n4, d4, B5, n5, d5⟩, _, rfl, rfl, hm⟩
  · obtain ⟨wa, hwa⟩ : ∃ wa, World.alloc W1.drew (.cells #[.slice none 0 0, .slice none 0 0, .slice none 0 0, .slice none 0 0, .slice none 0 0] 27) = wa := ⟨_, rfl⟩
    have sa : Below (World.heap W1.drew).size W1.drew wa := by rw [← hwa]; exact belowAlloc _ _
    have bwa := belowThen hS sa
    have G0 : Blk wa (World.heap W1).size 27 #[.slice none 0 0, .slice none 0 0, .slice none 0 0, .slice none 0 0, .slice none 0 0] := by rw [← hwa]; exact Blk.new _ _ _
    have glo : W1.heap.size ≤ (World.heap W1).size := (hS).size
    go_simp
    try rw [hwa]
    refine hK.out _ _ (HK.out _ bwa) (fun hHeld => ?_)
    clear hK K hwa
    refine wpAnyH_ready (rs := [2]) (by kernel_rfl) (by simp) ?_
    refine AllReadyH.cons (o := ⟨some 7, _, _, _, _, _⟩) rfl (fun K hK => ?_) (AllReadyH.nil)
    · go_simp
      refine (C1.out _ bwa).mono ?_
      rintro e w1 ⟨_, rfl, B1, d1, rfl, g1⟩
      have bw1 := belowThen bwa g1.2.2
      refine hK.out _ _ (HK.out _ bw1) (fun hHeld => ?_)
      clear hK K
      (try simp only [Act.put, List.setIfInBounds_toArray, List.set_cons_zero, List.set_cons_succ])
      refine wpAnyH_ready (rs := [5]) (by kernel_rfl) (by simp) ?_
      refine AllReadyH.cons (o := ⟨some 10, _, _, _, _, _⟩) rfl (fun K hK => ?_) (AllReadyH.nil)
      · go_simp
        refine (C2.out _ bw1).mono ?_
        rintro e w2 ⟨_, rfl, B2, d2, rfl, g2⟩
        have bw2 := belowThen bw1 g2.2.2
        refine hK.out _ _ (HK.out _ bw2) (fun hHeld => ?_)
        clear hK K
        (try simp only [Act.put, List.setIfInBounds_toArray, List.set_cons_zero, List.set_cons_succ])
        refine wpAnyH_ready (rs := [8]) (by kernel_rfl) (by simp) ?_
        refine AllReadyH.cons (o := ⟨some 13, _, _, _, _, _⟩) rfl (fun K hK => ?_) (AllReadyH.nil)
        · go_simp
          refine (C3.out _ bw2).mono ?_
          rintro e w3 ⟨_, rfl, B3, d3, rfl, g3⟩
          have bw3 := belowThen bw2 g3.2.2
          refine hK.out _ _ (HK.out _ bw3) (fun hHeld => ?_)
          clear hK K
          (try simp only [Act.put, List.setIfInBounds_toArray, List.set_cons_zero, List.set_cons_succ])
          refine wpAnyH_ready (rs := [11]) (by kernel_rfl) (by simp) ?_
          refine AllReadyH.cons (o := ⟨some 16, _, _, _, _, _⟩) rfl (fun K hK => ?_) (AllReadyH.nil)
          · go_simp
            refine (C4.out _ bw3).mono ?_
            rintro e w4 ⟨_, rfl, B4, d4, rfl, g4⟩
            have bw4 := belowThen bw3 g4.2.2
            refine hK.out _ _ (HK.out _ bw4) (fun hHeld => ?_)
            clear hK K
            (try simp only [Act.put, List.setIfInBounds_toArray, List.set_cons_zero, List.set_cons_succ])
            refine wpAnyH_ready (rs := [14]) (by kernel_rfl) (by simp) ?_
            refine AllReadyH.cons (o := ⟨some 19, _, _, _, _, _⟩) rfl (fun K hK => ?_) (AllReadyH.nil)
            · go_simp
              refine (C5.out _ bw4).mono ?_
              rintro e w5 ⟨_, rfl, B5, d5, rfl, g5⟩
              have bw5 := belowThen bw4 g5.2.2
              refine hK.out _ _ (HK.out _ bw5) (fun hHeld => ?_)
              clear hK K
              (try simp only [Act.put, List.setIfInBounds_toArray, List.set_cons_zero, List.set_cons_succ])
              refine wpAnyH_take (i := 15) (oi := ⟨some 20, _, _, _, _, _⟩) (v := ?v15_16) rfl (by kernel_rfl) (by kernel_rfl) (by kernel_rfl) (fun _ _ _ h => by obtain ⟨_, _, h, _⟩ := h; cases h) (Or.inl ⟨by rfl, ?h15_16⟩) (by assumption) ?r15_16
              case h15_16 => (intro w hSw; (try dsimp only at hSw); go_simp; try with_reducible rfl)
              (try simp only [Act.put, List.setIfInBounds_toArray, List.set_cons_zero, List.set_cons_succ])
              have G1 := G0.below' (belowThen (belowThen (belowThen (belowThen g1.2.2 g2.2.2) g3.2.2) g4.2.2) g5.2.2)
              refine wpAnyH_ready (rs := [17]) (by kernel_rfl) (by simp) ?_
              refine AllReadyH.cons (o := ⟨none, _, _, _, _, _⟩) rfl (fun K hK => ?_) (AllReadyH.nil)
              · obtain ⟨x1, x2, x3, x4, x5, z1, z2, z3, z4, z5⟩ := boxG G1
                go_simp
                refine hK.out _ _ (HK.out _ (below5 bw5 glo _ _ _ _ _)) (fun hHeld => ?_)
                clear hK K
                (try simp only [Act.put, List.setIfInBounds_toArray, List.set_cons_zero, List.set_cons_succ])
                refine wpAnyH_done (by kernel_rfl) ?_ _
                have hm := made16 (B := w.heap.size) (dx := dx) (D := D) (fun _ => rfl) (a := ⟨B1, n1, d1, B2, n2, d2, B3, n3, d3, B4, n4, d4, B5, n5, d5⟩) HB0 glo bw5 G1 ⟨HA.out.l1, HA.out.l2, HA.out.l3, HA.out.l4, HA.out.l5, (g1.1.below stabV (belowThen (belowThen (belowThen g2.2.2 g3.2.2) g4.2.2) g5.2.2)), (g2.1.below stabS (belowThen (belowThen g3.2.2 g4.2.2) g5.2.2)), (g3.1.below stabS (belowThen g4.2.2 g5.2.2)), (RdE.ofGPi (g4.1.below (stabGPi _ _ _) g5.2.2)), (g5.1.below stabV (Below.refl _ w5))⟩ (g4.1.below (stabGPi _ _ _) g5.2.2) ((g1.2.1.mono bwa.size).below (belowThen (belowThen (belowThen g2.2.2 g3.2.2) g4.2.2) g5.2.2)) ((g2.2.1.mono bw1.size).below (belowThen (belowThen g3.2.2 g4.2.2) g5.2.2)) ((g3.2.1.mono bw2.size).below (belowThen g4.2.2 g5.2.2)) ((g4.2.1.mono bw3.size).below g5.2.2) ((g5.2.1.mono bw4.size).below (Below.refl _ w5))
                exact ⟨⟨B1, n1, d1, B2, n2, d2, B3, n3, d3, B4, n4, d4, B5, n5, d5⟩, _, rfl, rfl, hm⟩
end Go.Proofs.YtiaendggmamnkaaGreatDoor
