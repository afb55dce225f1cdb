/-
  The law AwaitLocal returns true for every program and every code, where the tables are laid.
-/
import Derived.Test.YtkanamdfjegcbaaDoorLAwMo
import Derived.Test.YtkanamdfjegcbaaDoorLAwL
import Derived.Test.YtkanamdfjegcbaaDoorLPgX6
import Derived.Deep.RegionHeld3
import Derived.Deep.LoopGhost
namespace Go.Proofs.YtkanamdfjegcbaaDoor
open Go Go.RowKit

theorem findsOk {f : FuncId} {vs : Array Value} {X : World} {p : Prg} (hok : p.okB = true) (h : Calls Tryd.prog f vs X (GivesN (spR p) p.chk.1 X)) :
    Calls Tryd.prog f vs X fun e w' => ∃ v, e = .returned (.tuple #[v, .int .i64 0]) ∧ OwnN w' X.heap.size v p.spins ∧ Below X.heap.size X w' := by
  have hc0 : p.chk.1 = 0 := of_decide_eq_true hok
  unfold GivesN at h
  rw [show spR p = p.spins by unfold spR; rw [if_pos hc0], hc0] at h
  exact h
theorem rewOk {f : FuncId} {vs : Array Value} {X : World} {p : Prg} (hok : p.okB = true) (h : Calls Tryd.prog f vs X (GivesRw p X)) :
    Calls Tryd.prog f vs X fun e w' => ∃ a' : PgA, e = .returned (.tuple #[a'.val, .int .i64 0]) ∧ PgW w' a' (rwP p p.spins) ∧ Below X.heap.size X w' := by
  have hc0 : p.chk.1 = 0 := of_decide_eq_true hok
  unfold GivesRw at h
  rw [show rwR p = rwP p p.spins by unfold rwR; rw [if_pos hc0], hc0] at h
  exact h
set_option maxRecDepth 100000 in
set_option maxHeartbeats 8000000 in
theorem lawLocal {a : PgA} {p : Prg} (w : World) (hP : PgW w a p) (hWf : p.Wf) {Ac : Option Addr} {mc cc : Nat} {C : List I8} (hC : RdE 8 EI w Ac cc C) (hCm : C.length = mc) (hCW : ∀ i ∈ C, i.Wf) (hL : Laid7 w) : Calls Tryd.prog 10 #[a.val, .slice Ac mc cc] w (LawOkA w) := by
  obtain ⟨W, hW⟩ : ∃ W, w.alloc (.cells a.fs 54) = W := ⟨_, rfl⟩
  have hbW : Below w.heap.size w W := by rw [← hW]; exact belowAlloc w _
  have hk1 : PBox W w.heap.size a := by rw [← hW]; exact Blk.new w _ _
  have HBW := Lib.hid hbW
  have HW := Lib.hid hW
  have HK := Lib.hid (fun X (hX : Below W.heap.size W X) => (hk1.below hX).facts)
  have hpW := hP.below hbW
  have hLW := hL.below hbW
  have H1 := Lib.hid (rSmall W hpW)
  have HLV := Lib.hid (fun X (hX : Below W.heap.size W X) => aLives X (hLW.below hX))
  have hl4 := hP.l4
  by_cases hno : p.small = false ∨ 64 < mc ∨ 8 ≤ a.n4
  · have hg : p.small = false ∨ p.small = true ∧ 64 < mc ∨ p.small = true ∧ ¬ 64 < mc ∧ 8 ≤ a.n4 := by
      cases hs : p.small
      · exact .inl rfl
      · rcases hno with h | h | h
        · rw [hs] at h; cases h
        · exact .inr (.inl ⟨rfl, h⟩)
        · by_cases g : 64 < mc
          · exact .inr (.inl ⟨rfl, g⟩)
          · exact .inr (.inr ⟨rfl, g, h⟩)
    clear hno hP hL hW hbW hk1 hpW hLW hC hCm hCW hl4
    obtain ⟨A1, n1, c1, A2, n2, c2, A3, n3, c3, A4, n4, c4, A5, n5, c5⟩ := a
    simp only [PgA.val, PgA.fs] at *
    rcases hg with hs | ⟨hs, hm⟩ | ⟨hs, hm, hn⟩ <;> rw [hs] at H1 <;> clear hs
    · obtain ⟨f0, f1, f2, f3, f4⟩ := HK.out W (Below.refl _ _)
      go_enter Tryd.func10, Tryd.ntmps10
      go_wp2_with fail
      rw [HW.out]
      go_wp2_with fail
      refine H1.out.mono ?_
      rintro e w1 ⟨rfl, b1⟩
      clear f0 f1 f2 f3 f4
      go_wp2_with fail
      refine (HLV.out _ b1).mono ?_
      rintro e w2 ⟨rfl, b2⟩
      go_wp2
      go_ret
      exact ⟨rfl, belowThen HBW.out (belowThen b1 b2)⟩
    · have d1 : (64 : Int) < (mc : Int) := by omega
      obtain ⟨f0, f1, f2, f3, f4⟩ := HK.out W (Below.refl _ _)
      go_enter Tryd.func10, Tryd.ntmps10
      go_wp2_with fail
      rw [HW.out]
      go_wp2_with fail
      refine H1.out.mono ?_
      rintro e w1 ⟨rfl, b1⟩
      clear f0 f1 f2 f3 f4
      go_wp2_with fail
      refine (HLV.out _ b1).mono ?_
      rintro e w2 ⟨rfl, b2⟩
      go_wp2
      go_ret
      exact ⟨rfl, belowThen HBW.out (belowThen b1 b2)⟩
    · have d1 : ¬ ((64 : Int) < (mc : Int)) := by omega
      have d2 : (8 : Int) ≤ (n4 : Int) := by omega
      obtain ⟨f0, f1, f2, f3, f4⟩ := HK.out W (Below.refl _ _)
      go_enter Tryd.func10, Tryd.ntmps10
      go_wp2_with fail
      rw [HW.out]
      go_wp2_with fail
      refine H1.out.mono ?_
      rintro e w1 ⟨rfl, b1⟩
      clear f0 f1 f2 f3 f4
      obtain ⟨f0, f1, f2, f3, f4⟩ := HK.out w1 b1
      go_wp2_with fail
      refine (HLV.out _ b1).mono ?_
      rintro e w2 ⟨rfl, b2⟩
      go_wp2
      go_ret
      exact ⟨rfl, belowThen HBW.out (belowThen b1 b2)⟩
  have hsm : p.small = true := by
    cases h : p.small
    · exact absurd (.inl h) hno
    · rfl
  have hm64 : mc ≤ 64 := by rcases Nat.lt_or_ge 64 mc with h | h; · exact absurd (.inr (.inl h)) hno
                            · exact h
  have hn8 : a.n4 < 8 := by rcases Nat.lt_or_ge a.n4 8 with h | h; · exact h
                            · exact absurd (.inr (.inr h)) hno
  clear hno
  rw [hsm] at H1
  have d1 : ¬ ((64 : Int) < (mc : Int)) := by omega
  have d2 : ¬ ((8 : Int) ≤ (a.n4 : Int)) := by omega
  have hsz : (⟨#[122, 122, 57]⟩ : ByteArray).size ≤ maxLen := by show 3 ≤ maxLen; unfold maxLen; omega
  have hqsm : (p.more ⟨#[122, 122, 57]⟩ C).small = true := moreSmall hsm (by omega) (by omega)
  have hqwf : (p.more ⟨#[122, 122, 57]⟩ C).Wf := moreWf hWf hCW hsz
  have HVA := Lib.hid (fun X (hX : Below W.heap.size W X) => rValidP X (hpW.below hX) hWf hsm)
  have HFI := Lib.hid (fun (hok : p.okB = true) X (hX : Below W.heap.size W X) => findsOk hok (iFind X (hpW.below hX) hWf hsm (hLW.below hX).ins (hLW.below hX).nm))
  have HRW := Lib.hid (fun (hok : p.okB = true) X (hX : Below W.heap.size W X) => rewOk hok (iRewrite X (hpW.below hX) hWf hsm (hLW.below hX).ins (hLW.below hX).nm))
  obtain ⟨Q, hQ⟩ : ∃ Q, p.more ⟨#[122, 122, 57]⟩ C = Q := ⟨_, rfl⟩
  have HVQ := Lib.hid (fun X aq (hq : PgW X aq Q) => rValidP X hq (hQ ▸ hqwf) (hQ ▸ hqsm))
  have HFQ := Lib.hid (fun (hok : Q.okB = true) X aq (hq : PgW X aq Q) (hX : Below W.heap.size W X) => findsOk hok (iFind X hq (hQ ▸ hqwf) (hQ ▸ hqsm) (hLW.below hX).ins (hLW.below hX).nm))
  have HRQ := Lib.hid (fun (hok : Q.okB = true) X aq (hq : PgW X aq Q) (hX : Below W.heap.size W X) => rewOk hok (iRewrite X hq (hQ ▸ hqwf) (hQ ▸ hqsm) (hLW.below hX).ins (hLW.below hX).nm))
  have HTK : Hid (Q.spins.take p.spins.length = p.spins) := Lib.hid (by rw [← hQ]; exact moreTake p _ C)
  have HGE : Hid (p.spins.length ≤ Q.spins.length) := Lib.hid (by rw [← hQ]; exact moreGe p _ C)
  have HAT : Hid (∀ i (_ : p.spins.length ≤ i) (h2 : i < Q.spins.length), Q.spins[i].1 = a.n4) := Lib.hid (by subst hQ; exact fun i h1 h2 => (moreAt h1 h2).trans hl4)
  have HSL : Hid (Q.spins.length ≤ 2000) := Lib.hid (by rw [← hQ]; exact moreSpLen hqsm)
  have HCUT : Hid (∀ X (b : PgA), PgW X b (rwP Q Q.spins) → PgW X ⟨b.A1, b.n1, b.c1, b.A2, b.n2, b.c2, b.A3, b.n3, b.c3, b.A4, a.n4, b.c4, b.A5, b.n5, b.c5⟩ (rwP p p.spins)) := Lib.hid (by subst hQ; exact fun X b h => moreCut h hl4)
  have HQL : Hid (Q.funcs.length = a.n4 + 1) := Lib.hid (by rw [← hQ, moreLen, hl4])
  have HQN : Hid (∀ h : a.n4 < Q.funcs.length, Q.funcs[a.n4] = (⟨#[122, 122, 57]⟩, C)) := Lib.hid (by subst hQ; intro h; have e := moreFn p ⟨#[122, 122, 57]⟩ C; rw [List.getElem_eq_iff] at e ⊢; rw [← hl4]; exact e)
  have HCL := Lib.hid (fun X (hX : Below W.heap.size W X) => rClone8o p a X (hpW.below hX) (by have := hP.l1; have := (fewOf hsm).1; omega) (by have := hP.l2; have := (fewOf hsm).2.1; omega) (by have := hP.l3; have := (fewOf hsm).2.2.1; omega) (by omega) (by have := hP.l5; have := (fewOf hsm).2.2.2.2; omega) (fun f hf => by have := shortOf hsm f hf; omega))
  have HMP := Lib.hid (fun (w1 Y : World) (b : PgA) (g : Nat) (h1 : Below w1.heap.size w1 Y) (h2 : w1.heap.size ≤ g) (h3 : PBox Y g b) (h4 : Cl8 w1.heap.size Y p b) (h5 : OwF w1.heap.size Y p b) => (by have := moreLp h1 h2 h3 h4 h5 ⟨#[122, 122, 57]⟩ C; rw [hQ, hl4] at this; exact this : LpR w1 Y Q b g a.n4))
  have HCC := Lib.hid (fun X (hX : Below W.heap.size W X) ty A0 => runCpI X ty A0 Ac C mc cc hCm (by omega) (hC.below stabI (belowThen hbW hX)))
  have HPW := Lib.hid hpW
  have HSA : Hid (rwP p p.spins = rwP p p.spins) := Lib.hid rfl
  clear hP hL hW hbW hk1 hpW hLW hC hCW hqsm hqwf hQ hsm hWf hsz
  obtain ⟨A1, n1, c1, A2, n2, c2, A3, n3, c3, A4, n4, c4, A5, n5, c5⟩ := a
  simp only [PgA.val, PgA.fs] at *
  obtain ⟨f0, f1, f2, f3, f4⟩ := HK.out W (Below.refl _ _)
  go_enter Tryd.func10, Tryd.ntmps10
  go_wp2_with fail
  rw [HW.out]
  go_wp2_with fail
  refine H1.out.mono ?_
  rintro e w1 ⟨rfl, b1⟩
  have HC1 := Lib.hid (HCL.out w1 b1)
  have HB1 := Lib.hid b1
  clear f0 f1 f2 f3 f4
  obtain ⟨f0, f1, f2, f3, f4⟩ := HK.out w1 b1
  clear b1 H1 HCL
  go_wp2_with fail
  refine HC1.out.mono ?_
  rintro e w2 ⟨a2, rfl, b2, hc2, ho2⟩
  obtain ⟨w3, hw3⟩ : ∃ w3, w2.alloc (.cells a2.fs 54) = w3 := ⟨_, rfl⟩
  have hb3 : Below w2.heap.size w2 w3 := by rw [← hw3]; exact belowAlloc _ _
  have hbx : PBox w3 w2.heap.size a2 := by rw [← hw3]; exact Blk.new _ _ _
  have hL := HMP.out w1 w3 a2 w2.heap.size (belowThen b2 hb3) b2.size hbx (hc2.below hb3) (ho2.below hb3)
  have HW3 := Lib.hid hw3
  have HLb := Lib.hid hL.below
  have Hlo := Lib.hid hL.lo
  have HKS := Lib.hid (fun X (hX : Below w1.heap.size w1 X) => hX)
  have HG3 := Lib.hid (fun X (hX : Below w3.heap.size w3 X) => (hL.box.below hX).facts.2.2.2.1)
  have HAP := Lib.hid (fun X (hX : Below w3.heap.size w3 X) ty A0 => HCC.out X (belowThen HB1.out (belowThen HLb.out hX)) ty A0)
  have hk' : n4 < Q.funcs.length := by have := HQL.out; omega
  have hqn := HQN.out hk'
  obtain ⟨ys, hown, hrow⟩ := hL.row
  obtain ⟨i0, hi, hz0, hz1, hz2⟩ := info_parts infoCF
  have HOW := Lib.hid (fun X (hX : Below w3.heap.size w3 X) gb nm B' m d' (hG : Blk X gb 24 #[.string nm, .slice B' m d']) ty => run_append_own_at (P := Tryd.prog) X w1.heap.size 51 ty 24 i0 _ 2 40 Tryd.underlying51 hi hz0 hz1 hz2 rfl (by decide) (.slice a2.A4 n4 a2.c4) n4 ys (ownBelow hown hX) ⟨gb, 0, none⟩ 1 1 [.string nm, .slice B' m d'] rfl (by
    intro j u hu
    have hj : j < 2 := (List.getElem?_eq_some_iff.1 hu).1
    rw [Addr.add_lit, Nat.zero_add, hG.cell]
    rcases (by omega : j = 0 ∨ j = 1) with rfl | rfl <;> exact hu) (by simp [Value.oneCell']) (by unfold maxLen; omega) (by omega) (Nat.le_trans hL.below.size hX.size))
  have HMID := Lib.hid (fun X X2 (hX : Below w3.heap.size w3 X) hgr => hL.mid (X := X) (X2 := X2) hX hown hgr)
  have HST := Lib.hid (fun X X2 (hX : Below w3.heap.size w3 X) B' d' hr' hfr A4n c4n hw hg => hL.step (X := X) (X2 := X2) hk' hX (m := mc) (by rw [hqn]; exact hCm) (B := B') (d := d') (by rw [hqn]; exact hr') hfr hown hrow (A4 := A4n) (c4 := c4n) (by rw [hqn]; exact hw) hg)
  have hn4 := hL.n4
  have bdw : Below w3.heap.size w3 w3.drew := (Below.refl _ w3).drew
  have hS0 := HKS.out w3.drew (hL.below.drew)
  clear f0 f1 f2 f3 f4 hw3 hb3 hbx hL hown hrow hi hz0 hz1 hz2 b2 hc2 ho2 HC1 HCC HMP HQN hk' hqn
  obtain ⟨D1, k1, e1, D2, k2, e2, D3, k3, e3, D4, k4, e4, D5, k5, e5⟩ := a2
  simp only [PgA.fs] at HW3 HG3 HOW HMID HST hn4
  subst hn4
  go_upto_region 4 with fail
  rw [HW3.out]
  refine wp_region_held_drew (S := (fun w' => Below w1.heap.size w1 w')) (by kernel_rfl) hS0 (fun hHeld => ?_)
  refine wpAnyH_take (i := 0) (oi := ⟨some 32, _, _, _, _, _⟩) (v := ?v0_1) rfl (by kernel_rfl) (by kernel_rfl) (by kernel_rfl) (fun _ _ _ h => h) (Or.inl ⟨by rfl, ?h0_1⟩) (by assumption) ?r0_1
  case h0_1 => (intro w hSw; (try dsimp only at hSw); go_simp; try with_reducible rfl)
  (try simp only [Act.put, List.setIfInBounds_toArray, List.set_cons_zero, List.set_cons_succ])
  refine wpAnyH_take (i := 3) (oi := ⟨some 35, _, _, _, _, _⟩) (v := ?v3_2) rfl (by kernel_rfl) (by kernel_rfl) (by kernel_rfl) (fun _ _ _ h => h) (Or.inl ⟨by rfl, ?h3_2⟩) (by assumption) ?r3_2
  case h3_2 => (intro w hSw; (try dsimp only at hSw); go_simp; try with_reducible rfl)
  (try simp only [Act.put, List.setIfInBounds_toArray, List.set_cons_zero, List.set_cons_succ])
  refine wpAnyH_ready (rs := [1, 2]) (by kernel_rfl) (by simp) ?_
  refine AllReadyH.cons (o := ⟨some 33, _, _, _, _, _⟩) rfl (fun K hK => ?_) (AllReadyH.cons (o := ⟨some 34, _, _, _, _, _⟩) rfl (fun K hK => ?_) (AllReadyH.nil))
  · have q3 := HG3.out _ bdw
    go_simp
    refine hK.out _ _ (HKS.out _ (belowThen HLb.out bdw)) (fun hHeld => ?_)
    clear hK K
    clear q3
    (try simp only [Act.put, List.setIfInBounds_toArray, List.set_cons_zero, List.set_cons_succ])
    refine wpAnyH_ready (rs := [2]) (by kernel_rfl) (by simp) ?_
    refine AllReadyH.cons (o := ⟨some 34, _, _, _, _, _⟩) rfl (fun K hK => ?_) (AllReadyH.nil)
    · obtain ⟨Xa, hXa⟩ : ∃ Xa, World.alloc w3.drew (.cells #[] 44) = Xa := ⟨_, rfl⟩
      have bXa := belowThen bdw (show Below (World.heap w3.drew).size w3.drew Xa by rw [← hXa]; exact belowAlloc _ _)
      go_simp
      try rw [hXa]
      refine hK.out _ _ (HKS.out _ (belowThen HLb.out bXa)) (fun hHeld => ?_)
      clear hK K
      clear hXa
      (try simp only [Act.put, List.setIfInBounds_toArray, List.set_cons_zero, List.set_cons_succ])
      refine wpAnyH_ready (rs := [4]) (by kernel_rfl) (by simp) ?_
      refine AllReadyH.cons (o := ⟨some 36, _, _, _, _, _⟩) rfl (fun K hK => ?_) (AllReadyH.nil)
      · obtain ⟨vb, Xb, hrun, B', d', rfl, r1, r2, r3⟩ := HAP.out Xa bXa _ _
        have bXb := belowThen bXa r3
        replace r2 := r2.mono (bXa).size
        refine Lib.wp_append_run _ (.tmp 34) (.tmp 35) 22 22 rfl _ _ rfl rfl _ _ hrun ?_
        refine hK.out _ _ (HKS.out _ (belowThen HLb.out bXb)) (fun hHeld => ?_)
        clear hK K
        (try simp only [Act.put, List.setIfInBounds_toArray, List.set_cons_zero, List.set_cons_succ])
        refine wpAnyH_take (i := 5) (oi := ⟨some 37, _, _, _, _, _⟩) (v := ?v5_3) rfl (by kernel_rfl) (by kernel_rfl) (by kernel_rfl) (fun _ _ _ h => h) (Or.inl ⟨by rfl, ?h5_3⟩) (by assumption) ?r5_3
        case h5_3 => (intro w hSw; (try dsimp only at hSw); go_simp; try with_reducible rfl)
        (try simp only [Act.put, List.setIfInBounds_toArray, List.set_cons_zero, List.set_cons_succ])
        refine wpAnyH_ready (rs := [6]) (by kernel_rfl) (by simp) ?_
        refine AllReadyH.cons (o := ⟨some 38, _, _, _, _, _⟩) rfl (fun K hK => ?_) (AllReadyH.nil)
        · obtain ⟨Xc, hXc⟩ : ∃ Xc, World.alloc Xb (.cells #[.string ⟨#[122, 122, 57]⟩, .slice B' mc d'] 24) = Xc := ⟨_, rfl⟩
          have sXc : Below (World.heap Xb).size Xb Xc := by rw [← hXc]; exact belowAlloc _ _
          have bXc := belowThen bXb sXc
          have gXc : Blk Xc (World.heap Xb).size 24 #[.string ⟨#[122, 122, 57]⟩, .slice B' mc d'] := by rw [← hXc]; exact Blk.new _ _ _
          go_simp
          try rw [hXc]
          refine hK.out _ _ (HKS.out _ (belowThen HLb.out bXc)) (fun hHeld => ?_)
          clear hK K
          clear hXc
          (try simp only [Act.put, List.setIfInBounds_toArray, List.set_cons_zero, List.set_cons_succ])
          refine wpAnyH_ready (rs := [7]) (by kernel_rfl) (by simp) ?_
          refine AllReadyH.cons (o := ⟨some 39, _, _, _, _, _⟩) rfl (fun K hK => ?_) (AllReadyH.nil)
          · obtain ⟨v2, X2, hrun2, hown2, hgr2, _, _⟩ := HOW.out Xc bXc _ _ B' mc d' gXc _
            obtain ⟨A4n, c4n, rfl⟩ := ownSl hown2
            obtain ⟨hb2, hG2⟩ := HMID.out Xc X2 bXc hgr2
            have hn := HST.out Xc X2 bXc B' d' (r1.below stabI sXc) (r2.below sXc) A4n c4n hown2 hgr2
            have hx3 := hG2.cell 3
            have hz3 := hG2.frozen 3
            try simp only [PgA.fs] at hx3
            refine Lib.wp_append_run _ (.tmp 33) (.tmp 38) 51 51 rfl _ _ rfl rfl _ _ hrun2 ?_
            refine hK.out _ _ (HKS.out _ hb2) (fun hHeld => ?_)
            clear hK K
            (try simp only [Act.put, List.setIfInBounds_toArray, List.set_cons_zero, List.set_cons_succ])
            refine wpAnyH_take (i := 8) (oi := ⟨some 40, _, _, _, _, _⟩) (v := ?v8_4) rfl (by kernel_rfl) (by kernel_rfl) (by kernel_rfl) (fun _ _ _ h => h) (Or.inl ⟨by rfl, ?h8_4⟩) (by assumption) ?r8_4
            case h8_4 => (intro w hSw; (try dsimp only at hSw); go_simp; try with_reducible rfl)
            (try simp only [Act.put, List.setIfInBounds_toArray, List.set_cons_zero, List.set_cons_succ])
            refine wpAnyH_ready (rs := [9]) (by kernel_rfl) (by simp) ?_
            refine AllReadyH.cons (o := ⟨none, _, _, _, _, _⟩) rfl (fun K hK => ?_) (AllReadyH.nil)
            · go_simp
              refine hK.out _ _ (HKS.out _ (hb2.setCell Hlo.out _)) (fun hHeld => ?_)
              clear hK K
              (try simp only [Act.put, List.setIfInBounds_toArray, List.set_cons_zero, List.set_cons_succ])
              refine wpAnyH_done (by kernel_rfl) ?_ _
              have HN := Lib.hid hn
              obtain ⟨w4, hw4⟩ : ∃ w4, X2.setCell ⟨w2.heap.size, 3, none⟩ (.slice A4n (k4 + 1) c4n) = w4 := ⟨_, rfl⟩
              rw [hw4] at HN
              try rw [hw4]
              clear hHeld hx3 hz3 hG2 hb2 hown2 hgr2 hrun2 hrun r1 r2 r3 gXc hn hw4 bXa bXb bXc sXc hS0 bdw HOW HMID HST HAP HG3 HKS
              have hcl := HN.out.done HQL.out
              have HB4 := Lib.hid (belowThen HB1.out HN.out.below)
              have HQ4 := Lib.hid (And.intro HN.out.box hcl.pg)
              have HV4 := Lib.hid (HVA.out w4 HB4.out)
              clear hcl HN HVA Hlo HLb
              cases hok : p.okB
              · rw [hok] at HV4
                clear hok
                obtain ⟨f0, f1, f2, f3, f4⟩ := HK.out w4 HB4.out
                go_wp2_with fail
                refine HV4.out.mono ?_
                rintro e w5 ⟨rfl, b5⟩
                clear f0 f1 f2 f3 f4
                go_wp2_with fail
                refine (HLV.out _ (belowThen HB4.out b5)).mono ?_
                rintro e w6 ⟨rfl, b6⟩
                go_wp2
                go_ret
                exact ⟨rfl, belowThen HBW.out (belowThen HB4.out (belowThen b5 b6))⟩
              rw [hok] at HV4
              have HFI' := Lib.hid (HFI.out hok)
              have HRW' := Lib.hid (HRW.out hok)
              clear hok HFI HRW
              cases hoq : Q.okB
              · obtain ⟨f0, f1, f2, f3, f4⟩ := HK.out w4 HB4.out
                go_wp2_with fail
                refine HV4.out.mono ?_
                rintro e w5 ⟨rfl, b5⟩
                have HQ5 := Lib.hid (And.intro (HQ4.out.1.below b5) (HQ4.out.2.below b5))
                have HV5 := Lib.hid (HVQ.out w5 _ HQ5.out.2)
                rw [hoq] at HV5
                have HB5 := Lib.hid (belowThen HB4.out b5)
                clear f0 f1 f2 f3 f4 hoq
                obtain ⟨u0, u1, u2, u3, u4⟩ := HQ5.out.1.facts
                simp only at u0 u1 u2 u3 u4
                go_wp2_with fail
                refine HV5.out.mono ?_
                rintro e w6 ⟨rfl, b6⟩
                clear u0 u1 u2 u3 u4
                go_wp2_with fail
                refine (HLV.out _ (belowThen HB5.out b6)).mono ?_
                rintro e w7 ⟨rfl, b7⟩
                go_wp2
                go_ret
                exact ⟨rfl, belowThen HBW.out (belowThen HB5.out (belowThen b6 b7))⟩
              have HFQ' := Lib.hid (HFQ.out hoq)
              have HRQ' := Lib.hid (HRQ.out hoq)
              clear HFQ HRQ
              obtain ⟨f0, f1, f2, f3, f4⟩ := HK.out w4 HB4.out
              go_wp2_with fail
              refine HV4.out.mono ?_
              rintro e w5 ⟨rfl, b5⟩
              have HQ5 := Lib.hid (And.intro (HQ4.out.1.below b5) (HQ4.out.2.below b5))
              have HV5 := Lib.hid (HVQ.out w5 _ HQ5.out.2)
              rw [hoq] at HV5
              have HB5 := Lib.hid (belowThen HB4.out b5)
              clear f0 f1 f2 f3 f4 hoq b5
              obtain ⟨u0, u1, u2, u3, u4⟩ := HQ5.out.1.facts
              simp only at u0 u1 u2 u3 u4
              go_wp2_with fail
              refine HV5.out.mono ?_
              rintro e w6 ⟨rfl, b6⟩
              clear u0 u1 u2 u3 u4
              have HQ6 := Lib.hid (And.intro (HQ5.out.1.below b6) (HQ5.out.2.below b6))
              have HB6 := Lib.hid (belowThen HB5.out b6)
              have HF6 := Lib.hid (HFI'.out w6 HB6.out)
              clear b6
              obtain ⟨f0, f1, f2, f3, f4⟩ := HK.out w6 HB6.out
              go_wp2_with fail
              refine HF6.out.mono ?_
              rintro e w7 ⟨v7, rfl, o7, b7⟩
              obtain ⟨A7, c7, rfl, r7⟩ := o7.rd
              have HR7 := Lib.hid r7
              have HQ7 := Lib.hid (And.intro (HQ6.out.1.below b7) (HQ6.out.2.below b7))
              have HB7 := Lib.hid (belowThen HB6.out b7)
              have HF7 := Lib.hid (HFQ'.out w7 _ HQ7.out.2 HB7.out)
              clear f0 f1 f2 f3 f4 o7 r7 b7
              obtain ⟨u0, u1, u2, u3, u4⟩ := HQ7.out.1.facts
              simp only at u0 u1 u2 u3 u4
              go_wp2_with fail
              refine HF7.out.mono ?_
              rintro e w8 ⟨v8, rfl, o8, b8⟩
              obtain ⟨A8, c8, rfl, r8⟩ := o8.rd
              have HR8 := Lib.hid r8
              have HR7' := Lib.hid (HR7.out.below stabSn b8)
              have HQ8 := Lib.hid (And.intro (HQ7.out.1.below b8) (HQ7.out.2.below b8))
              have HB8 := Lib.hid (belowThen HB7.out b8)
              have HW8 := Lib.hid (HRW'.out w8 HB8.out)
              clear u0 u1 u2 u3 u4 o8 r8 b8 HR7
              obtain ⟨f0, f1, f2, f3, f4⟩ := HK.out w8 HB8.out
              go_wp2_with fail
              refine HW8.out.mono ?_
              rintro e w9 ⟨a9, rfl, p9, b9⟩
              obtain ⟨w10, hw10⟩ : ∃ w10, w9.alloc (.cells a9.fs 54) = w10 := ⟨_, rfl⟩
              have hb10 : Below w9.heap.size w9 w10 := by rw [← hw10]; exact belowAlloc _ _
              have hb := belowThen b9 hb10
              have HP10 : Hid (PBox w10 w9.heap.size a9 ∧ PgW w10 a9 (rwP p p.spins)) := Lib.hid ⟨by rw [← hw10]; exact Blk.new _ _ _, p9.below hb10⟩
              have HR7b := Lib.hid (HR7'.out.below stabSn hb)
              have HR8b := Lib.hid (HR8.out.below stabSn hb)
              have HQ10 := Lib.hid (And.intro (HQ8.out.1.below hb) (HQ8.out.2.below hb))
              have HB10 := Lib.hid (belowThen HB8.out hb)
              have HW10 := Lib.hid (HRQ'.out w10 _ HQ10.out.2 HB10.out)
              have HWa := Lib.hid hw10
              clear f0 f1 f2 f3 f4 hw10 hb10 hb p9 b9 HR7' HR8
              obtain ⟨E1, l1, g1, E2, l2, g2, E3, l3, g3, E4, l4, g4, E5, l5, g5⟩ := a9
              simp only [PgA.fs] at HWa
              dsimp only
              obtain ⟨u0, u1, u2, u3, u4⟩ := HQ10.out.1.facts
              simp only at u0 u1 u2 u3 u4
              go_upto_region 10 with fail
              rw [HWa.out]
              go_wp2_with fail
              refine HW10.out.mono ?_
              rintro e w11 ⟨a11, rfl, p11, b11⟩
              obtain ⟨w12, hw12⟩ : ∃ w12, w11.alloc (.cells a11.fs 54) = w12 := ⟨_, rfl⟩
              have hb12 : Below w11.heap.size w11 w12 := by rw [← hw12]; exact belowAlloc _ _
              have hb := belowThen b11 hb12
              have HNE : Hid (w9.heap.size ≠ w11.heap.size) := Lib.hid (by have h1 := b11.size; rw [← HWa.out, World.size_alloc] at h1; omega)
              have HLO : Hid (W.heap.size ≤ w11.heap.size) := Lib.hid (Nat.le_trans HB10.out.size b11.size)
              have HQ12 : Hid (PBox w12 w11.heap.size a11 ∧ PgW w12 a11 (rwP Q Q.spins)) := Lib.hid ⟨by rw [← hw12]; exact Blk.new _ _ _, p11.below hb12⟩
              have HP12 := Lib.hid (And.intro (HP10.out.1.below hb) (HP10.out.2.below hb))
              have HR7c := Lib.hid (HR7b.out.below stabSn hb)
              have HR8c := Lib.hid (HR8b.out.below stabSn hb)
              have HB12 := Lib.hid (belowThen HB10.out hb)
              have HWb := Lib.hid hw12
              clear u0 u1 u2 u3 u4 hw12 hb12 hb p11 b11 HR7b HR8b HP10
              obtain ⟨G1, i1, j1, G2, i2, j2, G3, i3, j3, G4, i4, j4, G5, i5, j5⟩ := a11
              simp only [PgA.fs] at HWb
              dsimp only
              have hi4 : i4 = k4 + 1 := by have h1 := HQ12.out.2.l4; rw [rwPLen, HQL.out] at h1; exact h1.symm
              obtain ⟨kq, hkq⟩ : ∃ kq, k4 + 1 = kq := ⟨_, rfl⟩
              rw [hkq] at hi4
              subst hi4
              have hwr : IntKind.i64.wrap ((k4 : Int) + 1) = (i4 : Int) := by rw [IntKind.wrap_i64]; omega
              have HKQ := Lib.hid hkq
              clear hkq
              obtain ⟨n, hn⟩ : ∃ n, p.spins.length = n := ⟨_, rfl⟩
              obtain ⟨m, hm⟩ : ∃ m, Q.spins.length = m := ⟨_, rfl⟩
              have hnm := HGE.out
              rw [hn, hm] at hnm
              rw [hn, hm]
              have hn0 : ¬ (m < n) := by omega
              have hc8 := HR8c.out.le
              have hc8m := HR8c.out.max
              rw [hm] at hc8
              unfold maxLen at hc8m
              obtain ⟨f0, f1, f2, f3, f4⟩ := HK.out w12 HB12.out
              obtain ⟨u0, u1, u2, u3, u4⟩ := HQ12.out.1.facts
              simp only at u0 u1 u2 u3 u4
              go_upto_region 11 with fail
              rw [HWb.out]
              go_wp2_with fail
              refine ((rSame14 p.spins (Q.spins.take n) n n hn (by rw [List.length_take]; omega) A7 A8 c7 c8 w12 HR7c.out (rdTake HR8c.out n))).mono ?_
              rw [show Q.spins.take n = p.spins by rw [← hn]; exact HTK.out, decide_eq_true (rfl : p.spins = p.spins)]
              rintro e w13 ⟨rfl, b13⟩
              have HB13 := Lib.hid (belowThen HB12.out b13)
              have HR := Lib.hid (HR8c.out.below stabSn b13)
              have HQ13 := Lib.hid (And.intro (HQ12.out.1.below b13) (HQ12.out.2.below b13))
              have HP13 := Lib.hid (And.intro (HP12.out.1.below b13) (HP12.out.2.below b13))
              clear f0 f1 f2 f3 f4 u0 u1 u2 u3 u4 b13 HR7c HR8c HQ12 HP12
              obtain ⟨f0, f1, f2, f3, f4⟩ := HK.out w13 HB13.out
              obtain ⟨u0, u1, u2, u3, u4⟩ := HQ13.out.1.facts
              simp only at u0 u1 u2 u3 u4
              have HM := Lib.hid hm
              have HN := Lib.hid hn
              have hkj : k4 ≤ j4 := by have h1 := HQ13.out.2.funcs.le; have h2 := HQ13.out.2.l4; have h3 := HKQ.out; simp only at h1 h2; omega
              have hj4 : j4 ≤ 2 ^ 63 - 1 := by have h1 := HQ13.out.2.funcs.max; simp only at h1; unfold maxLen at h1; exact h1
              obtain ⟨gd, hgd⟩ : ∃ gd, n + gd = m := ⟨m - n, by omega⟩
              have hm0 : (m : Int) ≤ 2000 := by have h1 := HSL.out; rw [hm] at h1; omega
              clear hm hn
              go_wp2_with fail
              go_loopg [14] gd (fun g i wr => ∃ k : Nat, n ≤ k ∧ k + g = m ∧ i = .int .i64 k ∧ Below w13.heap.size w13 wr)
              case atStart => exact ⟨n, Nat.le_refl _, hgd, rfl, Below.refl _ _⟩
              case round =>
                obtain ⟨k, hnk, hk, rfl, hb⟩ := hrel
                have HB := Lib.hid hb
                cases gk with
                | succ go =>
                  have hkm : k < Q.spins.length := by rw [HM.out]; omega
                  obtain ⟨bs, os, hAs, _, hx⟩ := (HR.out.below stabSn hb).at_ (by omega)
                  have z0 := (hx k hkm).c0
                  rw [HAT.out k (by rw [HN.out]; exact hnk) hkm] at z0
                  subst hAs
                  have hi0 : (0 : Int) ≤ k := by omega
                  have hi1 : (k : Int) < m := by omega
                  obtain ⟨f0, f1, f2, f3, f4⟩ := HK.out wr (belowThen HB13.out hb)
                  have d3 : (k4 != k4) = false := by simp
                  have d4 : ((k4 : Int) != (k4 : Int)) = false := by simp
                  have HBN : Hid (∀ q, Below w13.heap.size w13 (wr.drewN q)) := Lib.hid fun q => belowDrewN HB.out q
                  clear hb hx hkm
                  go_wp2_with fail
                  go_quiet (fail)
                  go_wp2
                  go_roundg go
                  case measure => omega
                  case rel => exact ⟨k + 1, by omega, by omega, by go_num, HBN.out _⟩
                | zero =>
                  have hkm : k = m := by omega
                  subst hkm
                  have hjz : ¬ ((k : Int) < (k : Int)) := by omega
                  obtain ⟨f0, f1, f2, f3, f4⟩ := HK.out wr (belowThen HB13.out hb)
                  have HQr := Lib.hid (And.intro (HQ13.out.1.below hb) (HQ13.out.2.below hb))
                  have HPr := Lib.hid (And.intro (HP13.out.1.below hb) (HP13.out.2.below hb))
                  obtain ⟨u0, u1, u2, u3, u4⟩ := HQr.out.1.facts
                  have hz3 := HQr.out.1.frozen 3
                  simp only at u0 u1 u2 u3 u4
                  obtain ⟨w14, hw14⟩ : ∃ w14, wr.setCell ⟨w11.heap.size, 3, none⟩ (.slice G4 k4 j4) = w14 := ⟨_, rfl⟩
                  have hbut : But w11.heap.size wr w14 := by rw [← hw14]; exact but1 wr w11.heap.size 3 _
                  have hb14 : Below W.heap.size W w14 := by rw [← hw14]; exact (belowThen HB13.out hb).setCell HLO.out _
                  have hx1 : PBox w14 w9.heap.size ⟨E1, l1, g1, E2, l2, g2, E3, l3, g3, E4, l4, g4, E5, l5, g5⟩ := (hbut.block _ HPr.out.1.lt HNE.out).trans HPr.out.1
                  have hx2 : PBox w14 w11.heap.size ⟨G1, i1, j1, G2, i2, j2, G3, i3, j3, G4, k4, j4, G5, i5, j5⟩ := by rw [← hw14]; exact HQr.out.1.set 3 _
                  have hx3 := HPr.out.2.but (onlySl HQr.out.1) hbut
                  have hx4 := HCUT.out _ _ (HQr.out.2.but (onlySl HQr.out.1) hbut)
                  have HE := Lib.hid (rEqual w14 hx3 hx4)
                  rw [eqPSelf] at HE
                  simp only [PgA.val, PgA.fs] at HE
                  have HW14 := Lib.hid hw14
                  have HB14 := Lib.hid hb14
                  clear hw14 hbut hx3 hx4 hb14 hb
                  go_upto_region 19 with fail
                  rw [HW14.out]
                  clear f0 f1 f2 f3 f4 u0 u1 u2 u3 u4
                  obtain ⟨f0, f1, f2, f3, f4⟩ := hx1.facts
                  obtain ⟨u0, u1, u2, u3, u4⟩ := hx2.facts
                  simp only at f0 f1 f2 f3 f4 u0 u1 u2 u3 u4
                  go_wp2_with fail
                  refine HE.out.mono ?_
                  rintro e w15 ⟨rfl, b15⟩
                  have HB15 := Lib.hid (belowThen HB14.out b15)
                  clear f0 f1 f2 f3 f4 u0 u1 u2 u3 u4 b15
                  go_wp2_with fail
                  refine (HLV.out _ HB15.out).mono ?_
                  rintro e w16 ⟨rfl, b16⟩
                  go_wp2
                  go_ret
                  exact ⟨rfl, belowThen HBW.out (belowThen HB15.out b16)⟩
  · obtain ⟨Xa, hXa⟩ : ∃ Xa, World.alloc w3.drew (.cells #[] 44) = Xa := ⟨_, rfl⟩
    have bXa := belowThen bdw (show Below (World.heap w3.drew).size w3.drew Xa by rw [← hXa]; exact belowAlloc _ _)
    go_simp
    try rw [hXa]
    refine hK.out _ _ (HKS.out _ (belowThen HLb.out bXa)) (fun hHeld => ?_)
    clear hK K
    clear hXa
    (try simp only [Act.put, List.setIfInBounds_toArray, List.set_cons_zero, List.set_cons_succ])
    refine wpAnyH_ready (rs := [1, 4]) (by kernel_rfl) (by simp) ?_
    refine AllReadyH.cons (o := ⟨some 33, _, _, _, _, _⟩) rfl (fun K hK => ?_) (AllReadyH.cons (o := ⟨some 36, _, _, _, _, _⟩) rfl (fun K hK => ?_) (AllReadyH.nil))
    · have q3 := HG3.out _ bXa
      go_simp
      refine hK.out _ _ (HKS.out _ (belowThen HLb.out bXa)) (fun hHeld => ?_)
      clear hK K
      clear q3
      (try simp only [Act.put, List.setIfInBounds_toArray, List.set_cons_zero, List.set_cons_succ])
      refine wpAnyH_ready (rs := [4]) (by kernel_rfl) (by simp) ?_
      refine AllReadyH.cons (o := ⟨some 36, _, _, _, _, _⟩) rfl (fun K hK => ?_) (AllReadyH.nil)
      · obtain ⟨vb, Xb, hrun, B', d', rfl, r1, r2, r3⟩ := HAP.out Xa bXa _ _
        have bXb := belowThen bXa r3
        replace r2 := r2.mono (bXa).size
        refine Lib.wp_append_run _ (.tmp 34) (.tmp 35) 22 22 rfl _ _ rfl rfl _ _ hrun ?_
        refine hK.out _ _ (HKS.out _ (belowThen HLb.out bXb)) (fun hHeld => ?_)
        clear hK K
        (try simp only [Act.put, List.setIfInBounds_toArray, List.set_cons_zero, List.set_cons_succ])
        refine wpAnyH_take (i := 5) (oi := ⟨some 37, _, _, _, _, _⟩) (v := ?v5_5) rfl (by kernel_rfl) (by kernel_rfl) (by kernel_rfl) (fun _ _ _ h => h) (Or.inl ⟨by rfl, ?h5_5⟩) (by assumption) ?r5_5
        case h5_5 => (intro w hSw; (try dsimp only at hSw); go_simp; try with_reducible rfl)
        (try simp only [Act.put, List.setIfInBounds_toArray, List.set_cons_zero, List.set_cons_succ])
        refine wpAnyH_ready (rs := [6]) (by kernel_rfl) (by simp) ?_
        refine AllReadyH.cons (o := ⟨some 38, _, _, _, _, _⟩) rfl (fun K hK => ?_) (AllReadyH.nil)
        · obtain ⟨Xc, hXc⟩ : ∃ Xc, World.alloc Xb (.cells #[.string ⟨#[122, 122, 57]⟩, .slice B' mc d'] 24) = Xc := ⟨_, rfl⟩
          have sXc : Below (World.heap Xb).size Xb Xc := by rw [← hXc]; exact belowAlloc _ _
          have bXc := belowThen bXb sXc
          have gXc : Blk Xc (World.heap Xb).size 24 #[.string ⟨#[122, 122, 57]⟩, .slice B' mc d'] := by rw [← hXc]; exact Blk.new _ _ _
          go_simp
          try rw [hXc]
          refine hK.out _ _ (HKS.out _ (belowThen HLb.out bXc)) (fun hHeld => ?_)
          clear hK K
          clear hXc
          (try simp only [Act.put, List.setIfInBounds_toArray, List.set_cons_zero, List.set_cons_succ])
          refine wpAnyH_ready (rs := [7]) (by kernel_rfl) (by simp) ?_
          refine AllReadyH.cons (o := ⟨some 39, _, _, _, _, _⟩) rfl (fun K hK => ?_) (AllReadyH.nil)
          · obtain ⟨v2, X2, hrun2, hown2, hgr2, _, _⟩ := HOW.out Xc bXc _ _ B' mc d' gXc _
            obtain ⟨A4n, c4n, rfl⟩ := ownSl hown2
            obtain ⟨hb2, hG2⟩ := HMID.out Xc X2 bXc hgr2
            have hn := HST.out Xc X2 bXc B' d' (r1.below stabI sXc) (r2.below sXc) A4n c4n hown2 hgr2
            have hx3 := hG2.cell 3
            have hz3 := hG2.frozen 3
            try simp only [PgA.fs] at hx3
            refine Lib.wp_append_run _ (.tmp 33) (.tmp 38) 51 51 rfl _ _ rfl rfl _ _ hrun2 ?_
            refine hK.out _ _ (HKS.out _ hb2) (fun hHeld => ?_)
            clear hK K
            (try simp only [Act.put, List.setIfInBounds_toArray, List.set_cons_zero, List.set_cons_succ])
            refine wpAnyH_take (i := 8) (oi := ⟨some 40, _, _, _, _, _⟩) (v := ?v8_6) rfl (by kernel_rfl) (by kernel_rfl) (by kernel_rfl) (fun _ _ _ h => h) (Or.inl ⟨by rfl, ?h8_6⟩) (by assumption) ?r8_6
            case h8_6 => (intro w hSw; (try dsimp only at hSw); go_simp; try with_reducible rfl)
            (try simp only [Act.put, List.setIfInBounds_toArray, List.set_cons_zero, List.set_cons_succ])
            refine wpAnyH_ready (rs := [9]) (by kernel_rfl) (by simp) ?_
            refine AllReadyH.cons (o := ⟨none, _, _, _, _, _⟩) rfl (fun K hK => ?_) (AllReadyH.nil)
            · go_simp
              refine hK.out _ _ (HKS.out _ (hb2.setCell Hlo.out _)) (fun hHeld => ?_)
              clear hK K
              (try simp only [Act.put, List.setIfInBounds_toArray, List.set_cons_zero, List.set_cons_succ])
              refine wpAnyH_done (by kernel_rfl) ?_ _
              have HN := Lib.hid hn
              obtain ⟨w4, hw4⟩ : ∃ w4, X2.setCell ⟨w2.heap.size, 3, none⟩ (.slice A4n (k4 + 1) c4n) = w4 := ⟨_, rfl⟩
              rw [hw4] at HN
              try rw [hw4]
              clear hHeld hx3 hz3 hG2 hb2 hown2 hgr2 hrun2 hrun r1 r2 r3 gXc hn hw4 bXa bXb bXc sXc hS0 bdw HOW HMID HST HAP HG3 HKS
              have hcl := HN.out.done HQL.out
              have HB4 := Lib.hid (belowThen HB1.out HN.out.below)
              have HQ4 := Lib.hid (And.intro HN.out.box hcl.pg)
              have HV4 := Lib.hid (HVA.out w4 HB4.out)
              clear hcl HN HVA Hlo HLb
              cases hok : p.okB
              · rw [hok] at HV4
                clear hok
                obtain ⟨f0, f1, f2, f3, f4⟩ := HK.out w4 HB4.out
                go_wp2_with fail
                refine HV4.out.mono ?_
                rintro e w5 ⟨rfl, b5⟩
                clear f0 f1 f2 f3 f4
                go_wp2_with fail
                refine (HLV.out _ (belowThen HB4.out b5)).mono ?_
                rintro e w6 ⟨rfl, b6⟩
                go_wp2
                go_ret
                exact ⟨rfl, belowThen HBW.out (belowThen HB4.out (belowThen b5 b6))⟩
              rw [hok] at HV4
              have HFI' := Lib.hid (HFI.out hok)
              have HRW' := Lib.hid (HRW.out hok)
              clear hok HFI HRW
              cases hoq : Q.okB
              · obtain ⟨f0, f1, f2, f3, f4⟩ := HK.out w4 HB4.out
                go_wp2_with fail
                refine HV4.out.mono ?_
                rintro e w5 ⟨rfl, b5⟩
                have HQ5 := Lib.hid (And.intro (HQ4.out.1.below b5) (HQ4.out.2.below b5))
                have HV5 := Lib.hid (HVQ.out w5 _ HQ5.out.2)
                rw [hoq] at HV5
                have HB5 := Lib.hid (belowThen HB4.out b5)
                clear f0 f1 f2 f3 f4 hoq
                obtain ⟨u0, u1, u2, u3, u4⟩ := HQ5.out.1.facts
                simp only at u0 u1 u2 u3 u4
                go_wp2_with fail
                refine HV5.out.mono ?_
                rintro e w6 ⟨rfl, b6⟩
                clear u0 u1 u2 u3 u4
                go_wp2_with fail
                refine (HLV.out _ (belowThen HB5.out b6)).mono ?_
                rintro e w7 ⟨rfl, b7⟩
                go_wp2
                go_ret
                exact ⟨rfl, belowThen HBW.out (belowThen HB5.out (belowThen b6 b7))⟩
              have HFQ' := Lib.hid (HFQ.out hoq)
              have HRQ' := Lib.hid (HRQ.out hoq)
              clear HFQ HRQ
              obtain ⟨f0, f1, f2, f3, f4⟩ := HK.out w4 HB4.out
              go_wp2_with fail
              refine HV4.out.mono ?_
              rintro e w5 ⟨rfl, b5⟩
              have HQ5 := Lib.hid (And.intro (HQ4.out.1.below b5) (HQ4.out.2.below b5))
              have HV5 := Lib.hid (HVQ.out w5 _ HQ5.out.2)
              rw [hoq] at HV5
              have HB5 := Lib.hid (belowThen HB4.out b5)
              clear f0 f1 f2 f3 f4 hoq b5
              obtain ⟨u0, u1, u2, u3, u4⟩ := HQ5.out.1.facts
              simp only at u0 u1 u2 u3 u4
              go_wp2_with fail
              refine HV5.out.mono ?_
              rintro e w6 ⟨rfl, b6⟩
              clear u0 u1 u2 u3 u4
              have HQ6 := Lib.hid (And.intro (HQ5.out.1.below b6) (HQ5.out.2.below b6))
              have HB6 := Lib.hid (belowThen HB5.out b6)
              have HF6 := Lib.hid (HFI'.out w6 HB6.out)
              clear b6
              obtain ⟨f0, f1, f2, f3, f4⟩ := HK.out w6 HB6.out
              go_wp2_with fail
              refine HF6.out.mono ?_
              rintro e w7 ⟨v7, rfl, o7, b7⟩
              obtain ⟨A7, c7, rfl, r7⟩ := o7.rd
              have HR7 := Lib.hid r7
              have HQ7 := Lib.hid (And.intro (HQ6.out.1.below b7) (HQ6.out.2.below b7))
              have HB7 := Lib.hid (belowThen HB6.out b7)
              have HF7 := Lib.hid (HFQ'.out w7 _ HQ7.out.2 HB7.out)
              clear f0 f1 f2 f3 f4 o7 r7 b7
              obtain ⟨u0, u1, u2, u3, u4⟩ := HQ7.out.1.facts
              simp only at u0 u1 u2 u3 u4
              go_wp2_with fail
              refine HF7.out.mono ?_
              rintro e w8 ⟨v8, rfl, o8, b8⟩
              obtain ⟨A8, c8, rfl, r8⟩ := o8.rd
              have HR8 := Lib.hid r8
              have HR7' := Lib.hid (HR7.out.below stabSn b8)
              have HQ8 := Lib.hid (And.intro (HQ7.out.1.below b8) (HQ7.out.2.below b8))
              have HB8 := Lib.hid (belowThen HB7.out b8)
              have HW8 := Lib.hid (HRW'.out w8 HB8.out)
              clear u0 u1 u2 u3 u4 o8 r8 b8 HR7
              obtain ⟨f0, f1, f2, f3, f4⟩ := HK.out w8 HB8.out
              go_wp2_with fail
              refine HW8.out.mono ?_
              rintro e w9 ⟨a9, rfl, p9, b9⟩
              obtain ⟨w10, hw10⟩ : ∃ w10, w9.alloc (.cells a9.fs 54) = w10 := ⟨_, rfl⟩
              have hb10 : Below w9.heap.size w9 w10 := by rw [← hw10]; exact belowAlloc _ _
              have hb := belowThen b9 hb10
              have HP10 : Hid (PBox w10 w9.heap.size a9 ∧ PgW w10 a9 (rwP p p.spins)) := Lib.hid ⟨by rw [← hw10]; exact Blk.new _ _ _, p9.below hb10⟩
              have HR7b := Lib.hid (HR7'.out.below stabSn hb)
              have HR8b := Lib.hid (HR8.out.below stabSn hb)
              have HQ10 := Lib.hid (And.intro (HQ8.out.1.below hb) (HQ8.out.2.below hb))
              have HB10 := Lib.hid (belowThen HB8.out hb)
              have HW10 := Lib.hid (HRQ'.out w10 _ HQ10.out.2 HB10.out)
              have HWa := Lib.hid hw10
              clear f0 f1 f2 f3 f4 hw10 hb10 hb p9 b9 HR7' HR8
              obtain ⟨E1, l1, g1, E2, l2, g2, E3, l3, g3, E4, l4, g4, E5, l5, g5⟩ := a9
              simp only [PgA.fs] at HWa
              dsimp only
              obtain ⟨u0, u1, u2, u3, u4⟩ := HQ10.out.1.facts
              simp only at u0 u1 u2 u3 u4
              go_upto_region 10 with fail
              rw [HWa.out]
              go_wp2_with fail
              refine HW10.out.mono ?_
              rintro e w11 ⟨a11, rfl, p11, b11⟩
              obtain ⟨w12, hw12⟩ : ∃ w12, w11.alloc (.cells a11.fs 54) = w12 := ⟨_, rfl⟩
              have hb12 : Below w11.heap.size w11 w12 := by rw [← hw12]; exact belowAlloc _ _
              have hb := belowThen b11 hb12
              have HNE : Hid (w9.heap.size ≠ w11.heap.size) := Lib.hid (by have h1 := b11.size; rw [← HWa.out, World.size_alloc] at h1; omega)
              have HLO : Hid (W.heap.size ≤ w11.heap.size) := Lib.hid (Nat.le_trans HB10.out.size b11.size)
              have HQ12 : Hid (PBox w12 w11.heap.size a11 ∧ PgW w12 a11 (rwP Q Q.spins)) := Lib.hid ⟨by rw [← hw12]; exact Blk.new _ _ _, p11.below hb12⟩
              have HP12 := Lib.hid (And.intro (HP10.out.1.below hb) (HP10.out.2.below hb))
              have HR7c := Lib.hid (HR7b.out.below stabSn hb)
              have HR8c := Lib.hid (HR8b.out.below stabSn hb)
              have HB12 := Lib.hid (belowThen HB10.out hb)
              have HWb := Lib.hid hw12
              clear u0 u1 u2 u3 u4 hw12 hb12 hb p11 b11 HR7b HR8b HP10
              obtain ⟨G1, i1, j1, G2, i2, j2, G3, i3, j3, G4, i4, j4, G5, i5, j5⟩ := a11
              simp only [PgA.fs] at HWb
              dsimp only
              have hi4 : i4 = k4 + 1 := by have h1 := HQ12.out.2.l4; rw [rwPLen, HQL.out] at h1; exact h1.symm
              obtain ⟨kq, hkq⟩ : ∃ kq, k4 + 1 = kq := ⟨_, rfl⟩
              rw [hkq] at hi4
              subst hi4
              have hwr : IntKind.i64.wrap ((k4 : Int) + 1) = (i4 : Int) := by rw [IntKind.wrap_i64]; omega
              have HKQ := Lib.hid hkq
              clear hkq
              obtain ⟨n, hn⟩ : ∃ n, p.spins.length = n := ⟨_, rfl⟩
              obtain ⟨m, hm⟩ : ∃ m, Q.spins.length = m := ⟨_, rfl⟩
              have hnm := HGE.out
              rw [hn, hm] at hnm
              rw [hn, hm]
              have hn0 : ¬ (m < n) := by omega
              have hc8 := HR8c.out.le
              have hc8m := HR8c.out.max
              rw [hm] at hc8
              unfold maxLen at hc8m
              obtain ⟨f0, f1, f2, f3, f4⟩ := HK.out w12 HB12.out
              obtain ⟨u0, u1, u2, u3, u4⟩ := HQ12.out.1.facts
              simp only at u0 u1 u2 u3 u4
              go_upto_region 11 with fail
              rw [HWb.out]
              go_wp2_with fail
              refine ((rSame14 p.spins (Q.spins.take n) n n hn (by rw [List.length_take]; omega) A7 A8 c7 c8 w12 HR7c.out (rdTake HR8c.out n))).mono ?_
              rw [show Q.spins.take n = p.spins by rw [← hn]; exact HTK.out, decide_eq_true (rfl : p.spins = p.spins)]
              rintro e w13 ⟨rfl, b13⟩
              have HB13 := Lib.hid (belowThen HB12.out b13)
              have HR := Lib.hid (HR8c.out.below stabSn b13)
              have HQ13 := Lib.hid (And.intro (HQ12.out.1.below b13) (HQ12.out.2.below b13))
              have HP13 := Lib.hid (And.intro (HP12.out.1.below b13) (HP12.out.2.below b13))
              clear f0 f1 f2 f3 f4 u0 u1 u2 u3 u4 b13 HR7c HR8c HQ12 HP12
              obtain ⟨f0, f1, f2, f3, f4⟩ := HK.out w13 HB13.out
              obtain ⟨u0, u1, u2, u3, u4⟩ := HQ13.out.1.facts
              simp only at u0 u1 u2 u3 u4
              have HM := Lib.hid hm
              have HN := Lib.hid hn
              have hkj : k4 ≤ j4 := by have h1 := HQ13.out.2.funcs.le; have h2 := HQ13.out.2.l4; have h3 := HKQ.out; simp only at h1 h2; omega
              have hj4 : j4 ≤ 2 ^ 63 - 1 := by have h1 := HQ13.out.2.funcs.max; simp only at h1; unfold maxLen at h1; exact h1
              obtain ⟨gd, hgd⟩ : ∃ gd, n + gd = m := ⟨m - n, by omega⟩
              have hm0 : (m : Int) ≤ 2000 := by have h1 := HSL.out; rw [hm] at h1; omega
              clear hm hn
              go_wp2_with fail
              go_loopg [14] gd (fun g i wr => ∃ k : Nat, n ≤ k ∧ k + g = m ∧ i = .int .i64 k ∧ Below w13.heap.size w13 wr)
              case atStart => exact ⟨n, Nat.le_refl _, hgd, rfl, Below.refl _ _⟩
              case round =>
                obtain ⟨k, hnk, hk, rfl, hb⟩ := hrel
                have HB := Lib.hid hb
                cases gk with
                | succ go =>
                  have hkm : k < Q.spins.length := by rw [HM.out]; omega
                  obtain ⟨bs, os, hAs, _, hx⟩ := (HR.out.below stabSn hb).at_ (by omega)
                  have z0 := (hx k hkm).c0
                  rw [HAT.out k (by rw [HN.out]; exact hnk) hkm] at z0
                  subst hAs
                  have hi0 : (0 : Int) ≤ k := by omega
                  have hi1 : (k : Int) < m := by omega
                  obtain ⟨f0, f1, f2, f3, f4⟩ := HK.out wr (belowThen HB13.out hb)
                  have d3 : (k4 != k4) = false := by simp
                  have d4 : ((k4 : Int) != (k4 : Int)) = false := by simp
                  have HBN : Hid (∀ q, Below w13.heap.size w13 (wr.drewN q)) := Lib.hid fun q => belowDrewN HB.out q
                  clear hb hx hkm
                  go_wp2_with fail
                  go_quiet (fail)
                  go_wp2
                  go_roundg go
                  case measure => omega
                  case rel => exact ⟨k + 1, by omega, by omega, by go_num, HBN.out _⟩
                | zero =>
                  have hkm : k = m := by omega
                  subst hkm
                  have hjz : ¬ ((k : Int) < (k : Int)) := by omega
                  obtain ⟨f0, f1, f2, f3, f4⟩ := HK.out wr (belowThen HB13.out hb)
                  have HQr := Lib.hid (And.intro (HQ13.out.1.below hb) (HQ13.out.2.below hb))
                  have HPr := Lib.hid (And.intro (HP13.out.1.below hb) (HP13.out.2.below hb))
                  obtain ⟨u0, u1, u2, u3, u4⟩ := HQr.out.1.facts
                  have hz3 := HQr.out.1.frozen 3
                  simp only at u0 u1 u2 u3 u4
                  obtain ⟨w14, hw14⟩ : ∃ w14, wr.setCell ⟨w11.heap.size, 3, none⟩ (.slice G4 k4 j4) = w14 := ⟨_, rfl⟩
                  have hbut : But w11.heap.size wr w14 := by rw [← hw14]; exact but1 wr w11.heap.size 3 _
                  have hb14 : Below W.heap.size W w14 := by rw [← hw14]; exact (belowThen HB13.out hb).setCell HLO.out _
                  have hx1 : PBox w14 w9.heap.size ⟨E1, l1, g1, E2, l2, g2, E3, l3, g3, E4, l4, g4, E5, l5, g5⟩ := (hbut.block _ HPr.out.1.lt HNE.out).trans HPr.out.1
                  have hx2 : PBox w14 w11.heap.size ⟨G1, i1, j1, G2, i2, j2, G3, i3, j3, G4, k4, j4, G5, i5, j5⟩ := by rw [← hw14]; exact HQr.out.1.set 3 _
                  have hx3 := HPr.out.2.but (onlySl HQr.out.1) hbut
                  have hx4 := HCUT.out _ _ (HQr.out.2.but (onlySl HQr.out.1) hbut)
                  have HE := Lib.hid (rEqual w14 hx3 hx4)
                  rw [eqPSelf] at HE
                  simp only [PgA.val, PgA.fs] at HE
                  have HW14 := Lib.hid hw14
                  have HB14 := Lib.hid hb14
                  clear hw14 hbut hx3 hx4 hb14 hb
                  go_upto_region 19 with fail
                  rw [HW14.out]
                  clear f0 f1 f2 f3 f4 u0 u1 u2 u3 u4
                  obtain ⟨f0, f1, f2, f3, f4⟩ := hx1.facts
                  obtain ⟨u0, u1, u2, u3, u4⟩ := hx2.facts
                  simp only at f0 f1 f2 f3 f4 u0 u1 u2 u3 u4
                  go_wp2_with fail
                  refine HE.out.mono ?_
                  rintro e w15 ⟨rfl, b15⟩
                  have HB15 := Lib.hid (belowThen HB14.out b15)
                  clear f0 f1 f2 f3 f4 u0 u1 u2 u3 u4 b15
                  go_wp2_with fail
                  refine (HLV.out _ HB15.out).mono ?_
                  rintro e w16 ⟨rfl, b16⟩
                  go_wp2
                  go_ret
                  exact ⟨rfl, belowThen HBW.out (belowThen HB15.out b16)⟩
    · obtain ⟨vb, Xb, hrun, B', d', rfl, r1, r2, r3⟩ := HAP.out Xa bXa _ _
      have bXb := belowThen bXa r3
      replace r2 := r2.mono (bXa).size
      refine Lib.wp_append_run _ (.tmp 34) (.tmp 35) 22 22 rfl _ _ rfl rfl _ _ hrun ?_
      refine hK.out _ _ (HKS.out _ (belowThen HLb.out bXb)) (fun hHeld => ?_)
      clear hK K
      (try simp only [Act.put, List.setIfInBounds_toArray, List.set_cons_zero, List.set_cons_succ])
      refine wpAnyH_take (i := 5) (oi := ⟨some 37, _, _, _, _, _⟩) (v := ?v5_7) rfl (by kernel_rfl) (by kernel_rfl) (by kernel_rfl) (fun _ _ _ h => h) (Or.inl ⟨by rfl, ?h5_7⟩) (by assumption) ?r5_7
      case h5_7 => (intro w hSw; (try dsimp only at hSw); go_simp; try with_reducible rfl)
      (try simp only [Act.put, List.setIfInBounds_toArray, List.set_cons_zero, List.set_cons_succ])
      refine wpAnyH_ready (rs := [1, 6]) (by kernel_rfl) (by simp) ?_
      refine AllReadyH.cons (o := ⟨some 33, _, _, _, _, _⟩) rfl (fun K hK => ?_) (AllReadyH.cons (o := ⟨some 38, _, _, _, _, _⟩) rfl (fun K hK => ?_) (AllReadyH.nil))
      · have q3 := HG3.out _ bXb
        go_simp
        refine hK.out _ _ (HKS.out _ (belowThen HLb.out bXb)) (fun hHeld => ?_)
        clear hK K
        clear q3
        (try simp only [Act.put, List.setIfInBounds_toArray, List.set_cons_zero, List.set_cons_succ])
        refine wpAnyH_ready (rs := [6]) (by kernel_rfl) (by simp) ?_
        refine AllReadyH.cons (o := ⟨some 38, _, _, _, _, _⟩) rfl (fun K hK => ?_) (AllReadyH.nil)
        · obtain ⟨Xc, hXc⟩ : ∃ Xc, World.alloc Xb (.cells #[.string ⟨#[122, 122, 57]⟩, .slice B' mc d'] 24) = Xc := ⟨_, rfl⟩
          have sXc : Below (World.heap Xb).size Xb Xc := by rw [← hXc]; exact belowAlloc _ _
          have bXc := belowThen bXb sXc
          have gXc : Blk Xc (World.heap Xb).size 24 #[.string ⟨#[122, 122, 57]⟩, .slice B' mc d'] := by rw [← hXc]; exact Blk.new _ _ _
          go_simp
          try rw [hXc]
          refine hK.out _ _ (HKS.out _ (belowThen HLb.out bXc)) (fun hHeld => ?_)
          clear hK K
          clear hXc
          (try simp only [Act.put, List.setIfInBounds_toArray, List.set_cons_zero, List.set_cons_succ])
          refine wpAnyH_ready (rs := [7]) (by kernel_rfl) (by simp) ?_
          refine AllReadyH.cons (o := ⟨some 39, _, _, _, _, _⟩) rfl (fun K hK => ?_) (AllReadyH.nil)
          · obtain ⟨v2, X2, hrun2, hown2, hgr2, _, _⟩ := HOW.out Xc bXc _ _ B' mc d' gXc _
            obtain ⟨A4n, c4n, rfl⟩ := ownSl hown2
            obtain ⟨hb2, hG2⟩ := HMID.out Xc X2 bXc hgr2
            have hn := HST.out Xc X2 bXc B' d' (r1.below stabI sXc) (r2.below sXc) A4n c4n hown2 hgr2
            have hx3 := hG2.cell 3
            have hz3 := hG2.frozen 3
            try simp only [PgA.fs] at hx3
            refine Lib.wp_append_run _ (.tmp 33) (.tmp 38) 51 51 rfl _ _ rfl rfl _ _ hrun2 ?_
            refine hK.out _ _ (HKS.out _ hb2) (fun hHeld => ?_)
            clear hK K
            (try simp only [Act.put, List.setIfInBounds_toArray, List.set_cons_zero, List.set_cons_succ])
            refine wpAnyH_take (i := 8) (oi := ⟨some 40, _, _, _, _, _⟩) (v := ?v8_8) rfl (by kernel_rfl) (by kernel_rfl) (by kernel_rfl) (fun _ _ _ h => h) (Or.inl ⟨by rfl, ?h8_8⟩) (by assumption) ?r8_8
            case h8_8 => (intro w hSw; (try dsimp only at hSw); go_simp; try with_reducible rfl)
            (try simp only [Act.put, List.setIfInBounds_toArray, List.set_cons_zero, List.set_cons_succ])
            refine wpAnyH_ready (rs := [9]) (by kernel_rfl) (by simp) ?_
            refine AllReadyH.cons (o := ⟨none, _, _, _, _, _⟩) rfl (fun K hK => ?_) (AllReadyH.nil)
            · go_simp
              refine hK.out _ _ (HKS.out _ (hb2.setCell Hlo.out _)) (fun hHeld => ?_)
              clear hK K
              (try simp only [Act.put, List.setIfInBounds_toArray, List.set_cons_zero, List.set_cons_succ])
              refine wpAnyH_done (by kernel_rfl) ?_ _
              have HN := Lib.hid hn
              obtain ⟨w4, hw4⟩ : ∃ w4, X2.setCell ⟨w2.heap.size, 3, none⟩ (.slice A4n (k4 + 1) c4n) = w4 := ⟨_, rfl⟩
              rw [hw4] at HN
              try rw [hw4]
              clear hHeld hx3 hz3 hG2 hb2 hown2 hgr2 hrun2 hrun r1 r2 r3 gXc hn hw4 bXa bXb bXc sXc hS0 bdw HOW HMID HST HAP HG3 HKS
              have hcl := HN.out.done HQL.out
              have HB4 := Lib.hid (belowThen HB1.out HN.out.below)
              have HQ4 := Lib.hid (And.intro HN.out.box hcl.pg)
              have HV4 := Lib.hid (HVA.out w4 HB4.out)
              clear hcl HN HVA Hlo HLb
              cases hok : p.okB
              · rw [hok] at HV4
                clear hok
                obtain ⟨f0, f1, f2, f3, f4⟩ := HK.out w4 HB4.out
                go_wp2_with fail
                refine HV4.out.mono ?_
                rintro e w5 ⟨rfl, b5⟩
                clear f0 f1 f2 f3 f4
                go_wp2_with fail
                refine (HLV.out _ (belowThen HB4.out b5)).mono ?_
                rintro e w6 ⟨rfl, b6⟩
                go_wp2
                go_ret
                exact ⟨rfl, belowThen HBW.out (belowThen HB4.out (belowThen b5 b6))⟩
              rw [hok] at HV4
              have HFI' := Lib.hid (HFI.out hok)
              have HRW' := Lib.hid (HRW.out hok)
              clear hok HFI HRW
              cases hoq : Q.okB
              · obtain ⟨f0, f1, f2, f3, f4⟩ := HK.out w4 HB4.out
                go_wp2_with fail
                refine HV4.out.mono ?_
                rintro e w5 ⟨rfl, b5⟩
                have HQ5 := Lib.hid (And.intro (HQ4.out.1.below b5) (HQ4.out.2.below b5))
                have HV5 := Lib.hid (HVQ.out w5 _ HQ5.out.2)
                rw [hoq] at HV5
                have HB5 := Lib.hid (belowThen HB4.out b5)
                clear f0 f1 f2 f3 f4 hoq
                obtain ⟨u0, u1, u2, u3, u4⟩ := HQ5.out.1.facts
                simp only at u0 u1 u2 u3 u4
                go_wp2_with fail
                refine HV5.out.mono ?_
                rintro e w6 ⟨rfl, b6⟩
                clear u0 u1 u2 u3 u4
                go_wp2_with fail
                refine (HLV.out _ (belowThen HB5.out b6)).mono ?_
                rintro e w7 ⟨rfl, b7⟩
                go_wp2
                go_ret
                exact ⟨rfl, belowThen HBW.out (belowThen HB5.out (belowThen b6 b7))⟩
              have HFQ' := Lib.hid (HFQ.out hoq)
              have HRQ' := Lib.hid (HRQ.out hoq)
              clear HFQ HRQ
              obtain ⟨f0, f1, f2, f3, f4⟩ := HK.out w4 HB4.out
              go_wp2_with fail
              refine HV4.out.mono ?_
              rintro e w5 ⟨rfl, b5⟩
              have HQ5 := Lib.hid (And.intro (HQ4.out.1.below b5) (HQ4.out.2.below b5))
              have HV5 := Lib.hid (HVQ.out w5 _ HQ5.out.2)
              rw [hoq] at HV5
              have HB5 := Lib.hid (belowThen HB4.out b5)
              clear f0 f1 f2 f3 f4 hoq b5
              obtain ⟨u0, u1, u2, u3, u4⟩ := HQ5.out.1.facts
              simp only at u0 u1 u2 u3 u4
              go_wp2_with fail
              refine HV5.out.mono ?_
              rintro e w6 ⟨rfl, b6⟩
              clear u0 u1 u2 u3 u4
              have HQ6 := Lib.hid (And.intro (HQ5.out.1.below b6) (HQ5.out.2.below b6))
              have HB6 := Lib.hid (belowThen HB5.out b6)
              have HF6 := Lib.hid (HFI'.out w6 HB6.out)
              clear b6
              obtain ⟨f0, f1, f2, f3, f4⟩ := HK.out w6 HB6.out
              go_wp2_with fail
              refine HF6.out.mono ?_
              rintro e w7 ⟨v7, rfl, o7, b7⟩
              obtain ⟨A7, c7, rfl, r7⟩ := o7.rd
              have HR7 := Lib.hid r7
              have HQ7 := Lib.hid (And.intro (HQ6.out.1.below b7) (HQ6.out.2.below b7))
              have HB7 := Lib.hid (belowThen HB6.out b7)
              have HF7 := Lib.hid (HFQ'.out w7 _ HQ7.out.2 HB7.out)
              clear f0 f1 f2 f3 f4 o7 r7 b7
              obtain ⟨u0, u1, u2, u3, u4⟩ := HQ7.out.1.facts
              simp only at u0 u1 u2 u3 u4
              go_wp2_with fail
              refine HF7.out.mono ?_
              rintro e w8 ⟨v8, rfl, o8, b8⟩
              obtain ⟨A8, c8, rfl, r8⟩ := o8.rd
              have HR8 := Lib.hid r8
              have HR7' := Lib.hid (HR7.out.below stabSn b8)
              have HQ8 := Lib.hid (And.intro (HQ7.out.1.below b8) (HQ7.out.2.below b8))
              have HB8 := Lib.hid (belowThen HB7.out b8)
              have HW8 := Lib.hid (HRW'.out w8 HB8.out)
              clear u0 u1 u2 u3 u4 o8 r8 b8 HR7
              obtain ⟨f0, f1, f2, f3, f4⟩ := HK.out w8 HB8.out
              go_wp2_with fail
              refine HW8.out.mono ?_
              rintro e w9 ⟨a9, rfl, p9, b9⟩
              obtain ⟨w10, hw10⟩ : ∃ w10, w9.alloc (.cells a9.fs 54) = w10 := ⟨_, rfl⟩
              have hb10 : Below w9.heap.size w9 w10 := by rw [← hw10]; exact belowAlloc _ _
              have hb := belowThen b9 hb10
              have HP10 : Hid (PBox w10 w9.heap.size a9 ∧ PgW w10 a9 (rwP p p.spins)) := Lib.hid ⟨by rw [← hw10]; exact Blk.new _ _ _, p9.below hb10⟩
              have HR7b := Lib.hid (HR7'.out.below stabSn hb)
              have HR8b := Lib.hid (HR8.out.below stabSn hb)
              have HQ10 := Lib.hid (And.intro (HQ8.out.1.below hb) (HQ8.out.2.below hb))
              have HB10 := Lib.hid (belowThen HB8.out hb)
              have HW10 := Lib.hid (HRQ'.out w10 _ HQ10.out.2 HB10.out)
              have HWa := Lib.hid hw10
              clear f0 f1 f2 f3 f4 hw10 hb10 hb p9 b9 HR7' HR8
              obtain ⟨E1, l1, g1, E2, l2, g2, E3, l3, g3, E4, l4, g4, E5, l5, g5⟩ := a9
              simp only [PgA.fs] at HWa
              dsimp only
              obtain ⟨u0, u1, u2, u3, u4⟩ := HQ10.out.1.facts
              simp only at u0 u1 u2 u3 u4
              go_upto_region 10 with fail
              rw [HWa.out]
              go_wp2_with fail
              refine HW10.out.mono ?_
              rintro e w11 ⟨a11, rfl, p11, b11⟩
              obtain ⟨w12, hw12⟩ : ∃ w12, w11.alloc (.cells a11.fs 54) = w12 := ⟨_, rfl⟩
              have hb12 : Below w11.heap.size w11 w12 := by rw [← hw12]; exact belowAlloc _ _
              have hb := belowThen b11 hb12
              have HNE : Hid (w9.heap.size ≠ w11.heap.size) := Lib.hid (by have h1 := b11.size; rw [← HWa.out, World.size_alloc] at h1; omega)
              have HLO : Hid (W.heap.size ≤ w11.heap.size) := Lib.hid (Nat.le_trans HB10.out.size b11.size)
              have HQ12 : Hid (PBox w12 w11.heap.size a11 ∧ PgW w12 a11 (rwP Q Q.spins)) := Lib.hid ⟨by rw [← hw12]; exact Blk.new _ _ _, p11.below hb12⟩
              have HP12 := Lib.hid (And.intro (HP10.out.1.below hb) (HP10.out.2.below hb))
              have HR7c := Lib.hid (HR7b.out.below stabSn hb)
              have HR8c := Lib.hid (HR8b.out.below stabSn hb)
              have HB12 := Lib.hid (belowThen HB10.out hb)
              have HWb := Lib.hid hw12
              clear u0 u1 u2 u3 u4 hw12 hb12 hb p11 b11 HR7b HR8b HP10
              obtain ⟨G1, i1, j1, G2, i2, j2, G3, i3, j3, G4, i4, j4, G5, i5, j5⟩ := a11
              simp only [PgA.fs] at HWb
              dsimp only
              have hi4 : i4 = k4 + 1 := by have h1 := HQ12.out.2.l4; rw [rwPLen, HQL.out] at h1; exact h1.symm
              obtain ⟨kq, hkq⟩ : ∃ kq, k4 + 1 = kq := ⟨_, rfl⟩
              rw [hkq] at hi4
              subst hi4
              have hwr : IntKind.i64.wrap ((k4 : Int) + 1) = (i4 : Int) := by rw [IntKind.wrap_i64]; omega
              have HKQ := Lib.hid hkq
              clear hkq
              obtain ⟨n, hn⟩ : ∃ n, p.spins.length = n := ⟨_, rfl⟩
              obtain ⟨m, hm⟩ : ∃ m, Q.spins.length = m := ⟨_, rfl⟩
              have hnm := HGE.out
              rw [hn, hm] at hnm
              rw [hn, hm]
              have hn0 : ¬ (m < n) := by omega
              have hc8 := HR8c.out.le
              have hc8m := HR8c.out.max
              rw [hm] at hc8
              unfold maxLen at hc8m
              obtain ⟨f0, f1, f2, f3, f4⟩ := HK.out w12 HB12.out
              obtain ⟨u0, u1, u2, u3, u4⟩ := HQ12.out.1.facts
              simp only at u0 u1 u2 u3 u4
              go_upto_region 11 with fail
              rw [HWb.out]
              go_wp2_with fail
              refine ((rSame14 p.spins (Q.spins.take n) n n hn (by rw [List.length_take]; omega) A7 A8 c7 c8 w12 HR7c.out (rdTake HR8c.out n))).mono ?_
              rw [show Q.spins.take n = p.spins by rw [← hn]; exact HTK.out, decide_eq_true (rfl : p.spins = p.spins)]
              rintro e w13 ⟨rfl, b13⟩
              have HB13 := Lib.hid (belowThen HB12.out b13)
              have HR := Lib.hid (HR8c.out.below stabSn b13)
              have HQ13 := Lib.hid (And.intro (HQ12.out.1.below b13) (HQ12.out.2.below b13))
              have HP13 := Lib.hid (And.intro (HP12.out.1.below b13) (HP12.out.2.below b13))
              clear f0 f1 f2 f3 f4 u0 u1 u2 u3 u4 b13 HR7c HR8c HQ12 HP12
              obtain ⟨f0, f1, f2, f3, f4⟩ := HK.out w13 HB13.out
              obtain ⟨u0, u1, u2, u3, u4⟩ := HQ13.out.1.facts
              simp only at u0 u1 u2 u3 u4
              have HM := Lib.hid hm
              have HN := Lib.hid hn
              have hkj : k4 ≤ j4 := by have h1 := HQ13.out.2.funcs.le; have h2 := HQ13.out.2.l4; have h3 := HKQ.out; simp only at h1 h2; omega
              have hj4 : j4 ≤ 2 ^ 63 - 1 := by have h1 := HQ13.out.2.funcs.max; simp only at h1; unfold maxLen at h1; exact h1
              obtain ⟨gd, hgd⟩ : ∃ gd, n + gd = m := ⟨m - n, by omega⟩
              have hm0 : (m : Int) ≤ 2000 := by have h1 := HSL.out; rw [hm] at h1; omega
              clear hm hn
              go_wp2_with fail
              go_loopg [14] gd (fun g i wr => ∃ k : Nat, n ≤ k ∧ k + g = m ∧ i = .int .i64 k ∧ Below w13.heap.size w13 wr)
              case atStart => exact ⟨n, Nat.le_refl _, hgd, rfl, Below.refl _ _⟩
              case round =>
                obtain ⟨k, hnk, hk, rfl, hb⟩ := hrel
                have HB := Lib.hid hb
                cases gk with
                | succ go =>
                  have hkm : k < Q.spins.length := by rw [HM.out]; omega
                  obtain ⟨bs, os, hAs, _, hx⟩ := (HR.out.below stabSn hb).at_ (by omega)
                  have z0 := (hx k hkm).c0
                  rw [HAT.out k (by rw [HN.out]; exact hnk) hkm] at z0
                  subst hAs
                  have hi0 : (0 : Int) ≤ k := by omega
                  have hi1 : (k : Int) < m := by omega
                  obtain ⟨f0, f1, f2, f3, f4⟩ := HK.out wr (belowThen HB13.out hb)
                  have d3 : (k4 != k4) = false := by simp
                  have d4 : ((k4 : Int) != (k4 : Int)) = false := by simp
                  have HBN : Hid (∀ q, Below w13.heap.size w13 (wr.drewN q)) := Lib.hid fun q => belowDrewN HB.out q
                  clear hb hx hkm
                  go_wp2_with fail
                  go_quiet (fail)
                  go_wp2
                  go_roundg go
                  case measure => omega
                  case rel => exact ⟨k + 1, by omega, by omega, by go_num, HBN.out _⟩
                | zero =>
                  have hkm : k = m := by omega
                  subst hkm
                  have hjz : ¬ ((k : Int) < (k : Int)) := by omega
                  obtain ⟨f0, f1, f2, f3, f4⟩ := HK.out wr (belowThen HB13.out hb)
                  have HQr := Lib.hid (And.intro (HQ13.out.1.below hb) (HQ13.out.2.below hb))
                  have HPr := Lib.hid (And.intro (HP13.out.1.below hb) (HP13.out.2.below hb))
                  obtain ⟨u0, u1, u2, u3, u4⟩ := HQr.out.1.facts
                  have hz3 := HQr.out.1.frozen 3
                  simp only at u0 u1 u2 u3 u4
                  obtain ⟨w14, hw14⟩ : ∃ w14, wr.setCell ⟨w11.heap.size, 3, none⟩ (.slice G4 k4 j4) = w14 := ⟨_, rfl⟩
                  have hbut : But w11.heap.size wr w14 := by rw [← hw14]; exact but1 wr w11.heap.size 3 _
                  have hb14 : Below W.heap.size W w14 := by rw [← hw14]; exact (belowThen HB13.out hb).setCell HLO.out _
                  have hx1 : PBox w14 w9.heap.size ⟨E1, l1, g1, E2, l2, g2, E3, l3, g3, E4, l4, g4, E5, l5, g5⟩ := (hbut.block _ HPr.out.1.lt HNE.out).trans HPr.out.1
                  have hx2 : PBox w14 w11.heap.size ⟨G1, i1, j1, G2, i2, j2, G3, i3, j3, G4, k4, j4, G5, i5, j5⟩ := by rw [← hw14]; exact HQr.out.1.set 3 _
                  have hx3 := HPr.out.2.but (onlySl HQr.out.1) hbut
                  have hx4 := HCUT.out _ _ (HQr.out.2.but (onlySl HQr.out.1) hbut)
                  have HE := Lib.hid (rEqual w14 hx3 hx4)
                  rw [eqPSelf] at HE
                  simp only [PgA.val, PgA.fs] at HE
                  have HW14 := Lib.hid hw14
                  have HB14 := Lib.hid hb14
                  clear hw14 hbut hx3 hx4 hb14 hb
                  go_upto_region 19 with fail
                  rw [HW14.out]
                  clear f0 f1 f2 f3 f4 u0 u1 u2 u3 u4
                  obtain ⟨f0, f1, f2, f3, f4⟩ := hx1.facts
                  obtain ⟨u0, u1, u2, u3, u4⟩ := hx2.facts
                  simp only at f0 f1 f2 f3 f4 u0 u1 u2 u3 u4
                  go_wp2_with fail
                  refine HE.out.mono ?_
                  rintro e w15 ⟨rfl, b15⟩
                  have HB15 := Lib.hid (belowThen HB14.out b15)
                  clear f0 f1 f2 f3 f4 u0 u1 u2 u3 u4 b15
                  go_wp2_with fail
                  refine (HLV.out _ HB15.out).mono ?_
                  rintro e w16 ⟨rfl, b16⟩
                  go_wp2
                  go_ret
                  exact ⟨rfl, belowThen HBW.out (belowThen HB15.out b16)⟩
      · obtain ⟨Xc, hXc⟩ : ∃ Xc, World.alloc Xb (.cells #[.string ⟨#[122, 122, 57]⟩, .slice B' mc d'] 24) = Xc := ⟨_, rfl⟩
        have sXc : Below (World.heap Xb).size Xb Xc := by rw [← hXc]; exact belowAlloc _ _
        have bXc := belowThen bXb sXc
        have gXc : Blk Xc (World.heap Xb).size 24 #[.string ⟨#[122, 122, 57]⟩, .slice B' mc d'] := by rw [← hXc]; exact Blk.new _ _ _
        go_simp
        try rw [hXc]
        refine hK.out _ _ (HKS.out _ (belowThen HLb.out bXc)) (fun hHeld => ?_)
        clear hK K
        clear hXc
        (try simp only [Act.put, List.setIfInBounds_toArray, List.set_cons_zero, List.set_cons_succ])
        refine wpAnyH_ready (rs := [1]) (by kernel_rfl) (by simp) ?_
        refine AllReadyH.cons (o := ⟨some 33, _, _, _, _, _⟩) rfl (fun K hK => ?_) (AllReadyH.nil)
        · have q3 := HG3.out _ bXc
          go_simp
          refine hK.out _ _ (HKS.out _ (belowThen HLb.out bXc)) (fun hHeld => ?_)
          clear hK K
          clear q3
          (try simp only [Act.put, List.setIfInBounds_toArray, List.set_cons_zero, List.set_cons_succ])
          refine wpAnyH_ready (rs := [7]) (by kernel_rfl) (by simp) ?_
          refine AllReadyH.cons (o := ⟨some 39, _, _, _, _, _⟩) rfl (fun K hK => ?_) (AllReadyH.nil)
          · obtain ⟨v2, X2, hrun2, hown2, hgr2, _, _⟩ := HOW.out Xc bXc _ _ B' mc d' gXc _
            obtain ⟨A4n, c4n, rfl⟩ := ownSl hown2
            obtain ⟨hb2, hG2⟩ := HMID.out Xc X2 bXc hgr2
            have hn := HST.out Xc X2 bXc B' d' (r1.below stabI sXc) (r2.below sXc) A4n c4n hown2 hgr2
            have hx3 := hG2.cell 3
            have hz3 := hG2.frozen 3
            try simp only [PgA.fs] at hx3
            refine Lib.wp_append_run _ (.tmp 33) (.tmp 38) 51 51 rfl _ _ rfl rfl _ _ hrun2 ?_
            refine hK.out _ _ (HKS.out _ hb2) (fun hHeld => ?_)
            clear hK K
            (try simp only [Act.put, List.setIfInBounds_toArray, List.set_cons_zero, List.set_cons_succ])
            refine wpAnyH_take (i := 8) (oi := ⟨some 40, _, _, _, _, _⟩) (v := ?v8_9) rfl (by kernel_rfl) (by kernel_rfl) (by kernel_rfl) (fun _ _ _ h => h) (Or.inl ⟨by rfl, ?h8_9⟩) (by assumption) ?r8_9
            case h8_9 => (intro w hSw; (try dsimp only at hSw); go_simp; try with_reducible rfl)
            (try simp only [Act.put, List.setIfInBounds_toArray, List.set_cons_zero, List.set_cons_succ])
            refine wpAnyH_ready (rs := [9]) (by kernel_rfl) (by simp) ?_
            refine AllReadyH.cons (o := ⟨none, _, _, _, _, _⟩) rfl (fun K hK => ?_) (AllReadyH.nil)
            · go_simp
              refine hK.out _ _ (HKS.out _ (hb2.setCell Hlo.out _)) (fun hHeld => ?_)
              clear hK K
              (try simp only [Act.put, List.setIfInBounds_toArray, List.set_cons_zero, List.set_cons_succ])
              refine wpAnyH_done (by kernel_rfl) ?_ _
              have HN := Lib.hid hn
              obtain ⟨w4, hw4⟩ : ∃ w4, X2.setCell ⟨w2.heap.size, 3, none⟩ (.slice A4n (k4 + 1) c4n) = w4 := ⟨_, rfl⟩
              rw [hw4] at HN
              try rw [hw4]
              clear hHeld hx3 hz3 hG2 hb2 hown2 hgr2 hrun2 hrun r1 r2 r3 gXc hn hw4 bXa bXb bXc sXc hS0 bdw HOW HMID HST HAP HG3 HKS
              have hcl := HN.out.done HQL.out
              have HB4 := Lib.hid (belowThen HB1.out HN.out.below)
              have HQ4 := Lib.hid (And.intro HN.out.box hcl.pg)
              have HV4 := Lib.hid (HVA.out w4 HB4.out)
              clear hcl HN HVA Hlo HLb
              cases hok : p.okB
              · rw [hok] at HV4
                clear hok
                obtain ⟨f0, f1, f2, f3, f4⟩ := HK.out w4 HB4.out
                go_wp2_with fail
                refine HV4.out.mono ?_
                rintro e w5 ⟨rfl, b5⟩
                clear f0 f1 f2 f3 f4
                go_wp2_with fail
                refine (HLV.out _ (belowThen HB4.out b5)).mono ?_
                rintro e w6 ⟨rfl, b6⟩
                go_wp2
                go_ret
                exact ⟨rfl, belowThen HBW.out (belowThen HB4.out (belowThen b5 b6))⟩
              rw [hok] at HV4
              have HFI' := Lib.hid (HFI.out hok)
              have HRW' := Lib.hid (HRW.out hok)
              clear hok HFI HRW
              cases hoq : Q.okB
              · obtain ⟨f0, f1, f2, f3, f4⟩ := HK.out w4 HB4.out
                go_wp2_with fail
                refine HV4.out.mono ?_
                rintro e w5 ⟨rfl, b5⟩
                have HQ5 := Lib.hid (And.intro (HQ4.out.1.below b5) (HQ4.out.2.below b5))
                have HV5 := Lib.hid (HVQ.out w5 _ HQ5.out.2)
                rw [hoq] at HV5
                have HB5 := Lib.hid (belowThen HB4.out b5)
                clear f0 f1 f2 f3 f4 hoq
                obtain ⟨u0, u1, u2, u3, u4⟩ := HQ5.out.1.facts
                simp only at u0 u1 u2 u3 u4
                go_wp2_with fail
                refine HV5.out.mono ?_
                rintro e w6 ⟨rfl, b6⟩
                clear u0 u1 u2 u3 u4
                go_wp2_with fail
                refine (HLV.out _ (belowThen HB5.out b6)).mono ?_
                rintro e w7 ⟨rfl, b7⟩
                go_wp2
                go_ret
                exact ⟨rfl, belowThen HBW.out (belowThen HB5.out (belowThen b6 b7))⟩
              have HFQ' := Lib.hid (HFQ.out hoq)
              have HRQ' := Lib.hid (HRQ.out hoq)
              clear HFQ HRQ
              obtain ⟨f0, f1, f2, f3, f4⟩ := HK.out w4 HB4.out
              go_wp2_with fail
              refine HV4.out.mono ?_
              rintro e w5 ⟨rfl, b5⟩
              have HQ5 := Lib.hid (And.intro (HQ4.out.1.below b5) (HQ4.out.2.below b5))
              have HV5 := Lib.hid (HVQ.out w5 _ HQ5.out.2)
              rw [hoq] at HV5
              have HB5 := Lib.hid (belowThen HB4.out b5)
              clear f0 f1 f2 f3 f4 hoq b5
              obtain ⟨u0, u1, u2, u3, u4⟩ := HQ5.out.1.facts
              simp only at u0 u1 u2 u3 u4
              go_wp2_with fail
              refine HV5.out.mono ?_
              rintro e w6 ⟨rfl, b6⟩
              clear u0 u1 u2 u3 u4
              have HQ6 := Lib.hid (And.intro (HQ5.out.1.below b6) (HQ5.out.2.below b6))
              have HB6 := Lib.hid (belowThen HB5.out b6)
              have HF6 := Lib.hid (HFI'.out w6 HB6.out)
              clear b6
              obtain ⟨f0, f1, f2, f3, f4⟩ := HK.out w6 HB6.out
              go_wp2_with fail
              refine HF6.out.mono ?_
              rintro e w7 ⟨v7, rfl, o7, b7⟩
              obtain ⟨A7, c7, rfl, r7⟩ := o7.rd
              have HR7 := Lib.hid r7
              have HQ7 := Lib.hid (And.intro (HQ6.out.1.below b7) (HQ6.out.2.below b7))
              have HB7 := Lib.hid (belowThen HB6.out b7)
              have HF7 := Lib.hid (HFQ'.out w7 _ HQ7.out.2 HB7.out)
              clear f0 f1 f2 f3 f4 o7 r7 b7
              obtain ⟨u0, u1, u2, u3, u4⟩ := HQ7.out.1.facts
              simp only at u0 u1 u2 u3 u4
              go_wp2_with fail
              refine HF7.out.mono ?_
              rintro e w8 ⟨v8, rfl, o8, b8⟩
              obtain ⟨A8, c8, rfl, r8⟩ := o8.rd
              have HR8 := Lib.hid r8
              have HR7' := Lib.hid (HR7.out.below stabSn b8)
              have HQ8 := Lib.hid (And.intro (HQ7.out.1.below b8) (HQ7.out.2.below b8))
              have HB8 := Lib.hid (belowThen HB7.out b8)
              have HW8 := Lib.hid (HRW'.out w8 HB8.out)
              clear u0 u1 u2 u3 u4 o8 r8 b8 HR7
              obtain ⟨f0, f1, f2, f3, f4⟩ := HK.out w8 HB8.out
              go_wp2_with fail
              refine HW8.out.mono ?_
              rintro e w9 ⟨a9, rfl, p9, b9⟩
              obtain ⟨w10, hw10⟩ : ∃ w10, w9.alloc (.cells a9.fs 54) = w10 := ⟨_, rfl⟩
              have hb10 : Below w9.heap.size w9 w10 := by rw [← hw10]; exact belowAlloc _ _
              have hb := belowThen b9 hb10
              have HP10 : Hid (PBox w10 w9.heap.size a9 ∧ PgW w10 a9 (rwP p p.spins)) := Lib.hid ⟨by rw [← hw10]; exact Blk.new _ _ _, p9.below hb10⟩
              have HR7b := Lib.hid (HR7'.out.below stabSn hb)
              have HR8b := Lib.hid (HR8.out.below stabSn hb)
              have HQ10 := Lib.hid (And.intro (HQ8.out.1.below hb) (HQ8.out.2.below hb))
              have HB10 := Lib.hid (belowThen HB8.out hb)
              have HW10 := Lib.hid (HRQ'.out w10 _ HQ10.out.2 HB10.out)
              have HWa := Lib.hid hw10
              clear f0 f1 f2 f3 f4 hw10 hb10 hb p9 b9 HR7' HR8
              obtain ⟨E1, l1, g1, E2, l2, g2, E3, l3, g3, E4, l4, g4, E5, l5, g5⟩ := a9
              simp only [PgA.fs] at HWa
              dsimp only
              obtain ⟨u0, u1, u2, u3, u4⟩ := HQ10.out.1.facts
              simp only at u0 u1 u2 u3 u4
              go_upto_region 10 with fail
              rw [HWa.out]
              go_wp2_with fail
              refine HW10.out.mono ?_
              rintro e w11 ⟨a11, rfl, p11, b11⟩
              obtain ⟨w12, hw12⟩ : ∃ w12, w11.alloc (.cells a11.fs 54) = w12 := ⟨_, rfl⟩
              have hb12 : Below w11.heap.size w11 w12 := by rw [← hw12]; exact belowAlloc _ _
              have hb := belowThen b11 hb12
              have HNE : Hid (w9.heap.size ≠ w11.heap.size) := Lib.hid (by have h1 := b11.size; rw [← HWa.out, World.size_alloc] at h1; omega)
              have HLO : Hid (W.heap.size ≤ w11.heap.size) := Lib.hid (Nat.le_trans HB10.out.size b11.size)
              have HQ12 : Hid (PBox w12 w11.heap.size a11 ∧ PgW w12 a11 (rwP Q Q.spins)) := Lib.hid ⟨by rw [← hw12]; exact Blk.new _ _ _, p11.below hb12⟩
              have HP12 := Lib.hid (And.intro (HP10.out.1.below hb) (HP10.out.2.below hb))
              have HR7c := Lib.hid (HR7b.out.below stabSn hb)
              have HR8c := Lib.hid (HR8b.out.below stabSn hb)
              have HB12 := Lib.hid (belowThen HB10.out hb)
              have HWb := Lib.hid hw12
              clear u0 u1 u2 u3 u4 hw12 hb12 hb p11 b11 HR7b HR8b HP10
              obtain ⟨G1, i1, j1, G2, i2, j2, G3, i3, j3, G4, i4, j4, G5, i5, j5⟩ := a11
              simp only [PgA.fs] at HWb
              dsimp only
              have hi4 : i4 = k4 + 1 := by have h1 := HQ12.out.2.l4; rw [rwPLen, HQL.out] at h1; exact h1.symm
              obtain ⟨kq, hkq⟩ : ∃ kq, k4 + 1 = kq := ⟨_, rfl⟩
              rw [hkq] at hi4
              subst hi4
              have hwr : IntKind.i64.wrap ((k4 : Int) + 1) = (i4 : Int) := by rw [IntKind.wrap_i64]; omega
              have HKQ := Lib.hid hkq
              clear hkq
              obtain ⟨n, hn⟩ : ∃ n, p.spins.length = n := ⟨_, rfl⟩
              obtain ⟨m, hm⟩ : ∃ m, Q.spins.length = m := ⟨_, rfl⟩
              have hnm := HGE.out
              rw [hn, hm] at hnm
              rw [hn, hm]
              have hn0 : ¬ (m < n) := by omega
              have hc8 := HR8c.out.le
              have hc8m := HR8c.out.max
              rw [hm] at hc8
              unfold maxLen at hc8m
              obtain ⟨f0, f1, f2, f3, f4⟩ := HK.out w12 HB12.out
              obtain ⟨u0, u1, u2, u3, u4⟩ := HQ12.out.1.facts
              simp only at u0 u1 u2 u3 u4
              go_upto_region 11 with fail
              rw [HWb.out]
              go_wp2_with fail
              refine ((rSame14 p.spins (Q.spins.take n) n n hn (by rw [List.length_take]; omega) A7 A8 c7 c8 w12 HR7c.out (rdTake HR8c.out n))).mono ?_
              rw [show Q.spins.take n = p.spins by rw [← hn]; exact HTK.out, decide_eq_true (rfl : p.spins = p.spins)]
              rintro e w13 ⟨rfl, b13⟩
              have HB13 := Lib.hid (belowThen HB12.out b13)
              have HR := Lib.hid (HR8c.out.below stabSn b13)
              have HQ13 := Lib.hid (And.intro (HQ12.out.1.below b13) (HQ12.out.2.below b13))
              have HP13 := Lib.hid (And.intro (HP12.out.1.below b13) (HP12.out.2.below b13))
              clear f0 f1 f2 f3 f4 u0 u1 u2 u3 u4 b13 HR7c HR8c HQ12 HP12
              obtain ⟨f0, f1, f2, f3, f4⟩ := HK.out w13 HB13.out
              obtain ⟨u0, u1, u2, u3, u4⟩ := HQ13.out.1.facts
              simp only at u0 u1 u2 u3 u4
              have HM := Lib.hid hm
              have HN := Lib.hid hn
              have hkj : k4 ≤ j4 := by have h1 := HQ13.out.2.funcs.le; have h2 := HQ13.out.2.l4; have h3 := HKQ.out; simp only at h1 h2; omega
              have hj4 : j4 ≤ 2 ^ 63 - 1 := by have h1 := HQ13.out.2.funcs.max; simp only at h1; unfold maxLen at h1; exact h1
              obtain ⟨gd, hgd⟩ : ∃ gd, n + gd = m := ⟨m - n, by omega⟩
              have hm0 : (m : Int) ≤ 2000 := by have h1 := HSL.out; rw [hm] at h1; omega
              clear hm hn
              go_wp2_with fail
              go_loopg [14] gd (fun g i wr => ∃ k : Nat, n ≤ k ∧ k + g = m ∧ i = .int .i64 k ∧ Below w13.heap.size w13 wr)
              case atStart => exact ⟨n, Nat.le_refl _, hgd, rfl, Below.refl _ _⟩
              case round =>
                obtain ⟨k, hnk, hk, rfl, hb⟩ := hrel
                have HB := Lib.hid hb
                cases gk with
                | succ go =>
                  have hkm : k < Q.spins.length := by rw [HM.out]; omega
                  obtain ⟨bs, os, hAs, _, hx⟩ := (HR.out.below stabSn hb).at_ (by omega)
                  have z0 := (hx k hkm).c0
                  rw [HAT.out k (by rw [HN.out]; exact hnk) hkm] at z0
                  subst hAs
                  have hi0 : (0 : Int) ≤ k := by omega
                  have hi1 : (k : Int) < m := by omega
                  obtain ⟨f0, f1, f2, f3, f4⟩ := HK.out wr (belowThen HB13.out hb)
                  have d3 : (k4 != k4) = false := by simp
                  have d4 : ((k4 : Int) != (k4 : Int)) = false := by simp
                  have HBN : Hid (∀ q, Below w13.heap.size w13 (wr.drewN q)) := Lib.hid fun q => belowDrewN HB.out q
                  clear hb hx hkm
                  go_wp2_with fail
                  go_quiet (fail)
                  go_wp2
                  go_roundg go
                  case measure => omega
                  case rel => exact ⟨k + 1, by omega, by omega, by go_num, HBN.out _⟩
                | zero =>
                  have hkm : k = m := by omega
                  subst hkm
                  have hjz : ¬ ((k : Int) < (k : Int)) := by omega
                  obtain ⟨f0, f1, f2, f3, f4⟩ := HK.out wr (belowThen HB13.out hb)
                  have HQr := Lib.hid (And.intro (HQ13.out.1.below hb) (HQ13.out.2.below hb))
                  have HPr := Lib.hid (And.intro (HP13.out.1.below hb) (HP13.out.2.below hb))
                  obtain ⟨u0, u1, u2, u3, u4⟩ := HQr.out.1.facts
                  have hz3 := HQr.out.1.frozen 3
                  simp only at u0 u1 u2 u3 u4
                  obtain ⟨w14, hw14⟩ : ∃ w14, wr.setCell ⟨w11.heap.size, 3, none⟩ (.slice G4 k4 j4) = w14 := ⟨_, rfl⟩
                  have hbut : But w11.heap.size wr w14 := by rw [← hw14]; exact but1 wr w11.heap.size 3 _
                  have hb14 : Below W.heap.size W w14 := by rw [← hw14]; exact (belowThen HB13.out hb).setCell HLO.out _
                  have hx1 : PBox w14 w9.heap.size ⟨E1, l1, g1, E2, l2, g2, E3, l3, g3, E4, l4, g4, E5, l5, g5⟩ := (hbut.block _ HPr.out.1.lt HNE.out).trans HPr.out.1
                  have hx2 : PBox w14 w11.heap.size ⟨G1, i1, j1, G2, i2, j2, G3, i3, j3, G4, k4, j4, G5, i5, j5⟩ := by rw [← hw14]; exact HQr.out.1.set 3 _
                  have hx3 := HPr.out.2.but (onlySl HQr.out.1) hbut
                  have hx4 := HCUT.out _ _ (HQr.out.2.but (onlySl HQr.out.1) hbut)
                  have HE := Lib.hid (rEqual w14 hx3 hx4)
                  rw [eqPSelf] at HE
                  simp only [PgA.val, PgA.fs] at HE
                  have HW14 := Lib.hid hw14
                  have HB14 := Lib.hid hb14
                  clear hw14 hbut hx3 hx4 hb14 hb
                  go_upto_region 19 with fail
                  rw [HW14.out]
                  clear f0 f1 f2 f3 f4 u0 u1 u2 u3 u4
                  obtain ⟨f0, f1, f2, f3, f4⟩ := hx1.facts
                  obtain ⟨u0, u1, u2, u3, u4⟩ := hx2.facts
                  simp only at f0 f1 f2 f3 f4 u0 u1 u2 u3 u4
                  go_wp2_with fail
                  refine HE.out.mono ?_
                  rintro e w15 ⟨rfl, b15⟩
                  have HB15 := Lib.hid (belowThen HB14.out b15)
                  clear f0 f1 f2 f3 f4 u0 u1 u2 u3 u4 b15
                  go_wp2_with fail
                  refine (HLV.out _ HB15.out).mono ?_
                  rintro e w16 ⟨rfl, b16⟩
                  go_wp2
                  go_ret
                  exact ⟨rfl, belowThen HBW.out (belowThen HB15.out b16)⟩
end Go.Proofs.YtkanamdfjegcbaaDoor
