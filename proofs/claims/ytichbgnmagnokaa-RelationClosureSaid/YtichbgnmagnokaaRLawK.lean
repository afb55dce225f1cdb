/-
  The law RelationClosure: its walk, for valid relations.
-/
import Derived.Test.YtichbgnmagnokaaRLawC
import Derived.Test.YtichbgnmagnokaaRWithin
namespace Go.Proofs.Ytichbgnmagnokaa
open Go.RowKit Go.Maps

/-- What the contracts give, as plain lists: the closure, its composition with itself, the relation composed with it, the union with the larger one, its closure. -/
structure CloLs (N : Nat) (l m lc ld lx lu lv : Prs) : Prop where
  p_c : cloL N l = lc
  p_d : nrm N (cmpT N (hasP lc) (hasP lc)) = ld
  p_cc : cloL N lc = lc
  p_x : nrm N (cmpT N (hasP l) (hasP lc)) = lx
  p_y : nrm N (uniT (hasP l) (hasP lx)) = lc
  p_u : nrm N (uniT (hasP l) (hasP m)) = lu
  p_v : cloL N lu = lv
  o_c : okR N lc = true
  o_d : okR N ld = true
  o_x : okR N lx = true
  o_u : okR N lu = true
  o_v : okR N lv = true
  s_r : ∀ a b, a < N → b < N → hasP l a b = true → hasP lc a b = true
  s_d : ∀ a b, a < N → b < N → hasP ld a b = true → hasP lc a b = true
  s_v : ∀ a b, a < N → b < N → hasP lc a b = true → hasP lv a b = true
  sz : lc.length ≤ 4096 ∧ ld.length ≤ 4096 ∧ lx.length ≤ 4096 ∧ lu.length ≤ 4096 ∧ lv.length ≤ 4096
theorem cloLs {N : Nat} (hN : N ≤ 64) {l m : Prs} (h1 : okR N l = true) : ∃ lc ld lx lu lv, CloLs N l m lc ld lx lu lv := by
  have hNN : N * N ≤ 64 * 64 := Nat.mul_le_mul hN hN
  have sz : ∀ f, (nrm N f).length ≤ 4096 := fun f => by have := lenNrm N f; omega
  have clo : ∀ x : Prs, okR N x = true → cloL N x = nrm N (tcT N (hasP x)) := fun x hx => by unfold cloL; rw [hx]; rfl
  have ok : ∀ f, okR N (nrm N f) = true := fun f => okNrm hN f
  obtain ⟨f, hf⟩ : ∃ f, hasP l = f := ⟨_, rfl⟩
  obtain ⟨g, hg⟩ : ∃ g, hasP m = g := ⟨_, rfl⟩
  have hc : ∀ a b, a < N → b < N → hasP (nrm N (tcT N f)) a b = tcT N f a b := fun a b ha hb => hasNrm ha hb
  have hx : ∀ a b, a < N → b < N → hasP (nrm N (cmpT N f (hasP (nrm N (tcT N f))))) a b = cmpT N f (tcT N f) a b := fun a b ha hb => by
    rw [hasNrm ha hb]
    rw [Bool.eq_iff_iff, cmpIff, cmpIff]
    constructor
    · rintro ⟨x, hx, h3, h4⟩; exact ⟨x, hx, h3, (hc x b hx hb).symm.trans h4⟩
    · rintro ⟨x, hx, h3, h4⟩; exact ⟨x, hx, h3, (hc x b hx hb).trans h4⟩
  refine ⟨nrm N (tcT N f), nrm N (cmpT N (hasP (nrm N (tcT N f))) (hasP (nrm N (tcT N f)))), nrm N (cmpT N f (hasP (nrm N (tcT N f)))), nrm N (uniT f g), nrm N (tcT N (hasP (nrm N (uniT f g)))), by rw [clo l h1, hf], rfl, ?_, by rw [hf], ?_, by rw [hf, hg], clo _ (ok _), ok _, ok _, ok _, ok _, ok _, ?_, ?_, ?_, sz _, sz _, sz _, sz _, sz _⟩
  · rw [clo _ (ok _)]
    refine nrmCongr fun a b ha hb => ?_
    rw [tcCongr hc ha hb, tcSelf ha hb]
  · rw [hf]
    refine nrmCongr fun a b ha hb => ?_
    rw [tcStep]
    unfold uniT
    rw [hx a b ha hb]
  · intro a b ha hb h
    rw [hf] at h
    rw [hc a b ha hb]
    exact tcOne h
  · intro a b ha hb h
    rw [hasNrm ha hb, cmpIff] at h
    obtain ⟨x, hx, h3, h4⟩ := h
    rw [hc a b ha hb]
    exact tcTrans hx ((hc a x ha hx).symm.trans h3) ((hc x b hx hb).symm.trans h4)
  · intro a b ha hb h
    rw [hc a b ha hb] at h
    rw [hasNrm ha hb]
    refine tcMono (fun a b ha hb h => ?_) ha hb h
    rw [hasNrm ha hb]
    unfold uniT
    rw [h]; rfl

set_option maxRecDepth 100000 in
set_option maxHeartbeats 4000000 in
theorem lawClosureLong (N : Nat) (l m : Prs) (n k : Nat) (hN : N ≤ 64) (hn : l.length = n) (hk : m.length = k) (h1 : n ≤ 300) (h2 : k ≤ 300) (hv : okR N l = true) (hv' : okR N m = true) (A B : Option Addr) (c d : Nat) (w : World) (ha : Rp w A c l) (hb : Rp w B d m) :
    Calls Try.prog 7 #[relV N A n c, relV N B k d] w fun e w' => e = .returned (.bool true) ∧ Below w.heap.size w w' := by
  obtain ⟨W, hW, hB0, hB1, hbW, hzW⟩ := twoBoxes w N N (.slice A n c) (.slice B k d)
  have HA := Lib.hid (ha.below hbW); clear ha
  have HB := Lib.hid (hb.below hbW); clear hb
  have HN := Lib.hid hn; clear hn
  have HK := Lib.hid hk; clear hk
  have HB0 := Lib.hid hB0; clear hB0
  have HB1 := Lib.hid hB1; clear hB1
  obtain ⟨lc, ld, lx, lu, lv, CL⟩ := cloLs (m := m) hN hv
  obtain ⟨s1, s2, s3, s4, s5⟩ := CL.sz
  obtain ⟨nc, ec⟩ : ∃ x, lc.length = x := ⟨_, rfl⟩
  obtain ⟨nd, ed⟩ : ∃ x, ld.length = x := ⟨_, rfl⟩
  obtain ⟨nx, ex⟩ : ∃ x, lx.length = x := ⟨_, rfl⟩
  obtain ⟨nu, eu⟩ : ∃ x, lu.length = x := ⟨_, rfl⟩
  obtain ⟨nv, ev⟩ : ∃ x, lv.length = x := ⟨_, rfl⟩
  rw [ec] at s1
  rw [ed] at s2
  rw [ex] at s3
  rw [eu] at s4
  rw [ev] at s5
  have nr : ∀ x : Prs, okR N x = true → nrmN N x = N := fun x hx => by unfold nrmN; rw [hx]; rfl
  have HCL := Lib.hid (iClosure N l n HN.out (by omega))
  rw [nr l hv, CL.p_c] at HCL
  have HCD := Lib.hid (iComposeYes N lc lc nc nc hN ec ec CL.o_c CL.o_c ld CL.p_d (by omega) (by omega))
  have HW1 := Lib.hid (lWithin N lc l nc n hN ec HN.out (by omega) (by omega) CL.o_c hv CL.s_r)
  have HW2 := Lib.hid (lWithin N lc ld nc nd hN ec ed (by omega) (by omega) CL.o_c CL.o_d CL.s_d)
  have HCC := Lib.hid (iClosure N lc nc ec (by omega))
  rw [nr lc CL.o_c, CL.p_cc] at HCC
  have HSC := Lib.hid (lSame N N lc lc nc nc ec ec true (by rw [sameIff]; exact ⟨rfl, rfl⟩) (by omega))
  have HCX := Lib.hid (iComposeYes N l lc n nc hN HN.out ec hv CL.o_c lx CL.p_x (by omega) (by omega))
  have HUY := Lib.hid (iUnionYes N l lx n nx hN HN.out ex hv CL.o_x lc CL.p_y (by omega) (by omega))
  have HUU := Lib.hid (iUnionYes N l m n k hN HN.out HK.out hv hv' lu CL.p_u (by omega) (by omega))
  have HCU := Lib.hid (iClosure N lu nu eu (by omega))
  rw [nr lu CL.o_u, CL.p_v] at HCU
  have HW3 := Lib.hid (lWithin N lv lc nv nc hN ev ec (by omega) (by omega) CL.o_v CL.o_c CL.s_v)
  have HV := Lib.hid hv
  have HV' := Lib.hid hv'
  have EC := Lib.hid ec
  have ED := Lib.hid ed
  have EX := Lib.hid ex
  have EU := Lib.hid eu
  have EV := Lib.hid ev
  have q1 : decide ((n : Int) > 300) = false := by simp; omega
  have q2 : decide ((k : Int) > 300) = false := by simp; omega
  have q3 : ((N : Int) == (N : Int)) = true := by simp
  clear hv hv' CL ec ed ex eu ev nr
  obtain ⟨c0, c1, _, _⟩ := HB0.out.facts
  obtain ⟨c2, c3, _, _⟩ := HB1.out.facts
  go_enter Try.func7, Try.ntmps7
  go_wp2_with fail
  refine (iValid N l n HN.out true HV.out A c _ HA.out).mono ?_
  rintro e w0 ⟨rfl, b0⟩
  have HB0 := Lib.hid (HB0.out.below b0)
  have HB1 := Lib.hid (HB1.out.below b0)
  obtain ⟨c2, c3, _, _⟩ := HB1.out.facts
  go_wp2_with fail
  refine (iValid N m k HK.out true HV'.out B d _ (HB.out.below b0)).mono ?_
  rintro e w1 ⟨rfl, b1⟩
  have HA := Lib.hid ((HA.out.below b0).below b1)
  have HB := Lib.hid ((HB.out.below b0).below b1)
  have HB0 := Lib.hid (HB0.out.below b1)
  have HB1 := Lib.hid (HB1.out.below b1)
  have hb1 := belowThen (belowThen hbW b0) b1
  obtain ⟨c0, c1, _, _⟩ := HB0.out.facts
  obtain ⟨c2, c3, _, _⟩ := HB1.out.facts
  go_wp2_with fail
  refine (HCL.out A c _ HA.out).mono ?_
  rintro e w2 ⟨A2, d2, rfl, hr2, b2⟩
  rw [EC.out]
  obtain ⟨X, hX⟩ : ∃ X, w2.alloc (.cells #[.int .i64 N, .slice A2 nc d2] 24) = X := ⟨_, rfl⟩
  have bX : Below w2.heap.size w2 X := by rw [← hX]; exact belowAlloc _ _
  have HB2 : Hid (BoxR X w2.heap.size N (.slice A2 nc d2)) := by rw [← hX]; exact Lib.hid (BoxR.new w2 N _)
  have HR2 := Lib.hid (hr2.below bX); clear hr2
  have HB0 := Lib.hid ((HB0.out.below b2).below bX)
  have HB1 := Lib.hid ((HB1.out.below b2).below bX)
  have HA := Lib.hid ((HA.out.below b2).below bX)
  have HB := Lib.hid ((HB.out.below b2).below bX)
  have hb2 := belowThen (belowThen hb1 b2) bX
  obtain ⟨c0, c1, _, _⟩ := HB2.out.facts
  go_wp2_with fail
  refine (HCD.out A2 A2 d2 d2 _ HR2.out HR2.out).mono ?_
  rintro e w3 ⟨A3, d3, rfl, hr3, b3⟩
  rw [ED.out]
  obtain ⟨Y, hY⟩ : ∃ Y, w3.alloc (.cells #[.int .i64 N, .slice A3 nd d3] 24) = Y := ⟨_, rfl⟩
  have bY : Below w3.heap.size w3 Y := by rw [← hY]; exact belowAlloc _ _
  have HB3 : Hid (BoxR Y w3.heap.size N (.slice A3 nd d3)) := by rw [← hY]; exact Lib.hid (BoxR.new w3 N _)
  have HR3 := Lib.hid (hr3.below bY); clear hr3
  have HB0 := Lib.hid ((HB0.out.below b3).below bY)
  have HB1 := Lib.hid ((HB1.out.below b3).below bY)
  have HB2 := Lib.hid ((HB2.out.below b3).below bY)
  have HR2 := Lib.hid ((HR2.out.below b3).below bY)
  have HA := Lib.hid ((HA.out.below b3).below bY)
  have HB := Lib.hid ((HB.out.below b3).below bY)
  have hb3 := belowThen (belowThen hb2 b3) bY
  have hl0 := HB0.out.lt
  have hl2 := HB2.out.lt
  have hl3 := HB3.out.lt
  obtain ⟨c0, c1, _, _⟩ := HB0.out.facts
  obtain ⟨c2, c3, _, _⟩ := HB2.out.facts
  obtain ⟨c4, c5, _, _⟩ := HB3.out.facts
  have HKP := Lib.hid (show ∀ w', Below Y.heap.size Y w' → w'.cell? ⟨w.heap.size, 0, none⟩ = some (.int .i64 N) ∧ w'.cell? ⟨w.heap.size, 1, none⟩ = some (.slice A n c) ∧ w'.cell? ⟨w2.heap.size, 0, none⟩ = some (.int .i64 N) ∧ w'.cell? ⟨w2.heap.size, 1, none⟩ = some (.slice A2 nc d2) ∧ w'.cell? ⟨w3.heap.size, 0, none⟩ = some (.int .i64 N) ∧ w'.cell? ⟨w3.heap.size, 1, none⟩ = some (.slice A3 nd d3) ∧ Below Y.heap.size Y w' from fun w' b =>
    ⟨(b.cell (by exact hl0)).trans c0, (b.cell (by exact hl0)).trans c1, (b.cell (by exact hl2)).trans c2, (b.cell (by exact hl2)).trans c3, (b.cell (by exact hl3)).trans c4, (b.cell (by exact hl3)).trans c5, b⟩)
  have hbd : Below Y.heap.size Y Y.drew := (Below.refl _ Y).drew
  clear c0 c1 c2 c3 c4 c5
  go_wp2_with fail
  go_region_held3 (fun w' => w'.cell? ⟨w.heap.size, 0, none⟩ = some (.int .i64 N) ∧ w'.cell? ⟨w.heap.size, 1, none⟩ = some (.slice A n c) ∧ w'.cell? ⟨w2.heap.size, 0, none⟩ = some (.int .i64 N) ∧ w'.cell? ⟨w2.heap.size, 1, none⟩ = some (.slice A2 nc d2) ∧ w'.cell? ⟨w3.heap.size, 0, none⟩ = some (.int .i64 N) ∧ w'.cell? ⟨w3.heap.size, 1, none⟩ = some (.slice A3 nd d3) ∧ Below Y.heap.size Y w')
    (first
      | assumption
      | exact HKP.out _ hbd
      | exact HKP.out _ (belowThen (‹_ ∧ _ ∧ _ ∧ _ ∧ _ ∧ _ ∧ Below Y.heap.size Y _›).2.2.2.2.2.2 bk))
    (first
      | (go_at_call 33; (with_reducible show Calls _ _ #[_, .agg #[_, .slice A n c]] _ _); refine (HW1.out A2 A d2 c _ (HR2.out.below (‹_ ∧ _ ∧ _ ∧ _ ∧ _ ∧ _ ∧ Below Y.heap.size Y _›).2.2.2.2.2.2) (HA.out.below (‹_ ∧ _ ∧ _ ∧ _ ∧ _ ∧ _ ∧ Below Y.heap.size Y _›).2.2.2.2.2.2)).mono ?_; rintro e w4 ⟨rfl, bk⟩)
      | (go_at_call 33; (with_reducible show Calls _ _ #[_, .agg #[_, .slice A3 nd d3]] _ _); refine (HW2.out A2 A3 d2 d3 _ (HR2.out.below (‹_ ∧ _ ∧ _ ∧ _ ∧ _ ∧ _ ∧ Below Y.heap.size Y _›).2.2.2.2.2.2) (HR3.out.below (‹_ ∧ _ ∧ _ ∧ _ ∧ _ ∧ _ ∧ Below Y.heap.size Y _›).2.2.2.2.2.2)).mono ?_; rintro e w5 ⟨rfl, bk⟩)
      | (go_at_call 29; refine (HCC.out A2 d2 _ (HR2.out.below (‹_ ∧ _ ∧ _ ∧ _ ∧ _ ∧ _ ∧ Below Y.heap.size Y _›).2.2.2.2.2.2)).mono ?_; rintro e w6 ⟨A6, d6, rfl, hr6, bk⟩; rw [EC.out]; have HR6 := Lib.hid hr6; clear hr6)
      | (go_at_call 15; refine (HSC.out A6 A2 d6 d2 _ HR6.out (HR2.out.below (‹_ ∧ _ ∧ _ ∧ _ ∧ _ ∧ _ ∧ Below Y.heap.size Y _›).2.2.2.2.2.2)).mono ?_; rintro e w7 ⟨rfl, bk⟩))
  have b7 := (‹_ ∧ _ ∧ _ ∧ _ ∧ _ ∧ _ ∧ Below Y.heap.size Y w7›).2.2.2.2.2.2
  have HB0 := Lib.hid (HB0.out.below b7)
  have HB1 := Lib.hid (HB1.out.below b7)
  have HB2 := Lib.hid (HB2.out.below b7)
  have HA := Lib.hid (HA.out.below b7)
  have HB := Lib.hid (HB.out.below b7)
  have HR2 := Lib.hid (HR2.out.below b7)
  have hb7 := belowThen hb3 b7
  clear HKP HB3 HR3
  obtain ⟨c0, c1, _, _⟩ := HB0.out.facts
  obtain ⟨c2, c3, _, _⟩ := HB2.out.facts
  go_wp2_with fail
  refine (HCX.out A A2 c d2 _ HA.out HR2.out).mono ?_
  rintro e w8 ⟨A8, d8, rfl, hr8, b8⟩
  rw [EX.out]
  obtain ⟨Z, hZ⟩ : ∃ Z, w8.alloc (.cells #[.int .i64 N, .slice A8 nx d8] 24) = Z := ⟨_, rfl⟩
  have bZ : Below w8.heap.size w8 Z := by rw [← hZ]; exact belowAlloc _ _
  have HB8 : Hid (BoxR Z w8.heap.size N (.slice A8 nx d8)) := by rw [← hZ]; exact Lib.hid (BoxR.new w8 N _)
  have HR8 := Lib.hid (hr8.below bZ); clear hr8
  have HB0 := Lib.hid ((HB0.out.below b8).below bZ)
  have HB1 := Lib.hid ((HB1.out.below b8).below bZ)
  have HB2 := Lib.hid ((HB2.out.below b8).below bZ)
  have HA := Lib.hid ((HA.out.below b8).below bZ)
  have HB := Lib.hid ((HB.out.below b8).below bZ)
  have HR2 := Lib.hid ((HR2.out.below b8).below bZ)
  have hb8 := belowThen (belowThen hb7 b8) bZ
  obtain ⟨c0, c1, _, _⟩ := HB0.out.facts
  obtain ⟨c4, c5, _, _⟩ := HB8.out.facts
  go_wp2_with fail
  refine (HUY.out A A8 c d8 _ HA.out HR8.out).mono ?_
  rintro e w9 ⟨A9, d9, rfl, hr9, b9⟩
  rw [EC.out]
  obtain ⟨U, hU⟩ : ∃ U, w9.alloc (.cells #[.int .i64 N, .slice A9 nc d9] 24) = U := ⟨_, rfl⟩
  have bU : Below w9.heap.size w9 U := by rw [← hU]; exact belowAlloc _ _
  have HB9 : Hid (BoxR U w9.heap.size N (.slice A9 nc d9)) := by rw [← hU]; exact Lib.hid (BoxR.new w9 N _)
  have HR9 := Lib.hid (hr9.below bU); clear hr9
  have HB0 := Lib.hid ((HB0.out.below b9).below bU)
  have HB1 := Lib.hid ((HB1.out.below b9).below bU)
  have HB2 := Lib.hid ((HB2.out.below b9).below bU)
  have HA := Lib.hid ((HA.out.below b9).below bU)
  have HB := Lib.hid ((HB.out.below b9).below bU)
  have HR2 := Lib.hid ((HR2.out.below b9).below bU)
  have hb9 := belowThen (belowThen hb8 b9) bU
  obtain ⟨c2, c3, _, _⟩ := HB2.out.facts
  obtain ⟨c4, c5, _, _⟩ := HB9.out.facts
  go_wp2_with fail
  refine (HSC.out A9 A2 d9 d2 _ HR9.out HR2.out).mono ?_
  rintro e w10 ⟨rfl, b10⟩
  have HB0 := Lib.hid (HB0.out.below b10)
  have HB1 := Lib.hid (HB1.out.below b10)
  have HB2 := Lib.hid (HB2.out.below b10)
  have HA := Lib.hid (HA.out.below b10)
  have HB := Lib.hid (HB.out.below b10)
  have HR2 := Lib.hid (HR2.out.below b10)
  have hb10 := belowThen hb9 b10
  obtain ⟨c0, c1, _, _⟩ := HB0.out.facts
  obtain ⟨c2, c3, _, _⟩ := HB1.out.facts
  go_wp2_with fail
  refine (HUU.out A B c d _ HA.out HB.out).mono ?_
  rintro e w11 ⟨A11, d11, rfl, hr11, b11⟩
  rw [EU.out]
  obtain ⟨V, hVV⟩ : ∃ V, w11.alloc (.cells #[.int .i64 N, .slice A11 nu d11] 24) = V := ⟨_, rfl⟩
  have bV : Below w11.heap.size w11 V := by rw [← hVV]; exact belowAlloc _ _
  have HB11 : Hid (BoxR V w11.heap.size N (.slice A11 nu d11)) := by rw [← hVV]; exact Lib.hid (BoxR.new w11 N _)
  have HR11 := Lib.hid (hr11.below bV); clear hr11
  have HB2 := Lib.hid ((HB2.out.below b11).below bV)
  have HR2 := Lib.hid ((HR2.out.below b11).below bV)
  have hb11 := belowThen (belowThen hb10 b11) bV
  have hl2 := HB2.out.lt
  have hl11 := HB11.out.lt
  obtain ⟨c2, c3, _, _⟩ := HB2.out.facts
  obtain ⟨c4, c5, _, _⟩ := HB11.out.facts
  have HKP := Lib.hid (show ∀ w', Below V.heap.size V w' → w'.cell? ⟨w2.heap.size, 0, none⟩ = some (.int .i64 N) ∧ w'.cell? ⟨w2.heap.size, 1, none⟩ = some (.slice A2 nc d2) ∧ w'.cell? ⟨w11.heap.size, 0, none⟩ = some (.int .i64 N) ∧ w'.cell? ⟨w11.heap.size, 1, none⟩ = some (.slice A11 nu d11) ∧ Below V.heap.size V w' from fun w' b =>
    ⟨(b.cell (by exact hl2)).trans c2, (b.cell (by exact hl2)).trans c3, (b.cell (by exact hl11)).trans c4, (b.cell (by exact hl11)).trans c5, b⟩)
  have hbd2 : Below V.heap.size V V.drew := (Below.refl _ V).drew
  clear c0 c1 c2 c3 c4 c5
  go_wp2_with fail
  go_region_held3 (fun w' => w'.cell? ⟨w2.heap.size, 0, none⟩ = some (.int .i64 N) ∧ w'.cell? ⟨w2.heap.size, 1, none⟩ = some (.slice A2 nc d2) ∧ w'.cell? ⟨w11.heap.size, 0, none⟩ = some (.int .i64 N) ∧ w'.cell? ⟨w11.heap.size, 1, none⟩ = some (.slice A11 nu d11) ∧ Below V.heap.size V w')
    (first
      | assumption
      | exact HKP.out _ hbd2
      | exact HKP.out _ (belowThen (‹_ ∧ _ ∧ _ ∧ _ ∧ Below V.heap.size V _›).2.2.2.2 bk))
    (first
      | (go_at_call 29; refine (HCU.out A11 d11 _ (HR11.out.below (‹_ ∧ _ ∧ _ ∧ _ ∧ Below V.heap.size V _›).2.2.2.2)).mono ?_; rintro e w12 ⟨A12, d12, rfl, hr12, bk⟩; rw [EV.out]; have HR12 := Lib.hid hr12; clear hr12)
      | (go_at_call 33; refine (HW3.out A12 A2 d12 d2 _ HR12.out (HR2.out.below (‹_ ∧ _ ∧ _ ∧ _ ∧ Below V.heap.size V _›).2.2.2.2)).mono ?_; rintro e w13 ⟨rfl, bk⟩)
      | (go_at_call 10; refine (lExample _).mono ?_; rintro e w14 ⟨rfl, bk⟩))
  have hb14 := belowThen hb11 (‹_ ∧ _ ∧ _ ∧ _ ∧ Below V.heap.size V w14›).2.2.2.2
  go_wp2
  go_ret
  exact ⟨rfl, hb14⟩
theorem lawClosure (N M : Int) (l m : Prs) (n k : Nat) (hn : l.length = n) (hk : m.length = k) (A B : Option Addr) (c d : Nat) (w : World) (ha : Rp w A c l) (hb : Rp w B d m) :
    Calls Try.prog 7 #[relV N A n c, relV M B k d] w fun e w' => e = .returned (.bool true) ∧ Below w.heap.size w w' := by
  by_cases h : n ≤ 300 ∧ k ≤ 300 ∧ okR N l = true ∧ okR M m = true ∧ N = M
  · obtain ⟨h1, h2, hv, hv', rfl⟩ := h
    obtain ⟨K, rfl, hK⟩ := okNat hv
    exact lawClosureLong K l m n k hK hn hk h1 h2 hv hv' A B c d w ha hb
  · exact lawClosureShort N M l m n k hn hk h A B c d w ha hb
end Go.Proofs.Ytichbgnmagnokaa
