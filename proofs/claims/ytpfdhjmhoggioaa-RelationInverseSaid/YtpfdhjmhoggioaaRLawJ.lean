/-
  The law RelationInverse: its walk, for valid relations.
-/
import Derived.Test.YtpfdhjmhoggioaaRLawI
import Derived.Test.YtpfdhjmhoggioaaRRefL
namespace Go.Proofs.Ytpfdhjmhoggioaa
open Go.RowKit Go.Maps

/-- What the contracts give for a and b, as plain lists: the inverses, the composition, its inverse, the normal form. -/
structure InvLs (N : Nat) (l m ia ib lc ld la : Prs) : Prop where
  p_ia : invL N l = ia
  p_ib : invL N m = ib
  p_lc : nrm N (cmpT N (hasP l) (hasP m)) = lc
  p_ld : nrm N (cmpT N (hasP ib) (hasP ia)) = ld
  p_ic : invL N lc = ld
  p_ii : invL N ia = la
  p_no : nrmL N l = la
  p_oa : okR N ia = true
  p_ob : okR N ib = true
  p_oc : okR N lc = true
  p_ac : acyR N ia = acyR N l
  p_sz : ia.length ≤ 4096 ∧ ib.length ≤ 4096 ∧ lc.length ≤ 4096 ∧ ld.length ≤ 4096 ∧ la.length ≤ 4096
theorem invLs {N : Nat} (hN : N ≤ 64) {l m : Prs} (h1 : okR N l = true) (h2 : okR N m = true) : ∃ ia ib lc ld la, InvLs N l m ia ib lc ld la := by
  have hNN : N * N ≤ 64 * 64 := Nat.mul_le_mul hN hN
  have sz : ∀ f, (nrm N f).length ≤ 4096 := fun f => by have := lenNrm N f; omega
  have inv : ∀ x : Prs, okR N x = true → invL N x = nrm N (invT (hasP x)) := fun x hx => by unfold invL; rw [hx]; rfl
  have ok : ∀ f, okR N (nrm N f) = true := fun f => okNrm hN f
  refine ⟨nrm N (invT (hasP l)), nrm N (invT (hasP m)), nrm N (cmpT N (hasP l) (hasP m)), nrm N (cmpT N (hasP (nrm N (invT (hasP m)))) (hasP (nrm N (invT (hasP l))))), nrm N (hasP l), inv l h1, inv m h2, rfl, rfl, ?_, ?_, ?_, ok _, ok _, ok _, ?_, sz _, sz _, sz _, sz _, sz _⟩
  · rw [inv _ (ok _)]
    refine nrmCongr fun a b ha hb => ?_
    rw [cmpCongr (f' := invT (hasP m)) (g' := invT (hasP l)) (fun a b ha hb => hasNrm ha hb) (fun a b ha hb => hasNrm ha hb) ha hb, ← invCmp]
    exact hasNrm (f := cmpT N (hasP l) (hasP m)) hb ha
  · rw [inv _ (ok _)]
    exact nrmCongr fun a b ha hb => hasNrm (f := invT (hasP l)) hb ha
  · unfold nrmL; rw [h1]; rfl
  · unfold acyR
    rw [ok, h1]
    show acyB N (hasP (nrm N (invT (hasP l)))) = acyB N (hasP l)
    rw [acyCongr (g := invT (hasP l)) fun a b ha hb => hasNrm ha hb, acyInvB]

theorem belowAllocX {a b : World} (h : Below a.heap.size a b) (o : Obj) : Below a.heap.size a (b.alloc o) := h.alloc h.size o
theorem belowSetX {a b : World} (h : Below a.heap.size a b) (p : Addr) (v : Value) (hp : a.heap.size ≤ p.block) : Below a.heap.size a (b.setCell p v) := belowSet h p v hp

set_option maxRecDepth 100000 in
set_option maxHeartbeats 4000000 in
theorem lawInverseLong (N : Nat) (l m : Prs) (n k : Nat) (hN : N ≤ 64) (hn : l.length = n) (hk : m.length = k) (h1 : n ≤ 300) (h2 : k ≤ 300) (hv : okR N l = true) (hv' : okR N m = true) (A B : Option Addr) (c d : Nat) (w : World) (ha : Rp w A c l) (hb : Rp w B d m) :
    Calls Try.prog 7 #[relV N A n c, relV N B k d] w fun e w' => e = .returned (.bool true) ∧ Below w.heap.size w w' := by
  obtain ⟨W, hW, hB0, hB1, hbW, hzW⟩ := twoBoxes w N N (.slice A n c) (.slice B k d)
  have HA := Lib.hid (ha.below hbW); clear ha
  have HB := Lib.hid (hb.below hbW); clear hb
  have HN := Lib.hid hn; clear hn
  have HK := Lib.hid hk; clear hk
  have HB0 := Lib.hid hB0; clear hB0
  have HB1 := Lib.hid hB1; clear hB1
  obtain ⟨ia, ib, lc, ld, la, IL⟩ := invLs hN hv hv'
  obtain ⟨s1, s2, s3, s4, s5⟩ := IL.p_sz
  obtain ⟨na, ea⟩ : ∃ x, ia.length = x := ⟨_, rfl⟩
  obtain ⟨nb, eb⟩ : ∃ x, ib.length = x := ⟨_, rfl⟩
  obtain ⟨nc, ec⟩ : ∃ x, lc.length = x := ⟨_, rfl⟩
  obtain ⟨nd, ed⟩ : ∃ x, ld.length = x := ⟨_, rfl⟩
  obtain ⟨nl, el⟩ : ∃ x, la.length = x := ⟨_, rfl⟩
  rw [ea] at s1
  rw [eb] at s2
  rw [ec] at s3
  rw [ed] at s4
  rw [el] at s5
  have nr : ∀ x : Prs, okR N x = true → nrmN N x = N := fun x hx => by unfold nrmN; rw [hx]; rfl
  have HCO := Lib.hid (iComposeYes N l m n k hN HN.out HK.out hv hv' lc IL.p_lc (by omega) (by omega))
  have HIA := Lib.hid (iInverse N l n HN.out (by omega))
  rw [nr l hv, IL.p_ia] at HIA
  have HIB := Lib.hid (iInverse N m k HK.out (by omega))
  rw [nr m hv', IL.p_ib] at HIB
  have HCD := Lib.hid (iComposeYes N ib ia nb na hN eb ea IL.p_ob IL.p_oa ld IL.p_ld (by omega) (by omega))
  have HIC := Lib.hid (iInverse N lc nc ec (by omega))
  rw [nr lc IL.p_oc, IL.p_ic] at HIC
  have HII := Lib.hid (iInverse N ia na ea (by omega))
  rw [nr ia IL.p_oa, IL.p_ii] at HII
  have HNO := Lib.hid (iNormalTop N l n HN.out (by omega))
  rw [nr l hv, IL.p_no] at HNO
  have HSD := Lib.hid (lSame N N ld ld nd nd ed ed true (by rw [sameIff]; exact ⟨rfl, rfl⟩) (by omega))
  have HSL := Lib.hid (lSame N N la la nl nl el el true (by rw [sameIff]; exact ⟨rfl, rfl⟩) (by omega))
  have HQA := Lib.hid (iAcyclic N l n HN.out (by omega))
  have HQI := Lib.hid (iAcyclic N ia na ea (by omega))
  rw [IL.p_ac] at HQI
  obtain ⟨q, hq⟩ : ∃ q, acyR N l = q := ⟨_, rfl⟩
  rw [hq] at HQA HQI
  have hqq : (q == q) = true := by simp
  have HV := Lib.hid hv
  have HV' := Lib.hid hv'
  have EA := Lib.hid ea
  have EB := Lib.hid eb
  have EC := Lib.hid ec
  have ED := Lib.hid ed
  have EL := Lib.hid el
  have q1 : decide ((n : Int) > 300) = false := by simp; omega
  have q2 : decide ((k : Int) > 300) = false := by simp; omega
  have q3 : ((N : Int) == (N : Int)) = true := by simp
  clear hv hv' IL ea eb ec ed el nr hq
  obtain ⟨c0, c1, _, _⟩ := HB0.out.facts
  obtain ⟨c2, c3, _, _⟩ := HB1.out.facts
  go_enter Try.func7, Try.ntmps7
  go_wp2_with fail
  refine (iValid N l n HN.out true HV.out A c _ HA.out).mono ?_
  rintro e w0 ⟨rfl, b0⟩
  have HB0 := Lib.hid (HB0.out.below b0)
  have HB1 := Lib.hid (HB1.out.below b0)
  obtain ⟨c2, c3, _, _⟩ := HB1.out.facts
  go_wp2_with fail
  refine (iValid N m k HK.out true HV'.out B d _ (HB.out.below b0)).mono ?_
  rintro e w1 ⟨rfl, b1⟩
  have HA := Lib.hid ((HA.out.below b0).below b1)
  have HB := Lib.hid ((HB.out.below b0).below b1)
  have HB0 := Lib.hid (HB0.out.below b1)
  have HB1 := Lib.hid (HB1.out.below b1)
  have hb1 := belowThen (belowThen hbW b0) b1
  obtain ⟨c0, c1, _, _⟩ := HB0.out.facts
  obtain ⟨c2, c3, _, _⟩ := HB1.out.facts
  go_wp2_with fail
  refine (HCO.out A B c d _ HA.out HB.out).mono ?_
  rintro e w2 ⟨A2, d2, rfl, hr2, b2⟩
  rw [EC.out]
  obtain ⟨X, hX⟩ : ∃ X, w2.alloc (.cells #[.int .i64 N, .slice A2 nc d2] 24) = X := ⟨_, rfl⟩
  have bX : Below w2.heap.size w2 X := by rw [← hX]; exact belowAlloc _ _
  have HB2 : Hid (BoxR X w2.heap.size N (.slice A2 nc d2)) := by rw [← hX]; exact Lib.hid (BoxR.new w2 N _)
  have HR2 := Lib.hid (hr2.below bX); clear hr2
  have HB0 := Lib.hid ((HB0.out.below b2).below bX)
  have HB1 := Lib.hid ((HB1.out.below b2).below bX)
  have HA := Lib.hid ((HA.out.below b2).below bX)
  have HB := Lib.hid ((HB.out.below b2).below bX)
  have hb2 := belowThen (belowThen hb1 b2) bX
  have hl0 := HB0.out.lt
  have hl1 := HB1.out.lt
  obtain ⟨c0, c1, _, _⟩ := HB0.out.facts
  obtain ⟨c2, c3, _, _⟩ := HB1.out.facts
  have HKP := Lib.hid (show ∀ w', Below X.heap.size X w' → w'.cell? ⟨w.heap.size, 0, none⟩ = some (.int .i64 N) ∧ w'.cell? ⟨w.heap.size, 1, none⟩ = some (.slice A n c) ∧ w'.cell? ⟨w.heap.size + 1, 0, none⟩ = some (.int .i64 N) ∧ w'.cell? ⟨w.heap.size + 1, 1, none⟩ = some (.slice B k d) ∧ Below X.heap.size X w' from fun w' b =>
    ⟨(b.cell (by exact hl0)).trans c0, (b.cell (by exact hl0)).trans c1, (b.cell (by exact hl1)).trans c2, (b.cell (by exact hl1)).trans c3, b⟩)
  have hbd : Below X.heap.size X X.drew := (Below.refl _ X).drew
  clear c0 c1 c2 c3
  go_wp2_with fail
  go_region_held3 (fun w' => w'.cell? ⟨w.heap.size, 0, none⟩ = some (.int .i64 N) ∧ w'.cell? ⟨w.heap.size, 1, none⟩ = some (.slice A n c) ∧ w'.cell? ⟨w.heap.size + 1, 0, none⟩ = some (.int .i64 N) ∧ w'.cell? ⟨w.heap.size + 1, 1, none⟩ = some (.slice B k d) ∧ Below X.heap.size X w')
    (first
      | assumption
      | exact HKP.out _ hbd
      | exact HKP.out _ (belowThen (‹_ ∧ _ ∧ _ ∧ _ ∧ Below X.heap.size X _›).2.2.2.2 bk)
      | exact HKP.out _ (belowDrewN (belowAllocX (Below.refl _ X) _) 1)
      | exact HKP.out _ (belowAllocX hx3 _)
      | exact HKP.out _ (belowAllocX hx4 _)
      | exact HKP.out _ (belowAllocX hx5 _)
      | exact HKP.out _ (belowSetX (belowSetX hx5 _ _ (Nat.le_refl _)) _ _ (Nat.le_refl _))
      | exact HKP.out _ (belowSetX (belowSetX hx5 _ _ hz3) _ _ hz3)
      | exact HKP.out _ (belowSetX (belowSetX hx5 _ _ hz4) _ _ hz4))
    (first
      | (go_at_call 20; (with_reducible show Calls _ _ #[.agg #[_, .slice B k d]] _ _); refine (HIB.out B d _ (HB.out.below (‹_ ∧ _ ∧ _ ∧ _ ∧ Below X.heap.size X _›).2.2.2.2)).mono ?_; rintro e w3 ⟨A3, d3, rfl, hr3, bk⟩; rw [EB.out]; have HR3 := Lib.hid hr3; clear hr3; have hx3 := belowThen (‹_ ∧ _ ∧ _ ∧ _ ∧ Below X.heap.size X _›).2.2.2.2 bk; have hz3 : X.heap.size ≤ w3.heap.size := hx3.size; (try have HZa : Hid (BoxR w3 X.heap.size 0 (.slice none 0 0)) := Lib.hid ((show BoxR (X.alloc (.cells #[.int .i64 0, .slice none 0 0] 24)).drew X.heap.size 0 (.slice none 0 0) from BoxR.new X 0 _).below bk)))
      | (go_at_call 20; (with_reducible show Calls _ _ #[.agg #[_, .slice A n c]] _ _); refine (HIA.out A c _ (HA.out.below (‹_ ∧ _ ∧ _ ∧ _ ∧ Below X.heap.size X _›).2.2.2.2)).mono ?_; rintro e w4 ⟨A4, d4, rfl, hr4, bk⟩; rw [EA.out]; have HR4 := Lib.hid hr4; clear hr4; have hx4 := belowThen (‹_ ∧ _ ∧ _ ∧ _ ∧ Below X.heap.size X _›).2.2.2.2 bk; have hz4 : X.heap.size ≤ w4.heap.size := hx4.size; have HR3 : Hid (Rp w4 A3 d3 ib) := (by first | exact Lib.hid (HR3.out.below bk) | exact Lib.hid (HR3.out.below (belowThen (belowAlloc _ _) bk))); (try have HZa := Lib.hid (HZa.out.below bk)); (try have HZb : Hid (BoxR w4 w3.heap.size 0 (.slice none 0 0)) := Lib.hid ((BoxR.new w3 0 (.slice none 0 0)).below bk)))
      | (go_at_call 18; refine (HCD.out A3 A4 d3 d4 _ ?_ ?_).mono ?_; (first | exact HR3.out | exact HR3.out.below (belowAlloc _ _)); (first | exact HR4.out | exact HR4.out.below (belowAlloc _ _)); rintro e w5 ⟨A5, d5, rfl, hr5, bk⟩; rw [ED.out]; have HR5 := Lib.hid hr5; clear hr5; have hx5 := belowThen (‹_ ∧ _ ∧ _ ∧ _ ∧ Below X.heap.size X _›).2.2.2.2 bk; have hz5 : X.heap.size ≤ w5.heap.size := hx5.size; (try (have HZa := Lib.hid (HZa.out.below bk); obtain ⟨za0, za1, za2, za3⟩ := HZa.out.facts)); (try (have HZb := Lib.hid (HZb.out.below bk); obtain ⟨zb0, zb1, zb2, zb3⟩ := HZb.out.facts)); (try (have HZc : Hid (BoxR w5 w4.heap.size 0 (.slice none 0 0)) := Lib.hid ((BoxR.new w4 0 (.slice none 0 0)).below bk); obtain ⟨zc0, zc1, zc2, zc3⟩ := HZc.out.facts))))
  all_goals first
    | (obtain ⟨F, hF⟩ : ∃ F, w5.alloc (.cells #[.int .i64 N, .slice A5 nd d5] 24) = F := ⟨_, rfl⟩; have HF : Hid (BoxR F w5.heap.size N (.slice A5 nd d5)) := (by rw [← hF]; exact Lib.hid (BoxR.new w5 N _)); have HRF : Hid (Rp F A5 d5 ld) := (by rw [← hF]; exact Lib.hid (HR5.out.below (belowAlloc _ _))); have bF : Below X.heap.size X F := (by rw [← hF]; exact belowAllocX hx5 _); rw [hF]; obtain ⟨g, hg⟩ : ∃ g, w5.heap.size = g := ⟨_, rfl⟩; rw [hg] at HF ⊢)
    | (obtain ⟨F, hF⟩ : ∃ F, (w5.setCell ⟨X.heap.size, 0, none⟩ (.int .i64 N)).setCell ⟨X.heap.size, 1, none⟩ (.slice A5 nd d5) = F := ⟨_, rfl⟩; have HF : Hid (BoxR F (X.heap.size) N (.slice A5 nd d5)) := (by rw [← hF]; exact Lib.hid (HZa.out.stored _ _)); have HRF : Hid (Rp F A5 d5 ld) := (by rw [← hF]; exact Lib.hid (HR5.out.stored HZa.out _ _)); have bF : Below X.heap.size X F := (by rw [← hF]; exact belowSetX (belowSetX hx5 _ _ (by first | exact Nat.le_refl _ | exact hz3 | exact hz4)) _ _ (by first | exact Nat.le_refl _ | exact hz3 | exact hz4)); rw [hF]; obtain ⟨g, hg⟩ : ∃ g, X.heap.size = g := ⟨_, rfl⟩; rw [hg] at HF ⊢)
    | (obtain ⟨F, hF⟩ : ∃ F, (w5.setCell ⟨w3.heap.size, 0, none⟩ (.int .i64 N)).setCell ⟨w3.heap.size, 1, none⟩ (.slice A5 nd d5) = F := ⟨_, rfl⟩; have HF : Hid (BoxR F (w3.heap.size) N (.slice A5 nd d5)) := (by rw [← hF]; exact Lib.hid (HZb.out.stored _ _)); have HRF : Hid (Rp F A5 d5 ld) := (by rw [← hF]; exact Lib.hid (HR5.out.stored HZb.out _ _)); have bF : Below X.heap.size X F := (by rw [← hF]; exact belowSetX (belowSetX hx5 _ _ (by first | exact Nat.le_refl _ | exact hz3 | exact hz4)) _ _ (by first | exact Nat.le_refl _ | exact hz3 | exact hz4)); rw [hF]; obtain ⟨g, hg⟩ : ∃ g, w3.heap.size = g := ⟨_, rfl⟩; rw [hg] at HF ⊢)
    | (obtain ⟨F, hF⟩ : ∃ F, (w5.setCell ⟨w4.heap.size, 0, none⟩ (.int .i64 N)).setCell ⟨w4.heap.size, 1, none⟩ (.slice A5 nd d5) = F := ⟨_, rfl⟩; have HF : Hid (BoxR F (w4.heap.size) N (.slice A5 nd d5)) := (by rw [← hF]; exact Lib.hid (HZc.out.stored _ _)); have HRF : Hid (Rp F A5 d5 ld) := (by rw [← hF]; exact Lib.hid (HR5.out.stored HZc.out _ _)); have bF : Below X.heap.size X F := (by rw [← hF]; exact belowSetX (belowSetX hx5 _ _ (by first | exact Nat.le_refl _ | exact hz3 | exact hz4)) _ _ (by first | exact Nat.le_refl _ | exact hz3 | exact hz4)); rw [hF]; obtain ⟨g, hg⟩ : ∃ g, w4.heap.size = g := ⟨_, rfl⟩; rw [hg] at HF ⊢)
  all_goals clear hF hg
  all_goals (
    have HB0F := Lib.hid (HB0.out.below bF)
    have HB2F := Lib.hid (HB2.out.below bF)
    have HR2F := Lib.hid (HR2.out.below bF)
    have HAF := Lib.hid (HA.out.below bF)
    have hbF := belowThen hb2 bF
    have gl0 := HB0F.out.lt
    have gl2 := HB2F.out.lt
    have glg := HF.out.lt
    obtain ⟨c0, c1, _, _⟩ := HB0F.out.facts
    obtain ⟨x0, x1, _, _⟩ := HB2F.out.facts
    obtain ⟨y0, y1, _, _⟩ := HF.out.facts
    have HK2 := Lib.hid (show ∀ w', Below F.heap.size F w' → w'.cell? ⟨w.heap.size, 0, none⟩ = some (.int .i64 N) ∧ w'.cell? ⟨w.heap.size, 1, none⟩ = some (.slice A n c) ∧ w'.cell? ⟨w2.heap.size, 0, none⟩ = some (.int .i64 N) ∧ w'.cell? ⟨w2.heap.size, 1, none⟩ = some (.slice A2 nc d2) ∧ w'.cell? ⟨g, 0, none⟩ = some (.int .i64 N) ∧ w'.cell? ⟨g, 1, none⟩ = some (.slice A5 nd d5) ∧ Below F.heap.size F w' from fun w' b =>
      ⟨(b.cell (by exact gl0)).trans c0, (b.cell (by exact gl0)).trans c1, (b.cell (by exact gl2)).trans x0, (b.cell (by exact gl2)).trans x1, (b.cell (by exact glg)).trans y0, (b.cell (by exact glg)).trans y1, b⟩)
    have hbd2 : Below F.heap.size F F.drew := (Below.refl _ F).drew
    clear c0 c1 x0 x1 y0 y1
    go_wp2_with fail
    go_region_held3 (fun w' => w'.cell? ⟨w.heap.size, 0, none⟩ = some (.int .i64 N) ∧ w'.cell? ⟨w.heap.size, 1, none⟩ = some (.slice A n c) ∧ w'.cell? ⟨w2.heap.size, 0, none⟩ = some (.int .i64 N) ∧ w'.cell? ⟨w2.heap.size, 1, none⟩ = some (.slice A2 nc d2) ∧ w'.cell? ⟨g, 0, none⟩ = some (.int .i64 N) ∧ w'.cell? ⟨g, 1, none⟩ = some (.slice A5 nd d5) ∧ Below F.heap.size F w')
      (first
        | assumption
        | exact HK2.out _ hbd2
        | exact HK2.out _ (belowThen (‹_ ∧ _ ∧ _ ∧ _ ∧ _ ∧ _ ∧ Below F.heap.size F _›).2.2.2.2.2.2 bk))
      (first
        | (go_at_call 20; refine (HIC.out A2 d2 _ (HR2F.out.below (‹_ ∧ _ ∧ _ ∧ _ ∧ _ ∧ _ ∧ Below F.heap.size F _›).2.2.2.2.2.2)).mono ?_; rintro e w6 ⟨A6, d6, rfl, hr6, bk⟩; rw [ED.out]; have HR6 := Lib.hid hr6; clear hr6; have hx6 := belowThen (‹_ ∧ _ ∧ _ ∧ _ ∧ _ ∧ _ ∧ Below F.heap.size F _›).2.2.2.2.2.2 bk)
        | (go_at_call 13; refine (HSD.out A6 A5 d6 d5 _ ?_ ?_).mono ?_; exact HR6.out; exact HRF.out.below hx6; rintro e w7 ⟨rfl, bk⟩))
    have b7 := (‹_ ∧ _ ∧ _ ∧ _ ∧ _ ∧ _ ∧ Below F.heap.size F w7›).2.2.2.2.2.2
    have HB7 := Lib.hid (HB0F.out.below b7)
    have HA7 := Lib.hid (HAF.out.below b7)
    have hb7 := belowThen hbF b7
    have gl7 := HB7.out.lt
    obtain ⟨c0, c1, _, _⟩ := HB7.out.facts
    have HK3 := Lib.hid (show ∀ w', Below w7.heap.size w7 w' → w'.cell? ⟨w.heap.size, 0, none⟩ = some (.int .i64 N) ∧ w'.cell? ⟨w.heap.size, 1, none⟩ = some (.slice A n c) ∧ Below w7.heap.size w7 w' from fun w' b =>
      ⟨(b.cell (by exact gl7)).trans c0, (b.cell (by exact gl7)).trans c1, b⟩)
    have hbd3 : Below w7.heap.size w7 w7.drew := (Below.refl _ w7).drew
    clear c0 c1
    go_wp2_with fail
    go_region_held3 (fun w' => w'.cell? ⟨w.heap.size, 0, none⟩ = some (.int .i64 N) ∧ w'.cell? ⟨w.heap.size, 1, none⟩ = some (.slice A n c) ∧ Below w7.heap.size w7 w')
      (first
        | assumption
        | exact HK3.out _ hbd3
        | exact HK3.out _ (belowThen (‹_ ∧ _ ∧ Below w7.heap.size w7 _›).2.2 bk))
      (first
        | (go_at_call 20; (with_reducible show Calls _ _ #[.agg #[_, .slice A n c]] _ _); refine (HIA.out A c _ (HA7.out.below (‹_ ∧ _ ∧ Below w7.heap.size w7 _›).2.2)).mono ?_; rintro e w8 ⟨A8, d8, rfl, hr8, bk⟩; rw [EA.out]; have HR8 := Lib.hid hr8; clear hr8)
        | (go_at_call 20; (with_reducible show Calls _ _ #[.agg #[_, .slice A8 na d8]] _ _); refine (HII.out A8 d8 _ HR8.out).mono ?_; rintro e w9 ⟨A9, d9, rfl, hr9, bk⟩; rw [EL.out]; have HR9 := Lib.hid hr9; clear hr9)
        | (go_at_call 14; refine (HNO.out A c _ (HA7.out.below (‹_ ∧ _ ∧ Below w7.heap.size w7 _›).2.2)).mono ?_; rintro e w10 ⟨A10, d10, rfl, hr10, bk⟩; rw [EL.out]; have HR10 := Lib.hid hr10; clear hr10; have HR9 := Lib.hid (HR9.out.below bk))
        | (go_at_call 13; refine (HSL.out A9 A10 d9 d10 _ HR9.out HR10.out).mono ?_; rintro e w11 ⟨rfl, bk⟩)
        | (go_at_call 25; (with_reducible show Calls _ _ #[.agg #[_, .slice A n c]] _ _); refine (HQA.out A c _ (HA7.out.below (‹_ ∧ _ ∧ Below w7.heap.size w7 _›).2.2)).mono ?_; rintro e w12 ⟨rfl, bk⟩)
        | (go_at_call 25; (with_reducible show Calls _ _ #[.agg #[_, .slice A8 na d8]] _ _); refine (HQI.out A8 d8 _ HR8.out).mono ?_; rintro e w13 ⟨rfl, bk⟩)
        | (go_at_call 8; refine (lExample _).mono ?_; rintro e w14 ⟨rfl, bk⟩))
    have hb8 := belowThen hb7 (‹_ ∧ _ ∧ Below w7.heap.size w7 w14›).2.2
    go_wp2
    go_ret
    exact ⟨rfl, hb8⟩)
theorem lawInverse (N M : Int) (l m : Prs) (n k : Nat) (hn : l.length = n) (hk : m.length = k) (A B : Option Addr) (c d : Nat) (w : World) (ha : Rp w A c l) (hb : Rp w B d m) :
    Calls Try.prog 7 #[relV N A n c, relV M B k d] w fun e w' => e = .returned (.bool true) ∧ Below w.heap.size w w' := by
  by_cases h : n ≤ 300 ∧ k ≤ 300 ∧ okR N l = true ∧ okR M m = true ∧ N = M
  · obtain ⟨h1, h2, h3, h4, rfl⟩ := h
    obtain ⟨j, rfl, hj⟩ := okNat h3
    exact lawInverseLong j l m n k hj hn hk h1 h2 h3 h4 A B c d w ha hb
  · exact lawInverseShort N M l m n k hn hk h A B c d w ha hb
end Go.Proofs.Ytpfdhjmhoggioaa
