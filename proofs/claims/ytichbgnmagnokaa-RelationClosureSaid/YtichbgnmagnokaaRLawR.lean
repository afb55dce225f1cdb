/-
  The law RelationReduction: its walk.
-/
import Derived.Test.YtichbgnmagnokaaREx
import Derived.Deep.RegionHeld3
namespace Go.Proofs.Ytichbgnmagnokaa
open Go.RowKit Go.Maps

theorem redCloL {N : Nat} {f : Nat → Nat → Bool} (hac : acyT N (tcT N f)) {LR : Prs} (h : nrm N (redT N (tcT N f)) = LR) : nrm N (tcT N (hasP LR)) = nrm N (tcT N f) :=
  nrmCongr fun a b ha hb => by
    rw [← h, tcCongr (g := redT N (tcT N f)) (fun a b ha hb => hasNrm ha hb) ha hb, redClosure hac ha hb]
theorem redNotIn {n : Nat} {t : Nat → Nat → Bool} {L1 L2 LR : Prs} (h1 : nrm n t = L1) (h2 : nrm n (cmpT n (hasP L1) (hasP L1)) = L2) (h3 : nrm n (redT n t) = LR) {k : Nat} (hk : k < LR.length) : memP L2 LR[k].1 LR[k].2 = false := by
  have hm : (LR[k].1, LR[k].2) ∈ nrm n (redT n t) := by rw [h3]; exact List.getElem_mem hk
  obtain ⟨a, b, e1, e2, ha, hb, h4⟩ := nrmMem.1 hm
  have h5 := (redTab h1 h2 LR[k].1 LR[k].2).2 ⟨a, b, e1, e2, ha, hb, h4⟩
  have h5 : (memP L1 LR[k].1 LR[k].2 && !memP L2 LR[k].1 LR[k].2) = true := h5
  rw [Bool.and_eq_true, Bool.not_eq_true'] at h5
  exact h5.2
theorem cycHas {n : Nat} {l : Prs} {s : Nat} (h : bst n (hasP l) n = some s) : ∃ t : List Nat, cyc n (hasP l) = s :: t ∧ ∃ x : Int, (ni (s :: t))[t.length]? = some x ∧ memP l x s = true := by
  obtain ⟨t, h1, _, _, h4⟩ := cycLast h
  refine ⟨t, h1, _, by rw [ni, List.getElem?_map, List.getElem?_eq_getElem (by simp)]; rfl, ?_⟩
  rw [List.getLast_eq_getElem] at h4
  have h4 : hasP l ((s :: t)[t.length]) s = true := by simpa using h4
  unfold hasP at h4
  unfold memP
  exact h4

set_option maxRecDepth 100000 in
set_option maxHeartbeats 4000000 in
theorem lawReductionShort (N : Int) (l : Prs) (n : Nat) (hn : l.length = n) (h : 300 < n ∨ okR N l = false) (A : Option Addr) (c : Nat) (w : World) (ha : Rp w A c l) :
    Calls Try.prog 8 #[relV N A n c] w fun e w' => e = .returned (.bool true) ∧ Below w.heap.size w w' := by
  obtain ⟨W, hW⟩ : ∃ W, w.alloc (.cells #[.int .i64 N, .slice A n c] 24) = W := ⟨_, rfl⟩
  have HB0 : Hid (BoxR W w.heap.size N (.slice A n c)) := by rw [← hW]; exact Lib.hid (BoxR.new w N _)
  have hbW : Below w.heap.size w W := by rw [← hW]; exact belowAlloc w _
  have HA := Lib.hid (ha.below hbW); clear ha
  have HN := Lib.hid hn; clear hn
  obtain ⟨c0, c1, _, _⟩ := HB0.out.facts
  by_cases hbig : 300 < n
  · have q1 : decide ((n : Int) > 300) = true := decide_eq_true (by omega)
    clear h
    go_enter Try.func8, Try.ntmps8
    go_wp2_with fail
    refine (lExample _).mono ?_
    rintro e w1 ⟨rfl, b1⟩
    go_wp2
    go_ret
    exact ⟨rfl, belowThen hbW b1⟩
  · have HV := Lib.hid (h.resolve_left hbig); clear h
    have q1 : decide ((n : Int) > 300) = false := by simp; omega
    go_enter Try.func8, Try.ntmps8
    go_wp2_with fail
    refine (iValid N l n HN.out false HV.out A c _ HA.out).mono ?_
    rintro e w0 ⟨rfl, b0⟩
    go_wp2_with fail
    refine (lExample _).mono ?_
    rintro e w1 ⟨rfl, b1⟩
    go_wp2
    go_ret
    exact ⟨rfl, belowThen (belowThen hbW b0) b1⟩

set_option maxRecDepth 100000 in
set_option maxHeartbeats 4000000 in
theorem lawReductionCyc (N : Nat) (l : Prs) (n : Nat) (hN : N ≤ 64) (hn : l.length = n) (hs : ¬ 300 < n) (hv : okR N l = true) (hc : acyR N l = false) (A : Option Addr) (c : Nat) (w : World) (ha : Rp w A c l) :
    Calls Try.prog 8 #[relV N A n c] w fun e w' => e = .returned (.bool true) ∧ Below w.heap.size w w' := by
  obtain ⟨W, hW⟩ : ∃ W, w.alloc (.cells #[.int .i64 N, .slice A n c] 24) = W := ⟨_, rfl⟩
  have HB0 : Hid (BoxR W w.heap.size N (.slice A n c)) := by rw [← hW]; exact Lib.hid (BoxR.new w N _)
  have hbW : Below w.heap.size w W := by rw [← hW]; exact belowAlloc w _
  have HA := Lib.hid (ha.below hbW); clear ha
  have HN := Lib.hid hn; clear hn
  have e2 : acyB N (hasP l) = false := by
    unfold acyR at hc
    rw [hv] at hc
    simpa using hc
  obtain ⟨s, hs1⟩ : ∃ s, bst N (hasP l) N = some s := by
    cases e : bst N (hasP l) N with
    | none => rw [acyIff.2 (bstAcy.1 e)] at e2; cases e2
    | some s => exact ⟨s, rfl⟩
  obtain ⟨t, ht, x, hx, hm⟩ := cycHas hs1
  have HCY := Lib.hid (iCycleYes N hN l n HN.out (by omega) hv _ rfl)
  rw [ht, e2] at HCY
  have HHAS := Lib.hid (show hasR N l x s = true by unfold hasR; rw [hv, hm]; rfl)
  obtain ⟨m, hm1⟩ : ∃ m, t.length = m := ⟨_, rfl⟩
  have hk : (ni (s :: t)).length = m + 1 := by rw [← hm1]; simp [ni]
  have HK := Lib.hid hk
  rw [hm1] at hx
  have HX := Lib.hid hx
  have HV := Lib.hid hv
  have HC := Lib.hid hc
  have q1 : decide ((n : Int) > 300) = false := by simp; omega
  clear hv hc e2 hs1 ht hx hm hk
  obtain ⟨c0, c1, _, _⟩ := HB0.out.facts
  go_enter Try.func8, Try.ntmps8
  go_wp2_with fail
  refine (iValid N l n HN.out true HV.out A c _ HA.out).mono ?_
  rintro e w1 ⟨rfl, b1⟩
  have HB0 := Lib.hid (HB0.out.below b1)
  have HA := Lib.hid (HA.out.below b1)
  have hb1 := belowThen hbW b1
  obtain ⟨c0, c1, _, _⟩ := HB0.out.facts
  go_wp2_with fail
  refine (iReductionCycle N l n HN.out (by omega) HV.out HC.out A c _ HA.out).mono ?_
  rintro e w2 ⟨A2, d2, rfl, _, b2⟩
  obtain ⟨X, hX⟩ : ∃ X, w2.alloc (.cells #[.int .i64 0, .slice A2 0 d2] 24) = X := ⟨_, rfl⟩
  have bX : Below w2.heap.size w2 X := by rw [← hX]; exact belowAlloc _ _
  have HB0 := Lib.hid ((HB0.out.below b2).below bX)
  have HA := Lib.hid ((HA.out.below b2).below bX)
  have hb2 := belowThen (belowThen hb1 b2) bX
  obtain ⟨c0, c1, _, _⟩ := HB0.out.facts
  go_wp2_with fail
  refine (HCY.out A c _ HA.out).mono ?_
  rintro e w3 ⟨A3, d3, rfl, hr3, b3⟩
  rw [HK.out]
  have HB0 := Lib.hid (HB0.out.below b3)
  have HA := Lib.hid (HA.out.below b3)
  have hb3 := belowThen hb2 b3
  obtain ⟨c0, c1, _, _⟩ := HB0.out.facts
  have hle := hr3.le
  have hmx := Rd.max hr3
  unfold maxLen at hmx
  rw [HK.out] at hle
  obtain ⟨ad, rfl, hlt, hl0⟩ := hr3.one (k := 0) (by rw [HK.out]; omega)
  obtain ⟨ad', e, _, hl1⟩ := hr3.one (k := m) (by rw [HK.out]; omega)
  injection e with e
  subst e
  have h0 : (ni (s :: t))[0]'(by rw [HK.out]; omega) = (s : Int) := by simp [ni]
  have h1 : (ni (s :: t))[m]'(by rw [HK.out]; omega) = x := (List.getElem?_eq_some_iff.1 HX.out).2
  rw [h0] at hl0
  rw [h1] at hl1
  rw [show ad.add 0 = ad by unfold Addr.add; rfl] at hl0
  clear h0 h1 hr3
  have hmle : m + 1 ≤ 9223372036854775807 := by omega
  have HKP := Lib.hid (show ∀ w', Below w3.heap.size w3 w' → w'.cell? ⟨w.heap.size, 0, none⟩ = some (.int .i64 N) ∧ w'.cell? ⟨w.heap.size, 1, none⟩ = some (.slice A n c) ∧ w'.cell? ad = some (.int .i64 s) ∧ w'.cell? (ad.add m) = some (.int .i64 x) ∧ Below w3.heap.size w3 w' from fun w' b =>
    ⟨(b.cell (by exact HB0.out.lt)).trans c0, (b.cell (by exact HB0.out.lt)).trans c1, (b.cell hlt).trans hl0, (b.cell (by rw [addBlock]; exact hlt)).trans hl1, b⟩)
  have hw1 : IntKind.i64.wrap (((m + 1 : Nat) : Int) - 1) = (m : Int) := by rw [IntKind.wrap_i64]; omega
  have hw2 : IntKind.i64.wrap ((m : Int) + 1 - 1) = (m : Int) := by rw [IntKind.wrap_i64]; omega
  have hw3 : IntKind.i64.wrap (m : Int) = (m : Int) := by rw [IntKind.wrap_i64]; omega
  have hi1 : (0 : Int) ≤ (m : Int) := by omega
  have hi2 : (m : Int) < (m : Int) + 1 := by omega
  have hi3 : (0 : Int) < (m : Int) + 1 := by omega
  have hi4 : m < m + 1 := by omega
  have hi5 : decide ((m : Int) + 1 > 0) = true := decide_eq_true (by omega)
  have hbd : Below w3.heap.size w3 w3.drew := (Below.refl _ w3).drew
  clear c0 c1 hl0 hl1
  go_wp2_with fail
  go_region_held3 (fun w' => w'.cell? ⟨w.heap.size, 0, none⟩ = some (.int .i64 N) ∧ w'.cell? ⟨w.heap.size, 1, none⟩ = some (.slice A n c) ∧ w'.cell? ad = some (.int .i64 s) ∧ w'.cell? (ad.add m) = some (.int .i64 x) ∧ Below w3.heap.size w3 w')
    (first
      | assumption
      | exact HKP.out _ hbd
      | exact HKP.out _ (belowThen (‹_ ∧ _ ∧ _ ∧ _ ∧ Below w3.heap.size w3 _›).2.2.2.2 bk))
    (first
      | (go_at_call 13; refine (iHas N l n HN.out x s A c _ (HA.out.below (‹_ ∧ _ ∧ _ ∧ _ ∧ Below w3.heap.size w3 _›).2.2.2.2)).mono ?_; rintro e w4 ⟨rfl, bk⟩; rw [HHAS.out])
      | (go_at_call 10; refine (lExample _).mono ?_; rintro e w5 ⟨rfl, bk⟩))
  have hb5 := belowThen hb3 (‹_ ∧ _ ∧ _ ∧ _ ∧ Below w3.heap.size w3 w5›).2.2.2.2
  go_wp2
  go_ret
  exact ⟨rfl, hb5⟩

set_option maxRecDepth 100000 in
set_option maxHeartbeats 4000000 in
theorem lawReductionAcy (N : Nat) (l : Prs) (n : Nat) (hN : N ≤ 64) (hn : l.length = n) (hs : ¬ 300 < n) (hv : okR N l = true) (hc : acyR N l = true) (A : Option Addr) (c : Nat) (w : World) (ha : Rp w A c l) :
    Calls Try.prog 8 #[relV N A n c] w fun e w' => e = .returned (.bool true) ∧ Below w.heap.size w w' := by
  obtain ⟨W, hW⟩ : ∃ W, w.alloc (.cells #[.int .i64 N, .slice A n c] 24) = W := ⟨_, rfl⟩
  have HB0 : Hid (BoxR W w.heap.size N (.slice A n c)) := by rw [← hW]; exact Lib.hid (BoxR.new w N _)
  have hbW : Below w.heap.size w W := by rw [← hW]; exact belowAlloc w _
  have HA := Lib.hid (ha.below hbW); clear ha
  have HN := Lib.hid hn; clear hn
  obtain ⟨f, hf⟩ : ∃ f, hasP l = f := ⟨_, rfl⟩
  have e1 : acyB N f = true := by
    unfold acyR at hc
    rw [hv, hf] at hc
    simpa using hc
  have hac := acyIff.1 e1
  have e2 : cyc N f = [] := by unfold cyc; rw [bstAcy.2 hac]
  have HCY := Lib.hid (iCycleYes N hN l n HN.out (by omega) hv f hf)
  rw [e2, e1] at HCY
  obtain ⟨LR, h3⟩ : ∃ L, nrm N (redT N (tcT N f)) = L := ⟨_, rfl⟩
  obtain ⟨L1, h1⟩ : ∃ L, nrm N (tcT N f) = L := ⟨_, rfl⟩
  obtain ⟨L2, h2⟩ : ∃ L, nrm N (cmpT N (hasP L1) (hasP L1)) = L := ⟨_, rfl⟩
  have HRE := Lib.hid (iReductionYes N l n hN HN.out (by omega) hv hc LR (by rw [hf]; exact h3))
  have hNN : N * N ≤ 64 * 64 := Nat.mul_le_mul hN hN
  have hlr : LR.length ≤ 4096 := by have := lenNrm N (redT N (tcT N f)); rw [h3] at this; omega
  have hl1 : L1.length ≤ 4096 := by have := lenNrm N (tcT N f); rw [h1] at this; omega
  have hl2 : L2.length ≤ 4096 := by have := lenNrm N (cmpT N (hasP L1) (hasP L1)); rw [h2] at this; omega
  have ho1 : okR N L1 = true := by rw [← h1]; exact okNrm hN _
  have hoR : okR N LR = true := by rw [← h3]; exact okNrm hN _
  have ho2 : okR N L2 = true := by rw [← h2]; exact okNrm hN _
  have HCL := Lib.hid (iClosure N l n HN.out (by omega))
  rw [show nrmN N l = N by unfold nrmN; rw [hv]; rfl, show cloL N l = L1 by unfold cloL; rw [hv, hf, ← h1]; rfl] at HCL
  obtain ⟨kR, hkR⟩ : ∃ k, LR.length = k := ⟨_, rfl⟩
  obtain ⟨k1, hk1⟩ : ∃ k, L1.length = k := ⟨_, rfl⟩
  obtain ⟨k2, hk2⟩ : ∃ k, L2.length = k := ⟨_, rfl⟩
  rw [hkR] at hlr
  rw [hk1] at hl1
  rw [hk2] at hl2
  have HCR := Lib.hid (iClosure N LR kR hkR (by omega))
  rw [show nrmN N LR = N by unfold nrmN; rw [hoR]; rfl, show cloL N LR = L1 by unfold cloL; rw [hoR, ← h1]; exact redCloL hac h3] at HCR
  have HCO := Lib.hid (iComposeYes N L1 L1 k1 k1 hN hk1 hk1 ho1 ho1 L2 h2 (by omega) (by omega))
  have HSA := Lib.hid (lSame N N L1 L1 k1 k1 hk1 hk1 true (by rw [sameIff]; exact ⟨rfl, rfl⟩) (by omega))
  have HNO := Lib.hid (show ∀ k (h : k < LR.length), hasR N L2 LR[k].1 LR[k].2 = false from fun k h => by unfold hasR; rw [redNotIn h1 h2 h3 h]; simp)
  have HHA := Lib.hid (fun x y => iHas N L2 k2 hk2 x y)
  have HKR := Lib.hid hkR
  have HK1 := Lib.hid hk1
  have HK2 := Lib.hid hk2
  have HV := Lib.hid hv
  have q1 : decide ((n : Int) > 300) = false := by simp; omega
  clear hv hc hf e1 hac e2 h1 h2 h3 hNN ho1 hoR ho2 hkR hk1 hk2
  obtain ⟨c0, c1, _, _⟩ := HB0.out.facts
  go_enter Try.func8, Try.ntmps8
  go_wp2_with fail
  refine (iValid N l n HN.out true HV.out A c _ HA.out).mono ?_
  rintro e w1 ⟨rfl, b1⟩
  have HB0 := Lib.hid (HB0.out.below b1)
  have HA := Lib.hid (HA.out.below b1)
  have hb1 := belowThen hbW b1
  obtain ⟨c0, c1, _, _⟩ := HB0.out.facts
  go_wp2_with fail
  refine (HRE.out A c _ HA.out).mono ?_
  rintro e w2 ⟨A2, d2, rfl, hr2, b2⟩
  rw [HKR.out]
  obtain ⟨X, hX⟩ : ∃ X, w2.alloc (.cells #[.int .i64 N, .slice A2 kR d2] 24) = X := ⟨_, rfl⟩
  have bX : Below w2.heap.size w2 X := by rw [← hX]; exact belowAlloc _ _
  have HB2 : Hid (BoxR X w2.heap.size N (.slice A2 kR d2)) := by rw [← hX]; exact Lib.hid (BoxR.new w2 N _)
  have HR2 := Lib.hid (hr2.below bX); clear hr2
  have HB0 := Lib.hid ((HB0.out.below b2).below bX)
  have HA := Lib.hid ((HA.out.below b2).below bX)
  have hb2 := belowThen (belowThen hb1 b2) bX
  obtain ⟨c0, c1, _, _⟩ := HB0.out.facts
  go_wp2_with fail
  refine (HCY.out A c _ HA.out).mono ?_
  rintro e w3 ⟨A3, d3, rfl, _, b3⟩
  have HB0 := Lib.hid (HB0.out.below b3)
  have HB2 := Lib.hid (HB2.out.below b3)
  have HR2 := Lib.hid (HR2.out.below b3)
  have HA := Lib.hid (HA.out.below b3)
  have hb3 := belowThen hb2 b3
  obtain ⟨c0, c1, _, _⟩ := HB0.out.facts
  go_wp2_with fail
  refine (HCL.out A c _ HA.out).mono ?_
  rintro e w4 ⟨A4, d4, rfl, hr4, b4⟩
  rw [HK1.out]
  obtain ⟨Y, hY⟩ : ∃ Y, w4.alloc (.cells #[.int .i64 N, .slice A4 k1 d4] 24) = Y := ⟨_, rfl⟩
  have bY : Below w4.heap.size w4 Y := by rw [← hY]; exact belowAlloc _ _
  have HB4 : Hid (BoxR Y w4.heap.size N (.slice A4 k1 d4)) := by rw [← hY]; exact Lib.hid (BoxR.new w4 N _)
  have HR4 := Lib.hid (hr4.below bY); clear hr4
  have HB2 := Lib.hid ((HB2.out.below b4).below bY)
  have HR2 := Lib.hid ((HR2.out.below b4).below bY)
  have hb4 := belowThen (belowThen hb3 b4) bY
  obtain ⟨c0, c1, _, _⟩ := HB4.out.facts
  go_wp2_with fail
  refine (HCO.out A4 A4 d4 d4 _ HR4.out HR4.out).mono ?_
  rintro e w5 ⟨A5, d5, rfl, hr5, b5⟩
  rw [HK2.out]
  obtain ⟨Z, hZ⟩ : ∃ Z, w5.alloc (.cells #[.int .i64 N, .slice A5 k2 d5] 24) = Z := ⟨_, rfl⟩
  have bZ : Below w5.heap.size w5 Z := by rw [← hZ]; exact belowAlloc _ _
  have HB5 : Hid (BoxR Z w5.heap.size N (.slice A5 k2 d5)) := by rw [← hZ]; exact Lib.hid (BoxR.new w5 N _)
  have HR5 := Lib.hid (hr5.below bZ); clear hr5
  have HB4 := Lib.hid ((HB4.out.below b5).below bZ)
  have HR4 := Lib.hid ((HR4.out.below b5).below bZ)
  have HB2 := Lib.hid ((HB2.out.below b5).below bZ)
  have HR2 := Lib.hid ((HR2.out.below b5).below bZ)
  have hb5 := belowThen (belowThen hb4 b5) bZ
  have hl2b := HB2.out.lt
  have hl4b := HB4.out.lt
  obtain ⟨x0, x1, _, _⟩ := HB2.out.facts
  obtain ⟨y0, y1, _, _⟩ := HB4.out.facts
  have HKP := Lib.hid (show ∀ w', Below Z.heap.size Z w' → w'.cell? ⟨w2.heap.size, 0, none⟩ = some (.int .i64 N) ∧ w'.cell? ⟨w2.heap.size, 1, none⟩ = some (.slice A2 kR d2) ∧ w'.cell? ⟨w4.heap.size, 0, none⟩ = some (.int .i64 N) ∧ w'.cell? ⟨w4.heap.size, 1, none⟩ = some (.slice A4 k1 d4) ∧ Below Z.heap.size Z w' from fun w' b =>
    ⟨(b.cell (by exact hl2b)).trans x0, (b.cell (by exact hl2b)).trans x1, (b.cell (by exact hl4b)).trans y0, (b.cell (by exact hl4b)).trans y1, b⟩)
  have hbd : Below Z.heap.size Z Z.drew := (Below.refl _ Z).drew
  clear c0 c1 x0 x1 y0 y1
  go_wp2_with fail
  go_region_held3 (fun w' => w'.cell? ⟨w2.heap.size, 0, none⟩ = some (.int .i64 N) ∧ w'.cell? ⟨w2.heap.size, 1, none⟩ = some (.slice A2 kR d2) ∧ w'.cell? ⟨w4.heap.size, 0, none⟩ = some (.int .i64 N) ∧ w'.cell? ⟨w4.heap.size, 1, none⟩ = some (.slice A4 k1 d4) ∧ Below Z.heap.size Z w')
    (first
      | assumption
      | exact HKP.out _ hbd
      | exact HKP.out _ (belowThen (‹_ ∧ _ ∧ _ ∧ _ ∧ Below Z.heap.size Z _›).2.2.2.2 bk))
    (first
      | (go_at_call 29; refine (HCR.out A2 d2 _ (HR2.out.below (‹_ ∧ _ ∧ _ ∧ _ ∧ Below Z.heap.size Z _›).2.2.2.2)).mono ?_; rintro e w6 ⟨A6, d6, rfl, hr6, bk⟩; rw [HK1.out]; have HR6 := Lib.hid hr6; clear hr6)
      | (go_at_call 15; refine (HSA.out A6 A4 d6 d4 _ HR6.out (HR4.out.below (‹_ ∧ _ ∧ _ ∧ _ ∧ Below Z.heap.size Z _›).2.2.2.2)).mono ?_; rintro e w7 ⟨rfl, bk⟩))
  have hbz7 := (‹_ ∧ _ ∧ _ ∧ _ ∧ Below Z.heap.size Z w7›).2.2.2.2
  obtain ⟨x0, x1, _, _⟩ := (HB2.out.below hbz7).facts
  have hle2 := HR2.out.le
  have hmx2 := HR2.out.max
  unfold maxLen at hmx2
  rw [HKR.out] at hle2
  go_wp2
  go_loopw [80] (fun v wr => ∃ i : Nat, i ≤ kR ∧ v = .int .i64 i ∧ Below Z.heap.size Z wr) (fun v _ => kR - (intOf v).toNat)
  case atStart => exact ⟨0, Nat.zero_le _, rfl, hbz7⟩
  case round =>
    clear hbz7 x0 x1
    obtain ⟨i, hi, rfl, hb⟩ := hrel
    by_cases hlt : i < kR
    · have hil : i < LR.length := by rw [HKR.out]; exact hlt
      obtain ⟨p, off, rfl, _, h1, h2⟩ := (HR2.out.below hb).one hil
      have HNI := Lib.hid (HNO.out i hil)
      generalize LR[i].1 = x at *
      generalize LR[i].2 = y at *
      obtain ⟨V, hV⟩ : ∃ V, wr.alloc (.cells #[.int .i64 x, .int .i64 y] 38) = V := ⟨_, rfl⟩
      have bV : Below wr.heap.size wr V := by rw [← hV]; exact belowAlloc _ _
      have p0 : V.cell? ⟨wr.heap.size, 0, none⟩ = some (.int .i64 x) := by rw [← hV]; simp
      have p1 : V.cell? ⟨wr.heap.size, 1, none⟩ = some (.int .i64 y) := by rw [← hV]; simp
      have hbV := belowThen hb bV
      obtain ⟨z0, z1, _, _⟩ := (HB5.out.below hbV).facts
      have HRV := Lib.hid (HR5.out.below hbV)
      go_wp2_with fail
      refine (HHA.out x y A5 d5 _ HRV.out).mono ?_
      rintro e w8 ⟨rfl, b8⟩
      rw [HNI.out]
      have hb8 := belowThen hbV b8
      go_wp2
      go_roundw
      case rel => exact ⟨i + 1, by omega, by go_num, hb8⟩
      case measure => simp [intOf]; omega
    · go_wp2_with fail
      refine (lExample _).mono ?_
      rintro e w8 ⟨rfl, b8⟩
      have hb8 := belowThen hb5 (belowThen hb b8)
      go_wp2
      go_ret
      exact ⟨rfl, hb8⟩
theorem lawReduction (N : Int) (l : Prs) (n : Nat) (hn : l.length = n) (A : Option Addr) (c : Nat) (w : World) (ha : Rp w A c l) :
    Calls Try.prog 8 #[relV N A n c] w fun e w' => e = .returned (.bool true) ∧ Below w.heap.size w w' := by
  by_cases hs : 300 < n
  · exact lawReductionShort N l n hn (.inl hs) A c w ha
  cases hv : okR N l
  · exact lawReductionShort N l n hn (.inr hv) A c w ha
  obtain ⟨K, rfl, hK⟩ := okNat hv
  cases hc : acyR K l
  · exact lawReductionCyc K l n hK hn hs hv hc A c w ha
  · exact lawReductionAcy K l n hK hn hs hv hc A c w ha
end Go.Proofs.Ytichbgnmagnokaa
