/-
  The law AwaitPattern returns true for every program, any registers and any value, where the tables are laid.
-/
import Derived.Test.YtebpnnakcodjdaaDoorZApM
import Derived.Deep.RegionHeld3
import Derived.Deep.CutRange
import Derived.Deep.LoopGhost
namespace Go.Proofs.YtebpnnakcodjdaaDoor
open Go Go.RowKit

/-- The registers, those below k wrapped. -/
def wrK (R : Int → Int) (k : Nat) (x : Int) : Int := if 0 ≤ x ∧ x < k then wrap32 (R x) else R x
theorem wrK0 (R : Int → Int) : wrK R 0 = R := funext fun x => by unfold wrK; rw [if_neg (by omega)]
theorem wrKS (R : Int → Int) (k : Nat) : setR (wrK R k) (k : Int) (wrap32 (wrK R k k)) = wrK R (k + 1) := funext fun x => by
  unfold setR wrK
  by_cases h : x = (k : Int)
  · rw [if_pos h, if_neg (by omega), if_pos (by omega), h]
  · rw [if_neg h]
    by_cases g : 0 ≤ x ∧ x < (k : Int)
    · rw [if_pos g, if_pos (by omega)]
    · rw [if_neg g, if_neg (by omega)]
/-- What lies in memory while the registers are wrapped. -/
structure RgSt (w : World) (a : PgA) (R : Int → Int) (X : World) : Prop where
  bel : Below w.heap.size w X
  pb : PBox X w.heap.size a
  rg : Blk X (w.heap.size + 1) 28 (rgA R)
theorem RgSt.put {w X : World} {a : PgA} {R : Int → Int} (h : RgSt w a R X) {k : Nat} (hk : k < 8) (v : Int) : RgSt w a (setR R (k : Int) v) (X.setCell ⟨w.heap.size + 1, k, none⟩ (.int .i64 v)) :=
  ⟨h.bel.setCell (Nat.le_succ _) _, Blk.other h.pb (show w.heap.size ≠ w.heap.size + 1 by omega) _ _, by have := h.rg.set k (.int .i64 v); rwa [rgAPut R hk] at this⟩
theorem RgSt.below {w X Y : World} {a : PgA} {R : Int → Int} (h : RgSt w a R X) (hb : Below X.heap.size X Y) : RgSt w a R Y := ⟨belowThen h.bel hb, h.pb.below hb, h.rg.below' hb⟩
theorem two7 (W : World) (o1 o2 : Obj) {Z : World} (hZ : (W.alloc o1).alloc o2 = Z) : Z.heap[W.heap.size]? = some o1 ∧ Z.heap[W.heap.size + 1]? = some o2 ∧ Below W.heap.size W Z := by
  subst hZ
  refine ⟨((belowAlloc (W.alloc o1) o2).block W.heap.size (by simp)).trans (World.alloc_heap_new W o1), ?_, belowThen (belowAlloc _ _) (belowAlloc _ _)⟩
  have h := World.alloc_heap_new (W.alloc o1) o2
  rwa [World.size_alloc] at h
theorem three7 (W : World) (o1 o2 o3 : Obj) : (((W.alloc o1).alloc o2).alloc o3).heap[W.heap.size]? = some o1 ∧ (((W.alloc o1).alloc o2).alloc o3).heap[W.heap.size + 1]? = some o2 ∧ (((W.alloc o1).alloc o2).alloc o3).heap[W.heap.size + 1 + 1]? = some o3 ∧ Below W.heap.size W (((W.alloc o1).alloc o2).alloc o3) := by
  have new : ∀ (X : World) (o : Obj) (k : Nat), X.heap.size = k → (X.alloc o).heap[k]? = some o := fun X o k h => h ▸ World.alloc_heap_new X o
  have old : ∀ (X : World) (o o' : Obj) (k : Nat), X.heap[k]? = some o' → (X.alloc o).heap[k]? = some o' := fun X o o' k h => ((belowAlloc X o).block k (Array.getElem?_eq_some_iff.1 h).1).trans h
  exact ⟨old _ _ _ _ (old _ _ _ _ (new _ _ _ rfl)), old _ _ _ _ (new _ _ _ (by simp)), new _ _ _ (by simp), belowThen (belowThen (belowAlloc _ _) (belowAlloc _ _)) (belowAlloc _ _)⟩
/-- Two arrays of registers of the round's own. -/
structure ArrSt (w0 : World) (pa pc : Nat) (Ra Rb : Int → Int) (X : World) : Prop where
  bel : Below w0.heap.size w0 X
  a : Blk X pa 28 (rgA Ra)
  c : Blk X pc 28 (rgA Rb)
  lb : w0.heap.size ≤ pa
  lc : w0.heap.size ≤ pc
  ne : pa ≠ pc
theorem ArrSt.below {w0 X Y : World} {b c : Nat} {Ra Rb : Int → Int} (h : ArrSt w0 b c Ra Rb X) (hb : Below X.heap.size X Y) : ArrSt w0 b c Ra Rb Y := ⟨belowThen h.bel hb, h.a.below' hb, h.c.below' hb, h.lb, h.lc, h.ne⟩
theorem ArrSt.putA {w0 X : World} {b c : Nat} {Ra Rb : Int → Int} (h : ArrSt w0 b c Ra Rb X) {k : Nat} (hk : k < 8) (v : Int) : ArrSt w0 b c (setR Ra (k : Int) v) Rb (X.setCell ⟨b, k, none⟩ (.int .i64 v)) :=
  ⟨h.bel.setCell h.lb _, by have := h.a.set k (.int .i64 v); rwa [rgAPut Ra hk] at this, h.c.other h.ne.symm _ _, h.lb, h.lc, h.ne⟩
theorem ArrSt.putC {w0 X : World} {b c : Nat} {Ra Rb : Int → Int} (h : ArrSt w0 b c Ra Rb X) {k : Nat} (hk : k < 8) (v : Int) : ArrSt w0 b c Ra (setR Rb (k : Int) v) (X.setCell ⟨c, k, none⟩ (.int .i64 v)) :=
  ⟨h.bel.setCell h.lc _, h.a.other h.ne _ _, by have := h.c.set k (.int .i64 v); rwa [rgAPut Rb hk] at this, h.lb, h.lc, h.ne⟩
theorem arrNew (W : World) (Ra Rb : Int → Int) : ArrSt W W.heap.size (W.heap.size + 1) Ra Rb ((W.alloc (.cells (rgA Ra) 28)).alloc (.cells (rgA Rb) 28)).drew := by
  obtain ⟨h1, h2, hb⟩ := two7 W (.cells (rgA Ra) 28) (.cells (rgA Rb) 28) rfl
  exact ⟨hb.drew, h1, h2, Nat.le_refl _, by omega, by omega⟩
theorem arrNew2 (W : World) (Ra Rb : Int → Int) : ArrSt W (W.heap.size + 1) W.heap.size Ra Rb ((W.alloc (.cells (rgA Rb) 28)).alloc (.cells (rgA Ra) 28)).drew := by
  obtain ⟨h1, h2, hb⟩ := two7 W (.cells (rgA Rb) 28) (.cells (rgA Ra) 28) rfl
  exact ⟨hb.drew, h2, h1, by omega, Nat.le_refl _, by omega⟩
theorem rgCell {X : World} {b : Nat} {T : TypeId} {R : Int → Int} (h : Blk X b T (rgA R)) {r : Nat} (hr : r < 8) : X.cell? ⟨b, r, none⟩ = some (.int .i64 (R (r : Int))) := (h.cell r).trans (rgAAt R hr)
theorem icCell {X : World} {b off : Nat} {i : I8} (h : EI X b off i) : X.cell? ⟨b, off, none⟩ = some (.int .i64 i.op) ∧ X.cell? ⟨b, off + 1, none⟩ = some (.int .i64 i.a) ∧ X.cell? ⟨b, off + 2, none⟩ = some (.int .i64 i.b) ∧ X.cell? ⟨b, off + 3, none⟩ = some (.int .i64 i.c) ∧ X.cell? ⟨b, off + 4, none⟩ = some (.int .i64 i.obj) ∧ X.cell? ⟨b, off + 5, none⟩ = some (.int .i64 i.n) ∧ X.cell? ⟨b, off + 6, none⟩ = some (.int .i64 i.fn) ∧ X.cell? ⟨b, off + 7, none⟩ = some (.int .i64 i.ord) := ⟨h.c0, h.c1, h.c2, h.c3, h.c4, h.c5, h.c6, h.c7⟩
theorem rApplyLaw (f a b : Int) (w : World) : Calls Tryd.prog 10 #[.int .i64 f, .int .i64 a, .int .i64 b] w fun e w' => e = .returned (.int .i64 (opI f a b)) ∧ Below w.heap.size w w' := by
  have HA := Lib.hid (rApply f a b w)
  go_enter Tryd.func10, Tryd.ntmps10
  go_wp2_with fail
  refine HA.out.mono ?_
  rintro e w1 ⟨rfl, b1⟩
  go_wp2
  go_ret
  exact ⟨rfl, b1⟩
set_option maxRecDepth 100000 in
set_option maxHeartbeats 40000000 in
theorem lawPattern {a : PgA} {p : Prg} (R0 : Int → Int) (v0 : Int) (w : World) (hP : PgW w a p) (hWf : p.Wf) (hL : Laid7 w) : Calls Tryd.prog 3 #[a.val, .agg (rgA R0), .int .i64 v0] w (LawOkA w) := by
  obtain ⟨W, hW⟩ : ∃ W, (w.alloc (.cells a.fs 27)).alloc (.cells #[.int .i64 (R0 0), .int .i64 (R0 1), .int .i64 (R0 2), .int .i64 (R0 3), .int .i64 (R0 4), .int .i64 (R0 5), .int .i64 (R0 6), .int .i64 (R0 7)] 28) = W := ⟨_, rfl⟩
  obtain ⟨h1, h2, hbW⟩ := two7 w _ _ hW
  have hk1 : PBox W w.heap.size a := h1
  have HR0 := Lib.hid (show RgSt w a (wrK R0 0) W from ⟨hbW, hk1, by rw [wrK0]; exact h2⟩)
  have HW := Lib.hid hW
  have HBW := Lib.hid hbW
  have HPW := Lib.hid (fun X (hX : Below w.heap.size w X) => hP.below hX)
  have HK0 := Lib.hid hk1.facts
  have H1 := Lib.hid (rSmall W (hP.below hbW))
  have HV1 := Lib.hid (fun (hs : p.small = true) X (hX : Below w.heap.size w X) => rValidP X (hP.below hX) hWf hs)
  have HK := Lib.hid (fun X (hX : Below W.heap.size W X) => (hk1.below hX).facts)
  have HLV := Lib.hid (fun X (hX : Below w.heap.size w X) => aLives X (hL.below hX))
  have HFI := Lib.hid (fun (hs : p.small = true) X (hX : Below w.heap.size w X) => iFind X (hP.below hX) hWf hs (hL.below hX).ins (hL.below hX).nm)
  have HRW := Lib.hid (fun (hs : p.small = true) X (hX : Below w.heap.size w X) => iRewrite X (hP.below hX) hWf hs (hL.below hX).ins (hL.below hX).nm)
  have HSH := Lib.hid (fun (hs : p.small = true) => fewOf hs)
  have HL4 := Lib.hid hP.l4
  have hle4 := hP.funcs.le
  have hmx4 := hP.funcs.max
  rw [hP.l4] at hle4
  unfold maxLen at hmx4
  unfold GivesN at HFI
  unfold GivesRw at HRW
  unfold rgA
  clear hP hL hWf hW hbW h1 h2 hk1
  obtain ⟨A1, n1, c1, A2, n2, c2, A3, n3, c3, A4, n4, c4, A5, n5, c5⟩ := a
  simp only [PgA.val, PgA.fs] at *
  obtain ⟨f0, f1, f2, f3, f4⟩ := HK0.out
  try simp only at f0 f1 f2 f3 f4
  clear HK0
  go_enter Tryd.func3, Tryd.ntmps3
  go_upto_region 1 with fail
  rw [HW.out]
  go_wp2_with fail
  refine H1.out.mono ?_
  rintro e w1 ⟨rfl, b1⟩
  have HB1 := Lib.hid b1
  clear f0 f1 f2 f3 f4
  cases hsm : p.small
  · have HX1 := Lib.hid (HLV.out w1 (belowThen HBW.out b1))
    clear b1 hsm
    go_wp2_with fail
    refine HX1.out.mono ?_
    rintro e w2 ⟨rfl, b2⟩
    go_wp2
    go_ret
    exact ⟨rfl, belowThen HBW.out (belowThen HB1.out b2)⟩
  have HSM := Lib.hid hsm
  have HV2 := Lib.hid (HV1.out hsm w1 (belowThen HBW.out b1))
  obtain ⟨f0, f1, f2, f3, f4⟩ := HK.out w1 b1
  try simp only at f0 f1 f2 f3 f4
  obtain ⟨r, hr⟩ : ∃ r, p.okB = r := ⟨_, rfl⟩
  rw [hr] at HV2
  have HOK := Lib.hid hr
  clear b1 hsm hr
  go_wp2_with fail
  refine HV2.out.mono ?_
  rintro e w2 ⟨rfl, b2⟩
  have HB2 := Lib.hid (belowThen HB1.out b2)
  clear b2 f0 f1 f2 f3 f4
  cases r
  · have HX1 := Lib.hid (HLV.out w2 (belowThen HBW.out HB2.out))
    go_wp2_with fail
    refine HX1.out.mono ?_
    rintro e w3 ⟨rfl, b3⟩
    go_wp2
    go_ret
    exact ⟨rfl, belowThen HBW.out (belowThen HB2.out b3)⟩
  have HCZ : Hid (p.chk.1 = 0) := Lib.hid (of_decide_eq_true HOK.out)
  have HR2 := Lib.hid (HR0.out.below HB2.out)
  clear HR0
  go_wp2_with fail
  refine (rWrap _ _).mono ?_
  rintro e w3 ⟨rfl, rfl⟩
  obtain ⟨v, hv⟩ : ∃ v, wrap32 v0 = v := ⟨_, rfl⟩
  rw [hv]
  clear hv
  go_wp2_with fail
  go_loopg [7] 8 (fun g i X => ∃ k : Nat, k + g = 8 ∧ i = .int .i64 k ∧ Hid (RgSt w ⟨A1, n1, c1, A2, n2, c2, A3, n3, c3, A4, n4, c4, A5, n5, c5⟩ (wrK R0 k) X))
  case atStart => exact ⟨0, by omega, rfl, HR2⟩
  case round =>
  clear HR2
  obtain ⟨k, hk, rfl, HRS⟩ := hrel
  cases gk with
  | succ g2 =>
    have hk0 : (0 : Int) ≤ k := by omega
    have hk1 : (k : Int) < 8 := by omega
    have hk8 : k < 8 := by omega
    have c0 := rgCell HRS.out.rg hk8
    have fz := HRS.out.rg.frozen k
    have HPU := Lib.hid (HRS.out.put hk8 (wrap32 (wrK R0 k k)))
    rw [wrKS] at HPU
    obtain ⟨z, hz⟩ : ∃ z, wrK R0 k (k : Int) = z := ⟨_, rfl⟩
    rw [hz] at c0 HPU
    clear hz
    go_wp2_with fail
    refine (rWrap _ _).mono ?_
    rintro e w5 ⟨rfl, rfl⟩
    go_wp2
    go_roundg g2
    case measure => omega
    case rel => exact ⟨k + 1, by omega, by go_num, HPU⟩
  | zero =>
  have hk8 : k = 8 := by omega
  subst hk8
  obtain ⟨R, hR⟩ : ∃ R, wrK R0 8 = R := ⟨_, rfl⟩
  rw [hR] at HRS
  clear hR
  obtain ⟨f0, f1, f2, f3, f4⟩ := HRS.out.pb.facts
  try simp only at f0 f1 f2 f3 f4
  have HF5 := Lib.hid (HFI.out HSM.out wr HRS.out.bel)
  have hspR : spR p = p.spins := by unfold spR; rw [if_pos HCZ.out]
  rw [hspR, HCZ.out] at HF5
  obtain ⟨m, hm⟩ : ∃ m, p.spins.length = m := ⟨_, rfl⟩
  have HM := Lib.hid hm
  clear hspR hm
  go_wp2_with fail
  refine HF5.out.mono ?_
  rintro e w6 ⟨v6, rfl, o6, b6⟩
  obtain ⟨As, cs, rfl, rs⟩ := o6.rd
  rw [HM.out]
  have HRS6 := Lib.hid (HRS.out.below b6)
  have HSP6 := Lib.hid rs
  have HR6 := Lib.hid (HRW.out HSM.out w6 HRS6.out.bel)
  have hrwR : rwR p = rwP p p.spins := by unfold rwR; rw [if_pos HCZ.out]
  rw [hrwR, HCZ.out] at HR6
  have hcs := rs.le
  have hcm := rs.max
  rw [HM.out] at hcs
  unfold maxLen at hcm
  clear f0 f1 f2 f3 f4 b6 o6 rs hrwR
  obtain ⟨f0, f1, f2, f3, f4⟩ := HRS6.out.pb.facts
  try simp only at f0 f1 f2 f3 f4
  go_wp2_with fail
  refine HR6.out.mono ?_
  rintro e w8 ⟨a8, rfl, p8, b8⟩
  obtain ⟨w9, hw9⟩ : ∃ w9, w8.alloc (.cells a8.fs 27) = w9 := ⟨_, rfl⟩
  have hb9 : Below w8.heap.size w8 w9 := by rw [← hw9]; exact belowAlloc _ _
  have HQB := Lib.hid (show PBox w9 w8.heap.size a8 by rw [← hw9]; exact Blk.new _ _ _)
  have HQP := Lib.hid (p8.below hb9)
  have HRS9 := Lib.hid (HRS6.out.below (belowThen b8 hb9))
  have HSP9 := Lib.hid (HSP6.out.below stabSn (belowThen b8 hb9))
  have HW9 := Lib.hid hw9
  have hk4 : a8.n4 = n4 := by rw [← HQP.out.l4, rwPLen]; exact HL4.out
  have hke4 := HQP.out.funcs.le
  have hkm4 := HQP.out.funcs.max
  rw [HQP.out.l4] at hke4
  unfold maxLen at hkm4
  clear f0 f1 f2 f3 f4 hw9 hb9 p8 b8
  obtain ⟨D1, k1, e1, D2, k2, e2, D3, k3, e3, D4, k4, e4, D5, k5, e5⟩ := a8
  simp only [PgA.fs] at HW9
  try simp only at hk4 hke4 hkm4
  subst hk4
  obtain ⟨f0, f1, f2, f3, f4⟩ := HRS9.out.pb.facts
  obtain ⟨g0, g1, g2, g3, g4⟩ := HQB.out.facts
  try simp only at f0 f1 f2 f3 f4 g0 g1 g2 g3 g4
  have hnn : ((k4 : Int) != (k4 : Int)) = false := by simp
  dsimp only
  go_upto_region 10 with fail
  rw [HW9.out]
  go_wp2_with fail
  clear f0 f1 f2 f3 f4 g0 g1 g2 g3 g4
  go_loopg [12] m (fun g i X => ∃ k : Nat, k + g = m ∧ i = .int .i64 k ∧ Hid (Below w9.heap.size w9 X))
  case atStart => exact ⟨0, by omega, rfl, Lib.hid (Below.refl _ _)⟩
  case round =>
  obtain ⟨k, hk, rfl, HB⟩ := hrel
  cases gk with
  | zero =>
    have hkm : k = m := by omega
    subst hkm
    have hjz : ¬ ((k : Int) < k) := by omega
    have HX9 := Lib.hid (HLV.out wr (belowThen HRS9.out.bel HB.out))
    go_wp2_with fail
    refine HX9.out.mono ?_
    rintro e wz ⟨rfl, bz⟩
    go_wp2
    go_ret
    exact ⟨rfl, belowThen HRS9.out.bel (belowThen HB.out bz)⟩
  | succ gg =>
    have hk0 : (0 : Int) ≤ k := by omega
    have hk1 : (k : Int) < m := by omega
    obtain ⟨f, n, l, c, b, hs, hA⟩ := spAOf HCZ.out (k := k) (by rw [HM.out]; omega)
    obtain ⟨bs, os, hAs, hbs, he⟩ := (HSP9.out.below stabSn HB.out).one (j := k) (by rw [HM.out]; omega)
    rw [hs] at he
    have z0 := he.c0
    have z1 := he.c1
    have z2 := he.c2
    try simp only at z0 z1 z2
    subst hAs
    obtain ⟨n2, hn2⟩ : ∃ n2 : Nat, n + 2 = n2 := ⟨_, rfl⟩
    rw [show ((n : Int) + 2) = (n2 : Int) by omega] at z2
    obtain ⟨wa, hwa⟩ : ∃ wa, wr.alloc (.cells #[.int .i64 (f : Int), .int .i64 (n : Int), .int .i64 (n2 : Int)] 39) = wa := ⟨_, rfl⟩
    have hba : Below wr.heap.size wr wa := by rw [← hwa]; exact belowAlloc _ _
    have HSB := Lib.hid (show Blk wa wr.heap.size 39 #[.int .i64 (f : Int), .int .i64 (n : Int), .int .i64 (n2 : Int)] by rw [← hwa]; exact Blk.new _ _ _)
    have HBA := Lib.hid (belowThen HB.out hba)
    have HWA := Lib.hid hwa
    -- the function of the program, that of the rewritten program
    obtain ⟨pb, po, eP, hpb, -, vp, hp1, cA, mm, cc, rfl, hmm, hrp⟩ := (HPW.out wa (belowThen HRS9.out.bel HBA.out)).funcs.one hA.hf
    have eP : A4 = some ⟨pb, po, none⟩ := eP
    subst eP
    have hfq : f < (rwP p p.spins).funcs.length := by rw [rwPLen]; exact hA.hf
    obtain ⟨qb, qo, eQ, hqb, -, vq, hq1, dA, mq, dc, rfl, hmq, hrq⟩ := (HQP.out.below HBA.out).funcs.one hfq
    have eQ : D4 = some ⟨qb, qo, none⟩ := eQ
    subst eQ
    have hfn := rwFn hA.hf
    rw [show ((rwP p p.spins).funcs[f]'hfq).2 = rwA (p.funcs[f]'hA.hf).2 from congrArg Prod.snd hfn] at hmq hrq
    rw [rwALen] at hmq
    have emq : mq = mm := by rw [← hmq, ← hmm]
    subst emq
    have hsp := hA.sp
    have h3 := hsp.h
    rw [hmm] at h3
    obtain ⟨cb, co, ec, hcb, hci⟩ := hrp.at_ (by rw [hmm]; omega)
    obtain ⟨db, do_, ed, hdb, hdi⟩ := hrq.at_ (by rw [rwALen, hmm]; omega)
    subst ec
    subst ed
    have i0 := hci n (by rw [hmm]; omega)
    have i1 := hci (n + 1) (by rw [hmm]; omega)
    have i2 := hci (n + 2) (by rw [hmm]; omega)
    obtain ⟨hwn, hwt⟩ := hA.wt
    have j0 := hdi n hwn
    rw [hsp.hl] at i0
    rw [hsp.hc] at i1
    rw [hsp.hb, hn2] at i2
    rw [hwt] at j0
    have hrle := hrp.le
    have hrmx := hrp.max
    have hqle := hrq.le
    have hqmx := hrq.max
    rw [hmm] at hrle
    rw [rwALen, hmm] at hqle
    unfold maxLen at hrmx hqmx
    have hf4 : f < k4 := by have := HL4.out; have := hA.hf; omega
    have hf40 : (0 : Int) ≤ f := by omega
    have hf41 : (f : Int) < k4 := by omega
    have hn0 : (0 : Int) ≤ n := by omega
    have hnm : (n : Int) < mq := by omega
    have hn2m : (n2 : Int) < mq := by omega
    have hn20 : (0 : Int) ≤ n2 := by omega
    obtain ⟨n1', hn1'⟩ : ∃ z : Nat, n + 1 = z := ⟨_, rfl⟩
    rw [hn1'] at i1
    have hn1m : (n1' : Int) < mq := by omega
    have hn10 : (0 : Int) ≤ n1' := by omega
    have hw1 : IntKind.i64.wrap ((n : Int) + 1) = (n1' : Int) := by rw [IntKind.wrap_i64]; omega
    have hw2 : IntKind.i64.wrap ((n : Int) + 2) = (n2 : Int) := by rw [IntKind.wrap_i64]; omega
    -- the registers
    obtain ⟨la, lb, lc, ela, elb, elc, hla, hlb, hlc⟩ := rsReg hA.rl
    obtain ⟨ca, cb', cc', eca, ecb, ecc, hca, hcb8, hcc8⟩ := rsReg hA.rc
    have hcm8 : ∃ z : Nat, awCmp l c = z ∧ z < 8 := by
      unfold awCmp
      split
      · exact ⟨cc', ecc, hcc8⟩
      · exact ⟨cb', ecb, hcb8⟩
    obtain ⟨cm, ecm, hcm8⟩ := hcm8
    have hturn := awTurn cmpsOp hsp R v
    have hbb := hsp.bb
    have hol := hsp.ol
    have hoc := hsp.oc
    have hob := hsp.ob
    have hbn := hsp.bn
    rw [eca] at hbb
    rw [ecm] at hturn
    rw [ela, ecb, ecc] at hturn
    obtain ⟨Tv, hT⟩ : ∃ z, opI c.fn (setR R (la : Int) v (cb' : Int)) (setR R (la : Int) v (cc' : Int)) = z := ⟨_, rfl⟩
    obtain ⟨Fv, hF⟩ : ∃ z, opI (awFn l c) v (R (cm : Int)) = z := ⟨_, rfl⟩
    rw [hT, hF] at hturn
    have HT := Lib.hid hT
    have HF := Lib.hid hF
    have HTU := Lib.hid hturn
    obtain ⟨i00, i01, i02, i03, i04, i05, i06, i07⟩ := icCell i0
    obtain ⟨i10, i11, i12, i13, i14, i15, i16, i17⟩ := icCell i1
    obtain ⟨i20, i21, i22, i23, i24, i25, i26, i27⟩ := icCell i2
    obtain ⟨j00, j01, j02, j03, j04, j05, j06, j07⟩ := icCell j0
    unfold awOf at j00 j01 j02 j03 j04 j05 j06 j07
    try simp only at j00 j01 j02 j03 j04 j05 j06 j07
    rw [hol] at i00
    rw [ela] at i01 j01
    rw [hoc] at i10
    rw [eca] at i11
    rw [ecb] at i12
    rw [ecc] at i13
    rw [hob] at i20
    rw [hbb] at i22
    rw [hbn] at i25
    rw [ecm] at j02
    obtain ⟨x2, hx2⟩ : ∃ z, l.b = z := ⟨_, rfl⟩
    obtain ⟨x3, hx3⟩ : ∃ z, l.c = z := ⟨_, rfl⟩
    obtain ⟨x4, hx4⟩ : ∃ z, l.obj = z := ⟨_, rfl⟩
    obtain ⟨x5, hx5⟩ : ∃ z, l.n = z := ⟨_, rfl⟩
    obtain ⟨x6, hx6⟩ : ∃ z, l.fn = z := ⟨_, rfl⟩
    obtain ⟨x7, hx7⟩ : ∃ z, l.ord = z := ⟨_, rfl⟩
    obtain ⟨y4, hy4⟩ : ∃ z, c.obj = z := ⟨_, rfl⟩
    obtain ⟨y5, hy5⟩ : ∃ z, c.n = z := ⟨_, rfl⟩
    obtain ⟨y6, hy6⟩ : ∃ z, c.fn = z := ⟨_, rfl⟩
    obtain ⟨y7, hy7⟩ : ∃ z, c.ord = z := ⟨_, rfl⟩
    obtain ⟨u1, hu1⟩ : ∃ z, b.a = z := ⟨_, rfl⟩
    obtain ⟨u3, hu3⟩ : ∃ z, b.c = z := ⟨_, rfl⟩
    obtain ⟨u4, hu4⟩ : ∃ z, b.obj = z := ⟨_, rfl⟩
    obtain ⟨u6, hu6⟩ : ∃ z, b.fn = z := ⟨_, rfl⟩
    obtain ⟨u7, hu7⟩ : ∃ z, b.ord = z := ⟨_, rfl⟩
    obtain ⟨fa, hfa⟩ : ∃ z, awFn l c = z := ⟨_, rfl⟩
    rw [hx2] at i02
    rw [hx3] at i03
    rw [hx4] at i04 j04
    rw [hx5] at i05
    rw [hx6] at i06
    rw [hx7] at i07 j07
    rw [hy4] at i14
    rw [hy5] at i15
    rw [hy6] at i16 HT
    rw [hy7] at i17
    rw [hu1] at i21
    rw [hu3] at i23
    rw [hu4] at i24
    rw [hu6] at i26
    rw [hu7] at i27
    rw [hfa] at j06 HF
    have HS16 := Lib.hid (fun X (hX : Below wa.heap.size wa X) => (⟨hX, ((HRS9.out.below (belowThen HBA.out hX)).pb.facts).2.2.2.1, (HSB.out.below' hX).cell 0, (HSB.out.below' hX).cell 1, (HSB.out.below' hX).cell 2, (hX.cell hpb).trans hp1, ((HQB.out.below (belowThen HBA.out hX)).facts).2.2.2.1, (hX.cell hqb).trans hq1⟩ :
      Below wa.heap.size wa X ∧ X.cell? ⟨w.heap.size, 3, none⟩ = some (.slice (some ⟨pb, po, none⟩) k4 c4) ∧ X.cell? ⟨wr.heap.size, 0, none⟩ = some (.int .i64 (f : Int)) ∧ X.cell? ⟨wr.heap.size, 1, none⟩ = some (.int .i64 (n : Int)) ∧ X.cell? ⟨wr.heap.size, 2, none⟩ = some (.int .i64 (n2 : Int)) ∧ X.cell? ⟨pb, po + f * 2 + 1, none⟩ = some (.slice (some ⟨cb, co, none⟩) mq cc) ∧ X.cell? ⟨w8.heap.size, 3, none⟩ = some (.slice (some ⟨qb, qo, none⟩) k4 e4) ∧ X.cell? ⟨qb, qo + f * 2 + 1, none⟩ = some (.slice (some ⟨db, do_, none⟩) mq dc)))
    have HS18 := Lib.hid (fun X (hX : Below wa.heap.size wa X) => (⟨hX, ((HRS9.out.below (belowThen HBA.out hX)).pb.facts).2.2.2.1, (HSB.out.below' hX).cell 0, (HSB.out.below' hX).cell 1, (HSB.out.below' hX).cell 2, (hX.cell hpb).trans hp1, (hX.cell hcb).trans i00, (hX.cell hcb).trans i01, (hX.cell hcb).trans i02, (hX.cell hcb).trans i03, (hX.cell hcb).trans i04, (hX.cell hcb).trans i05, (hX.cell hcb).trans i06, (hX.cell hcb).trans i07, (hX.cell hcb).trans i10, (hX.cell hcb).trans i11, (hX.cell hcb).trans i12, (hX.cell hcb).trans i13, (hX.cell hcb).trans i14, (hX.cell hcb).trans i15, (hX.cell hcb).trans i16, (hX.cell hcb).trans i17, (hX.cell hcb).trans i20, (hX.cell hcb).trans i21, (hX.cell hcb).trans i22, (hX.cell hcb).trans i23, (hX.cell hcb).trans i24, (hX.cell hcb).trans i25, (hX.cell hcb).trans i26, (hX.cell hcb).trans i27⟩ :
      Below wa.heap.size wa X ∧ X.cell? ⟨w.heap.size, 3, none⟩ = some (.slice (some ⟨pb, po, none⟩) k4 c4) ∧ X.cell? ⟨wr.heap.size, 0, none⟩ = some (.int .i64 (f : Int)) ∧ X.cell? ⟨wr.heap.size, 1, none⟩ = some (.int .i64 (n : Int)) ∧ X.cell? ⟨wr.heap.size, 2, none⟩ = some (.int .i64 (n2 : Int)) ∧ X.cell? ⟨pb, po + f * 2 + 1, none⟩ = some (.slice (some ⟨cb, co, none⟩) mq cc) ∧ X.cell? ⟨cb, co + n * 8, none⟩ = some (.int .i64 8) ∧ X.cell? ⟨cb, co + n * 8 + 1, none⟩ = some (.int .i64 (la : Int)) ∧ X.cell? ⟨cb, co + n * 8 + 2, none⟩ = some (.int .i64 x2) ∧ X.cell? ⟨cb, co + n * 8 + 3, none⟩ = some (.int .i64 x3) ∧ X.cell? ⟨cb, co + n * 8 + 4, none⟩ = some (.int .i64 x4) ∧ X.cell? ⟨cb, co + n * 8 + 5, none⟩ = some (.int .i64 x5) ∧ X.cell? ⟨cb, co + n * 8 + 6, none⟩ = some (.int .i64 x6) ∧ X.cell? ⟨cb, co + n * 8 + 7, none⟩ = some (.int .i64 x7) ∧ X.cell? ⟨cb, co + n1' * 8, none⟩ = some (.int .i64 3) ∧ X.cell? ⟨cb, co + n1' * 8 + 1, none⟩ = some (.int .i64 (ca : Int)) ∧ X.cell? ⟨cb, co + n1' * 8 + 2, none⟩ = some (.int .i64 (cb' : Int)) ∧ X.cell? ⟨cb, co + n1' * 8 + 3, none⟩ = some (.int .i64 (cc' : Int)) ∧ X.cell? ⟨cb, co + n1' * 8 + 4, none⟩ = some (.int .i64 y4) ∧ X.cell? ⟨cb, co + n1' * 8 + 5, none⟩ = some (.int .i64 y5) ∧ X.cell? ⟨cb, co + n1' * 8 + 6, none⟩ = some (.int .i64 y6) ∧ X.cell? ⟨cb, co + n1' * 8 + 7, none⟩ = some (.int .i64 y7) ∧ X.cell? ⟨cb, co + n2 * 8, none⟩ = some (.int .i64 5) ∧ X.cell? ⟨cb, co + n2 * 8 + 1, none⟩ = some (.int .i64 u1) ∧ X.cell? ⟨cb, co + n2 * 8 + 2, none⟩ = some (.int .i64 (ca : Int)) ∧ X.cell? ⟨cb, co + n2 * 8 + 3, none⟩ = some (.int .i64 u3) ∧ X.cell? ⟨cb, co + n2 * 8 + 4, none⟩ = some (.int .i64 u4) ∧ X.cell? ⟨cb, co + n2 * 8 + 5, none⟩ = some (.int .i64 (n : Int)) ∧ X.cell? ⟨cb, co + n2 * 8 + 6, none⟩ = some (.int .i64 u6) ∧ X.cell? ⟨cb, co + n2 * 8 + 7, none⟩ = some (.int .i64 u7)))
    have HS19 := Lib.hid (fun X (hX : Below wa.heap.size wa X) => (⟨hX, ((HQB.out.below (belowThen HBA.out hX)).facts).2.2.2.1, (HSB.out.below' hX).cell 0, (HSB.out.below' hX).cell 1, (hX.cell hqb).trans hq1, (hX.cell hdb).trans j00, (hX.cell hdb).trans j01, (hX.cell hdb).trans j02, (hX.cell hdb).trans j03, (hX.cell hdb).trans j04, (hX.cell hdb).trans j05, (hX.cell hdb).trans j06, (hX.cell hdb).trans j07⟩ :
      Below wa.heap.size wa X ∧ X.cell? ⟨w8.heap.size, 3, none⟩ = some (.slice (some ⟨qb, qo, none⟩) k4 e4) ∧ X.cell? ⟨wr.heap.size, 0, none⟩ = some (.int .i64 (f : Int)) ∧ X.cell? ⟨wr.heap.size, 1, none⟩ = some (.int .i64 (n : Int)) ∧ X.cell? ⟨qb, qo + f * 2 + 1, none⟩ = some (.slice (some ⟨db, do_, none⟩) mq dc) ∧ X.cell? ⟨db, do_ + n * 8, none⟩ = some (.int .i64 14) ∧ X.cell? ⟨db, do_ + n * 8 + 1, none⟩ = some (.int .i64 (la : Int)) ∧ X.cell? ⟨db, do_ + n * 8 + 2, none⟩ = some (.int .i64 (cm : Int)) ∧ X.cell? ⟨db, do_ + n * 8 + 3, none⟩ = some (.int .i64 0) ∧ X.cell? ⟨db, do_ + n * 8 + 4, none⟩ = some (.int .i64 x4) ∧ X.cell? ⟨db, do_ + n * 8 + 5, none⟩ = some (.int .i64 0) ∧ X.cell? ⟨db, do_ + n * 8 + 6, none⟩ = some (.int .i64 fa) ∧ X.cell? ⟨db, do_ + n * 8 + 7, none⟩ = some (.int .i64 x7)))
    have HSR := Lib.hid (fun X (hX : Below wa.heap.size wa X) => (HRS9.out.below (belowThen HBA.out hX)).rg)
    clear i0 i1 i2 j0 i00 i01 i02 i03 i04 i05 i06 i07 i10 i11 i12 i13 i14 i15 i16 i17 i20 i21 i22 i23 i24 i25 i26 i27 j00 j01 j02 j03 j04 j05 j06 j07 hp1 hq1 hci hdi hrp hrq hwt hfn hsp hturn hT hF hol hoc hob hbn hbb hwa hba
    clear hx2 hx3 hx4 hx5 hx6 hx7 hy4 hy5 hy6 hy7 hu1 hu3 hu4 hu6 hu7 hfa ela elb elc eca ecb ecc ecm hs hmm hmq hwn hfq hA he
    go_upto_region 16 with fail
    rw [HWA.out]
    clear z0 z1 z2
    go_cut [133] from 68 to 67 (fun t wx => t = .bool false ∧ Hid (Below wa.heap.size wa wx))
    case first =>
      as_aux_lemma =>
      have d1 : ¬ ((k4 : Int) ≤ (f : Int)) := by omega
      have d2 : ¬ ((mq : Int) ≤ (n2 : Int)) := by omega
      have d3 : ¬ (k4 ≤ f) := by omega
      have d4 : ¬ (mq ≤ n2) := by omega
      have S0 := HS16.out wa.drew ((Below.refl _ wa).drew)
      go_region_held3 (fun X => Below wa.heap.size wa X ∧ X.cell? ⟨w.heap.size, 3, none⟩ = some (.slice (some ⟨pb, po, none⟩) k4 c4) ∧ X.cell? ⟨wr.heap.size, 0, none⟩ = some (.int .i64 (f : Int)) ∧ X.cell? ⟨wr.heap.size, 1, none⟩ = some (.int .i64 (n : Int)) ∧ X.cell? ⟨wr.heap.size, 2, none⟩ = some (.int .i64 (n2 : Int)) ∧ X.cell? ⟨pb, po + f * 2 + 1, none⟩ = some (.slice (some ⟨cb, co, none⟩) mq cc) ∧ X.cell? ⟨w8.heap.size, 3, none⟩ = some (.slice (some ⟨qb, qo, none⟩) k4 e4) ∧ X.cell? ⟨qb, qo + f * 2 + 1, none⟩ = some (.slice (some ⟨db, do_, none⟩) mq dc)) (first | with_reducible assumption | exact HS16.out _ (by with_reducible assumption)) (first | fail)
      all_goals (
        go_wp2_with fail
        go_meet
        first
        | exact ⟨rfl, Lib.hid (Below.refl _ wa).drew⟩
        | exact ⟨rfl, Lib.hid (by assumption)⟩)
    case rest =>
    obtain ⟨rfl, HB16⟩ := hcut
    rename World => w16
    go_upto_region 18 with fail
    go_cut [14, 15, 16] from 68 to 67 (fun t14 t15 t16 wx => ∃ b14 b15 b16, t14 = .pointer (some ⟨b14, 0, none⟩) ∧ t15 = .pointer (some ⟨b15, 0, none⟩) ∧ t16 = .pointer (some ⟨b16, 0, none⟩) ∧ Hid (Below w16.heap.size w16 wx) ∧ Hid (Blk wx b14 47 #[.int .i64 8, .int .i64 (la : Int), .int .i64 x2, .int .i64 x3, .int .i64 x4, .int .i64 x5, .int .i64 x6, .int .i64 x7]) ∧ Hid (Blk wx b15 47 #[.int .i64 3, .int .i64 (ca : Int), .int .i64 (cb' : Int), .int .i64 (cc' : Int), .int .i64 y4, .int .i64 y5, .int .i64 y6, .int .i64 y7]) ∧ Hid (Blk wx b16 47 #[.int .i64 5, .int .i64 u1, .int .i64 (ca : Int), .int .i64 u3, .int .i64 u4, .int .i64 (n : Int), .int .i64 u6, .int .i64 u7]))
    case first =>
      as_aux_lemma =>
      have S0 := HS18.out w16.drew (belowThen HB16.out (Below.refl _ w16).drew)
      go_region_held3 (fun X => Below wa.heap.size wa X ∧ X.cell? ⟨w.heap.size, 3, none⟩ = some (.slice (some ⟨pb, po, none⟩) k4 c4) ∧ X.cell? ⟨wr.heap.size, 0, none⟩ = some (.int .i64 (f : Int)) ∧ X.cell? ⟨wr.heap.size, 1, none⟩ = some (.int .i64 (n : Int)) ∧ X.cell? ⟨wr.heap.size, 2, none⟩ = some (.int .i64 (n2 : Int)) ∧ X.cell? ⟨pb, po + f * 2 + 1, none⟩ = some (.slice (some ⟨cb, co, none⟩) mq cc) ∧ X.cell? ⟨cb, co + n * 8, none⟩ = some (.int .i64 8) ∧ X.cell? ⟨cb, co + n * 8 + 1, none⟩ = some (.int .i64 (la : Int)) ∧ X.cell? ⟨cb, co + n * 8 + 2, none⟩ = some (.int .i64 x2) ∧ X.cell? ⟨cb, co + n * 8 + 3, none⟩ = some (.int .i64 x3) ∧ X.cell? ⟨cb, co + n * 8 + 4, none⟩ = some (.int .i64 x4) ∧ X.cell? ⟨cb, co + n * 8 + 5, none⟩ = some (.int .i64 x5) ∧ X.cell? ⟨cb, co + n * 8 + 6, none⟩ = some (.int .i64 x6) ∧ X.cell? ⟨cb, co + n * 8 + 7, none⟩ = some (.int .i64 x7) ∧ X.cell? ⟨cb, co + n1' * 8, none⟩ = some (.int .i64 3) ∧ X.cell? ⟨cb, co + n1' * 8 + 1, none⟩ = some (.int .i64 (ca : Int)) ∧ X.cell? ⟨cb, co + n1' * 8 + 2, none⟩ = some (.int .i64 (cb' : Int)) ∧ X.cell? ⟨cb, co + n1' * 8 + 3, none⟩ = some (.int .i64 (cc' : Int)) ∧ X.cell? ⟨cb, co + n1' * 8 + 4, none⟩ = some (.int .i64 y4) ∧ X.cell? ⟨cb, co + n1' * 8 + 5, none⟩ = some (.int .i64 y5) ∧ X.cell? ⟨cb, co + n1' * 8 + 6, none⟩ = some (.int .i64 y6) ∧ X.cell? ⟨cb, co + n1' * 8 + 7, none⟩ = some (.int .i64 y7) ∧ X.cell? ⟨cb, co + n2 * 8, none⟩ = some (.int .i64 5) ∧ X.cell? ⟨cb, co + n2 * 8 + 1, none⟩ = some (.int .i64 u1) ∧ X.cell? ⟨cb, co + n2 * 8 + 2, none⟩ = some (.int .i64 (ca : Int)) ∧ X.cell? ⟨cb, co + n2 * 8 + 3, none⟩ = some (.int .i64 u3) ∧ X.cell? ⟨cb, co + n2 * 8 + 4, none⟩ = some (.int .i64 u4) ∧ X.cell? ⟨cb, co + n2 * 8 + 5, none⟩ = some (.int .i64 (n : Int)) ∧ X.cell? ⟨cb, co + n2 * 8 + 6, none⟩ = some (.int .i64 u6) ∧ X.cell? ⟨cb, co + n2 * 8 + 7, none⟩ = some (.int .i64 u7)) (first | with_reducible assumption | exact HS18.out _ (belowThen HB16.out (belowAlloc _ _).drew) | exact HS18.out _ (belowThen HB16.out (belowThen (belowAlloc _ _) (belowAlloc _ _)).drew) | exact HS18.out _ (belowThen HB16.out (belowThen (belowThen (belowAlloc _ _) (belowAlloc _ _)) (belowAlloc _ _)).drew) | (trace_state; fail)) (first | fail)
      all_goals (
        go_wp2_with fail
        go_meet
        refine ⟨_, _, _, rfl, rfl, rfl, Lib.hid (three7 _ _ _ _).2.2.2.drew, ?_, ?_, ?_⟩ <;> first | exact Lib.hid (three7 _ _ _ _).1 | exact Lib.hid (three7 _ _ _ _).2.1 | exact Lib.hid (three7 _ _ _ _).2.2.1)
    case rest =>
    obtain ⟨b14, b15, b16, rfl, rfl, rfl, HB18, HIL, HIC, HIB⟩ := hcut
    rename World => w18
    have HX18 := Lib.hid (belowThen HB16.out HB18.out)
    go_upto_region 19 with fail
    go_cut [17] from 68 to 67 (fun t17 wx => ∃ b17, t17 = .pointer (some ⟨b17, 0, none⟩) ∧ Hid (Below w18.heap.size w18 wx) ∧ Hid (Blk wx b17 47 #[.int .i64 14, .int .i64 (la : Int), .int .i64 (cm : Int), .int .i64 0, .int .i64 x4, .int .i64 0, .int .i64 fa, .int .i64 x7]))
    case first =>
      as_aux_lemma =>
      have S0 := HS19.out w18.drew (belowThen HX18.out (Below.refl _ w18).drew)
      go_region_held3 (fun X => Below wa.heap.size wa X ∧ X.cell? ⟨w8.heap.size, 3, none⟩ = some (.slice (some ⟨qb, qo, none⟩) k4 e4) ∧ X.cell? ⟨wr.heap.size, 0, none⟩ = some (.int .i64 (f : Int)) ∧ X.cell? ⟨wr.heap.size, 1, none⟩ = some (.int .i64 (n : Int)) ∧ X.cell? ⟨qb, qo + f * 2 + 1, none⟩ = some (.slice (some ⟨db, do_, none⟩) mq dc) ∧ X.cell? ⟨db, do_ + n * 8, none⟩ = some (.int .i64 14) ∧ X.cell? ⟨db, do_ + n * 8 + 1, none⟩ = some (.int .i64 (la : Int)) ∧ X.cell? ⟨db, do_ + n * 8 + 2, none⟩ = some (.int .i64 (cm : Int)) ∧ X.cell? ⟨db, do_ + n * 8 + 3, none⟩ = some (.int .i64 0) ∧ X.cell? ⟨db, do_ + n * 8 + 4, none⟩ = some (.int .i64 x4) ∧ X.cell? ⟨db, do_ + n * 8 + 5, none⟩ = some (.int .i64 0) ∧ X.cell? ⟨db, do_ + n * 8 + 6, none⟩ = some (.int .i64 fa) ∧ X.cell? ⟨db, do_ + n * 8 + 7, none⟩ = some (.int .i64 x7)) (first | with_reducible assumption | exact HS19.out _ (belowThen HX18.out (belowAlloc _ _).drew) | (trace_state; fail)) (first | fail)
      all_goals (
        go_wp2_with fail
        go_meet
        refine ⟨_, rfl, Lib.hid (belowAlloc _ _).drew, ?_⟩
        exact Lib.hid (Blk.new _ _ _))
    case rest =>
    obtain ⟨b17, rfl, HB19, HIA⟩ := hcut
    rename World => w19
    have HX19 := Lib.hid (belowThen HX18.out HB19.out)
    have HC14 := Lib.hid (fun X (hX : Below w19.heap.size w19 X) => ((HIL.out.below' HB19.out).below' hX))
    have HC15 := Lib.hid (fun X (hX : Below w19.heap.size w19 X) => ((HIC.out.below' HB19.out).below' hX))
    have HC16 := Lib.hid (fun X (hX : Below w19.heap.size w19 X) => ((HIB.out.below' HB19.out).below' hX))
    have HC17 := Lib.hid (fun X (hX : Below w19.heap.size w19 X) => (HIA.out.below' hX))
    have HCR := Lib.hid (fun X (hX : Below w19.heap.size w19 X) => HSR.out X (belowThen HX19.out hX))
    have q140 := (HC14.out w19 (Below.refl _ w19)).cell 0
    have q141 := (HC14.out w19 (Below.refl _ w19)).cell 1
    have q144 := (HC14.out w19 (Below.refl _ w19)).cell 4
    have q147 := (HC14.out w19 (Below.refl _ w19)).cell 7
    have q150 := (HC15.out w19 (Below.refl _ w19)).cell 0
    have q160 := (HC16.out w19 (Below.refl _ w19)).cell 0
    have q165 := (HC16.out w19 (Below.refl _ w19)).cell 5
    have q170 := (HC17.out w19 (Below.refl _ w19)).cell 0
    have q171 := (HC17.out w19 (Below.refl _ w19)).cell 1
    have q174 := (HC17.out w19 (Below.refl _ w19)).cell 4
    have q177 := (HC17.out w19 (Below.refl _ w19)).cell 7
    have qs1 := (HSB.out.below' HX19.out).cell 1
    clear HIL HIC HIB HIA HS16 HS18 HS19
    have e1 : ((n : Int) != (n : Int)) = false := by simp
    have e2 : ((la : Int) != (la : Int)) = false := by simp
    have e3 : (x4 != x4) = false := by simp
    have e4 : (x7 != x7) = false := by simp
    have hla0 : (0 : Int) ≤ la := by omega
    have hla1 : (la : Int) < 8 := by omega
    have hca0 : (0 : Int) ≤ ca := by omega
    have hca1 : (ca : Int) < 8 := by omega
    have hcb0 : (0 : Int) ≤ cb' := by omega
    have hcb1 : (cb' : Int) < 8 := by omega
    have hcc0 : (0 : Int) ≤ cc' := by omega
    have hcc1 : (cc' : Int) < 8 := by omega
    have hcm0 : (0 : Int) ≤ cm := by omega
    have hcm1 : (cm : Int) < 8 := by omega
    go_upto_region 22 with fail
    clear q140 q141 q144 q147 q150 q160 q165 q170 q171 q174 q177 qs1 e1 e2 e3 e4
    go_cut [18, 19] from 68 to 67 (fun t18 t19 wx => ∃ b18 b19, t18 = .pointer (some ⟨b18, 0, none⟩) ∧ t19 = .pointer (some ⟨b19, 0, none⟩) ∧ Hid (ArrSt w19 b18 b19 R R wx))
    case first =>
      as_aux_lemma =>
      have HS22 := Lib.hid (fun X (hX : Below w19.heap.size w19 X) => (⟨hX, (HCR.out X hX).cell 0, (HCR.out X hX).cell 1, (HCR.out X hX).cell 2, (HCR.out X hX).cell 3, (HCR.out X hX).cell 4, (HCR.out X hX).cell 5, (HCR.out X hX).cell 6, (HCR.out X hX).cell 7⟩ :
        Below w19.heap.size w19 X ∧ X.cell? ⟨w.heap.size + 1, 0, none⟩ = some (.int .i64 (R 0)) ∧ X.cell? ⟨w.heap.size + 1, 1, none⟩ = some (.int .i64 (R 1)) ∧ X.cell? ⟨w.heap.size + 1, 2, none⟩ = some (.int .i64 (R 2)) ∧ X.cell? ⟨w.heap.size + 1, 3, none⟩ = some (.int .i64 (R 3)) ∧ X.cell? ⟨w.heap.size + 1, 4, none⟩ = some (.int .i64 (R 4)) ∧ X.cell? ⟨w.heap.size + 1, 5, none⟩ = some (.int .i64 (R 5)) ∧ X.cell? ⟨w.heap.size + 1, 6, none⟩ = some (.int .i64 (R 6)) ∧ X.cell? ⟨w.heap.size + 1, 7, none⟩ = some (.int .i64 (R 7))))
      have S0 := HS22.out w19.drew ((Below.refl _ w19).drew)
      go_region_held3 (fun X => Below w19.heap.size w19 X ∧ X.cell? ⟨w.heap.size + 1, 0, none⟩ = some (.int .i64 (R 0)) ∧ X.cell? ⟨w.heap.size + 1, 1, none⟩ = some (.int .i64 (R 1)) ∧ X.cell? ⟨w.heap.size + 1, 2, none⟩ = some (.int .i64 (R 2)) ∧ X.cell? ⟨w.heap.size + 1, 3, none⟩ = some (.int .i64 (R 3)) ∧ X.cell? ⟨w.heap.size + 1, 4, none⟩ = some (.int .i64 (R 4)) ∧ X.cell? ⟨w.heap.size + 1, 5, none⟩ = some (.int .i64 (R 5)) ∧ X.cell? ⟨w.heap.size + 1, 6, none⟩ = some (.int .i64 (R 6)) ∧ X.cell? ⟨w.heap.size + 1, 7, none⟩ = some (.int .i64 (R 7))) (first | with_reducible assumption | exact HS22.out _ (belowAlloc _ _).drew | exact HS22.out _ (belowThen (belowAlloc _ _) (belowAlloc _ _)).drew | (trace_state; fail)) (first | fail)
      all_goals (
        go_wp2_with fail
        go_meet
        first
        | exact ⟨_, _, rfl, rfl, Lib.hid (arrNew w19 R R)⟩
        | exact ⟨_, _, rfl, rfl, Lib.hid (arrNew2 w19 R R)⟩)
    case rest =>
    obtain ⟨b18, b19, rfl, rfl, HA22⟩ := hcut
    rename World => w22
    have p1 := (HC14.out w22 HA22.out.bel).cell 1
    have fz := HA22.out.a.frozen la
    have cz := rgCell HA22.out.a hla
    obtain ⟨w23, hw23⟩ : ∃ w23, w22.setCell ⟨b18, la, none⟩ (.int .i64 v) = w23 := ⟨_, rfl⟩
    have HA23 : Hid (ArrSt w19 b18 b19 (setR R (la : Int) v) R w23) := Lib.hid (by rw [← hw23]; exact HA22.out.putA hla v)
    have HW23 := Lib.hid hw23
    clear hw23
    go_upto_region 24 with fail
    rw [HW23.out]
    clear p1 fz cz HW23
    obtain ⟨R1, hR1⟩ : ∃ R1, setR R (la : Int) v = R1 := ⟨_, rfl⟩
    rw [hR1] at HA23 HT
    have HR1 := Lib.hid hR1
    clear hR1
    go_cut [243] from 68 to 67 (fun t243 wx => t243 = .int .i64 Tv ∧ Hid (ArrSt w19 b18 b19 (setR R1 (ca : Int) Tv) R wx))
    case first =>
      as_aux_lemma =>
      have HAP := Lib.hid (fun X => rApplyLaw y6 (R1 (cb' : Int)) (R1 (cc' : Int)) X)
      rw [HT.out] at HAP
      have kb : w23.drew.cell? ⟨b18, cb', none⟩ = some (.int .i64 (R1 (cb' : Int))) := rgCell HA23.out.a hcb8
      have kd : w23.drew.cell? ⟨b18, cc', none⟩ = some (.int .i64 (R1 (cc' : Int))) := rgCell HA23.out.a hcc8
      have HS0 := Lib.hid (fun X (hX : Below w19.heap.size w19 X) => (⟨hX, (HC15.out X hX).cell 1, (HC15.out X hX).cell 2, (HC15.out X hX).cell 3, (HC15.out X hX).cell 6⟩ :
        Below w19.heap.size w19 X ∧ X.cell? ⟨b15, 1, none⟩ = some (.int .i64 (ca : Int)) ∧ X.cell? ⟨b15, 2, none⟩ = some (.int .i64 (cb' : Int)) ∧ X.cell? ⟨b15, 3, none⟩ = some (.int .i64 (cc' : Int)) ∧ X.cell? ⟨b15, 6, none⟩ = some (.int .i64 y6)))
      have HB0 := Lib.hid (HA23.out.below (Below.refl _ w23).drew).bel
      have S0 := HS0.out w23.drew HB0.out
      obtain ⟨vb, hvb⟩ : ∃ z, R1 (cb' : Int) = z := ⟨_, rfl⟩
      obtain ⟨vc, hvc⟩ : ∃ z, R1 (cc' : Int) = z := ⟨_, rfl⟩
      rw [hvb] at kb HAP
      rw [hvc] at kd HAP
      refine wp_region_held_drew (S := fun X => Below w19.heap.size w19 X ∧ X.cell? ⟨b15, 1, none⟩ = some (.int .i64 (ca : Int)) ∧ X.cell? ⟨b15, 2, none⟩ = some (.int .i64 (cb' : Int)) ∧ X.cell? ⟨b15, 3, none⟩ = some (.int .i64 (cc' : Int)) ∧ X.cell? ⟨b15, 6, none⟩ = some (.int .i64 y6)) (by kernel_rfl) S0 (fun hHeld => ?_)
      refine wpAnyH_take (i := 0) (oi := ⟨some 231, _, _, _, _, _⟩) (v := ?v0_1) rfl (by kernel_rfl) (by kernel_rfl) (by kernel_rfl) (fun _ _ _ h => h) (Or.inl ⟨by rfl, ?h0_1⟩) (by assumption) ?r0_1
      case h0_1 => (intro w hSw; (try dsimp only at hSw); go_simp; try with_reducible rfl)
      (try simp only [Act.put, List.setIfInBounds_toArray, List.set_cons_zero, List.set_cons_succ])
      refine wpAnyH_take (i := 1) (oi := ⟨some 232, _, _, _, _, _⟩) (v := ?v1_2) rfl (by kernel_rfl) (by kernel_rfl) (by kernel_rfl) (fun _ _ _ h => h) (Or.inl ⟨by rfl, ?h1_2⟩) (by assumption) ?r1_2
      case h1_2 => (intro w hSw; (try dsimp only at hSw); go_simp; try with_reducible rfl)
      (try simp only [Act.put, List.setIfInBounds_toArray, List.set_cons_zero, List.set_cons_succ])
      refine wpAnyH_take (i := 2) (oi := ⟨some 233, _, _, _, _, _⟩) (v := ?v2_3) rfl (by kernel_rfl) (by kernel_rfl) (by kernel_rfl) (fun _ _ _ h => h) (Or.inl ⟨by rfl, ?h2_3⟩) (by assumption) ?r2_3
      case h2_3 => (intro w hSw; (try dsimp only at hSw); go_simp; try with_reducible rfl)
      (try simp only [Act.put, List.setIfInBounds_toArray, List.set_cons_zero, List.set_cons_succ])
      refine wpAnyH_take (i := 3) (oi := ⟨some 234, _, _, _, _, _⟩) (v := ?v3_4) rfl (by kernel_rfl) (by kernel_rfl) (by kernel_rfl) (fun _ _ _ h => h) (Or.inl ⟨by rfl, ?h3_4⟩) (by assumption) ?r3_4
      case h3_4 => (intro w hSw; (try dsimp only at hSw); go_simp; try with_reducible rfl)
      (try simp only [Act.put, List.setIfInBounds_toArray, List.set_cons_zero, List.set_cons_succ])
      refine wpAnyH_take (i := 4) (oi := ⟨some 235, _, _, _, _, _⟩) (v := ?v4_5) rfl (by kernel_rfl) (by kernel_rfl) (by kernel_rfl) (fun _ _ _ h => h) (Or.inl ⟨by rfl, ?h4_5⟩) (by assumption) ?r4_5
      case h4_5 => (intro w hSw; (try dsimp only at hSw); go_simp; try with_reducible rfl)
      (try simp only [Act.put, List.setIfInBounds_toArray, List.set_cons_zero, List.set_cons_succ])
      refine wpAnyH_take (i := 5) (oi := ⟨some 236, _, _, _, _, _⟩) (v := ?v5_6) rfl (by kernel_rfl) (by kernel_rfl) (by kernel_rfl) (fun _ _ _ h => h) (Or.inl ⟨by rfl, ?h5_6⟩) (by assumption) ?r5_6
      case h5_6 => (intro w hSw; (try dsimp only at hSw); go_simp; try with_reducible rfl)
      (try simp only [Act.put, List.setIfInBounds_toArray, List.set_cons_zero, List.set_cons_succ])
      refine wpAnyH_take (i := 6) (oi := ⟨some 237, _, _, _, _, _⟩) (v := ?v6_7) rfl (by kernel_rfl) (by kernel_rfl) (by kernel_rfl) (fun _ _ _ h => h) (Or.inl ⟨by rfl, ?h6_7⟩) (by assumption) ?r6_7
      case h6_7 => (intro w hSw; (try dsimp only at hSw); go_simp; try with_reducible rfl)
      (try simp only [Act.put, List.setIfInBounds_toArray, List.set_cons_zero, List.set_cons_succ])
      refine wpAnyH_take (i := 8) (oi := ⟨some 239, _, _, _, _, _⟩) (v := ?v8_8) rfl (by kernel_rfl) (by kernel_rfl) (by kernel_rfl) (fun _ _ _ h => h) (Or.inl ⟨by rfl, ?h8_8⟩) (by assumption) ?r8_8
      case h8_8 => (intro w hSw; (try dsimp only at hSw); go_simp; try with_reducible rfl)
      (try simp only [Act.put, List.setIfInBounds_toArray, List.set_cons_zero, List.set_cons_succ])
      refine wpAnyH_take (i := 9) (oi := ⟨some 240, _, _, _, _, _⟩) (v := ?v9_9) rfl (by kernel_rfl) (by kernel_rfl) (by kernel_rfl) (fun _ _ _ h => h) (Or.inl ⟨by rfl, ?h9_9⟩) (by assumption) ?r9_9
      case h9_9 => (intro w hSw; (try dsimp only at hSw); go_simp; try with_reducible rfl)
      (try simp only [Act.put, List.setIfInBounds_toArray, List.set_cons_zero, List.set_cons_succ])
      refine wpAnyH_take (i := 10) (oi := ⟨some 241, _, _, _, _, _⟩) (v := ?v10_10) rfl (by kernel_rfl) (by kernel_rfl) (by kernel_rfl) (fun _ _ _ h => h) (Or.inl ⟨by rfl, ?h10_10⟩) (by assumption) ?r10_10
      case h10_10 => (intro w hSw; (try dsimp only at hSw); go_simp; try with_reducible rfl)
      (try simp only [Act.put, List.setIfInBounds_toArray, List.set_cons_zero, List.set_cons_succ])
      refine wpAnyH_ready (rs := [7, 11]) (by kernel_rfl) (by simp) ?_
      refine AllReadyH.cons (o := ⟨some 238, _, _, _, _, _⟩) rfl (fun K hK => ?_) (AllReadyH.cons (o := ⟨some 242, _, _, _, _, _⟩) rfl (fun K hK => ?_) (AllReadyH.nil))
      · go_simp
        refine hK.out _ _ S0 (fun hHeld => ?_)
        clear hK K
        (try simp only [Act.put, List.setIfInBounds_toArray, List.set_cons_zero, List.set_cons_succ])
        refine wpAnyH_ready (rs := [11]) (by kernel_rfl) (by simp) ?_
        refine AllReadyH.cons (o := ⟨some 242, _, _, _, _, _⟩) rfl (fun K hK => ?_) (AllReadyH.nil)
        go_simp
        refine hK.out _ _ (S0) (fun hHeld => ?_)
        clear hK K
        (try simp only [Act.put, List.setIfInBounds_toArray, List.set_cons_zero, List.set_cons_succ])
        refine wpAnyH_ready (rs := [12]) (by kernel_rfl) (by simp) ?_
        refine AllReadyH.cons (o := ⟨some 243, _, _, _, _, _⟩) rfl (fun K hK => ?_) (AllReadyH.nil)
        go_simp
        refine (HAP.out _).mono ?_
        rintro e w2 ⟨rfl, b2⟩
        have G2 := belowThen ((Below.refl _ w23).drew) b2
        have HPT2 := Lib.hid ((HA23.out.below G2).putA hca Tv)
        have ka2 := rgCell (HA23.out.below G2).a hca
        have fa2 := (HA23.out.below G2).a.frozen ca
        have G3 := (HA23.out.below G2).bel
        try dsimp only
        refine hK.out _ _ (HS0.out _ G3) (fun hHeld => ?_)
        clear hK K
        (try simp only [Act.put, List.setIfInBounds_toArray, List.set_cons_zero, List.set_cons_succ])
        refine wpAnyH_take (i := 13) (oi := ⟨some 244, _, _, _, _, _⟩) (v := ?v13_11) rfl (by kernel_rfl) (by kernel_rfl) (by kernel_rfl) (fun _ _ _ h => h) (Or.inl ⟨by rfl, ?h13_11⟩) (by assumption) ?r13_11
        case h13_11 => (intro w hSw; (try dsimp only at hSw); go_simp; try with_reducible rfl)
        (try simp only [Act.put, List.setIfInBounds_toArray, List.set_cons_zero, List.set_cons_succ])
        refine wpAnyH_ready (rs := [14]) (by kernel_rfl) (by simp) ?_
        refine AllReadyH.cons (o := ⟨none, _, _, _, _, _⟩) rfl (fun K hK => ?_) (AllReadyH.nil)
        go_simp
        refine hK.out _ _ (HS0.out _ HPT2.out.bel) (fun hHeld => ?_)
        clear hK K
        (try simp only [Act.put, List.setIfInBounds_toArray, List.set_cons_zero, List.set_cons_succ])
        refine wpAnyH_done (by kernel_rfl) ?_ _
        go_wp2_with fail
        go_meet
        exact ⟨rfl, HPT2⟩
      · go_simp
        refine hK.out _ _ S0 (fun hHeld => ?_)
        clear hK K
        (try simp only [Act.put, List.setIfInBounds_toArray, List.set_cons_zero, List.set_cons_succ])
        refine wpAnyH_ready (rs := [7]) (by kernel_rfl) (by simp) ?_
        refine AllReadyH.cons (o := ⟨some 238, _, _, _, _, _⟩) rfl (fun K hK => ?_) (AllReadyH.nil)
        go_simp
        refine hK.out _ _ (S0) (fun hHeld => ?_)
        clear hK K
        (try simp only [Act.put, List.setIfInBounds_toArray, List.set_cons_zero, List.set_cons_succ])
        refine wpAnyH_ready (rs := [12]) (by kernel_rfl) (by simp) ?_
        refine AllReadyH.cons (o := ⟨some 243, _, _, _, _, _⟩) rfl (fun K hK => ?_) (AllReadyH.nil)
        go_simp
        refine (HAP.out _).mono ?_
        rintro e w2 ⟨rfl, b2⟩
        have G2 := belowThen ((Below.refl _ w23).drew) b2
        have HPT2 := Lib.hid ((HA23.out.below G2).putA hca Tv)
        have ka2 := rgCell (HA23.out.below G2).a hca
        have fa2 := (HA23.out.below G2).a.frozen ca
        have G3 := (HA23.out.below G2).bel
        try dsimp only
        refine hK.out _ _ (HS0.out _ G3) (fun hHeld => ?_)
        clear hK K
        (try simp only [Act.put, List.setIfInBounds_toArray, List.set_cons_zero, List.set_cons_succ])
        refine wpAnyH_take (i := 13) (oi := ⟨some 244, _, _, _, _, _⟩) (v := ?v13_12) rfl (by kernel_rfl) (by kernel_rfl) (by kernel_rfl) (fun _ _ _ h => h) (Or.inl ⟨by rfl, ?h13_12⟩) (by assumption) ?r13_12
        case h13_12 => (intro w hSw; (try dsimp only at hSw); go_simp; try with_reducible rfl)
        (try simp only [Act.put, List.setIfInBounds_toArray, List.set_cons_zero, List.set_cons_succ])
        refine wpAnyH_ready (rs := [14]) (by kernel_rfl) (by simp) ?_
        refine AllReadyH.cons (o := ⟨none, _, _, _, _, _⟩) rfl (fun K hK => ?_) (AllReadyH.nil)
        go_simp
        refine hK.out _ _ (HS0.out _ HPT2.out.bel) (fun hHeld => ?_)
        clear hK K
        (try simp only [Act.put, List.setIfInBounds_toArray, List.set_cons_zero, List.set_cons_succ])
        refine wpAnyH_done (by kernel_rfl) ?_ _
        go_wp2_with fail
        go_meet
        exact ⟨rfl, HPT2⟩
    case rest =>
    obtain ⟨rfl, HA24⟩ := hcut
    rename World => w24
    have p2 := (HC16.out w24 HA24.out.bel).cell 2
    have cz := rgCell HA24.out.a hca
    rw [show setR R1 (ca : Int) Tv (ca : Int) = Tv from if_pos rfl] at cz
    obtain ⟨tb, htb⟩ : ∃ tb, (Tv != 0) = tb := ⟨_, rfl⟩
    go_upto_region 26 with fail
    try rw [htb]
    clear p2 cz
    obtain ⟨fb, hfb⟩ : ∃ fb, (Fv != 0) = fb := ⟨_, rfl⟩
    have HTB := Lib.hid htb
    have HFB := Lib.hid hfb
    clear htb hfb
    go_cut [21] from 68 to 67 (fun t21 wx => t21 = .bool fb ∧ Hid (ArrSt w19 b18 b19 (setR R1 (ca : Int) Tv) R wx))
    case first =>
      as_aux_lemma =>
      have HS26 := Lib.hid (fun X (hX : Below w19.heap.size w19 X) => (⟨hX, (HC17.out X hX).cell 6, (HC17.out X hX).cell 2, rgCell (HCR.out X hX) hcm8⟩ :
        Below w19.heap.size w19 X ∧ X.cell? ⟨b17, 6, none⟩ = some (.int .i64 fa) ∧ X.cell? ⟨b17, 2, none⟩ = some (.int .i64 (cm : Int)) ∧ X.cell? ⟨w.heap.size + 1, cm, none⟩ = some (.int .i64 (R (cm : Int)))))
      have S0 := HS26.out w24.drew (HA24.out.below (Below.refl _ w24).drew).bel
      have HAP := Lib.hid (fun X => rApplyLaw fa v (R (cm : Int)) X)
      rw [HF.out] at HAP
      go_region_held3 (fun X => Below w19.heap.size w19 X ∧ X.cell? ⟨b17, 6, none⟩ = some (.int .i64 fa) ∧ X.cell? ⟨b17, 2, none⟩ = some (.int .i64 (cm : Int)) ∧ X.cell? ⟨w.heap.size + 1, cm, none⟩ = some (.int .i64 (R (cm : Int)))) (first | with_reducible assumption | exact HS26.out _ G2 | (trace_state; fail)) (first
        | (go_at_call 10; refine (HAP.out _).mono ?_; rintro e q2 ⟨rfl, g2⟩; have GA := HA24.out.below (belowThen ((Below.refl _ w24).drew) g2); have G2 := GA.bel))
      all_goals (
        go_wp2_with fail
        go_meet
        exact ⟨congrArg Value.bool HFB.out, Lib.hid GA⟩)
    case rest =>
    obtain ⟨rfl, HA26⟩ := hcut
    rename World => w26
    have p1 := (HC17.out w26 HA26.out.bel).cell 1
    have fz := HA26.out.c.frozen la
    have cz := rgCell HA26.out.c hla
    obtain ⟨w27, hw27⟩ : ∃ w27, w26.setCell ⟨b19, la, none⟩ (.int .i64 v) = w27 := ⟨_, rfl⟩
    have HA27 : Hid (ArrSt w19 b18 b19 (setR R1 (ca : Int) Tv) (setR R (la : Int) v) w27) := Lib.hid (by rw [← hw27]; exact HA26.out.putC hla v)
    rw [HR1.out] at HA27
    have HW27 := Lib.hid hw27
    clear hw27
    go_upto_region 28 with fail
    rw [HW27.out]
    clear p1 fz cz HW27
    go_cut [275] from 68 to 67 (fun t275 wx => t275 = .int .i64 Tv ∧ Hid (ArrSt w19 b18 b19 (setR R1 (ca : Int) Tv) (setR R1 (ca : Int) Tv) wx))
    case first =>
      as_aux_lemma =>
      have HAP := Lib.hid (fun X => rApplyLaw y6 (R1 (cb' : Int)) (R1 (cc' : Int)) X)
      rw [HT.out] at HAP
      have kb : w27.drew.cell? ⟨b19, cb', none⟩ = some (.int .i64 (R1 (cb' : Int))) := rgCell HA27.out.c hcb8
      have kd : w27.drew.cell? ⟨b19, cc', none⟩ = some (.int .i64 (R1 (cc' : Int))) := rgCell HA27.out.c hcc8
      have HS0 := Lib.hid (fun X (hX : Below w19.heap.size w19 X) => (⟨hX, (HC15.out X hX).cell 1, (HC15.out X hX).cell 2, (HC15.out X hX).cell 3, (HC15.out X hX).cell 6⟩ :
        Below w19.heap.size w19 X ∧ X.cell? ⟨b15, 1, none⟩ = some (.int .i64 (ca : Int)) ∧ X.cell? ⟨b15, 2, none⟩ = some (.int .i64 (cb' : Int)) ∧ X.cell? ⟨b15, 3, none⟩ = some (.int .i64 (cc' : Int)) ∧ X.cell? ⟨b15, 6, none⟩ = some (.int .i64 y6)))
      have HB0 := Lib.hid (HA27.out.below (Below.refl _ w27).drew).bel
      have S0 := HS0.out w27.drew HB0.out
      obtain ⟨vb, hvb⟩ : ∃ z, R1 (cb' : Int) = z := ⟨_, rfl⟩
      obtain ⟨vc, hvc⟩ : ∃ z, R1 (cc' : Int) = z := ⟨_, rfl⟩
      rw [hvb] at kb HAP
      rw [hvc] at kd HAP
      refine wp_region_held_drew (S := fun X => Below w19.heap.size w19 X ∧ X.cell? ⟨b15, 1, none⟩ = some (.int .i64 (ca : Int)) ∧ X.cell? ⟨b15, 2, none⟩ = some (.int .i64 (cb' : Int)) ∧ X.cell? ⟨b15, 3, none⟩ = some (.int .i64 (cc' : Int)) ∧ X.cell? ⟨b15, 6, none⟩ = some (.int .i64 y6)) (by kernel_rfl) S0 (fun hHeld => ?_)
      refine wpAnyH_take (i := 0) (oi := ⟨some 263, _, _, _, _, _⟩) (v := ?v0_13) rfl (by kernel_rfl) (by kernel_rfl) (by kernel_rfl) (fun _ _ _ h => h) (Or.inl ⟨by rfl, ?h0_13⟩) (by assumption) ?r0_13
      case h0_13 => (intro w hSw; (try dsimp only at hSw); go_simp; try with_reducible rfl)
      (try simp only [Act.put, List.setIfInBounds_toArray, List.set_cons_zero, List.set_cons_succ])
      refine wpAnyH_take (i := 1) (oi := ⟨some 264, _, _, _, _, _⟩) (v := ?v1_14) rfl (by kernel_rfl) (by kernel_rfl) (by kernel_rfl) (fun _ _ _ h => h) (Or.inl ⟨by rfl, ?h1_14⟩) (by assumption) ?r1_14
      case h1_14 => (intro w hSw; (try dsimp only at hSw); go_simp; try with_reducible rfl)
      (try simp only [Act.put, List.setIfInBounds_toArray, List.set_cons_zero, List.set_cons_succ])
      refine wpAnyH_take (i := 2) (oi := ⟨some 265, _, _, _, _, _⟩) (v := ?v2_15) rfl (by kernel_rfl) (by kernel_rfl) (by kernel_rfl) (fun _ _ _ h => h) (Or.inl ⟨by rfl, ?h2_15⟩) (by assumption) ?r2_15
      case h2_15 => (intro w hSw; (try dsimp only at hSw); go_simp; try with_reducible rfl)
      (try simp only [Act.put, List.setIfInBounds_toArray, List.set_cons_zero, List.set_cons_succ])
      refine wpAnyH_take (i := 3) (oi := ⟨some 266, _, _, _, _, _⟩) (v := ?v3_16) rfl (by kernel_rfl) (by kernel_rfl) (by kernel_rfl) (fun _ _ _ h => h) (Or.inl ⟨by rfl, ?h3_16⟩) (by assumption) ?r3_16
      case h3_16 => (intro w hSw; (try dsimp only at hSw); go_simp; try with_reducible rfl)
      (try simp only [Act.put, List.setIfInBounds_toArray, List.set_cons_zero, List.set_cons_succ])
      refine wpAnyH_take (i := 4) (oi := ⟨some 267, _, _, _, _, _⟩) (v := ?v4_17) rfl (by kernel_rfl) (by kernel_rfl) (by kernel_rfl) (fun _ _ _ h => h) (Or.inl ⟨by rfl, ?h4_17⟩) (by assumption) ?r4_17
      case h4_17 => (intro w hSw; (try dsimp only at hSw); go_simp; try with_reducible rfl)
      (try simp only [Act.put, List.setIfInBounds_toArray, List.set_cons_zero, List.set_cons_succ])
      refine wpAnyH_take (i := 5) (oi := ⟨some 268, _, _, _, _, _⟩) (v := ?v5_18) rfl (by kernel_rfl) (by kernel_rfl) (by kernel_rfl) (fun _ _ _ h => h) (Or.inl ⟨by rfl, ?h5_18⟩) (by assumption) ?r5_18
      case h5_18 => (intro w hSw; (try dsimp only at hSw); go_simp; try with_reducible rfl)
      (try simp only [Act.put, List.setIfInBounds_toArray, List.set_cons_zero, List.set_cons_succ])
      refine wpAnyH_take (i := 6) (oi := ⟨some 269, _, _, _, _, _⟩) (v := ?v6_19) rfl (by kernel_rfl) (by kernel_rfl) (by kernel_rfl) (fun _ _ _ h => h) (Or.inl ⟨by rfl, ?h6_19⟩) (by assumption) ?r6_19
      case h6_19 => (intro w hSw; (try dsimp only at hSw); go_simp; try with_reducible rfl)
      (try simp only [Act.put, List.setIfInBounds_toArray, List.set_cons_zero, List.set_cons_succ])
      refine wpAnyH_take (i := 8) (oi := ⟨some 271, _, _, _, _, _⟩) (v := ?v8_20) rfl (by kernel_rfl) (by kernel_rfl) (by kernel_rfl) (fun _ _ _ h => h) (Or.inl ⟨by rfl, ?h8_20⟩) (by assumption) ?r8_20
      case h8_20 => (intro w hSw; (try dsimp only at hSw); go_simp; try with_reducible rfl)
      (try simp only [Act.put, List.setIfInBounds_toArray, List.set_cons_zero, List.set_cons_succ])
      refine wpAnyH_take (i := 9) (oi := ⟨some 272, _, _, _, _, _⟩) (v := ?v9_21) rfl (by kernel_rfl) (by kernel_rfl) (by kernel_rfl) (fun _ _ _ h => h) (Or.inl ⟨by rfl, ?h9_21⟩) (by assumption) ?r9_21
      case h9_21 => (intro w hSw; (try dsimp only at hSw); go_simp; try with_reducible rfl)
      (try simp only [Act.put, List.setIfInBounds_toArray, List.set_cons_zero, List.set_cons_succ])
      refine wpAnyH_take (i := 10) (oi := ⟨some 273, _, _, _, _, _⟩) (v := ?v10_22) rfl (by kernel_rfl) (by kernel_rfl) (by kernel_rfl) (fun _ _ _ h => h) (Or.inl ⟨by rfl, ?h10_22⟩) (by assumption) ?r10_22
      case h10_22 => (intro w hSw; (try dsimp only at hSw); go_simp; try with_reducible rfl)
      (try simp only [Act.put, List.setIfInBounds_toArray, List.set_cons_zero, List.set_cons_succ])
      refine wpAnyH_ready (rs := [7, 11]) (by kernel_rfl) (by simp) ?_
      refine AllReadyH.cons (o := ⟨some 270, _, _, _, _, _⟩) rfl (fun K hK => ?_) (AllReadyH.cons (o := ⟨some 274, _, _, _, _, _⟩) rfl (fun K hK => ?_) (AllReadyH.nil))
      · go_simp
        refine hK.out _ _ S0 (fun hHeld => ?_)
        clear hK K
        (try simp only [Act.put, List.setIfInBounds_toArray, List.set_cons_zero, List.set_cons_succ])
        refine wpAnyH_ready (rs := [11]) (by kernel_rfl) (by simp) ?_
        refine AllReadyH.cons (o := ⟨some 274, _, _, _, _, _⟩) rfl (fun K hK => ?_) (AllReadyH.nil)
        go_simp
        refine hK.out _ _ (S0) (fun hHeld => ?_)
        clear hK K
        (try simp only [Act.put, List.setIfInBounds_toArray, List.set_cons_zero, List.set_cons_succ])
        refine wpAnyH_ready (rs := [12]) (by kernel_rfl) (by simp) ?_
        refine AllReadyH.cons (o := ⟨some 275, _, _, _, _, _⟩) rfl (fun K hK => ?_) (AllReadyH.nil)
        go_simp
        refine (HAP.out _).mono ?_
        rintro e w2 ⟨rfl, b2⟩
        have G2 := belowThen ((Below.refl _ w27).drew) b2
        have HPT2 := Lib.hid ((HA27.out.below G2).putC hca Tv)
        have ka2 := rgCell (HA27.out.below G2).c hca
        have fa2 := (HA27.out.below G2).c.frozen ca
        have G3 := (HA27.out.below G2).bel
        try dsimp only
        refine hK.out _ _ (HS0.out _ G3) (fun hHeld => ?_)
        clear hK K
        (try simp only [Act.put, List.setIfInBounds_toArray, List.set_cons_zero, List.set_cons_succ])
        refine wpAnyH_take (i := 13) (oi := ⟨some 276, _, _, _, _, _⟩) (v := ?v13_23) rfl (by kernel_rfl) (by kernel_rfl) (by kernel_rfl) (fun _ _ _ h => h) (Or.inl ⟨by rfl, ?h13_23⟩) (by assumption) ?r13_23
        case h13_23 => (intro w hSw; (try dsimp only at hSw); go_simp; try with_reducible rfl)
        (try simp only [Act.put, List.setIfInBounds_toArray, List.set_cons_zero, List.set_cons_succ])
        refine wpAnyH_ready (rs := [14]) (by kernel_rfl) (by simp) ?_
        refine AllReadyH.cons (o := ⟨none, _, _, _, _, _⟩) rfl (fun K hK => ?_) (AllReadyH.nil)
        go_simp
        refine hK.out _ _ (HS0.out _ HPT2.out.bel) (fun hHeld => ?_)
        clear hK K
        (try simp only [Act.put, List.setIfInBounds_toArray, List.set_cons_zero, List.set_cons_succ])
        refine wpAnyH_done (by kernel_rfl) ?_ _
        go_wp2_with fail
        go_meet
        exact ⟨rfl, HPT2⟩
      · go_simp
        refine hK.out _ _ S0 (fun hHeld => ?_)
        clear hK K
        (try simp only [Act.put, List.setIfInBounds_toArray, List.set_cons_zero, List.set_cons_succ])
        refine wpAnyH_ready (rs := [7]) (by kernel_rfl) (by simp) ?_
        refine AllReadyH.cons (o := ⟨some 270, _, _, _, _, _⟩) rfl (fun K hK => ?_) (AllReadyH.nil)
        go_simp
        refine hK.out _ _ (S0) (fun hHeld => ?_)
        clear hK K
        (try simp only [Act.put, List.setIfInBounds_toArray, List.set_cons_zero, List.set_cons_succ])
        refine wpAnyH_ready (rs := [12]) (by kernel_rfl) (by simp) ?_
        refine AllReadyH.cons (o := ⟨some 275, _, _, _, _, _⟩) rfl (fun K hK => ?_) (AllReadyH.nil)
        go_simp
        refine (HAP.out _).mono ?_
        rintro e w2 ⟨rfl, b2⟩
        have G2 := belowThen ((Below.refl _ w27).drew) b2
        have HPT2 := Lib.hid ((HA27.out.below G2).putC hca Tv)
        have ka2 := rgCell (HA27.out.below G2).c hca
        have fa2 := (HA27.out.below G2).c.frozen ca
        have G3 := (HA27.out.below G2).bel
        try dsimp only
        refine hK.out _ _ (HS0.out _ G3) (fun hHeld => ?_)
        clear hK K
        (try simp only [Act.put, List.setIfInBounds_toArray, List.set_cons_zero, List.set_cons_succ])
        refine wpAnyH_take (i := 13) (oi := ⟨some 276, _, _, _, _, _⟩) (v := ?v13_24) rfl (by kernel_rfl) (by kernel_rfl) (by kernel_rfl) (fun _ _ _ h => h) (Or.inl ⟨by rfl, ?h13_24⟩) (by assumption) ?r13_24
        case h13_24 => (intro w hSw; (try dsimp only at hSw); go_simp; try with_reducible rfl)
        (try simp only [Act.put, List.setIfInBounds_toArray, List.set_cons_zero, List.set_cons_succ])
        refine wpAnyH_ready (rs := [14]) (by kernel_rfl) (by simp) ?_
        refine AllReadyH.cons (o := ⟨none, _, _, _, _, _⟩) rfl (fun K hK => ?_) (AllReadyH.nil)
        go_simp
        refine hK.out _ _ (HS0.out _ HPT2.out.bel) (fun hHeld => ?_)
        clear hK K
        (try simp only [Act.put, List.setIfInBounds_toArray, List.set_cons_zero, List.set_cons_succ])
        refine wpAnyH_done (by kernel_rfl) ?_ _
        go_wp2_with fail
        go_meet
        exact ⟨rfl, HPT2⟩
    case rest =>
    obtain ⟨rfl, HA28⟩ := hcut
    rename World => w28
    obtain ⟨R2, hR2⟩ : ∃ R2, setR R1 (ca : Int) Tv = R2 := ⟨_, rfl⟩
    have hR2c : R2 (ca : Int) = Tv := by rw [← hR2]; exact if_pos rfl
    rw [hR2] at HA28
    clear hR2
    have HBE := Lib.hid (belowThen (belowThen HBA.out HX19.out) HA28.out.bel)
    have hTU := HTU.out
    have htb := HTB.out
    have hfb := HFB.out
    by_cases hT0 : Tv = 0
    · have hF0 : ¬ Fv = 0 := hTU.1 hT0
      have ht : tb = false := by rw [← htb, hT0]; rfl
      have hf : fb = true := by rw [← hfb]; simpa using hF0
      subst ht hf
      have p2 := (HC16.out w28 HA28.out.bel).cell 2
      have cz := rgCell HA28.out.c hca
      rw [hR2c, hT0] at cz
      have HQ := fun X => eqRg7 (R2 0) (R2 1) (R2 2) (R2 3) (R2 4) (R2 5) (R2 6) (R2 7) X
      obtain ⟨⟨r0, r1, r2, r3, r4, r5, r6, r7⟩, _, _, _, _, _, _, _, _⟩ := blkFacts (show Blk w28 b18 28 #[.int .i64 (R2 0), .int .i64 (R2 1), .int .i64 (R2 2), .int .i64 (R2 3), .int .i64 (R2 4), .int .i64 (R2 5), .int .i64 (R2 6), .int .i64 (R2 7)] from HA28.out.a)
      obtain ⟨⟨s0, s1, s2, s3, s4, s5, s6, s7⟩, _, _, _, _, _, _, _, _⟩ := blkFacts (show Blk w28 b19 28 #[.int .i64 (R2 0), .int .i64 (R2 1), .int .i64 (R2 2), .int .i64 (R2 3), .int .i64 (R2 4), .int .i64 (R2 5), .int .i64 (R2 6), .int .i64 (R2 7)] from HA28.out.c)
      clear hTU htb hfb hT0 hF0 hR2c HTU HTB HFB
      go_wp2_with fail
      go_roundg gg
      case measure => omega
      case rel => exact ⟨k + 1, by omega, by go_num, HBE⟩
    · have hF0 : Fv = 0 := by
        by_cases h : Fv = 0
        · exact h
        · exact absurd (hTU.2 h) hT0
      have ht : tb = true := by rw [← htb]; simpa using hT0
      have hf : fb = false := by rw [← hfb, hF0]; rfl
      subst ht hf
      clear hTU htb hfb hT0 hF0 hR2c HTU HTB HFB
      go_wp2_with fail
      go_roundg gg
      case measure => omega
      case rel => exact ⟨k + 1, by omega, by go_num, HBE⟩
end Go.Proofs.YtebpnnakcodjdaaDoor
