/-
  simplest: Fold, Thread and Prune, until nothing changes.
-/
import Derived.Test.YtpkagpobobmnfaaGreatDoorPSd
import Derived.Test.YtpkagpobobmnfaaGreatDoorPSg
import Derived.Test.YtpkagpobobmnfaaGreatDoorPSe
import Derived.Test.YtpkagpobobmnfaaGreatDoorPPgCa
namespace Go.Proofs.YtpkagpobobmnfaaGreatDoor
open Go Go.RowKit Go.Maps

/-- What a pass gives: a row of its own, its result. -/
def PassGives (nm : ByteArray) (D : List I8) (w : World) (e : Ending) (w' : World) : Prop := ∃ A c, e = .returned (.tuple #[fnV nm A D.length c, .int .i64 0]) ∧ (RdE 8 EI w' A c D ∧ ∀ ad, A = some ad → w.heap.size ≤ ad.block) ∧ Below w.heap.size w w'
/-- A pass on a code without an error. -/
def PassOk (f : FuncId) (F : List I8 → List I8) : Prop := ∀ (nm : ByteArray) (C : List I8), CfOk C → ∀ (n : Nat), C.length = n → ∀ (A : Option Addr) (c : Nat) (w : World), CdW w A c C → Calls Tryz.prog f #[fnV nm A n c] w (PassGives nm (F C) w)
theorem rdI8Chg2 {w X : World} {A : Option Addr} {c g : Nat} {l : List I8} (h : RdE 8 EI w A c l) (hf : 0 < l.length → ∀ ad, A = some ad → ad.block ≠ g) (hc : Chg w X (fun q => q ≠ g)) : RdE 8 EI X A c l := by
  refine ⟨h.le, h.max, fun hn => ?_⟩
  obtain ⟨b, off, eA, hb, h9⟩ := h.at_ hn
  have hk := hc.block b hb (hf hn _ eA)
  exact ⟨b, off, eA, Nat.lt_of_lt_of_le hb hc.size, fun j hj => (fun (h : EI w b (off + j * 8) l[j]) => (⟨(World.cell?_of_block hk).trans h.c0, (World.cell?_of_block hk).trans h.c1, (World.cell?_of_block hk).trans h.c2, (World.cell?_of_block hk).trans h.c3, (World.cell?_of_block hk).trans h.c4, (World.cell?_of_block hk).trans h.c5, (World.cell?_of_block hk).trans h.c6, (World.cell?_of_block hk).trans h.c7⟩ : EI X b (off + j * 8) l[j])) (h9 j hj)⟩
theorem chgFn2 (W : World) (b : Nat) (u v : Value) : Chg W ((W.setCell ⟨b, 0, none⟩ u).setCell ⟨b, 1, none⟩ v) (fun q => q ≠ b) := (chgSetF W b 0 u).trans (chgSetF _ b 1 v) fun _ _ h => h
/-- The two boxes and the code at hand, whose row is not one of the boxes. -/
structure SmSt (w : World) (nm : ByteArray) (A : Option Addr) (n c : Nat) (D : List I8) (X : World) : Prop where
  bel : Below w.heap.size w X
  f : Blk X w.heap.size 24 #[.string nm, .slice A n c]
  r : Blk X (w.heap.size + 1) 24 #[.string ⟨#[]⟩, .slice none 0 0]
  rd : RdE 8 EI X A c D
  ne : 0 < D.length → ∀ ad, A = some ad → ad.block ≠ w.heap.size
theorem SmSt.step {w : World} {nm : ByteArray} {A A1 : Option Addr} {n c n1 c1 : Nat} {D D1 : List I8} {X Y : World} (h : SmSt w nm A n c D X) (hb : Below X.heap.size X Y) (hr : RdE 8 EI Y A1 c1 D1) (hf : ∀ ad, A1 = some ad → X.heap.size ≤ ad.block) :
    SmSt w nm A1 n1 c1 D1 ((Y.setCell ⟨w.heap.size, 0, none⟩ (.string nm)).setCell ⟨w.heap.size, 1, none⟩ (.slice A1 n1 c1)) := by
  have hc := chgFn2 Y w.heap.size (.string nm) (.slice A1 n1 c1)
  have hs := h.f.lt
  have hB := hb.size
  refine ⟨belChgF (belowThen h.bel hb) hc (by have := h.bel.size; omega) fun k hk => (show k ≠ _ by omega), stored2F (h.f.below' hb), (hc.block _ (h.r.below' hb).lt (show _ ≠ _ by omega)).trans (h.r.below' hb), rdI8Chg2 hr (fun _ ad e => by have := hf ad e; omega) hc, fun _ ad e => by have := hf ad e; omega⟩
/-- The result, its row the call's own. -/
def GivesSm (nm : ByteArray) (D : List I8) (w : World) (e : Ending) (w' : World) : Prop := ∃ A c, e = .returned (fnV nm A D.length c) ∧ (RdE 8 EI w' A c D ∧ ∀ ad, A = some ad → w.heap.size ≤ ad.block) ∧ Below w.heap.size w w'
set_option maxRecDepth 100000 in
set_option maxHeartbeats 8000000 in
theorem iSimplest (hF : PassOk 19 fdL) (hT : PassOk 20 thL) (hP : PassOk 21 prL) (nm : ByteArray) (C : List I8) (hok : CfOk C) (n : Nat) (hn : C.length = n) (A : Option Addr) (c : Nat) (w : World) (h : CdW w A c C) :
    Calls Tryz.prog 38 #[fnV nm A n c] w (GivesSm nm (smp C) w) := by
  obtain ⟨W, hW⟩ : ∃ W, (w.alloc (.cells #[.string nm, .slice A n c] 24)).alloc (.cells #[.string ⟨#[]⟩, .slice none 0 0] 24) = W := ⟨_, rfl⟩
  obtain ⟨h1, h2, hbW, hsz⟩ := two8 w _ _ hW
  have HST := Lib.hid (show SmSt w nm A n c C W from ⟨hbW, h1, h2, h.rd.below stabI hbW, fun hl ad e => by
    obtain ⟨b, off, eA, hb, _⟩ := h.rd.one (j := 0) hl
    rw [e] at eA
    injection eA with eA
    subst eA
    exact Nat.ne_of_lt hb⟩)
  have HW := Lib.hid hW
  have HLD := Lib.hid (fun X (hX : Below w.heap.size w X) => h.ld.below hX)
  have HWF := Lib.hid h.wf
  have HOK := Lib.hid hok
  have HF := Lib.hid hF
  have HT := Lib.hid hT
  have HP := Lib.hid hP
  have HN := Lib.hid hn
  unfold fnV
  clear h h1 h2 hbW hW hsz hF hT hP hok hn
  go_enter Tryz.func38, Tryz.ntmps38
  go_upto_region 1 with fail
  rw [HW.out]
  go_wp2_with fail
  go_loopg [] (mz C + 1) (fun g X => ∃ (k : Nat) (A1 : Option Addr) (n1 c1 : Nat), Hid (mz (stN C k) < g ∧ (stN C k).length = n1 ∧ ∀ i ∈ stN C k, i.Wf) ∧ Hid (SmSt w nm A1 n1 c1 (stN C k) X) ∧ Hid (w.heap.size + 1 < X.heap.size ∧ (k ≠ 0 → ∀ ad, A1 = some ad → w.heap.size ≤ ad.block)))
  case atStart => exact ⟨0, A, n, c, Lib.hid ⟨by show mz C < _; omega, HN.out, HWF.out⟩, HST, Lib.hid ⟨HST.out.r.lt, fun h => absurd rfl h⟩⟩
  case round =>
    obtain ⟨k, A1, n1, c1, HM, HS, HZ⟩ := hrel
    have hokD := stNOk (k := k) HOK.out
    obtain ⟨D, hD⟩ : ∃ D, stN C k = D := ⟨_, rfl⟩
    have HSD : Hid (stN C (k + 1) = st D) := Lib.hid (by rw [← hD]; rfl)
    have HDD := Lib.hid hD
    rw [hD] at HM HS hokD
    have HOD := Lib.hid hokD
    cases gk with
    | zero => exact absurd HM.out.1 (Nat.not_lt_zero _)
    | succ g2 =>
      have lF : (fdL D).length = n1 := by rw [fdLLen]; exact HM.out.2.1
      have lT : (thL (fdL D)).length = n1 := by rw [thLen]; exact lF
      obtain ⟨m, lP⟩ : ∃ m, (prL (thL (fdL D))).length = m := ⟨_, rfl⟩
      have HC1 := Lib.hid (HF.out nm D hokD n1 HM.out.2.1 A1 c1 wr ⟨HS.out.rd, HM.out.2.2, HLD.out wr HS.out.bel⟩)
      have HC2 := Lib.hid (fun A2 c2 X (h1 : RdE 8 EI X A2 c2 (fdL D)) (h2 : Below w.heap.size w X) => HT.out nm (fdL D) (fdOk hokD) n1 lF A2 c2 X ⟨h1, fdWfL hokD HM.out.2.2, HLD.out X h2⟩)
      have HC3 := Lib.hid (fun A2 c2 X (h1 : RdE 8 EI X A2 c2 (thL (fdL D))) (h2 : Below w.heap.size w X) => HP.out nm (thL (fdL D)) (thOk (fdOk hokD)) n1 lT A2 c2 X ⟨h1, thWf (fdOk hokD) (fdWfL hokD HM.out.2.2), HLD.out X h2⟩)
      have HWP := Lib.hid (prWf (thOk (fdOk hokD)) (thWf (fdOk hokD) (fdWfL hokD HM.out.2.2)))
      have HEQ := Lib.hid (fun A2 c2 X (h1 : RdE 8 EI X A2 c2 (prL (thL (fdL D)))) (h2 : RdE 8 EI X A1 c1 D) => iEqI (prL (thL (fdL D))) D m n1 lP HM.out.2.1 A2 A1 c2 c1 X h1 h2)
      have HLP := Lib.hid lP
      have HSL := Lib.hid (stLess hokD)
      unfold PassGives fnV at HC1 HC2 HC3
      rw [lF] at HC1
      rw [lT] at HC2
      rw [lP] at HC3
      have f0 := HS.out.f.cell 0
      have f1 := HS.out.f.cell 1
      clear hD hokD lF lT lP
      go_wp2_with fail
      refine HC1.out.mono ?_
      rintro e1 w1 ⟨A2, c2, rfl, ⟨rd1, fr1⟩, b1⟩
      have HS2 := Lib.hid (HS.out.step (n1 := n1) b1 rd1 fr1)
      obtain ⟨w2, hw2⟩ : ∃ X, (w1.setCell ⟨w.heap.size, 0, none⟩ (.string nm)).setCell ⟨w.heap.size, 1, none⟩ (.slice A2 n1 c2) = X := ⟨_, rfl⟩
      rw [hw2] at HS2
      have HO2 := Lib.hid (show RdE 8 EI w2 A1 c1 D by rw [← hw2]; exact rdI8Chg2 (HS.out.rd.below stabI b1) HS.out.ne (chgFn2 _ _ _ _))
      have HW2 := Lib.hid hw2
      have g0 := (HS.out.f.below' b1).cell 0
      have g1 := (HS.out.f.below' b1).cell 1
      have fg0 := (HS.out.f.below' b1).frozen 0
      have fg1 := (HS.out.f.below' b1).frozen 1
      clear f0 f1 hw2 b1 rd1 fr1
      go_upto_region 3 with fail
      rw [HW2.out]
      clear g0 g1 fg0 fg1
      have f0 := HS2.out.f.cell 0
      have f1 := HS2.out.f.cell 1
      go_wp2_with fail
      refine (HC2.out A2 c2 w2 HS2.out.rd HS2.out.bel).mono ?_
      rintro e1 w3 ⟨A4, c4, rfl, ⟨rd3, fr3⟩, b3⟩
      have HS4 := Lib.hid (HS2.out.step (n1 := n1) b3 rd3 fr3)
      obtain ⟨w4, hw4⟩ : ∃ X, (w3.setCell ⟨w.heap.size, 0, none⟩ (.string nm)).setCell ⟨w.heap.size, 1, none⟩ (.slice A4 n1 c4) = X := ⟨_, rfl⟩
      rw [hw4] at HS4
      have HO4 := Lib.hid (show RdE 8 EI w4 A1 c1 D by rw [← hw4]; exact rdI8Chg2 (HO2.out.below stabI b3) HS.out.ne (chgFn2 _ _ _ _))
      have HW4 := Lib.hid hw4
      have g0 := (HS2.out.f.below' b3).cell 0
      have g1 := (HS2.out.f.below' b3).cell 1
      have fg0 := (HS2.out.f.below' b3).frozen 0
      have fg1 := (HS2.out.f.below' b3).frozen 1
      clear f0 f1 hw4 b3 rd3 fr3
      go_upto_region 4 with fail
      rw [HW4.out]
      clear g0 g1 fg0 fg1
      have f0 := HS4.out.f.cell 0
      have f1 := HS4.out.f.cell 1
      go_wp2_with fail
      refine (HC3.out A4 c4 w4 HS4.out.rd HS4.out.bel).mono ?_
      rintro e1 w5 ⟨A6, c6, rfl, ⟨rd5, fr5⟩, b5⟩
      have HS6 := Lib.hid (HS4.out.step (n1 := m) b5 rd5 fr5)
      obtain ⟨w6, hw6⟩ : ∃ X, (w5.setCell ⟨w.heap.size, 0, none⟩ (.string nm)).setCell ⟨w.heap.size, 1, none⟩ (.slice A6 m c6) = X := ⟨_, rfl⟩
      rw [hw6] at HS6
      have HO6 := Lib.hid (show RdE 8 EI w6 A1 c1 D by rw [← hw6]; exact rdI8Chg2 (HO4.out.below stabI b5) HS.out.ne (chgFn2 _ _ _ _))
      have HFR : Hid (∀ ad, A6 = some ad → w.heap.size ≤ ad.block) := Lib.hid fun ad e => by have := fr5 ad e; have := HS4.out.f.lt; omega
      have HFR2 : Hid (∀ ad, A6 = some ad → w.heap.size + 1 < ad.block) := Lib.hid fun ad e => by have := fr5 ad e; have := HS4.out.r.lt; omega
      have HW6 := Lib.hid hw6
      have g0 := (HS4.out.f.below' b5).cell 0
      have g1 := (HS4.out.f.below' b5).cell 1
      have fg0 := (HS4.out.f.below' b5).frozen 0
      have fg1 := (HS4.out.f.below' b5).frozen 1
      clear f0 f1 hw6 b5 rd5 fr5
      go_upto_region 5 with fail
      rw [HW6.out]
      clear g0 g1 fg0 fg1
      have f0 := HS6.out.f.cell 0
      have f1 := HS6.out.f.cell 1
      have HE6 := Lib.hid (HEQ.out A6 c6 w6 HS6.out.rd HO6.out)
      obtain ⟨r, hr⟩ : ∃ r, decide (prL (thL (fdL D)) = D) = r := ⟨_, rfl⟩
      rw [hr] at HE6
      have HR := Lib.hid hr
      clear hr
      go_wp2_with fail
      refine HE6.out.mono ?_
      rintro e1 w7 ⟨rfl, b7⟩
      have HS7 := Lib.hid (show SmSt w nm A6 m c6 (prL (thL (fdL D))) w7 from ⟨belowThen HS6.out.bel b7, HS6.out.f.below' b7, HS6.out.r.below' b7, HS6.out.rd.below stabI b7, HS6.out.ne⟩)
      clear f0 f1 b7
      cases r
      · have hne : st D ≠ D := fun e => by have := HR.out; rw [show prL (thL (fdL D)) = D from e] at this; simp at this
        have HMZ : Hid (mz (st D) < g2) := Lib.hid (by have := HSL.out.resolve_left hne; have := HM.out.1; omega)
        clear hne
        go_wp2_with fail
        go_roundg g2
        case measure => omega
        case rel => exact ⟨k + 1, A6, m, c6, Lib.hid ⟨by rw [HSD.out]; exact HMZ.out, by rw [HSD.out]; exact HLP.out, by rw [HSD.out]; exact HWP.out⟩, by rw [HSD.out]; exact HS7, Lib.hid ⟨HS7.out.r.lt, fun _ => HFR.out⟩⟩
      · have hst : st D = D := of_decide_eq_true HR.out
        have HSMP : Hid (prL (thL (fdL D)) = smp C) := Lib.hid (by
          have := smpOf HOK.out (k := k) (by rw [HDD.out]; exact hst)
          rw [HDD.out] at this
          exact (show st D = smp C from hst.trans this))
        have f0 := HS7.out.f.cell 0
        have f1 := HS7.out.f.cell 1
        have g0 := HS7.out.r.cell 0
        have g1 := HS7.out.r.cell 1
        have fg0 := HS7.out.r.frozen 0
        have fg1 := HS7.out.r.frozen 1
        clear hst
        go_wp2_with fail
        refine bodyPost_ret ((stored2F HS7.out.r).res rfl _ rfl Tryz.underlying24 rfl infoFn2) rfl ?_
        rw [← HSMP.out]
        refine ⟨A6, c6, by rw [HLP.out]; rfl, ⟨rdI8Chg2 HS7.out.rd (fun hl ad e => ?_) (chgFn2 _ _ _ _), HFR.out⟩, below2F HS7.out.bel (by omega)⟩
        have h1 := HFR2.out ad e
        omega
end Go.Proofs.YtpkagpobobmnfaaGreatDoor

namespace Go.Proofs.YtpkagpobobmnfaaGreatDoor
open Go Go.RowKit

/-- Function j's code while those below k are simplified. -/
noncomputable def smpAt (p : Prg) (k j : Nat) (h : j < p.funcs.length) : List I8 := if j < k then smp p.funcs[j].2 else p.funcs[j].2
/-- A row that does not lie in block b. -/
def OffB (A : Option Addr) (n b : Nat) : Prop := 0 < n → ∀ ad, A = some ad → ad.block ≠ b
structure PpSt (w0 : World) (g : Nat) (a : PgA) (p : Prg) (b off k : Nat) (X : World) : Prop where
  bel : Below w0.heap.size w0 X
  box : PBox X g a
  ne : g ≠ b
  glo : w0.heap.size ≤ g
  lo : w0.heap.size ≤ b
  blk : ∃ cur, Blk X b 24 cur
  vars : RdE 2 EV X a.A1 a.c1 p.vars ∧ OffB a.A1 p.vars.length b
  muts : RdE 1 ES X a.A2 a.c2 p.muts ∧ OffB a.A2 p.muts.length b
  conds : RdE 1 ES X a.A3 a.c3 p.conds ∧ OffB a.A3 p.conds.length b
  thr : RdE 2 ET X a.A5 a.c5 p.thr ∧ OffB a.A5 p.thr.length b
  adr : a.A4 = some ⟨b, off, none⟩
  at_ : ∀ j (h : j < p.funcs.length), X.cell? ⟨b, off + j * 2, none⟩ = some (.string p.funcs[j].1) ∧ ∃ B m d, X.cell? ⟨b, off + j * 2 + 1, none⟩ = some (.slice B m d) ∧ (smpAt p k j h).length = m ∧ RdE 8 EI X B d (smpAt p k j h) ∧ OffB B m b
theorem PpSt.lt {w0 : World} {g : Nat} {a : PgA} {p : Prg} {b off k : Nat} {X : World} (h : PpSt w0 g a p b off k X) : b < X.heap.size := by
  obtain ⟨cur, hc⟩ := h.blk
  exact hc.lt
theorem PpSt.below {w0 : World} {g : Nat} {a : PgA} {p : Prg} {b off k : Nat} {X Y : World} (h : PpSt w0 g a p b off k X) (hb : Below X.heap.size X Y) : PpSt w0 g a p b off k Y := by
  have hl := h.lt
  refine ⟨belowThen h.bel hb, h.box.below hb, h.ne, h.glo, h.lo, ?_, ⟨h.vars.1.below stabV hb, h.vars.2⟩, ⟨h.muts.1.below stabS hb, h.muts.2⟩, ⟨h.conds.1.below stabS hb, h.conds.2⟩, ⟨h.thr.1.below stabT hb, h.thr.2⟩, h.adr, fun j hj => ?_⟩
  · obtain ⟨cur, hc⟩ := h.blk
    exact ⟨cur, hc.below' hb⟩
  · obtain ⟨h1, B, m, d, h2, h3, h4, h5⟩ := h.at_ j hj
    exact ⟨(hb.cell hl).trans h1, B, m, d, (hb.cell hl).trans h2, h3, h4.below stabI hb, h5⟩
theorem PpSt.step {w0 : World} {g : Nat} {a : PgA} {p : Prg} {b off k : Nat} {X Y : World} (h : PpSt w0 g a p b off k X) (hk : k < p.funcs.length) (hb : Below X.heap.size X Y) {nm : ByteArray} (hnm : p.funcs[k].1 = nm) {m : Nat} (hm : (smp p.funcs[k].2).length = m) {B : Option Addr} {d : Nat} (hr : RdE 8 EI Y B d (smp p.funcs[k].2)) (hoff : OffB B m b) :
    PpSt w0 g a p b off (k + 1) ((Y.setCell ⟨b, off + k * 2, none⟩ (.string nm)).setCell ⟨b, off + k * 2 + 1, none⟩ (.slice B m d)) := by
  have hl := h.lt
  have h' := h.below hb
  obtain ⟨cur, hcur⟩ := h'.blk
  have hc : But b Y ((Y.setCell ⟨b, off + k * 2, none⟩ (.string nm)).setCell ⟨b, off + k * 2 + 1, none⟩ (.slice B m d)) := (but1 Y b (off + k * 2) (.string nm)).trans (but1 _ b (off + k * 2 + 1) (.slice B m d)) fun _ _ h => h
  have hB2 := (hcur.set (off + k * 2) (.string nm)).set (off + k * 2 + 1) (.slice B m d)
  have hin : ∀ i v, Y.cell? ⟨b, i, none⟩ = some v → i < cur.size := fun i v e => by
    rw [hcur.cell] at e
    exact (Array.getElem?_eq_some_iff.1 e).1
  have hother : ∀ i, i ≠ off + k * 2 → i ≠ off + k * 2 + 1 → ((Y.setCell ⟨b, off + k * 2, none⟩ (.string nm)).setCell ⟨b, off + k * 2 + 1, none⟩ (.slice B m d)).cell? ⟨b, i, none⟩ = Y.cell? ⟨b, i, none⟩ := fun i h1 h2 => by
    rw [hB2.cell, hcur.cell, Array.getElem?_setIfInBounds_ne (Ne.symm h2), Array.getElem?_setIfInBounds_ne (Ne.symm h1)]
  refine ⟨((belowThen h.bel hb).setCell h.lo _).setCell h.lo _, (h'.box.other h.ne _ _).other h.ne _ _, h.ne, h.glo, h.lo, ⟨_, hB2⟩, ⟨h'.vars.1.butOld locV hc h.vars.2, h.vars.2⟩, ⟨h'.muts.1.butOld locS hc h.muts.2, h.muts.2⟩, ⟨h'.conds.1.butOld locS hc h.conds.2, h.conds.2⟩, ⟨h'.thr.1.butOld locT hc h.thr.2, h.thr.2⟩, h.adr, fun j hj => ?_⟩
  obtain ⟨h1, B', m', d', h2, h3, h4, h5⟩ := h'.at_ j hj
  by_cases hjk : j = k
  · subst hjk
    have e : smpAt p (j + 1) j hj = smp p.funcs[j].2 := by unfold smpAt; rw [if_pos (Nat.lt_succ_self _)]
    rw [e]
    refine ⟨?_, B, m, d, ?_, hm, hr.butOld locI hc (by rw [hm]; exact hoff), hoff⟩
    · rw [hB2.cell, Array.getElem?_setIfInBounds_ne (by omega), Array.getElem?_setIfInBounds_self_of_lt (hin _ _ h1), hnm]
    · rw [hB2.cell, Array.getElem?_setIfInBounds_self_of_lt (by rw [Array.size_setIfInBounds]; exact hin _ _ h2)]
  · have e : smpAt p (k + 1) j hj = smpAt p k j hj := by
      unfold smpAt
      by_cases hlt : j < k
      · rw [if_pos hlt, if_pos (by omega)]
      · rw [if_neg hlt, if_neg (by omega)]
    rw [e]
    exact ⟨(hother _ (by omega) (by omega)).trans h1, B', m', d', (hother _ (by omega) (by omega)).trans h2, h3, h4.butOld locI hc (by rw [h3]; exact h5), h5⟩
/-- The copy as Clone hands it back. -/
theorem PpSt.start {w0 Y X : World} {g : Nat} {a : PgA} {p : Prg} (h : Cl8 w0.heap.size Y p a) (hl : 0 < a.n4) (hb : Below w0.heap.size w0 Y) (hX : Below Y.heap.size Y X) (hg : PBox X g a) (hgl : Y.heap.size ≤ g) : ∃ b off, PpSt w0 g a p b off 0 X := by
  obtain ⟨b, off, hf⟩ := h.fn hl
  obtain ⟨cur, hcur⟩ := hf.blk
  have hBY : Blk Y b 24 cur := hcur
  have hlt := hBY.lt
  have off5 : ∀ {A : Option Addr} {m k : Nat} {e : TypeId}, e ≠ 24 → 0 < k → FreshRow Y w0.heap.size A (m * k) e → OffB A m b := fun {A m k e} he hk hr hm ad had => by
    obtain ⟨b', cur', e1, e2, e3, e4⟩ := hr (Nat.mul_pos hm hk)
    rw [e1] at had
    cases had
    intro e
    subst e
    rw [hcur] at e3
    injection e3 with e3
    injection e3 with _ ht
    exact he ht.symm
  refine ⟨b, off, ⟨belowThen hb hX, hg, by omega, Nat.le_trans hb.size hgl, hf.lo, ⟨cur, hBY.below' hX⟩, ⟨h.pg.vars.below stabV hX, by rw [h.pg.l1]; exact off5 (by decide) (by decide) h.f1⟩, ⟨h.pg.muts.below stabS hX, by rw [h.pg.l2]; exact off5 (by decide) (by decide) h.f2⟩, ⟨h.pg.conds.below stabS hX, by rw [h.pg.l3]; exact off5 (by decide) (by decide) h.f3⟩, ⟨h.pg.thr.below stabT hX, by rw [h.pg.l5]; exact off5 (by decide) (by decide) h.f5⟩, hf.adr, fun j hj => ?_⟩⟩
  obtain ⟨h1, B, m, d, h2, h3, h4, h5, _⟩ := hf.at_ j hj
  have hj4 : j < a.n4 := by rw [← h.pg.l4]; exact hj
  have e : smpAt p 0 j hj = p.funcs[j].2 := by unfold smpAt; rw [if_neg (Nat.not_lt_zero _)]
  rw [e]
  exact ⟨(hX.cell hlt).trans h1, B, m, d, (hX.cell hlt).trans h2, h3, h4.below stabI hX, off5 (by decide) (by decide) (h5 hj4)⟩
/-- All functions simplified: the program simplified. -/
theorem PpSt.done {w0 : World} {g : Nat} {a : PgA} {p : Prg} {b off k : Nat} {X : World} (h : PpSt w0 g a p b off k X) (hk : p.funcs.length ≤ k) (h1 : p.vars.length = a.n1) (h2 : p.muts.length = a.n2) (h3 : p.conds.length = a.n3) (h4 : p.funcs.length = a.n4) (h5 : p.thr.length = a.n5) (hle : a.n4 ≤ a.c4) (hmx : a.c4 ≤ maxLen) : PgW X a (smpP p) := by
  refine ⟨h1, h2, h3, by unfold smpP; rw [List.length_map]; exact h4, h5, h.vars.1, h.muts.1, h.conds.1, ⟨by unfold smpP; rw [List.length_map]; omega, hmx, fun _ => ⟨b, off, h.adr, h.lt, fun j hj => ?_⟩⟩, h.thr.1⟩
  have hj' : j < p.funcs.length := by unfold smpP at hj; rw [List.length_map] at hj; exact hj
  obtain ⟨q1, B, m, d, q2, q3, q4, _⟩ := h.at_ j hj'
  have e : (smpP p).funcs[j] = (p.funcs[j].1, smp p.funcs[j].2) := by
    show (p.funcs.map fun f => (f.1, smp f.2))[j]'(by rw [List.length_map]; exact hj') = _
    rw [List.getElem_map]
  have e2 : smpAt p k j hj' = smp p.funcs[j].2 := by unfold smpAt; rw [if_pos (by omega)]
  rw [e2] at q3 q4
  rw [e]
  exact ⟨q1, _, q2, B, m, d, rfl, q3, q4⟩
end Go.Proofs.YtpkagpobobmnfaaGreatDoor
