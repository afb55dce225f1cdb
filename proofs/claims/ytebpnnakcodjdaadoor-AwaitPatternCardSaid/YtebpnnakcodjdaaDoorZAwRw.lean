/-
  The contract of await.awaitOf: the instruction that replaces the load of a spin loop.
-/
import Derived.Test.YtebpnnakcodjdaaDoorZAwR
import Derived.Test.YtebpnnakcodjdaaDoorZAwM
import Derived.Test.YtebpnnakcodjdaaDoorZPgCl
import Derived.Test.YtebpnnakcodjdaaDoorZOp
import Derived.Test.YtebpnnakcodjdaaDoorZAwP
import Derived.Test.YtebpnnakcodjdaaDoorZAwN
import Derived.Deep.RegionHeld3
namespace Go.Proofs.YtebpnnakcodjdaaDoor
open Go Go.RowKit

theorem three (W : World) (o1 o2 o3 : Obj) {Z : World} (hZ : ((W.alloc o1).alloc o2).alloc o3 = Z) :
    (Z.heap[W.heap.size]? = some o1 ∧ Z.heap[W.heap.size + 1]? = some o2 ∧ Z.heap[W.heap.size + 1 + 1]? = some o3) ∧ Below W.heap.size W Z ∧ Z.heap.size = W.heap.size + 1 + 1 + 1 := by
  subst hZ
  have new : ∀ (X : World) (o : Obj) (k : Nat), X.heap.size = k → (X.alloc o).heap[k]? = some o := fun X o k h => h ▸ World.alloc_heap_new X o
  have old : ∀ (X : World) (o o' : Obj) (k : Nat), X.heap[k]? = some o' → (X.alloc o).heap[k]? = some o' := fun X o o' k h => ((belowAlloc X o).block k (Array.getElem?_eq_some_iff.1 h).1).trans h
  refine ⟨⟨old _ _ _ _ (old _ _ _ _ (new _ _ _ rfl)), old _ _ _ _ (new _ _ _ (by simp)), new _ _ _ (by simp)⟩, ?_, by simp⟩
  exact belowThen (belowThen (belowAlloc _ _) (belowAlloc _ _)) (belowAlloc _ _)
set_option maxRecDepth 100000 in
set_option maxHeartbeats 4000000 in
theorem iAwaitOf (l c : I8) (w : World) : Calls Tryd.prog 17 #[l.val, c.val] w fun e w' => e = .returned (awOf l c).val ∧ Below w.heap.size w w' := by
  have HCN := Lib.hid (fun X => iCondition l c X)
  have HCMP := Lib.hid (fun X => iCompared l c X)
  unfold awOf
  obtain ⟨fn, hfn⟩ : ∃ f, awFn l c = f := ⟨_, rfl⟩
  obtain ⟨z, hz⟩ : ∃ z, awCmp l c = z := ⟨_, rfl⟩
  obtain ⟨ok, hok⟩ : ∃ z, awOk l c = z := ⟨_, rfl⟩
  rw [hfn, hok] at HCN
  rw [hz] at HCMP
  rw [hfn, hz]
  clear hfn hz hok
  obtain ⟨x0, x1, x2, x3, x4, x5, x6, x7⟩ := l
  obtain ⟨y0, y1, y2, y3, y4, y5, y6, y7⟩ := c
  unfold I8.val at HCN HCMP ⊢
  simp only at HCN HCMP ⊢
  obtain ⟨W, hW⟩ : ∃ W, ((w.alloc (.cells #[.int .i64 x0, .int .i64 x1, .int .i64 x2, .int .i64 x3, .int .i64 x4, .int .i64 x5, .int .i64 x6, .int .i64 x7] 47)).alloc (.cells #[.int .i64 y0, .int .i64 y1, .int .i64 y2, .int .i64 y3, .int .i64 y4, .int .i64 y5, .int .i64 y6, .int .i64 y7] 47)).alloc (.cells #[.int .i64 0, .int .i64 0, .int .i64 0, .int .i64 0, .int .i64 0, .int .i64 0, .int .i64 0, .int .i64 0] 47) = W := ⟨_, rfl⟩
  obtain ⟨⟨h1, h2, h3⟩, hbW, hsz⟩ := three w _ _ _ hW
  have HB1 := Lib.hid (show Blk W w.heap.size 47 _ from h1)
  have HB2 := Lib.hid (show Blk W (w.heap.size + 1) 47 _ from h2)
  have HB3 := Lib.hid (show Blk W (w.heap.size + 1 + 1) 47 _ from h3)
  have HBW := Lib.hid hbW
  have HW := Lib.hid hW
  have HSZ := Lib.hid hsz
  clear h1 h2 h3 hbW hW hsz
  obtain ⟨⟨a0, a1, a2, a3, a4, a5, a6, a7⟩, -⟩ := blkFacts HB1.out
  obtain ⟨⟨b0, b1, b2, b3, b4, b5, b6, b7⟩, -⟩ := blkFacts HB2.out
  go_enter Tryd.func17, Tryd.ntmps17
  go_wp2_with fail
  rw [HW.out]
  go_wp2_with fail
  refine (HCN.out _).mono ?_
  rintro e w1 ⟨rfl, q1⟩
  have HQ1 := Lib.hid q1
  replace HB1 := Lib.hid (HB1.out.below' q1)
  replace HB2 := Lib.hid (HB2.out.below' q1)
  replace HB3 := Lib.hid (HB3.out.below' q1)
  clear a0 a1 a2 a3 a4 a5 a6 a7 b0 b1 b2 b3 b4 b5 b6 b7
  have HSW : Hid (w.heap.size + 1 + 1 ≤ w1.heap.size) := Lib.hid (by have := HSZ.out; have := q1.size; omega)
  clear q1
  have HS := Lib.hid (fun X (hX : Below (w.heap.size + 1 + 1) w1 X) => (⟨hX, (hX.cell (p := ⟨w.heap.size, 0, none⟩) (show w.heap.size < w.heap.size + 1 + 1 by omega)).trans (HB1.out.cell 0), (hX.cell (p := ⟨w.heap.size, 1, none⟩) (show w.heap.size < w.heap.size + 1 + 1 by omega)).trans (HB1.out.cell 1), (hX.cell (p := ⟨w.heap.size, 2, none⟩) (show w.heap.size < w.heap.size + 1 + 1 by omega)).trans (HB1.out.cell 2), (hX.cell (p := ⟨w.heap.size, 3, none⟩) (show w.heap.size < w.heap.size + 1 + 1 by omega)).trans (HB1.out.cell 3), (hX.cell (p := ⟨w.heap.size, 4, none⟩) (show w.heap.size < w.heap.size + 1 + 1 by omega)).trans (HB1.out.cell 4), (hX.cell (p := ⟨w.heap.size, 5, none⟩) (show w.heap.size < w.heap.size + 1 + 1 by omega)).trans (HB1.out.cell 5), (hX.cell (p := ⟨w.heap.size, 6, none⟩) (show w.heap.size < w.heap.size + 1 + 1 by omega)).trans (HB1.out.cell 6), (hX.cell (p := ⟨w.heap.size, 7, none⟩) (show w.heap.size < w.heap.size + 1 + 1 by omega)).trans (HB1.out.cell 7), (hX.cell (p := ⟨w.heap.size + 1, 0, none⟩) (show w.heap.size + 1 < w.heap.size + 1 + 1 by omega)).trans (HB2.out.cell 0), (hX.cell (p := ⟨w.heap.size + 1, 1, none⟩) (show w.heap.size + 1 < w.heap.size + 1 + 1 by omega)).trans (HB2.out.cell 1), (hX.cell (p := ⟨w.heap.size + 1, 2, none⟩) (show w.heap.size + 1 < w.heap.size + 1 + 1 by omega)).trans (HB2.out.cell 2), (hX.cell (p := ⟨w.heap.size + 1, 3, none⟩) (show w.heap.size + 1 < w.heap.size + 1 + 1 by omega)).trans (HB2.out.cell 3), (hX.cell (p := ⟨w.heap.size + 1, 4, none⟩) (show w.heap.size + 1 < w.heap.size + 1 + 1 by omega)).trans (HB2.out.cell 4), (hX.cell (p := ⟨w.heap.size + 1, 5, none⟩) (show w.heap.size + 1 < w.heap.size + 1 + 1 by omega)).trans (HB2.out.cell 5), (hX.cell (p := ⟨w.heap.size + 1, 6, none⟩) (show w.heap.size + 1 < w.heap.size + 1 + 1 by omega)).trans (HB2.out.cell 6), (hX.cell (p := ⟨w.heap.size + 1, 7, none⟩) (show w.heap.size + 1 < w.heap.size + 1 + 1 by omega)).trans (HB2.out.cell 7)⟩ : Below (w.heap.size + 1 + 1) w1 X ∧ X.cell? ⟨w.heap.size, 0, none⟩ = some (.int .i64 x0) ∧ X.cell? ⟨w.heap.size, 1, none⟩ = some (.int .i64 x1) ∧ X.cell? ⟨w.heap.size, 2, none⟩ = some (.int .i64 x2) ∧ X.cell? ⟨w.heap.size, 3, none⟩ = some (.int .i64 x3) ∧ X.cell? ⟨w.heap.size, 4, none⟩ = some (.int .i64 x4) ∧ X.cell? ⟨w.heap.size, 5, none⟩ = some (.int .i64 x5) ∧ X.cell? ⟨w.heap.size, 6, none⟩ = some (.int .i64 x6) ∧ X.cell? ⟨w.heap.size, 7, none⟩ = some (.int .i64 x7) ∧ X.cell? ⟨w.heap.size + 1, 0, none⟩ = some (.int .i64 y0) ∧ X.cell? ⟨w.heap.size + 1, 1, none⟩ = some (.int .i64 y1) ∧ X.cell? ⟨w.heap.size + 1, 2, none⟩ = some (.int .i64 y2) ∧ X.cell? ⟨w.heap.size + 1, 3, none⟩ = some (.int .i64 y3) ∧ X.cell? ⟨w.heap.size + 1, 4, none⟩ = some (.int .i64 y4) ∧ X.cell? ⟨w.heap.size + 1, 5, none⟩ = some (.int .i64 y5) ∧ X.cell? ⟨w.heap.size + 1, 6, none⟩ = some (.int .i64 y6) ∧ X.cell? ⟨w.heap.size + 1, 7, none⟩ = some (.int .i64 y7)))
  obtain ⟨-, a0, a1, a2, a3, a4, a5, a6, a7, b0, b1, b2, b3, b4, b5, b6, b7⟩ := HS.out w1 (Below.refl _ _)
  have S0 := HS.out w1.drew ((Below.refl _ w1).drew)
  go_wp2_with fail
  go_region_held3 (fun X => Below (w.heap.size + 1 + 1) w1 X ∧ X.cell? ⟨w.heap.size, 0, none⟩ = some (.int .i64 x0) ∧ X.cell? ⟨w.heap.size, 1, none⟩ = some (.int .i64 x1) ∧ X.cell? ⟨w.heap.size, 2, none⟩ = some (.int .i64 x2) ∧ X.cell? ⟨w.heap.size, 3, none⟩ = some (.int .i64 x3) ∧ X.cell? ⟨w.heap.size, 4, none⟩ = some (.int .i64 x4) ∧ X.cell? ⟨w.heap.size, 5, none⟩ = some (.int .i64 x5) ∧ X.cell? ⟨w.heap.size, 6, none⟩ = some (.int .i64 x6) ∧ X.cell? ⟨w.heap.size, 7, none⟩ = some (.int .i64 x7) ∧ X.cell? ⟨w.heap.size + 1, 0, none⟩ = some (.int .i64 y0) ∧ X.cell? ⟨w.heap.size + 1, 1, none⟩ = some (.int .i64 y1) ∧ X.cell? ⟨w.heap.size + 1, 2, none⟩ = some (.int .i64 y2) ∧ X.cell? ⟨w.heap.size + 1, 3, none⟩ = some (.int .i64 y3) ∧ X.cell? ⟨w.heap.size + 1, 4, none⟩ = some (.int .i64 y4) ∧ X.cell? ⟨w.heap.size + 1, 5, none⟩ = some (.int .i64 y5) ∧ X.cell? ⟨w.heap.size + 1, 6, none⟩ = some (.int .i64 y6) ∧ X.cell? ⟨w.heap.size + 1, 7, none⟩ = some (.int .i64 y7))
    (first | with_reducible assumption | with_reducible exact HS.out _ G2 | exact HS.out _ (below8 G2 (Nat.le_refl _)))
    (first
      | (go_at_call 36; refine (HCMP.out _).mono ?_; rintro e q2 ⟨rfl, g2⟩; have G2 := (‹Below (w.heap.size + 1 + 1) w1 _ ∧ _›).1.trans (g2.mono (Nat.le_trans HSW.out (‹Below (w.heap.size + 1 + 1) w1 _ ∧ _›).1.size)); have HQ2 := Lib.hid (Blk.below' (show Blk w1.drew (w.heap.size + 1 + 1) 47 _ from HB3.out) g2); have HG2 := Lib.hid (belowThen ((Below.refl _ w1).drew) g2); obtain ⟨⟨r0, r1, r2, r3, r4, r5, r6, r7⟩, fr0, fr1, fr2, fr3, fr4, fr5, fr6, fr7⟩ := blkFacts HQ2.out))
  go_wp2_with fail
  exact bodyPost_ret ((stored8 HQ2.out).res rfl _ rfl Tryd.underlying47 rfl infoInst) rfl ⟨rfl, below8 (belowThen HBW.out (belowThen HQ1.out HG2.out)) (by omega)⟩
end Go.Proofs.YtebpnnakcodjdaaDoor

namespace Go.Proofs.YtebpnnakcodjdaaDoor
open Go Go.RowKit

def Prg.none : Prg := ⟨[], [], [], [], []⟩
def rwR (p : Prg) : Prg := if p.chk.1 = 0 then rwP p p.spins else Prg.none
def GivesRw (p : Prg) (w : World) (e : Ending) (w' : World) : Prop := ∃ a' : PgA, e = .returned (.tuple #[a'.val, .int .i64 p.chk.1]) ∧ PgW w' a' (rwR p) ∧ Below w.heap.size w w'
theorem pgNone (w : World) : PgW w ⟨none, 0, 0, none, 0, 0, none, 0, 0, none, 0, 0, none, 0, 0⟩ Prg.none := ⟨rfl, rfl, rfl, rfl, rfl, RdE.nil, RdE.nil, RdE.nil, RdE.nil, RdE.nil⟩
theorem infoPg : (Tryd.prog.info? 27).map (·.size) = some 5 := by kernel_rfl
theorem blkFacts5 {W : World} {b : Nat} {T : TypeId} {x0 x1 x2 x3 x4 : Value} (h : Blk W b T #[x0, x1, x2, x3, x4]) : (W.cell? ⟨b, 0, none⟩ = some x0 ∧ W.cell? ⟨b, 1, none⟩ = some x1 ∧ W.cell? ⟨b, 2, none⟩ = some x2 ∧ W.cell? ⟨b, 3, none⟩ = some x3 ∧ W.cell? ⟨b, 4, none⟩ = some x4) ∧ W.frozen? ⟨b, 0, none⟩ = false ∧ W.frozen? ⟨b, 1, none⟩ = false ∧ W.frozen? ⟨b, 2, none⟩ = false ∧ W.frozen? ⟨b, 3, none⟩ = false ∧ W.frozen? ⟨b, 4, none⟩ = false :=
  ⟨⟨h.cell 0, h.cell 1, h.cell 2, h.cell 3, h.cell 4⟩, h.frozen 0, h.frozen 1, h.frozen 2, h.frozen 3, h.frozen 4⟩
theorem stored5 {W : World} {b : Nat} {T : TypeId} {x0 x1 x2 x3 x4 : Value} (h : Blk W b T #[x0, x1, x2, x3, x4]) (v0 v1 v2 v3 v4 : Value) : Blk (put5 W b v0 v1 v2 v3 v4) b T #[v0, v1, v2, v3, v4] := ((((h.set 0 v0).set 1 v1).set 2 v2).set 3 v3).set 4 v4
theorem frz8 {W : World} {g : Nat} {e : TypeId} {cur : Array Value} (h : Blk W g e cur) (o : Nat) : W.frozen? ⟨g, o, none⟩ = false ∧ W.frozen? ⟨g, o + 1, none⟩ = false ∧ W.frozen? ⟨g, o + 2, none⟩ = false ∧ W.frozen? ⟨g, o + 3, none⟩ = false ∧ W.frozen? ⟨g, o + 4, none⟩ = false ∧ W.frozen? ⟨g, o + 5, none⟩ = false ∧ W.frozen? ⟨g, o + 6, none⟩ = false ∧ W.frozen? ⟨g, o + 7, none⟩ = false :=
  ⟨h.frozen _, h.frozen _, h.frozen _, h.frozen _, h.frozen _, h.frozen _, h.frozen _, h.frozen _⟩
theorem spGo (p : Prg) : rwP p (p.spins.take 0) = p := by rw [List.take_zero, rwPNil]
/-- What lies in memory while spin loop after spin loop is replaced. -/
structure RwSt (w1 : World) (g6 : Nat) (a' : PgA) (p : Prg) (k : Nat) (X : World) : Prop where
  bel : Below w1.heap.size w1 X
  cl : Cl8 w1.heap.size X (rwP p (p.spins.take k)) a'
  box : PBox X g6 a'
theorem RwSt.below {w1 : World} {g6 : Nat} {a' : PgA} {p : Prg} {k : Nat} {X Y : World} (h : RwSt w1 g6 a' p k X) (hb : Below X.heap.size X Y) : RwSt w1 g6 a' p k Y := ⟨belowThen h.bel hb, h.cl.below hb, h.box.below hb⟩
set_option maxRecDepth 100000 in
set_option maxHeartbeats 4000000 in
theorem iRewrite {a : PgA} {p : Prg} (w : World) (hP : PgW w a p) (hW : p.Wf) (hsm : p.small = true) (hT : InsT w) (hN : Nm w) :
    Calls Tryd.prog 9 #[a.val] w (GivesRw p w) := by
  obtain ⟨W0, hW0⟩ : ∃ W, w.alloc (.cells a.fs 27) = W := ⟨_, rfl⟩
  obtain ⟨W, hWE⟩ : ∃ W, W0.alloc (.cells zer5 27) = W := ⟨_, rfl⟩
  have hbW : Below w.heap.size w W := by rw [← hWE, ← hW0]; exact belowThen (belowAlloc w _) (belowAlloc _ _)
  have hB : PBox W w.heap.size a := by rw [← hWE, ← hW0]; exact (Blk.new w _ _).alloc _
  have hR : Blk W (w.heap.size + 1) 27 zer5 := by rw [← hWE, ← hW0]; exact Blk.new1 w _ _ _
  have HRB := Lib.hid hR
  have HK := Lib.hid (fun Y (hY : Below W.heap.size W Y) => (hB.below hY).facts)
  have HFI := Lib.hid (iFind W (hP.below hbW) hW hsm (hT.below hbW) (hN.below hbW))
  have few := fewOf hsm
  have HCL := Lib.hid (fun X (hX : Below W.heap.size W X) => iClone8 p a X ((hP.below hbW).below hX) (by have := hP.l1; omega) (by have := hP.l2; omega) (by have := hP.l3; omega) (by have := hP.l4; omega) (by have := hP.l5; omega) (fun f hf => by have := shortOf hsm f hf; omega))
  have HSH := Lib.hid (shortOf hsm)
  have HSL := Lib.hid (show p.spins.length ≤ 2000 by have := spFLen (F := p.funcs) (shortOf hsm) (Nat.le_refl _); have := few.2.2.2.1; unfold Prg.spins; omega)
  have HW := Lib.hid hWE
  have HW0 := Lib.hid hW0
  have HBW := Lib.hid hbW
  have HRR : Hid (p.chk.1 = 0 → rwR p = rwP p p.spins) := Lib.hid fun h => by unfold rwR; rw [if_pos h]
  have HRN : Hid (p.chk.1 ≠ 0 → rwR p = Prg.none) := Lib.hid fun h => by unfold rwR; rw [if_neg h]
  have HSP0 : Hid (p.chk.1 = 0 → spR p = p.spins) := Lib.hid fun h => by unfold spR; rw [if_pos h]
  unfold GivesRw
  unfold GivesN at HFI
  obtain ⟨x, hx⟩ : ∃ x, p.chk.1 = x := ⟨_, rfl⟩
  rw [hx] at HFI HRR HRN HSP0 ⊢
  obtain ⟨A1, n1, c1, A2, n2, c2, A3, n3, c3, A4, n4, c4, A5, n5, c5⟩ := a
  simp only [PgA.val, PgA.fs] at *
  clear hP hW hT hN hsm hWE hbW hB hx few hR hW0
  unfold zer5 at HW
  by_cases hne : x = 0
  rotate_left
  · have hq : (x != 0) = true := by simpa using hne
    have HN := Lib.hid (HRN.out hne)
    clear hne HRR HRN HSP0 HCL HSL HSH
    go_enter Tryd.func9, Tryd.ntmps9
    obtain ⟨f0, f1, f2, f3, f4⟩ := HK.out W (Below.refl _ _)
    go_wp2_with fail
    rw [HW0.out, HW.out]
    go_wp2_with fail
    refine HFI.out.mono ?_
    rintro e w1 ⟨v, rfl, -, b1⟩
    have HRB1 := Lib.hid (HRB.out.below' b1)
    have HB1 := Lib.hid b1
    obtain ⟨⟨r0, r1, r2, r3, r4⟩, fr0, fr1, fr2, fr3, fr4⟩ := blkFacts5 HRB1.out
    clear b1 f0 f1 f2 f3 f4
    go_wp2_with fail
    refine bodyPost_ret ((stored5 HRB1.out _ _ _ _ _).res2 rfl _ rfl Tryd.underlying27 rfl infoPg) rfl ?_
    exact ⟨⟨none, 0, 0, none, 0, 0, none, 0, 0, none, 0, 0, none, 0, 0⟩, rfl, by rw [HN.out]; exact pgNone _, below5 (belowThen HBW.out HB1.out) (Nat.le_succ _) _ _ _ _ _⟩
  subst hne
  have HRW := Lib.hid (HRR.out rfl)
  have HSP := Lib.hid (HSP0.out rfl)
  rw [HSP.out] at HFI
  rw [HRW.out]
  clear HRR HRN HSP0
  obtain ⟨m, hm⟩ : ∃ m, p.spins.length = m := ⟨_, rfl⟩
  have HM := Lib.hid hm
  have hm2 := HSL.out
  rw [hm] at hm2
  have HKS := Lib.hid (fun k (hk : k < p.spins.length) => spKOf hk)
  clear hm
  go_enter Tryd.func9, Tryd.ntmps9
  obtain ⟨f0, f1, f2, f3, f4⟩ := HK.out W (Below.refl _ _)
  go_wp2_with fail
  rw [HW0.out, HW.out]
  go_wp2_with fail
  refine HFI.out.mono ?_
  rintro e w1 ⟨v, rfl, o1, b1⟩
  obtain ⟨As, cs, rfl, rs⟩ := o1.rd
  rw [HM.out]
  have HRB1 := Lib.hid (HRB.out.below' b1)
  have HB1 := Lib.hid b1
  have HRS := Lib.hid rs
  have hcs := rs.le
  have hcm := rs.max
  rw [HM.out] at hcs
  unfold maxLen at hcm
  clear f0 f1 f2 f3 f4 o1 rs
  obtain ⟨f0, f1, f2, f3, f4⟩ := HK.out w1 b1
  have HCL1 := Lib.hid (HCL.out w1 b1)
  clear b1 HCL
  go_wp2_with fail
  refine HCL1.out.mono ?_
  rintro e w2 ⟨a', rfl, b2, hc⟩
  have HC := Lib.hid hc
  have HB2 := Lib.hid b2
  clear f0 f1 f2 f3 f4
  obtain ⟨w3, hw3⟩ : ∃ w3, w2.alloc (.cells a'.fs 27) = w3 := ⟨_, rfl⟩
  have HST : Hid (RwSt w1 w2.heap.size a' p 0 w3) := Lib.hid (by
    have hb3 : Below w2.heap.size w2 w3 := by rw [← hw3]; exact belowAlloc _ _
    exact ⟨belowThen b2 hb3, by rw [spGo]; exact hc.below hb3, by rw [← hw3]; exact Blk.new w2 _ _⟩)
  have HW3 := Lib.hid hw3
  clear hw3 b2 hc
  obtain ⟨D1, k1, e1, D2, k2, e2, D3, k3, e3, D4, k4, e4, D5, k5, e5⟩ := a'
  simp only [PgA.fs] at *
  have hle4 := HC.out.pg.funcs.le
  have hmx4 := HC.out.pg.funcs.max
  have hl4 := HC.out.pg.l4
  simp only at hle4 hmx4 hl4
  unfold maxLen at hmx4
  go_wp2_with fail
  rw [HW3.out]
  go_wp2_with fail
  go_loopg [23] m (fun g i wr => ∃ k : Nat, k + g = m ∧ i = .int .i64 k ∧ RwSt w1 w2.heap.size ⟨D1, k1, e1, D2, k2, e2, D3, k3, e3, D4, k4, e4, D5, k5, e5⟩ p k wr)
  case atStart => exact ⟨0, by omega, rfl, HST.out⟩
  case round =>
    obtain ⟨k, hk, rfl, hst⟩ := hrel
    have HX := Lib.hid hst
    cases gk with
    | zero =>
      have hkm : k = m := by omega
      subst hkm
      have hjz : ¬ ((k : Int) < k) := by omega
      have HE : Hid (p.spins.take k = p.spins) := Lib.hid (List.take_of_length_le (by rw [HM.out]; exact Nat.le_refl _))
      have HRB2 := Lib.hid (HRB1.out.below' hst.bel)
      obtain ⟨⟨r0, r1, r2, r3, r4⟩, fr0, fr1, fr2, fr3, fr4⟩ := blkFacts5 HRB2.out
      obtain ⟨f0, f1, f2, f3, f4⟩ := hst.box.facts
      simp only at f0 f1 f2 f3 f4
      have HPG : Hid (PgW wr ⟨D1, k1, e1, D2, k2, e2, D3, k3, e3, D4, k4, e4, D5, k5, e5⟩ (rwP p p.spins)) := Lib.hid (by have := hst.cl.pg; rw [HE.out] at this; exact this)
      clear hst
      go_wp2_with fail
      refine bodyPost_ret ((stored5 HRB2.out _ _ _ _ _).res2 rfl _ rfl Tryd.underlying27 rfl infoPg) rfl ?_
      refine ⟨⟨D1, k1, e1, D2, k2, e2, D3, k3, e3, D4, k4, e4, D5, k5, e5⟩, rfl, ?_, below5 (belowThen HBW.out (belowThen HB1.out HX.out.bel)) (Nat.le_succ _) _ _ _ _ _⟩
      exact HPG.out.but (onlySl HRB2.out) (but5 _ _ _ _ _ _ _)
    | succ g2 =>
      have hk0 : (0 : Int) ≤ k := by omega
      have hk1 : (k : Int) < m := by omega
      have hkl : k < p.spins.length := by rw [HM.out]; omega
      obtain ⟨f, n, l, c, hs, hp⟩ := HKS.out k hkl
      obtain ⟨bs, os, hAs, hbs, he⟩ := (HRS.out.below stabSn hst.bel).one hkl
      rw [hs] at he
      have z0 := he.c0
      have z1 := he.c1
      have z2 := he.c2
      simp only at z0 z1 z2
      subst hAs
      obtain ⟨wl, hwl⟩ : ∃ wl, wr.alloc (.cells #[.int .i64 (f : Int), .int .i64 (n : Int), .int .i64 ((n : Int) + 2)] 39) = wl := ⟨_, rfl⟩
      have hbl : Below wr.heap.size wr wl := by rw [← hwl]; exact belowAlloc _ _
      have hBl : Blk wl wr.heap.size 39 #[.int .i64 (f : Int), .int .i64 (n : Int), .int .i64 ((n : Int) + 2)] := by rw [← hwl]; exact Blk.new _ _ _
      have y0 : wl.cell? ⟨wr.heap.size, 0, none⟩ = some (.int .i64 (f : Int)) := hBl.cell 0
      have y1 : wl.cell? ⟨wr.heap.size, 1, none⟩ = some (.int .i64 (n : Int)) := hBl.cell 1
      have y2 : wl.cell? ⟨wr.heap.size, 2, none⟩ = some (.int .i64 ((n : Int) + 2)) := hBl.cell 2
      have hX2 := hst.below hbl
      obtain ⟨f0, f1, f2, f3, f4⟩ := hX2.box.facts
      simp only at f0 f1 f2 f3 f4
      obtain ⟨b, off, g, d, cur, hA, hb1, hb2, hcell, hg1, hBg, hcz, hrd⟩ := hX2.cl.code hp.f2 (by have := hp.n2; omega)
      have hA : D4 = some ⟨b, off, none⟩ := hA
      subst hA
      obtain ⟨g', off', eA, hg2, hx⟩ := hrd.at_ (by have := hp.n2; omega)
      cases eA
      have i0 := hx n (by have := hp.n2; omega)
      have i1 := hx (n + 1) hp.n2
      rw [hp.l2, Nat.zero_add] at i0
      rw [hp.c2, Nat.zero_add] at i1
      have hrl := hrd.le
      have hrm := hrd.max
      have hn2 := hp.n2
      have hf2 := hp.f2
      have hl4' : (rwP p (p.spins.take k)).funcs.length = k4 := hX2.cl.pg.l4
      rw [hl4'] at hf2
      obtain ⟨L, hL⟩ : ∃ L, (rwP p (p.spins.take k)).funcs[f].2.length = L := ⟨_, rfl⟩
      have HPUT := Lib.hid (fun Y (hY : Below wl.heap.size wl Y) => (show RwSt w1 w2.heap.size ⟨D1, k1, e1, D2, k2, e2, D3, k3, e3, some ⟨b, off, none⟩, k4, e4, D5, k5, e5⟩ p (k + 1) (put8 Y g (n * 8) (awOf l c)) from by
        have hY2 := hX2.below hY
        have hBY := hBg.below' hY
        have := Cl8.put hY2.cl hp.f2 (n := n) (by omega) (awOf l c) rfl ((hY.cell hb2).trans hcell)
        rw [hp.put] at this
        refine ⟨belPut8 hY2.bel hg1 _ _, this, ((butPut8 Y g (n * 8) (awOf l c)).block _ hY2.box.lt fun hh => ?_).trans hY2.box⟩
        have hBY : Blk Y g 47 cur := hBY
        rw [← hh] at hBY
        exact blkOther hY2.box (e := 47) (by decide) _ _ hBY))
      have HFZ := Lib.hid (fun Y (hY : Below wl.heap.size wl Y) => frz8 (hBg.below' hY) (n * 8))
      rw [hL] at hcell hrl hn2
      obtain ⟨n1, hn1⟩ : ∃ n1, n + 1 = n1 := ⟨_, rfl⟩
      rw [hn1] at i1 hn2
      have HAW := Lib.hid (iAwaitOf l c)
      obtain ⟨x0, x1, x2, x3, x4, x5, x6, x7⟩ := l
      obtain ⟨y0', y1', y2', y3', y4', y5', y6', y7'⟩ := c
      obtain ⟨I, hI⟩ : ∃ I, awOf ⟨x0, x1, x2, x3, x4, x5, x6, x7⟩ ⟨y0', y1', y2', y3', y4', y5', y6', y7'⟩ = I := ⟨_, rfl⟩
      rw [hI] at HAW HPUT
      obtain ⟨j0, j1, j2, j3, j4, j5, j6, j7⟩ := I
      unfold I8.val at HAW
      simp only at HAW
      obtain ⟨p0, p1, p2, p3, p4, p5, p6, p7⟩ := i0
      obtain ⟨q0, q1, q2, q3, q4, q5, q6, q7⟩ := i1
      have HC8 := Lib.hid (fun Y (hY : Below wl.heap.size wl Y) => (⟨(hY.cell hg2).trans p0, (hY.cell hg2).trans p1, (hY.cell hg2).trans p2, (hY.cell hg2).trans p3, (hY.cell hg2).trans p4, (hY.cell hg2).trans p5, (hY.cell hg2).trans p6, (hY.cell hg2).trans p7⟩ : Y.cell? ⟨g, n * 8, none⟩ = some (.int .i64 x0) ∧ Y.cell? ⟨g, n * 8 + 1, none⟩ = some (.int .i64 x1) ∧ Y.cell? ⟨g, n * 8 + 2, none⟩ = some (.int .i64 x2) ∧ Y.cell? ⟨g, n * 8 + 3, none⟩ = some (.int .i64 x3) ∧ Y.cell? ⟨g, n * 8 + 4, none⟩ = some (.int .i64 x4) ∧ Y.cell? ⟨g, n * 8 + 5, none⟩ = some (.int .i64 x5) ∧ Y.cell? ⟨g, n * 8 + 6, none⟩ = some (.int .i64 x6) ∧ Y.cell? ⟨g, n * 8 + 7, none⟩ = some (.int .i64 x7)))
      simp only at p0 p1 p2 p3 p4 p5 p6 p7 q0 q1 q2 q3 q4 q5 q6 q7
      have HKS := Lib.hid (fun X (hX : Below wl.heap.size wl X) => (⟨(hBl.below' hX).cell 0, (hBl.below' hX).cell 1, (hBl.below' hX).cell 2, (hX.cell hg2).trans q0, (hX.cell hg2).trans q1, (hX.cell hg2).trans q2, (hX.cell hg2).trans q3, (hX.cell hg2).trans q4, (hX.cell hg2).trans q5, (hX.cell hg2).trans q6, (hX.cell hg2).trans q7⟩ :
        X.cell? ⟨wr.heap.size, 0, none⟩ = some (.int .i64 (f : Int)) ∧ X.cell? ⟨wr.heap.size, 1, none⟩ = some (.int .i64 (n : Int)) ∧ X.cell? ⟨wr.heap.size, 2, none⟩ = some (.int .i64 ((n : Int) + 2)) ∧ X.cell? ⟨g, n1 * 8, none⟩ = some (.int .i64 y0') ∧ X.cell? ⟨g, n1 * 8 + 1, none⟩ = some (.int .i64 y1') ∧ X.cell? ⟨g, n1 * 8 + 2, none⟩ = some (.int .i64 y2') ∧ X.cell? ⟨g, n1 * 8 + 3, none⟩ = some (.int .i64 y3') ∧ X.cell? ⟨g, n1 * 8 + 4, none⟩ = some (.int .i64 y4') ∧ X.cell? ⟨g, n1 * 8 + 5, none⟩ = some (.int .i64 y5') ∧ X.cell? ⟨g, n1 * 8 + 6, none⟩ = some (.int .i64 y6') ∧ X.cell? ⟨g, n1 * 8 + 7, none⟩ = some (.int .i64 y7')))
      have hgn : wr.heap.size ≠ g := fun e => by
        have hBg : Blk wl g 47 cur := hBg
        rw [← e] at hBg
        exact blkOther hBl (e := 47) (by decide) _ _ hBg
      have HKS2 := Lib.hid (fun Y (hY : Below wl.heap.size wl Y) => (by
        have h1 := HKS.out Y hY
        have hB1 := hBg.below' hY
        have hB2 := blkPut8 hB1 (n * 8) ⟨j0, j1, j2, j3, j4, j5, j6, j7⟩
        have hbut := butPut8 Y g (n * 8) ⟨j0, j1, j2, j3, j4, j5, j6, j7⟩
        have ho : ∀ k, (put8 Y g (n * 8) ⟨j0, j1, j2, j3, j4, j5, j6, j7⟩).cell? ⟨wr.heap.size, k, none⟩ = Y.cell? ⟨wr.heap.size, k, none⟩ := fun k => World.cell?_of_block (hbut.block _ (hBl.below' hY).lt hgn)
        have hc : ∀ k, n1 * 8 ≤ k → (put8 Y g (n * 8) ⟨j0, j1, j2, j3, j4, j5, j6, j7⟩).cell? ⟨g, k, none⟩ = Y.cell? ⟨g, k, none⟩ := fun k hk => by rw [hB2.cell, hB1.cell, cur8Out _ _ _ _ (by omega)]
        exact ⟨(ho _).trans h1.1, (ho _).trans h1.2.1, (ho _).trans h1.2.2.1, (hc _ (by omega)).trans h1.2.2.2.1, (hc _ (by omega)).trans h1.2.2.2.2.1, (hc _ (by omega)).trans h1.2.2.2.2.2.1, (hc _ (by omega)).trans h1.2.2.2.2.2.2.1, (hc _ (by omega)).trans h1.2.2.2.2.2.2.2.1, (hc _ (by omega)).trans h1.2.2.2.2.2.2.2.2.1, (hc _ (by omega)).trans h1.2.2.2.2.2.2.2.2.2.1, (hc _ (by omega)).trans h1.2.2.2.2.2.2.2.2.2.2⟩ :
        (fun X : World => X.cell? ⟨wr.heap.size, 0, none⟩ = some (.int .i64 (f : Int)) ∧ X.cell? ⟨wr.heap.size, 1, none⟩ = some (.int .i64 (n : Int)) ∧ X.cell? ⟨wr.heap.size, 2, none⟩ = some (.int .i64 ((n : Int) + 2)) ∧ X.cell? ⟨g, n1 * 8, none⟩ = some (.int .i64 y0') ∧ X.cell? ⟨g, n1 * 8 + 1, none⟩ = some (.int .i64 y1') ∧ X.cell? ⟨g, n1 * 8 + 2, none⟩ = some (.int .i64 y2') ∧ X.cell? ⟨g, n1 * 8 + 3, none⟩ = some (.int .i64 y3') ∧ X.cell? ⟨g, n1 * 8 + 4, none⟩ = some (.int .i64 y4') ∧ X.cell? ⟨g, n1 * 8 + 5, none⟩ = some (.int .i64 y5') ∧ X.cell? ⟨g, n1 * 8 + 6, none⟩ = some (.int .i64 y6') ∧ X.cell? ⟨g, n1 * 8 + 7, none⟩ = some (.int .i64 y7')) (put8 Y g (n * 8) ⟨j0, j1, j2, j3, j4, j5, j6, j7⟩)))
      have hf0 : (0 : Int) ≤ f := by omega
      have hf1 : (f : Int) < k4 := by omega
      have hn0 : (0 : Int) ≤ n := by omega
      have hnL : (n : Int) < L := by omega
      have hm0 : (0 : Int) ≤ n1 := by omega
      have hm1 : (n1 : Int) < L := by omega
      unfold maxLen at hrm
      have hwk : IntKind.i64.wrap ((n : Int) + 1) = (n1 : Int) := by rw [IntKind.wrap_i64]; omega
      have HDR : Hid (Below wl.heap.size wl wl.drew) := Lib.hid ((Below.refl _ wl).drew)
      have S0 := HKS.out wl.drew HDR.out
      clear hst hs hp he hbl hBl hX2 hgn hBg hcz hrd hx hL hn1 hI hkl hb1 hb2 hg1 hg2 hf2 hl4'
      go_wp2_with fail
      refine wp_region_held_drew (S := fun X => X.cell? ⟨wr.heap.size, 0, none⟩ = some (.int .i64 (f : Int)) ∧ X.cell? ⟨wr.heap.size, 1, none⟩ = some (.int .i64 (n : Int)) ∧ X.cell? ⟨wr.heap.size, 2, none⟩ = some (.int .i64 ((n : Int) + 2)) ∧ X.cell? ⟨g, n1 * 8, none⟩ = some (.int .i64 y0') ∧ X.cell? ⟨g, n1 * 8 + 1, none⟩ = some (.int .i64 y1') ∧ X.cell? ⟨g, n1 * 8 + 2, none⟩ = some (.int .i64 y2') ∧ X.cell? ⟨g, n1 * 8 + 3, none⟩ = some (.int .i64 y3') ∧ X.cell? ⟨g, n1 * 8 + 4, none⟩ = some (.int .i64 y4') ∧ X.cell? ⟨g, n1 * 8 + 5, none⟩ = some (.int .i64 y5') ∧ X.cell? ⟨g, n1 * 8 + 6, none⟩ = some (.int .i64 y6') ∧ X.cell? ⟨g, n1 * 8 + 7, none⟩ = some (.int .i64 y7')) (by kernel_rfl) S0 (fun hHeld => ?_)
      refine wpAnyH_take (i := 0) (oi := ⟨some 34, _, _, _, _, _⟩) (v := ?v0_1) rfl (by kernel_rfl) (by kernel_rfl) (by kernel_rfl) (fun _ _ _ h => h) (Or.inl ⟨by rfl, ?h0_1⟩) (by assumption) ?r0_1
      case h0_1 => (intro w hSw; (try dsimp only at hSw); go_simp; try with_reducible rfl)
      (try simp only [Act.put, List.setIfInBounds_toArray, List.set_cons_zero, List.set_cons_succ])
      refine wpAnyH_take (i := 1) (oi := ⟨some 35, _, _, _, _, _⟩) (v := ?v1_2) rfl (by kernel_rfl) (by kernel_rfl) (by kernel_rfl) (fun _ _ _ h => h) (Or.inl ⟨by rfl, ?h1_2⟩) (by assumption) ?r1_2
      case h1_2 => (intro w hSw; (try dsimp only at hSw); go_simp; try with_reducible rfl)
      (try simp only [Act.put, List.setIfInBounds_toArray, List.set_cons_zero, List.set_cons_succ])
      refine wpAnyH_take (i := 2) (oi := ⟨some 36, _, _, _, _, _⟩) (v := ?v2_3) rfl (by kernel_rfl) (by kernel_rfl) (by kernel_rfl) (fun _ _ _ h => h) (Or.inl ⟨by rfl, ?h2_3⟩) (by assumption) ?r2_3
      case h2_3 => (intro w hSw; (try dsimp only at hSw); go_simp; try with_reducible rfl)
      (try simp only [Act.put, List.setIfInBounds_toArray, List.set_cons_zero, List.set_cons_succ])
      refine wpAnyH_take (i := 3) (oi := ⟨some 37, _, _, _, _, _⟩) (v := ?v3_4) rfl (by kernel_rfl) (by kernel_rfl) (by kernel_rfl) (fun _ _ _ h => h) (Or.inl ⟨by rfl, ?h3_4⟩) (by assumption) ?r3_4
      case h3_4 => (intro w hSw; (try dsimp only at hSw); go_simp; try with_reducible rfl)
      (try simp only [Act.put, List.setIfInBounds_toArray, List.set_cons_zero, List.set_cons_succ])
      refine wpAnyH_take (i := 4) (oi := ⟨some 38, _, _, _, _, _⟩) (v := ?v4_5) rfl (by kernel_rfl) (by kernel_rfl) (by kernel_rfl) (fun _ _ _ h => h) (Or.inl ⟨by rfl, ?h4_5⟩) (by assumption) ?r4_5
      case h4_5 => (intro w hSw; (try dsimp only at hSw); go_simp; try with_reducible rfl)
      (try simp only [Act.put, List.setIfInBounds_toArray, List.set_cons_zero, List.set_cons_succ])
      refine wpAnyH_take (i := 5) (oi := ⟨some 39, _, _, _, _, _⟩) (v := ?v5_6) rfl (by kernel_rfl) (by kernel_rfl) (by kernel_rfl) (fun _ _ _ h => h) (Or.inl ⟨by rfl, ?h5_6⟩) (by assumption) ?r5_6
      case h5_6 => (intro w hSw; (try dsimp only at hSw); go_simp; try with_reducible rfl)
      (try simp only [Act.put, List.setIfInBounds_toArray, List.set_cons_zero, List.set_cons_succ])
      refine wpAnyH_take (i := 6) (oi := ⟨some 40, _, _, _, _, _⟩) (v := ?v6_7) rfl (by kernel_rfl) (by kernel_rfl) (by kernel_rfl) (fun _ _ _ h => h) (Or.inl ⟨by rfl, ?h6_7⟩) (by assumption) ?r6_7
      case h6_7 => (intro w hSw; (try dsimp only at hSw); go_simp; try with_reducible rfl)
      (try simp only [Act.put, List.setIfInBounds_toArray, List.set_cons_zero, List.set_cons_succ])
      refine wpAnyH_take (i := 8) (oi := ⟨some 42, _, _, _, _, _⟩) (v := ?v8_8) rfl (by kernel_rfl) (by kernel_rfl) (by kernel_rfl) (fun _ _ _ h => h) (Or.inl ⟨by rfl, ?h8_8⟩) (by assumption) ?r8_8
      case h8_8 => (intro w hSw; (try dsimp only at hSw); go_simp; try with_reducible rfl)
      (try simp only [Act.put, List.setIfInBounds_toArray, List.set_cons_zero, List.set_cons_succ])
      refine wpAnyH_take (i := 9) (oi := ⟨some 43, _, _, _, _, _⟩) (v := ?v9_9) rfl (by kernel_rfl) (by kernel_rfl) (by kernel_rfl) (fun _ _ _ h => h) (Or.inl ⟨by rfl, ?h9_9⟩) (by assumption) ?r9_9
      case h9_9 => (intro w hSw; (try dsimp only at hSw); go_simp; try with_reducible rfl)
      (try simp only [Act.put, List.setIfInBounds_toArray, List.set_cons_zero, List.set_cons_succ])
      refine wpAnyH_take (i := 10) (oi := ⟨some 44, _, _, _, _, _⟩) (v := ?v10_10) rfl (by kernel_rfl) (by kernel_rfl) (by kernel_rfl) (fun _ _ _ h => h) (Or.inl ⟨by rfl, ?h10_10⟩) (by assumption) ?r10_10
      case h10_10 => (intro w hSw; (try dsimp only at hSw); go_simp; try with_reducible rfl)
      (try simp only [Act.put, List.setIfInBounds_toArray, List.set_cons_zero, List.set_cons_succ])
      refine wpAnyH_take (i := 11) (oi := ⟨some 45, _, _, _, _, _⟩) (v := ?v11_11) rfl (by kernel_rfl) (by kernel_rfl) (by kernel_rfl) (fun _ _ _ h => h) (Or.inl ⟨by rfl, ?h11_11⟩) (by assumption) ?r11_11
      case h11_11 => (intro w hSw; (try dsimp only at hSw); go_simp; try with_reducible rfl)
      (try simp only [Act.put, List.setIfInBounds_toArray, List.set_cons_zero, List.set_cons_succ])
      refine wpAnyH_take (i := 12) (oi := ⟨some 46, _, _, _, _, _⟩) (v := ?v12_12) rfl (by kernel_rfl) (by kernel_rfl) (by kernel_rfl) (fun _ _ _ h => h) (Or.inl ⟨by rfl, ?h12_12⟩) (by assumption) ?r12_12
      case h12_12 => (intro w hSw; (try dsimp only at hSw); go_simp; try with_reducible rfl)
      (try simp only [Act.put, List.setIfInBounds_toArray, List.set_cons_zero, List.set_cons_succ])
      refine wpAnyH_take (i := 13) (oi := ⟨some 47, _, _, _, _, _⟩) (v := ?v13_13) rfl (by kernel_rfl) (by kernel_rfl) (by kernel_rfl) (fun _ _ _ h => h) (Or.inl ⟨by rfl, ?h13_13⟩) (by assumption) ?r13_13
      case h13_13 => (intro w hSw; (try dsimp only at hSw); go_simp; try with_reducible rfl)
      (try simp only [Act.put, List.setIfInBounds_toArray, List.set_cons_zero, List.set_cons_succ])
      refine wpAnyH_ready (rs := [7]) (by kernel_rfl) (by simp) ?_
      refine AllReadyH.cons (o := ⟨some 41, _, _, _, _, _⟩) rfl (fun K hK => ?_) (AllReadyH.nil)
      go_simp
      refine hK.out _ _ S0 (fun hHeld => ?_)
      clear hK K
      (try simp only [Act.put, List.setIfInBounds_toArray, List.set_cons_zero, List.set_cons_succ])
      refine wpAnyH_ready (rs := [14]) (by kernel_rfl) (by simp) ?_
      refine AllReadyH.cons (o := ⟨some 48, _, _, _, _, _⟩) rfl (fun K hK => ?_) (AllReadyH.nil)
      go_simp
      refine (HAW.out _).mono ?_
      rintro e u1 ⟨rfl, gu⟩
      have HU := belowThen HDR.out gu
      clear p0 p1 p2 p3 p4 p5 p6 p7
      obtain ⟨p0, p1, p2, p3, p4, p5, p6, p7⟩ := HC8.out u1 HU
      obtain ⟨fz0, fz1, fz2, fz3, fz4, fz5, fz6, fz7⟩ := HFZ.out u1 HU
      try dsimp only
      refine hK.out _ _ (HKS.out _ HU) (fun hHeld => ?_)
      clear hK K
      (try simp only [Act.put, List.setIfInBounds_toArray, List.set_cons_zero, List.set_cons_succ])
      refine wpAnyH_take (i := 15) (oi := ⟨some 49, _, _, _, _, _⟩) (v := ?v15_14) rfl (by kernel_rfl) (by kernel_rfl) (by kernel_rfl) (fun _ _ _ h => h) (Or.inl ⟨by rfl, ?h15_14⟩) (by assumption) ?r15_14
      case h15_14 => (intro w hSw; (try dsimp only at hSw); go_simp; try with_reducible rfl)
      (try simp only [Act.put, List.setIfInBounds_toArray, List.set_cons_zero, List.set_cons_succ])
      refine wpAnyH_ready (rs := [16]) (by kernel_rfl) (by simp) ?_
      refine AllReadyH.cons (o := ⟨none, _, _, _, _, _⟩) rfl (fun K hK => ?_) (AllReadyH.nil)
      go_simp
      refine hK.out _ _ (HKS2.out _ HU) (fun hHeld => ?_)
      clear hK K
      (try simp only [Act.put, List.setIfInBounds_toArray, List.set_cons_zero, List.set_cons_succ])
      refine wpAnyH_done (by kernel_rfl) ?_ _
      go_wp2_with fail
      go_roundg g2
      case measure => omega
      case rel => exact ⟨k + 1, by omega, by go_num, HPUT.out u1 HU⟩
end Go.Proofs.YtebpnnakcodjdaaDoor
