/-
  The specification's run of local instructions.
-/
import Derived.Test.YtnnpkbonbemeaaaDoorYSe
import Derived.Test.YtnnpkbonbemeaaaDoorYRef
import Derived.StillTailTactics
import Derived.Deep.RegionHeld3
import Derived.RegionTactic
import Derived.ChangeAlike
import Derived.Test.YtnnpkbonbemeaaaDoorYSu
import Derived.Test.YtnnpkbonbemeaaaDoorYSfL
import Derived.Test.YtnnpkbonbemeaaaDoorYInsVi
namespace Go.Proofs.YtnnpkbonbemeaaaDoor
open Go Go.RowKit

/-- Registers, in the cells of an array of eight. -/
def rgC (R : Rgs) : Array Value := #[.int .i64 (R 0), .int .i64 (R 1), .int .i64 (R 2), .int .i64 (R 3), .int .i64 (R 4), .int .i64 (R 5), .int .i64 (R 6), .int .i64 (R 7)]
theorem rgCAt (R : Rgs) {r : Nat} (h : r < 8) : (rgC R)[r]? = some (.int .i64 (R (r : Int))) := by
  have hc : r = 0 ∨ r = 1 ∨ r = 2 ∨ r = 3 ∨ r = 4 ∨ r = 5 ∨ r = 6 ∨ r = 7 := by omega
  rcases hc with rfl | rfl | rfl | rfl | rfl | rfl | rfl | rfl <;> rfl
theorem rgPut (R : Rgs) {r : Nat} (h : r < 8) (v : Int) : (rgC R).setIfInBounds r (.int .i64 v) = rgC (upR R (r : Int) v) := by
  have hc : r = 0 ∨ r = 1 ∨ r = 2 ∨ r = 3 ∨ r = 4 ∨ r = 5 ∨ r = 6 ∨ r = 7 := by omega
  rcases hc with rfl | rfl | rfl | rfl | rfl | rfl | rfl | rfl <;> (simp [rgC, upR])
/-- Where a run of local instructions ends, in cells. -/
def stopC (s : Stp) : Array Value := #[.int .i64 (s.pos : Int), .int .i64 (s.R 0), .int .i64 (s.R 1), .int .i64 (s.R 2), .int .i64 (s.R 3), .int .i64 (s.R 4), .int .i64 (s.R 5), .int .i64 (s.R 6), .int .i64 (s.R 7), .bool s.dn, .bool s.fl, .bool s.lg]
def stZ : Stp := ⟨0, fun _ => 0, false, false, false⟩
theorem infoStop : (Tryd.prog.info? 88).map (·.size) = some 12 := by kernel_rfl
theorem stored12 {W : World} {b : Nat} {T : TypeId} {x0 x1 x2 x3 x4 x5 x6 x7 x8 x9 x10 x11 v0 v1 v2 v3 v4 v5 v6 v7 v8 v9 v10 v11 : Value} (h : Blk W b T #[x0, x1, x2, x3, x4, x5, x6, x7, x8, x9, x10, x11]) : Blk ((((((((((((W.setCell ⟨b, 0, none⟩ v0).setCell ⟨b, 1, none⟩ v1).setCell ⟨b, 2, none⟩ v2).setCell ⟨b, 3, none⟩ v3).setCell ⟨b, 4, none⟩ v4).setCell ⟨b, 5, none⟩ v5).setCell ⟨b, 6, none⟩ v6).setCell ⟨b, 7, none⟩ v7).setCell ⟨b, 8, none⟩ v8).setCell ⟨b, 9, none⟩ v9).setCell ⟨b, 10, none⟩ v10).setCell ⟨b, 11, none⟩ v11) b T #[v0, v1, v2, v3, v4, v5, v6, v7, v8, v9, v10, v11] := by
  simpa using ((((((((((((h.set 0 v0).set 1 v1).set 2 v2).set 3 v3).set 4 v4).set 5 v5).set 6 v6).set 7 v7).set 8 v8).set 9 v9).set 10 v10).set 11 v11)
theorem below12 {W a : World} {B b : Nat} {v0 v1 v2 v3 v4 v5 v6 v7 v8 v9 v10 v11 : Value} (h : Below B a W) (hb : B ≤ b) : Below B a ((((((((((((W.setCell ⟨b, 0, none⟩ v0).setCell ⟨b, 1, none⟩ v1).setCell ⟨b, 2, none⟩ v2).setCell ⟨b, 3, none⟩ v3).setCell ⟨b, 4, none⟩ v4).setCell ⟨b, 5, none⟩ v5).setCell ⟨b, 6, none⟩ v6).setCell ⟨b, 7, none⟩ v7).setCell ⟨b, 8, none⟩ v8).setCell ⟨b, 9, none⟩ v9).setCell ⟨b, 10, none⟩ v10).setCell ⟨b, 11, none⟩ v11) :=
  (belowSt (belowSt (belowSt (belowSt (belowSt (belowSt (belowSt (belowSt (belowSt (belowSt (belowSt (belowSt h b 0 _ hb) b 1 _ hb) b 2 _ hb) b 3 _ hb) b 4 _ hb) b 5 _ hb) b 6 _ hb) b 7 _ hb) b 8 _ hb) b 9 _ hb) b 10 _ hb) b 11 _ hb)
theorem three9 (W : World) (o1 o2 o3 : Obj) {Z : World} (hZ : ((W.alloc o1).alloc o2).alloc o3 = Z) :
    (Z.heap[W.heap.size]? = some o1 ∧ Z.heap[W.heap.size + 1]? = some o2 ∧ Z.heap[W.heap.size + 1 + 1]? = some o3) ∧ Below W.heap.size W Z := by
  subst hZ
  have new : ∀ (X : World) (o : Obj) (k : Nat), X.heap.size = k → (X.alloc o).heap[k]? = some o := fun X o k h => h ▸ World.alloc_heap_new X o
  have old : ∀ (X : World) (o o' : Obj) (k : Nat), X.heap[k]? = some o' → (X.alloc o).heap[k]? = some o' := fun X o o' k h => ((belowAlloc X o).block k (Array.getElem?_eq_some_iff.1 h).1).trans h
  refine ⟨⟨old _ _ _ _ (old _ _ _ _ (new _ _ _ rfl)), old _ _ _ _ (new _ _ _ (by simp)), new _ _ _ (by simp)⟩, ?_⟩
  exact belowThen (belowThen (belowAlloc _ _) (belowAlloc _ _)) (belowAlloc _ _)
/-- The three boxes of the call: the function, the registers, the result. -/
structure LcSt (w : World) (fb : Array Value) (R : Rgs) (X : World) : Prop where
  bel : Below w.heap.size w X
  f : Blk X w.heap.size 42 fb
  r : Blk X (w.heap.size + 1) 28 (rgC R)
  s : Blk X (w.heap.size + 1 + 1) 88 (stopC stZ)
theorem LcSt.below {w X Y : World} {fb : Array Value} {R : Rgs} (h : LcSt w fb R X) (hb : Below X.heap.size X Y) : LcSt w fb R Y :=
  ⟨belowThen h.bel hb, h.f.below' hb, h.r.below' hb, h.s.below' hb⟩
theorem LcSt.put {w X : World} {fb : Array Value} {R : Rgs} (h : LcSt w fb R X) {r : Nat} (hr : r < 8) (v : Int) : LcSt w fb (upR R (r : Int) v) (X.setCell ⟨w.heap.size + 1, r, none⟩ (.int .i64 v)) := by
  have hc := chgSetF X (w.heap.size + 1) r (.int .i64 v)
  refine ⟨belowSt h.bel _ _ _ (by omega), (hc.block _ h.f.lt (by show _ ≠ _; omega)).trans h.f, ?_, (hc.block _ h.s.lt (by show _ ≠ _; omega)).trans h.s⟩
  have := h.r.set r (.int .i64 v)
  rwa [rgPut R hr] at this
theorem jmp5 {i : I8} (h : i.op = 5) : i.jmp = true := by show (decide (i.op = 4) || decide (i.op = 5)) = true; rw [decide_eq_true h, Bool.or_true]
theorem exe1 {i : I8} {x : Nat} {R : Rgs} (h : i.op = 1) : exe i x R = .go (x + 1) (upR R i.a i.n) := by unfold exe; rw [if_pos h]
theorem exe2 {i : I8} {x : Nat} {R : Rgs} (h : i.op = 2) : exe i x R = .go (x + 1) (upR R i.a (R i.b)) := by unfold exe; rw [if_neg (by omega), if_pos h]
theorem exe3 {i : I8} {x : Nat} {R : Rgs} (h : i.op = 3) : exe i x R = .go (x + 1) (upR R i.a (opI i.fn (R i.b) (R i.c))) := by unfold exe; rw [if_neg (by omega), if_neg (by omega), if_pos h]
theorem exe4 {i : I8} {x : Nat} {R : Rgs} (h : i.op = 4) : exe i x R = .go i.n.toNat R := by unfold exe; rw [if_neg (by omega), if_neg (by omega), if_neg (by omega), if_pos h]
theorem exe5 {i : I8} {x : Nat} {R : Rgs} (h : i.op = 5) : exe i x R = .go (if R i.b = 0 then x + 1 else i.n.toNat) R := by unfold exe; rw [if_neg (by omega), if_neg (by omega), if_neg (by omega), if_neg (by omega), if_pos h]
theorem exe6 {i : I8} {x : Nat} {R : Rgs} (h : i.op = 6) : exe i x R = if R i.b = 0 then .fin (sFail R) else .go (x + 1) R := by unfold exe; rw [if_neg (by omega), if_neg (by omega), if_neg (by omega), if_neg (by omega), if_neg (by omega), if_pos h]
theorem exe7 {i : I8} {x : Nat} {R : Rgs} (h1 : i.op ≠ 1) (h2 : i.op ≠ 2) (h3 : i.op ≠ 3) (h4 : i.op ≠ 4) (h5 : i.op ≠ 5) (h6 : i.op ≠ 6) : exe i x R = .fin (sDone R) := by unfold exe; rw [if_neg h1, if_neg h2, if_neg h3, if_neg h4, if_neg h5, if_neg h6]

/-- What the call gives: where the run ends. -/
def GivesStp (s : Stp) (w : World) (e : Ending) (w' : World) : Prop := e = .returned (.agg (stopC s)) ∧ Below w.heap.size w w'
set_option maxRecDepth 100000 in
set_option maxHeartbeats 16000000 in
theorem rLocal (nm : ByteArray) (C : List I8) (hok : CfOk C) (n : Nat) (hn : C.length = n) (A : Option Addr) (c : Nat) (x : Nat) (hx : x ≤ n) (R : Rgs) (w : World) (hr : RdE 8 EI w A c C) :
    Calls Tryd.prog 47 #[fnV nm A n c, .int .i64 (x : Int), .agg (rgC R)] w (GivesStp (locF C 256 x R) w) := by
  obtain ⟨W, hW⟩ : ∃ W, ((w.alloc (.cells #[.string nm, .slice A n c] 42)).alloc (.cells #[.int .i64 (R 0), .int .i64 (R 1), .int .i64 (R 2), .int .i64 (R 3), .int .i64 (R 4), .int .i64 (R 5), .int .i64 (R 6), .int .i64 (R 7)] 28)).alloc (.cells #[.int .i64 0, .int .i64 0, .int .i64 0, .int .i64 0, .int .i64 0, .int .i64 0, .int .i64 0, .int .i64 0, .int .i64 0, .bool false, .bool false, .bool false] 88) = W := ⟨_, rfl⟩
  obtain ⟨⟨h1, h2, h3⟩, hbW⟩ := three9 w _ _ _ hW
  have HST := Lib.hid (show LcSt w #[.string nm, .slice A n c] R W from ⟨hbW, h1, h2, h3⟩)
  have HW := Lib.hid hW
  have HN := Lib.hid hn
  have HRD := Lib.hid (fun X (hX : Below w.heap.size w X) => hr.below stabI hX)
  have HCK := Lib.hid (fun k (hk : k < C.length) => hok.chk _ (List.getElem_mem hk))
  have HTG := Lib.hid (fun k (hk : k < C.length) (h : C[k].jmp = true) => hok.tgt _ (List.getElem_mem hk) h)
  have h64 : n ≤ 64 := by have := hok.len; omega
  obtain ⟨T, hT⟩ : ∃ T, locF C 256 x R = T := ⟨_, rfl⟩
  have HT0 := Lib.hid hT
  rw [hT]
  unfold GivesStp fnV rgC
  clear h1 h2 h3 hbW hW hr hok hT
  go_enter Tryd.func47, Tryd.ntmps47
  go_upto_region 1 with fail
  rw [HW.out]
  go_wp2_with fail
  go_loopg [1, 7] 256 (fun g i u X => ∃ (k z : Nat) (R' : Rgs), k + g = 256 ∧ i = .int .i64 (z : Int) ∧ u = .int .i64 (k : Int) ∧ z ≤ n ∧ Hid (locF C g z R' = T) ∧ LcSt w #[.string nm, .slice A n c] R' X)
  case atStart => exact ⟨0, x, R, by omega, rfl, rfl, hx, HT0, HST.out⟩
  case round =>
    obtain ⟨k, z, R', hk, rfl, rfl, hz, HP, hst⟩ := hrel
    clear hx
    have hk9 : (k : Int) ≤ 256 := by omega
    have HS := Lib.hid hst
    have a1 : wr.cell? ⟨w.heap.size, 1, none⟩ = some (.slice A n c) := hst.f.cell 1
    by_cases hzn : z = n
    · subst hzn
      have HX : Hid (sDone R' = T) := Lib.hid ((locOut (by rw [HN.out]; exact Nat.le_refl _)).symm.trans HP.out)
      have hzz : (z : Int) ≤ z := by omega
      obtain ⟨⟨r0, r1, r2, r3, r4, r5, r6, r7⟩, _, _, _, _, _, _, _, _⟩ := blkFacts (show Blk wr (w.heap.size + 1) 28 #[.int .i64 (R' 0), .int .i64 (R' 1), .int .i64 (R' 2), .int .i64 (R' 3), .int .i64 (R' 4), .int .i64 (R' 5), .int .i64 (R' 6), .int .i64 (R' 7)] from hst.r)
      obtain ⟨s0, s1, s2, s3, s4, s5, s6, s7, s8, s9, s10, s11⟩ : wr.cell? ⟨w.heap.size + 1 + 1, 0, none⟩ = some (.int .i64 0) ∧ wr.cell? ⟨w.heap.size + 1 + 1, 1, none⟩ = some (.int .i64 0) ∧ wr.cell? ⟨w.heap.size + 1 + 1, 2, none⟩ = some (.int .i64 0) ∧ wr.cell? ⟨w.heap.size + 1 + 1, 3, none⟩ = some (.int .i64 0) ∧ wr.cell? ⟨w.heap.size + 1 + 1, 4, none⟩ = some (.int .i64 0) ∧ wr.cell? ⟨w.heap.size + 1 + 1, 5, none⟩ = some (.int .i64 0) ∧ wr.cell? ⟨w.heap.size + 1 + 1, 6, none⟩ = some (.int .i64 0) ∧ wr.cell? ⟨w.heap.size + 1 + 1, 7, none⟩ = some (.int .i64 0) ∧ wr.cell? ⟨w.heap.size + 1 + 1, 8, none⟩ = some (.int .i64 0) ∧ wr.cell? ⟨w.heap.size + 1 + 1, 9, none⟩ = some (.bool false) ∧ wr.cell? ⟨w.heap.size + 1 + 1, 10, none⟩ = some (.bool false) ∧ wr.cell? ⟨w.heap.size + 1 + 1, 11, none⟩ = some (.bool false) := ⟨hst.s.cell 0, hst.s.cell 1, hst.s.cell 2, hst.s.cell 3, hst.s.cell 4, hst.s.cell 5, hst.s.cell 6, hst.s.cell 7, hst.s.cell 8, hst.s.cell 9, hst.s.cell 10, hst.s.cell 11⟩
      have hzf : ∀ i, wr.frozen? ⟨w.heap.size + 1 + 1, i, none⟩ = false := fun i => hst.s.frozen i
      clear hst
      go_wp2_with fail
      refine bodyPost_ret ((stored12 (show Blk _ (w.heap.size + 1 + 1) 88 #[.int .i64 0, .int .i64 0, .int .i64 0, .int .i64 0, .int .i64 0, .int .i64 0, .int .i64 0, .int .i64 0, .int .i64 0, .bool false, .bool false, .bool false] from HS.out.s)).res rfl _ rfl Tryd.underlying88 rfl infoStop) rfl ?_
      exact ⟨by rw [← HX.out]; rfl, below12 HS.out.bel (by omega)⟩
    have hzl : z < C.length := by rw [HN.out]; omega
    have hz0 : (0 : Int) ≤ z := by omega
    have hz1 : (z : Int) < n := by omega
    have hznot : ¬ (n : Int) ≤ z := by omega
    obtain ⟨q, off, hA, _, i0, i1, i2, i3, i4, i5, i6, i7⟩ := (HRD.out wr hst.bel).one hzl
    have hA : A = _ := hA
    subst hA
    have hgI : gI C z = C[z] := gIAt hzl
    have hg := I8.good (HCK.out z hzl)
    have htg := HTG.out z hzl
    have hvv : visI C[z] = visL C[z].op := by have := hg.op; unfold visI visL; by_cases h8 : 8 ≤ C[z].op <;> simp [h8, this.2]
    have HL1 := Lib.hid (fun (h : visI C[z] = true) => (locVis hzl (by rw [hgI]; exact h) : locF C gk z R' = sVis z R'))
    have HL0 := Lib.hid (fun (h : visI C[z] = false) (h0 : gk = 0) => ((by subst h0; exact locLong hzl (by rw [hgI]; exact h)) : locF C gk z R' = sLong))
    have HLG := Lib.hid (fun (h : visI C[z] = false) g2 (h0 : gk = g2 + 1) => (by subst h0; have := locGo (f := g2) (R := R') hzl (by rw [hgI]; exact h); rw [hgI] at this; exact this : locF C gk z R' = match exe C[z] z R' with
      | .fin s => s
      | .go y R2 => locF C g2 y R2))
    rw [HP.out] at HL1 HL0 HLG
    rw [hvv] at HL1 HL0 HLG
    have hga := hg.a
    have hgb := hg.b
    have hgc := hg.c
    obtain ⟨ii, hii⟩ : ∃ x, C[z] = x := ⟨_, rfl⟩
    rw [hii] at i0 i1 i2 i3 i4 i5 i6 i7 HL1 HL0 HLG htg hga hgb hgc
    clear hii hvv hg hgI hzn
    obtain ⟨op, ra, rb, rc, obj, m, fn, ord⟩ := ii
    simp only at i0 i1 i2 i3 i4 i5 i6 i7 HL1 HL0 hga hgb hgc
    obtain ⟨a, ea⟩ : ∃ a : Nat, ra = (a : Int) := ⟨ra.toNat, by omega⟩
    obtain ⟨b, eb⟩ : ∃ b : Nat, rb = (b : Int) := ⟨rb.toNat, by omega⟩
    obtain ⟨d, ed⟩ : ∃ c : Nat, rc = (c : Int) := ⟨rc.toNat, by omega⟩
    subst ea eb ed
    have ha8 : a < 8 := by omega
    have hb8 : b < 8 := by omega
    have hd8 : d < 8 := by omega
    have ha0 : (0 : Int) ≤ a := by omega
    have ha9 : (a : Int) < 8 := by omega
    have hb0 : (0 : Int) ≤ b := by omega
    have hb9 : (b : Int) < 8 := by omega
    have hd0 : (0 : Int) ≤ d := by omega
    have hd9 : (d : Int) < 8 := by omega
    clear hga hgb hgc
    obtain ⟨wb, hwb⟩ : ∃ X, wr.alloc (.cells #[.int .i64 op, .int .i64 (a : Int), .int .i64 (b : Int), .int .i64 (d : Int), .int .i64 obj, .int .i64 m, .int .i64 fn, .int .i64 ord] 47) = X := ⟨_, rfl⟩
    have hbb : Below wr.heap.size wr wb := by rw [← hwb]; exact belowAlloc wr _
    have hbi : Blk wb wr.heap.size 47 #[.int .i64 op, .int .i64 (a : Int), .int .i64 (b : Int), .int .i64 (d : Int), .int .i64 obj, .int .i64 m, .int .i64 fn, .int .i64 ord] := by rw [← hwb]; exact Blk.new wr _ _
    have HBI := Lib.hid hbi
    have HSB := Lib.hid (hst.below hbb)
    have HWB := Lib.hid hwb
    have HVI := Lib.hid (rVisL op wb)
    clear hst hwb hbb
    obtain ⟨vb, hvb⟩ : ∃ v, visL op = v := ⟨_, rfl⟩
    rw [hvb] at HVI HL1 HL0 HLG
    go_upto_region 7 with fail
    rw [HWB.out]
    clear i0 i1 i2 i3 i4 i5 i6 i7 a1
    obtain ⟨x0, x1, x2, x3, x4, x5, x6, x7⟩ := boxFactsW hbi
    have a1 : wb.cell? ⟨w.heap.size, 1, none⟩ = some (.slice (some ⟨q, off, none⟩) n c) := HSB.out.f.cell 1
    obtain ⟨⟨r0, r1, r2, r3, r4, r5, r6, r7⟩, _, _, _, _, _, _, _, _⟩ := blkFacts (show Blk wb (w.heap.size + 1) 28 #[.int .i64 (R' 0), .int .i64 (R' 1), .int .i64 (R' 2), .int .i64 (R' 3), .int .i64 (R' 4), .int .i64 (R' 5), .int .i64 (R' 6), .int .i64 (R' 7)] from HSB.out.r)
    obtain ⟨s0, s1, s2, s3, s4, s5, s6, s7, s8, s9, s10, s11⟩ : wb.cell? ⟨w.heap.size + 1 + 1, 0, none⟩ = some (.int .i64 0) ∧ wb.cell? ⟨w.heap.size + 1 + 1, 1, none⟩ = some (.int .i64 0) ∧ wb.cell? ⟨w.heap.size + 1 + 1, 2, none⟩ = some (.int .i64 0) ∧ wb.cell? ⟨w.heap.size + 1 + 1, 3, none⟩ = some (.int .i64 0) ∧ wb.cell? ⟨w.heap.size + 1 + 1, 4, none⟩ = some (.int .i64 0) ∧ wb.cell? ⟨w.heap.size + 1 + 1, 5, none⟩ = some (.int .i64 0) ∧ wb.cell? ⟨w.heap.size + 1 + 1, 6, none⟩ = some (.int .i64 0) ∧ wb.cell? ⟨w.heap.size + 1 + 1, 7, none⟩ = some (.int .i64 0) ∧ wb.cell? ⟨w.heap.size + 1 + 1, 8, none⟩ = some (.int .i64 0) ∧ wb.cell? ⟨w.heap.size + 1 + 1, 9, none⟩ = some (.bool false) ∧ wb.cell? ⟨w.heap.size + 1 + 1, 10, none⟩ = some (.bool false) ∧ wb.cell? ⟨w.heap.size + 1 + 1, 11, none⟩ = some (.bool false) := ⟨HSB.out.s.cell 0, HSB.out.s.cell 1, HSB.out.s.cell 2, HSB.out.s.cell 3, HSB.out.s.cell 4, HSB.out.s.cell 5, HSB.out.s.cell 6, HSB.out.s.cell 7, HSB.out.s.cell 8, HSB.out.s.cell 9, HSB.out.s.cell 10, HSB.out.s.cell 11⟩
    have hzf : ∀ i, wb.frozen? ⟨w.heap.size + 1 + 1, i, none⟩ = false := fun i => HSB.out.s.frozen i
    clear hbi hvb
    go_wp2_with fail
    refine HVI.out.mono ?_
    rintro e w1 ⟨rfl, rfl⟩
    cases vb
    rotate_left
    · have HX : Hid (sVis z R' = T) := Lib.hid (HL1.out rfl).symm
      clear htg
      go_wp2_with fail
      refine bodyPost_ret ((stored12 (show Blk _ (w.heap.size + 1 + 1) 88 #[.int .i64 0, .int .i64 0, .int .i64 0, .int .i64 0, .int .i64 0, .int .i64 0, .int .i64 0, .int .i64 0, .int .i64 0, .bool false, .bool false, .bool false] from HSB.out.s)).res rfl _ rfl Tryd.underlying88 rfl infoStop) rfl ?_
      exact ⟨by rw [← HX.out]; rfl, below12 HSB.out.bel (by omega)⟩
    cases gk with
    | zero =>
      have hk6 : k = 256 := by omega
      subst hk6
      have HX : Hid (sLong = T) := Lib.hid (HL0.out rfl rfl).symm
      clear htg
      go_wp2_with fail
      refine bodyPost_ret ((stored12 (show Blk _ (w.heap.size + 1 + 1) 88 #[.int .i64 0, .int .i64 0, .int .i64 0, .int .i64 0, .int .i64 0, .int .i64 0, .int .i64 0, .int .i64 0, .int .i64 0, .bool false, .bool false, .bool false] from HSB.out.s)).res rfl _ rfl Tryd.underlying88 rfl infoStop) rfl ?_
      exact ⟨by rw [← HX.out]; rfl, below12 HSB.out.bel (by omega)⟩
    | succ g2 =>
      have hkn : ((k : Int) == 256) = false := by simp; omega
      have HGO := Lib.hid (HLG.out rfl g2 rfl)
      obtain ⟨z1, hz1e⟩ : ∃ z1, z + 1 = z1 := ⟨_, rfl⟩
      have hwz : IntKind.i64.wrap ((z : Int) + 1) = (z1 : Int) := by rw [IntKind.wrap_i64]; omega
      have HZ1 := Lib.hid hz1e
      have hz1n : z1 ≤ n := by omega
      clear HL1 HL0 HLG hz1e
      by_cases h1 : op = 1
      · have HX : Hid (locF C g2 z1 (upR R' (a : Int) m) = T) := Lib.hid (by have := HGO.out; rw [exe1 (by exact h1), HZ1.out] at this; exact this.symm)
        subst h1
        have ka := (HSB.out.r.cell a).trans (rgCAt R' ha8)
        have fa := HSB.out.r.frozen a
        have HPUT := Lib.hid (HSB.out.put ha8 m)
        clear htg HGO
        go_wp2_with fail
        go_roundg g2
        case measure => omega
        case rel => exact ⟨k + 1, z1, _, by omega, rfl, by go_num, hz1n, HX, HPUT.out⟩
      have z1' : (op == 1) = false := by simpa using h1
      by_cases h2 : op = 2
      · have HX : Hid (locF C g2 z1 (upR R' (a : Int) (R' (b : Int))) = T) := Lib.hid (by have := HGO.out; rw [exe2 (by exact h2), HZ1.out] at this; exact this.symm)
        subst h2
        have ka := (HSB.out.r.cell a).trans (rgCAt R' ha8)
        have kb := (HSB.out.r.cell b).trans (rgCAt R' hb8)
        have fa := HSB.out.r.frozen a
        have HPUT := Lib.hid (HSB.out.put ha8 (R' (b : Int)))
        clear htg HGO h1
        go_wp2_with fail
        go_still_tail 7, (by kernel_rfl)
        change wpList _ _ _ _ _ wb.drew
        obtain ⟨w2, hw2⟩ : ∃ w2, wb.drew = w2 := ⟨_, rfl⟩
        have ka2 : w2.cell? ⟨w.heap.size + 1, a, none⟩ = some (.int .i64 (R' (a : Int))) := by rw [← hw2]; exact ka
        have fa2 : w2.frozen? ⟨w.heap.size + 1, a, none⟩ = false := by rw [← hw2]; exact fa
        have HPT2 : Hid (LcSt w #[.string nm, .slice (some ⟨q, off, none⟩) n c] (upR R' (a : Int) (R' (b : Int))) (w2.setCell ⟨w.heap.size + 1, a, none⟩ (.int .i64 (R' (b : Int))))) := Lib.hid (by rw [← hw2]; exact (HSB.out.below ((Below.refl _ wb).drew)).put ha8 _)
        rw [hw2]
        clear hw2 ka fa kb a1 x0 x1 x2 x3 x4 x5 x6 x7
        clear r0 r1 r2 r3 r4 r5 r6 r7 s0 s1 s2 s3 s4 s5 s6 s7 s8 s9 s10 s11 hzf
        go_wp2_with fail
        go_roundg g2
        case measure => omega
        case rel => exact ⟨k + 1, z1, _, by omega, rfl, by go_num, hz1n, HX, HPT2.out⟩
      have z2 : (op == 2) = false := by simpa using h2
      by_cases h3 : op = 3
      · have HX : Hid (locF C g2 z1 (upR R' (a : Int) (opI fn (R' (b : Int)) (R' (d : Int)))) = T) := Lib.hid (by have := HGO.out; rw [exe3 (by exact h3), HZ1.out] at this; exact this.symm)
        subst h3
        have HAP := Lib.hid (fun X => rApply fn (R' (b : Int)) (R' (d : Int)) X)
        have kb : wb.drew.cell? ⟨w.heap.size + 1, b, none⟩ = some (.int .i64 (R' (b : Int))) := (HSB.out.r.cell b).trans (rgCAt R' hb8)
        have kd : wb.drew.cell? ⟨w.heap.size + 1, d, none⟩ = some (.int .i64 (R' (d : Int))) := (HSB.out.r.cell d).trans (rgCAt R' hd8)
        obtain ⟨o0, ho0⟩ : ∃ o, opI fn (R' (b : Int)) (R' (d : Int)) = o := ⟨_, rfl⟩
        obtain ⟨o1, ho1⟩ : ∃ o, opE fn = o := ⟨_, rfl⟩
        rw [ho0, ho1] at HAP
        rw [ho0] at HX
        have HS0 := Lib.hid (fun X (hX : Below wb.heap.size wb X) => (⟨(HBI.out.below' hX).cell 1, (HBI.out.below' hX).cell 2, (HBI.out.below' hX).cell 3, (HBI.out.below' hX).cell 6⟩ :
          X.cell? ⟨wr.heap.size, 1, none⟩ = some (.int .i64 (a : Int)) ∧ X.cell? ⟨wr.heap.size, 2, none⟩ = some (.int .i64 (b : Int)) ∧ X.cell? ⟨wr.heap.size, 3, none⟩ = some (.int .i64 (d : Int)) ∧ X.cell? ⟨wr.heap.size, 6, none⟩ = some (.int .i64 fn)))
        have hlr : w.heap.size + 1 + 1 < wr.heap.size := HS.out.s.lt
        have HS1 := Lib.hid (fun X (hX : Below wb.heap.size wb X) => (have hc := (chgSetF X (w.heap.size + 1) a (.int .i64 o0)); have hB := (hc.block _ (HBI.out.below' hX).lt (show wr.heap.size ≠ w.heap.size + 1 by omega)).trans (HBI.out.below' hX); ⟨Blk.cell hB 1, Blk.cell hB 2, Blk.cell hB 3, Blk.cell hB 6⟩ :
          (X.setCell ⟨w.heap.size + 1, a, none⟩ (.int .i64 o0)).cell? ⟨wr.heap.size, 1, none⟩ = some (.int .i64 (a : Int)) ∧ (X.setCell ⟨w.heap.size + 1, a, none⟩ (.int .i64 o0)).cell? ⟨wr.heap.size, 2, none⟩ = some (.int .i64 (b : Int)) ∧ (X.setCell ⟨w.heap.size + 1, a, none⟩ (.int .i64 o0)).cell? ⟨wr.heap.size, 3, none⟩ = some (.int .i64 (d : Int)) ∧ (X.setCell ⟨w.heap.size + 1, a, none⟩ (.int .i64 o0)).cell? ⟨wr.heap.size, 6, none⟩ = some (.int .i64 fn)))
        have S0 := HS0.out wb.drew ((Below.refl _ wb).drew)
        clear htg HGO h1 h2 ho0 ho1
        clear r0 r1 r2 r3 r4 r5 r6 r7 s0 s1 s2 s3 s4 s5 s6 s7 s8 s9 s10 s11 hzf
        go_wp2_with fail
        clear x0 x1 x2 x3 x4 x5 x6 x7 a1
        refine wp_region_held_drew (S := fun X => X.cell? ⟨wr.heap.size, 1, none⟩ = some (.int .i64 (a : Int)) ∧ X.cell? ⟨wr.heap.size, 2, none⟩ = some (.int .i64 (b : Int)) ∧ X.cell? ⟨wr.heap.size, 3, none⟩ = some (.int .i64 (d : Int)) ∧ X.cell? ⟨wr.heap.size, 6, none⟩ = some (.int .i64 fn)) (by kernel_rfl) S0 (fun hHeld => ?_)
        refine wpAnyH_take (i := 0) (oi := ⟨some 59, _, _, _, _, _⟩) (v := ?v0_1) rfl (by kernel_rfl) (by kernel_rfl) (by kernel_rfl) (fun _ _ _ h => h) (Or.inl ⟨by rfl, ?h0_1⟩) (by assumption) ?r0_1
        case h0_1 => (intro w hSw; (try dsimp only at hSw); go_simp; try with_reducible rfl)
        (try simp only [Act.put, List.setIfInBounds_toArray, List.set_cons_zero, List.set_cons_succ])
        refine wpAnyH_take (i := 1) (oi := ⟨some 60, _, _, _, _, _⟩) (v := ?v1_2) rfl (by kernel_rfl) (by kernel_rfl) (by kernel_rfl) (fun _ _ _ h => h) (Or.inl ⟨by rfl, ?h1_2⟩) (by assumption) ?r1_2
        case h1_2 => (intro w hSw; (try dsimp only at hSw); go_simp; try with_reducible rfl)
        (try simp only [Act.put, List.setIfInBounds_toArray, List.set_cons_zero, List.set_cons_succ])
        refine wpAnyH_take (i := 2) (oi := ⟨some 61, _, _, _, _, _⟩) (v := ?v2_3) rfl (by kernel_rfl) (by kernel_rfl) (by kernel_rfl) (fun _ _ _ h => h) (Or.inl ⟨by rfl, ?h2_3⟩) (by assumption) ?r2_3
        case h2_3 => (intro w hSw; (try dsimp only at hSw); go_simp; try with_reducible rfl)
        (try simp only [Act.put, List.setIfInBounds_toArray, List.set_cons_zero, List.set_cons_succ])
        refine wpAnyH_take (i := 3) (oi := ⟨some 62, _, _, _, _, _⟩) (v := ?v3_4) rfl (by kernel_rfl) (by kernel_rfl) (by kernel_rfl) (fun _ _ _ h => h) (Or.inl ⟨by rfl, ?h3_4⟩) (by assumption) ?r3_4
        case h3_4 => (intro w hSw; (try dsimp only at hSw); go_simp; try with_reducible rfl)
        (try simp only [Act.put, List.setIfInBounds_toArray, List.set_cons_zero, List.set_cons_succ])
        refine wpAnyH_take (i := 4) (oi := ⟨some 63, _, _, _, _, _⟩) (v := ?v4_5) rfl (by kernel_rfl) (by kernel_rfl) (by kernel_rfl) (fun _ _ _ h => h) (Or.inl ⟨by rfl, ?h4_5⟩) (by assumption) ?r4_5
        case h4_5 => (intro w hSw; (try dsimp only at hSw); go_simp; try with_reducible rfl)
        (try simp only [Act.put, List.setIfInBounds_toArray, List.set_cons_zero, List.set_cons_succ])
        refine wpAnyH_take (i := 5) (oi := ⟨some 64, _, _, _, _, _⟩) (v := ?v5_6) rfl (by kernel_rfl) (by kernel_rfl) (by kernel_rfl) (fun _ _ _ h => h) (Or.inl ⟨by rfl, ?h5_6⟩) (by assumption) ?r5_6
        case h5_6 => (intro w hSw; (try dsimp only at hSw); go_simp; try with_reducible rfl)
        (try simp only [Act.put, List.setIfInBounds_toArray, List.set_cons_zero, List.set_cons_succ])
        refine wpAnyH_take (i := 6) (oi := ⟨some 65, _, _, _, _, _⟩) (v := ?v6_7) rfl (by kernel_rfl) (by kernel_rfl) (by kernel_rfl) (fun _ _ _ h => h) (Or.inl ⟨by rfl, ?h6_7⟩) (by assumption) ?r6_7
        case h6_7 => (intro w hSw; (try dsimp only at hSw); go_simp; try with_reducible rfl)
        (try simp only [Act.put, List.setIfInBounds_toArray, List.set_cons_zero, List.set_cons_succ])
        refine wpAnyH_take (i := 8) (oi := ⟨some 67, _, _, _, _, _⟩) (v := ?v8_8) rfl (by kernel_rfl) (by kernel_rfl) (by kernel_rfl) (fun _ _ _ h => h) (Or.inl ⟨by rfl, ?h8_8⟩) (by assumption) ?r8_8
        case h8_8 => (intro w hSw; (try dsimp only at hSw); go_simp; try with_reducible rfl)
        (try simp only [Act.put, List.setIfInBounds_toArray, List.set_cons_zero, List.set_cons_succ])
        refine wpAnyH_take (i := 9) (oi := ⟨some 68, _, _, _, _, _⟩) (v := ?v9_9) rfl (by kernel_rfl) (by kernel_rfl) (by kernel_rfl) (fun _ _ _ h => h) (Or.inl ⟨by rfl, ?h9_9⟩) (by assumption) ?r9_9
        case h9_9 => (intro w hSw; (try dsimp only at hSw); go_simp; try with_reducible rfl)
        (try simp only [Act.put, List.setIfInBounds_toArray, List.set_cons_zero, List.set_cons_succ])
        refine wpAnyH_take (i := 10) (oi := ⟨some 69, _, _, _, _, _⟩) (v := ?v10_10) rfl (by kernel_rfl) (by kernel_rfl) (by kernel_rfl) (fun _ _ _ h => h) (Or.inl ⟨by rfl, ?h10_10⟩) (by assumption) ?r10_10
        case h10_10 => (intro w hSw; (try dsimp only at hSw); go_simp; try with_reducible rfl)
        (try simp only [Act.put, List.setIfInBounds_toArray, List.set_cons_zero, List.set_cons_succ])
        refine wpAnyH_ready (rs := [7, 11]) (by kernel_rfl) (by simp) ?_
        refine AllReadyH.cons (o := ⟨some 66, _, _, _, _, _⟩) rfl (fun K hK => ?_) (AllReadyH.cons (o := ⟨some 70, _, _, _, _, _⟩) rfl (fun K hK => ?_) (AllReadyH.nil))
        · go_simp
          refine hK.out _ _ S0 (fun hHeld => ?_)
          clear hK K
          (try simp only [Act.put, List.setIfInBounds_toArray, List.set_cons_zero, List.set_cons_succ])
          refine wpAnyH_ready (rs := [11]) (by kernel_rfl) (by simp) ?_
          refine AllReadyH.cons (o := ⟨some 70, _, _, _, _, _⟩) rfl (fun K hK => ?_) (AllReadyH.nil)
          go_simp
          refine hK.out _ _ (S0) (fun hHeld => ?_)
          clear hK K
          (try simp only [Act.put, List.setIfInBounds_toArray, List.set_cons_zero, List.set_cons_succ])
          refine wpAnyH_ready (rs := [12]) (by kernel_rfl) (by simp) ?_
          refine AllReadyH.cons (o := ⟨some 71, _, _, _, _, _⟩) rfl (fun K hK => ?_) (AllReadyH.nil)
          go_simp
          refine (HAP.out _).mono ?_
          rintro e w2 ⟨rfl, b2⟩
          have G2 := belowThen ((Below.refl _ wb).drew) b2
          have HPT2 := Lib.hid ((HSB.out.below G2).put ha8 o0)
          have ka2 := ((HSB.out.below G2).r.cell a).trans (rgCAt R' ha8)
          have fa2 := (HSB.out.below G2).r.frozen a
          try dsimp only
          refine hK.out _ _ (HS0.out _ G2) (fun hHeld => ?_)
          clear hK K
          (try simp only [Act.put, List.setIfInBounds_toArray, List.set_cons_zero, List.set_cons_succ])
          refine wpAnyH_take (i := 13) (oi := ⟨some 58, _, _, _, _, _⟩) (v := ?v13_11) rfl (by kernel_rfl) (by kernel_rfl) (by kernel_rfl) (fun _ _ _ h => h) (Or.inl ⟨by rfl, ?h13_11⟩) (by assumption) ?r13_11
          case h13_11 => (intro w hSw; (try dsimp only at hSw); go_simp; try with_reducible rfl)
          (try simp only [Act.put, List.setIfInBounds_toArray, List.set_cons_zero, List.set_cons_succ])
          refine wpAnyH_take (i := 14) (oi := ⟨some 72, _, _, _, _, _⟩) (v := ?v14_12) rfl (by kernel_rfl) (by kernel_rfl) (by kernel_rfl) (fun _ _ _ h => h) (Or.inl ⟨by rfl, ?h14_12⟩) (by assumption) ?r14_12
          case h14_12 => (intro w hSw; (try dsimp only at hSw); go_simp; try with_reducible rfl)
          (try simp only [Act.put, List.setIfInBounds_toArray, List.set_cons_zero, List.set_cons_succ])
          refine wpAnyH_take (i := 15) (oi := ⟨some 73, _, _, _, _, _⟩) (v := ?v15_13) rfl (by kernel_rfl) (by kernel_rfl) (by kernel_rfl) (fun _ _ _ h => h) (Or.inl ⟨by rfl, ?h15_13⟩) (by assumption) ?r15_13
          case h15_13 => (intro w hSw; (try dsimp only at hSw); go_simp; try with_reducible rfl)
          (try simp only [Act.put, List.setIfInBounds_toArray, List.set_cons_zero, List.set_cons_succ])
          refine wpAnyH_take (i := 16) (oi := ⟨some 74, _, _, _, _, _⟩) (v := ?v16_14) rfl (by kernel_rfl) (by kernel_rfl) (by kernel_rfl) (fun _ _ _ h => h) (Or.inl ⟨by rfl, ?h16_14⟩) (by assumption) ?r16_14
          case h16_14 => (intro w hSw; (try dsimp only at hSw); go_simp; try with_reducible rfl)
          (try simp only [Act.put, List.setIfInBounds_toArray, List.set_cons_zero, List.set_cons_succ])
          refine wpAnyH_ready (rs := [17]) (by kernel_rfl) (by simp) ?_
          refine AllReadyH.cons (o := ⟨none, _, _, _, _, _⟩) rfl (fun K hK => ?_) (AllReadyH.nil)
          go_simp
          refine hK.out _ _ (HS1.out _ G2) (fun hHeld => ?_)
          clear hK K
          (try simp only [Act.put, List.setIfInBounds_toArray, List.set_cons_zero, List.set_cons_succ])
          refine wpAnyH_done (by kernel_rfl) ?_ _
          go_wp2_with fail
          go_roundg g2
          case measure => omega
          case rel => exact ⟨k + 1, z1, _, by omega, rfl, by go_num, hz1n, HX, HPT2.out⟩
        · go_simp
          refine hK.out _ _ S0 (fun hHeld => ?_)
          clear hK K
          (try simp only [Act.put, List.setIfInBounds_toArray, List.set_cons_zero, List.set_cons_succ])
          refine wpAnyH_ready (rs := [7]) (by kernel_rfl) (by simp) ?_
          refine AllReadyH.cons (o := ⟨some 66, _, _, _, _, _⟩) rfl (fun K hK => ?_) (AllReadyH.nil)
          go_simp
          refine hK.out _ _ (S0) (fun hHeld => ?_)
          clear hK K
          (try simp only [Act.put, List.setIfInBounds_toArray, List.set_cons_zero, List.set_cons_succ])
          refine wpAnyH_ready (rs := [12]) (by kernel_rfl) (by simp) ?_
          refine AllReadyH.cons (o := ⟨some 71, _, _, _, _, _⟩) rfl (fun K hK => ?_) (AllReadyH.nil)
          go_simp
          refine (HAP.out _).mono ?_
          rintro e w2 ⟨rfl, b2⟩
          have G2 := belowThen ((Below.refl _ wb).drew) b2
          have HPT2 := Lib.hid ((HSB.out.below G2).put ha8 o0)
          have ka2 := ((HSB.out.below G2).r.cell a).trans (rgCAt R' ha8)
          have fa2 := (HSB.out.below G2).r.frozen a
          try dsimp only
          refine hK.out _ _ (HS0.out _ G2) (fun hHeld => ?_)
          clear hK K
          (try simp only [Act.put, List.setIfInBounds_toArray, List.set_cons_zero, List.set_cons_succ])
          refine wpAnyH_take (i := 13) (oi := ⟨some 58, _, _, _, _, _⟩) (v := ?v13_15) rfl (by kernel_rfl) (by kernel_rfl) (by kernel_rfl) (fun _ _ _ h => h) (Or.inl ⟨by rfl, ?h13_15⟩) (by assumption) ?r13_15
          case h13_15 => (intro w hSw; (try dsimp only at hSw); go_simp; try with_reducible rfl)
          (try simp only [Act.put, List.setIfInBounds_toArray, List.set_cons_zero, List.set_cons_succ])
          refine wpAnyH_take (i := 14) (oi := ⟨some 72, _, _, _, _, _⟩) (v := ?v14_16) rfl (by kernel_rfl) (by kernel_rfl) (by kernel_rfl) (fun _ _ _ h => h) (Or.inl ⟨by rfl, ?h14_16⟩) (by assumption) ?r14_16
          case h14_16 => (intro w hSw; (try dsimp only at hSw); go_simp; try with_reducible rfl)
          (try simp only [Act.put, List.setIfInBounds_toArray, List.set_cons_zero, List.set_cons_succ])
          refine wpAnyH_take (i := 15) (oi := ⟨some 73, _, _, _, _, _⟩) (v := ?v15_17) rfl (by kernel_rfl) (by kernel_rfl) (by kernel_rfl) (fun _ _ _ h => h) (Or.inl ⟨by rfl, ?h15_17⟩) (by assumption) ?r15_17
          case h15_17 => (intro w hSw; (try dsimp only at hSw); go_simp; try with_reducible rfl)
          (try simp only [Act.put, List.setIfInBounds_toArray, List.set_cons_zero, List.set_cons_succ])
          refine wpAnyH_take (i := 16) (oi := ⟨some 74, _, _, _, _, _⟩) (v := ?v16_18) rfl (by kernel_rfl) (by kernel_rfl) (by kernel_rfl) (fun _ _ _ h => h) (Or.inl ⟨by rfl, ?h16_18⟩) (by assumption) ?r16_18
          case h16_18 => (intro w hSw; (try dsimp only at hSw); go_simp; try with_reducible rfl)
          (try simp only [Act.put, List.setIfInBounds_toArray, List.set_cons_zero, List.set_cons_succ])
          refine wpAnyH_ready (rs := [17]) (by kernel_rfl) (by simp) ?_
          refine AllReadyH.cons (o := ⟨none, _, _, _, _, _⟩) rfl (fun K hK => ?_) (AllReadyH.nil)
          go_simp
          refine hK.out _ _ (HS1.out _ G2) (fun hHeld => ?_)
          clear hK K
          (try simp only [Act.put, List.setIfInBounds_toArray, List.set_cons_zero, List.set_cons_succ])
          refine wpAnyH_done (by kernel_rfl) ?_ _
          go_wp2_with fail
          go_roundg g2
          case measure => omega
          case rel => exact ⟨k + 1, z1, _, by omega, rfl, by go_num, hz1n, HX, HPT2.out⟩
      have z3 : (op == 3) = false := by simpa using h3
      by_cases h4 : op = 4
      · have hjm := htg (jmp4 h4)
        obtain ⟨m2, em⟩ : ∃ m2 : Nat, m = (m2 : Int) := ⟨m.toNat, by have := hjm.1; omega⟩
        subst em
        have hm2 : m2 ≤ n := by have := hjm.2; have h9 := HN.out; omega
        have HX : Hid (locF C g2 m2 R' = T) := Lib.hid (by have := HGO.out; rw [exe4 (by exact h4)] at this; simpa using this.symm)
        subst h4
        clear htg HGO h1 h2 h3 hjm
        go_wp2_with fail
        go_roundg g2
        case measure => omega
        case rel => exact ⟨k + 1, m2, _, by omega, rfl, by go_num, hm2, HX, HSB.out⟩
      have z4 : (op == 4) = false := by simpa using h4
      by_cases h5 : op = 5
      · have hjm := htg (jmp5 h5)
        obtain ⟨m2, em⟩ : ∃ m2 : Nat, m = (m2 : Int) := ⟨m.toNat, by have := hjm.1; omega⟩
        subst em
        have hm2 : m2 ≤ n := by have := hjm.2; have h9 := HN.out; omega
        have kb := (HSB.out.r.cell b).trans (rgCAt R' hb8)
        have HX := Lib.hid (by have := HGO.out; rw [exe5 (by exact h5)] at this; exact this.symm : locF C g2 (if R' (b : Int) = 0 then z + 1 else (m2 : Int).toNat) R' = T)
        obtain ⟨vB, hvB⟩ : ∃ v, R' (b : Int) = v := ⟨_, rfl⟩
        rw [hvB] at kb HX
        subst h5
        clear htg HGO h1 h2 h3 h4 hjm hvB
        by_cases hv0 : vB = 0
        · rw [if_pos hv0, HZ1.out] at HX
          subst hv0
          go_wp2_with fail
          go_roundg g2
          case measure => omega
          case rel => exact ⟨k + 1, z1, _, by omega, rfl, by go_num, hz1n, HX, HSB.out⟩
        · rw [if_neg hv0, Int.toNat_natCast] at HX
          have zz : (vB != 0) = true := by simpa using hv0
          clear hv0
          go_wp2_with fail
          go_roundg g2
          case measure => omega
          case rel => exact ⟨k + 1, m2, _, by omega, rfl, by go_num, hm2, HX, HSB.out⟩
      have z5 : (op == 5) = false := by simpa using h5
      by_cases h6 : op = 6
      · have kb := (HSB.out.r.cell b).trans (rgCAt R' hb8)
        have HX := HGO.out
        rw [exe6 (by exact h6)] at HX
        simp only at HX
        obtain ⟨vB, hvB⟩ : ∃ v, R' (b : Int) = v := ⟨_, rfl⟩
        rw [hvB] at kb HX
        subst h6
        clear htg HGO h1 h2 h3 h4 h5 hvB
        by_cases hv0 : vB = 0
        · rw [if_pos hv0] at HX
          have HX : Hid (sFail R' = T) := Lib.hid HX.symm
          subst hv0
          go_wp2_with fail
          refine bodyPost_ret ((stored12 (show Blk _ (w.heap.size + 1 + 1) 88 #[.int .i64 0, .int .i64 0, .int .i64 0, .int .i64 0, .int .i64 0, .int .i64 0, .int .i64 0, .int .i64 0, .int .i64 0, .bool false, .bool false, .bool false] from HSB.out.s)).res rfl _ rfl Tryd.underlying88 rfl infoStop) rfl ?_
          exact ⟨by rw [← HX.out]; rfl, below12 HSB.out.bel (by omega)⟩
        · rw [if_neg hv0] at HX
          have HX : Hid (locF C g2 z1 R' = T) := Lib.hid (by rw [← HZ1.out]; exact HX.symm)
          have zz : (vB == 0) = false := by simpa using hv0
          clear hv0
          go_wp2_with fail
          go_roundg g2
          case measure => omega
          case rel => exact ⟨k + 1, z1, _, by omega, rfl, by go_num, hz1n, HX, HSB.out⟩
      have z6 : (op == 6) = false := by simpa using h6
      have HX : Hid (sDone R' = T) := Lib.hid (by have := HGO.out; rw [exe7 h1 h2 h3 h4 h5 h6] at this; exact this.symm)
      clear htg HGO h1 h2 h3 h4 h5 h6
      go_wp2_with fail
      refine bodyPost_ret ((stored12 (show Blk _ (w.heap.size + 1 + 1) 88 #[.int .i64 0, .int .i64 0, .int .i64 0, .int .i64 0, .int .i64 0, .int .i64 0, .int .i64 0, .int .i64 0, .int .i64 0, .bool false, .bool false, .bool false] from HSB.out.s)).res rfl _ rfl Tryd.underlying88 rfl infoStop) rfl ?_
      exact ⟨by rw [← HX.out]; rfl, below12 HSB.out.bel (by omega)⟩
end Go.Proofs.YtnnpkbonbemeaaaDoor
