/-
  A function in a box whose code grows; the contract of simplify.Fold.
-/
import Derived.Test.YtpkagpobobmnfaaGreatDoorPSk
import Derived.Deep.LoopGhost
import Derived.Deep.CutRange
import Derived.Deep.DeepCutAuto
namespace Go.Proofs.YtpkagpobobmnfaaGreatDoor
open Go Go.RowKit Go.Maps

/-- What a call gives: a function and an error. -/
def GivesFn (nm : ByteArray) (D : List I8) (er : Int) (w : World) (e : Ending) (w' : World) : Prop := ∃ A c, e = .returned (.tuple #[fnV nm A D.length c, .int .i64 er]) ∧ RdE 8 EI w' A c D ∧ Below w.heap.size w w'
def nmRf (C : List I8) (nm : ByteArray) : ByteArray := if cfE C = 0 then nm else ⟨#[]⟩
def cdR (C D : List I8) : List I8 := if cfE C = 0 then D else []
theorem nmR0 {C : List I8} (h : cfE C = 0) (nm : ByteArray) : nmRf C nm = nm := if_pos h
theorem nmR1 {C : List I8} (h : cfE C ≠ 0) (nm : ByteArray) : nmRf C nm = ⟨#[]⟩ := if_neg h
theorem cdR0 {C : List I8} (h : cfE C = 0) (D : List I8) : cdR C D = D := if_pos h
theorem cdR1 {C : List I8} (h : cfE C ≠ 0) (D : List I8) : cdR C D = [] := if_neg h
theorem infoFn2 : (Tryz.prog.info? 24).map (·.size) = some 2 := by kernel_rfl
theorem stored2F {W : World} {b : Nat} {T : TypeId} {x0 x1 v0 v1 : Value} (h : Blk W b T #[x0, x1]) : Blk ((W.setCell ⟨b, 0, none⟩ v0).setCell ⟨b, 1, none⟩ v1) b T #[v0, v1] := (h.set 0 v0).set 1 v1
theorem below2F {W a : World} {B b : Nat} {v0 v1 : Value} (h : Below B a W) (hb : B ≤ b) : Below B a ((W.setCell ⟨b, 0, none⟩ v0).setCell ⟨b, 1, none⟩ v1) := (h.setCell (p := ⟨b, 0, none⟩) hb _).setCell (p := ⟨b, 1, none⟩) hb _
/-- Eight cells of a box. -/
abbrev st8 (W : World) (b : Nat) (i : I8) : World := (((((((W.setCell ⟨b, 0, none⟩ (.int .i64 i.op)).setCell ⟨b, 1, none⟩ (.int .i64 i.a)).setCell ⟨b, 2, none⟩ (.int .i64 i.b)).setCell ⟨b, 3, none⟩ (.int .i64 i.c)).setCell ⟨b, 4, none⟩ (.int .i64 i.obj)).setCell ⟨b, 5, none⟩ (.int .i64 i.n)).setCell ⟨b, 6, none⟩ (.int .i64 i.fn)).setCell ⟨b, 7, none⟩ (.int .i64 i.ord)
theorem chgSt8 (W : World) (b : Nat) (i : I8) : Chg W (st8 W b i) (fun q => q ≠ b) :=
  (((((((chgSetF W b 0 _).trans (chgSetF _ b 1 _) fun _ _ h => h).trans (chgSetF _ b 2 _) fun _ _ h => h).trans (chgSetF _ b 3 _) fun _ _ h => h).trans (chgSetF _ b 4 _) fun _ _ h => h).trans (chgSetF _ b 5 _) fun _ _ h => h).trans (chgSetF _ b 6 _) fun _ _ h => h).trans (chgSetF _ b 7 _) fun _ _ h => h
theorem belChgF {B : Nat} {a X Y : World} {F : Nat → Prop} (h : Below B a X) (hc : Chg X Y F) (hB : B ≤ X.heap.size) (hF : ∀ k, k < B → F k) : Below B a Y :=
  ⟨hc.os.trans h.os, hc.tape.trans h.tape, hc.output.trans h.output, Nat.le_trans h.size hc.size, fun k hk => (hc.block k (Nat.lt_of_lt_of_le hk hB) (hF k hk)).trans (h.block k hk)⟩
/-- A function's box in block b: its code v is a row of the call's own, from block z on. -/
structure FnSv (X : World) (b z : Nat) (nm : ByteArray) (v : Value) (L : List I8) : Prop where
  box : Blk X b 24 #[.string nm, v]
  row : OwnC8 X z v L
  lt : b < z
  le : z ≤ X.heap.size
section
variable {X Y : World} {b z : Nat} {nm : ByteArray} {v : Value} {L : List I8}
theorem FnSv.chg {F : Nat → Prop} (h : FnSv X b z nm v L) (hc : Chg X Y F) (hb : F b) (hz : ∀ k, z ≤ k → v.ownBlock = some k → F k) : FnSv Y b z nm v L :=
  ⟨(hc.block b h.box.lt hb).trans h.box, h.row.chg hc (fun g hg => hz g (World.ownsRow.lt h.row g hg).1 hg), h.lt, Nat.le_trans h.le hc.size⟩
theorem FnSv.below (h : FnSv X b z nm v L) (hb : Below X.heap.size X Y) : FnSv Y b z nm v L := h.chg (Chg.ofBelow hb fun _ => True) trivial fun _ _ _ => trivial
theorem FnSv.cells (h : FnSv X b z nm v L) : X.cell? ⟨b, 0, none⟩ = some (.string nm) ∧ X.cell? ⟨b, 1, none⟩ = some v ∧ X.frozen? ⟨b, 0, none⟩ = false ∧ X.frozen? ⟨b, 1, none⟩ = false := ⟨h.box.cell 0, h.box.cell 1, h.box.frozen 0, h.box.frozen 1⟩
/-- The code grows by an instruction. -/
theorem FnSv.push (h : FnSv X b z nm v L) (hL : L.length ≤ 1000) {i : I8} {g : Nat} (hg : Blk X g 55 (icC i).toArray) :
    ∃ v' w', (∀ ty, (Builtin.append_ #[22, 22] ty #[v, .slice (some ⟨g, 0, none⟩) 1 1]).run Tryz.prog X = .ok v' w') ∧ Blk w' b 24 #[.string nm, v] ∧ FnSv (w'.setCell ⟨b, 1, none⟩ v') b z nm v' (L ++ [i]) ∧ Chg X (w'.setCell ⟨b, 1, none⟩ v') (fun k => k ≠ b ∧ k < z) := by
  obtain ⟨v', w', hrun, ho, hgr, hob⟩ := h.row.push hL h.le hg 22
  have hne : v.ownBlock ≠ some b := fun e => by have := (World.ownsRow.lt h.row b e).1; have := h.lt; omega
  have hbl : Blk w' b 24 #[.string nm, v] := (hgr.block b h.box.lt fun e => hne e.symm).trans h.box
  have hset := chgSetF w' b 1 v'
  refine ⟨v', w', fun _ => hrun, hbl, ⟨hbl.set 1 v', ho.chg hset fun g hg => ?_, h.lt, Nat.le_trans h.le (Nat.le_trans hgr.size hset.size)⟩, (Chg.ofGrown (F := fun k => k ≠ b ∧ k < z) hgr fun k hk e => ?_).trans hset fun _ _ hk => hk.1⟩
  · have := (World.ownsRow.lt ho g hg).1
    have := h.lt
    show g ≠ b
    omega
  · have := (World.ownsRow.lt h.row k e).1
    omega
theorem FnSv.new (w : World) (nm : ByteArray) : FnSv ((w.alloc (.cells #[.string nm, .slice none 0 0] 24)).alloc (.map #[] 0)) w.heap.size (w.heap.size + 2) nm (.slice none 0 0) [] :=
  ⟨(Blk.new w _ _).alloc _, OwnC8.nil _ _, by omega, by simp⟩
end
/-- What lies in memory while the code is folded. -/
structure FdStF (w1 : World) (nm : ByteArray) (C : List I8) (k : Nat) (X : World) : Prop where
  bel : Below w1.heap.size w1 X
  fn : ∃ v, FnSv X w1.heap.size (w1.heap.size + 2) nm v (fdK C k)
  map : MapK X (w1.heap.size + 1) k (knA C k)
theorem fdStartF (w1 : World) (nm : ByteArray) (C : List I8) : FdStF w1 nm C 0 ((w1.alloc (.cells #[.string nm, .slice none 0 0] 24)).alloc (.map #[] 0)) := by
  refine ⟨belowThen (belowAlloc _ _) (belowAlloc _ _), ⟨_, FnSv.new w1 nm⟩, ?_⟩
  have := MapK.made (w1.alloc (.cells #[.string nm, .slice none 0 0] 24))
  rwa [World.size_alloc] at this
theorem fdWf {C : List I8} (hok : CfOk C) {k : Nat} (hk : k < C.length) (hi : C[k].Wf) (h64 : C.length ≤ 64) : (fdAt C k).Wf := by
  have hg := I8.good (fdAtChk hok hk)
  have hgi := I8.good (hok.chk _ (List.getElem_mem hk))
  have sm : ∀ n : Int, -9223372036854775808 ≤ n → n ≤ 9223372036854775807 → In64 n := fun n h1 h2 => ⟨h1, h2⟩
  have hK := knBOk (C := C) (k := k) (knAOk hok (k := k) (by omega))
  have w32 : ∀ v, wrap32 v = v → In64 v := fun v h => by simp only [wrap32] at h; exact sm _ (by omega) (by omega)
  unfold fdAt
  rw [gIAt hk]
  have cs : ∀ v, wrap32 v = v → (cst C[k].a v).Wf := fun v h => ⟨sm 1 (by omega) (by omega), hi.a, sm 0 (by omega) (by omega), sm 0 (by omega) (by omega), sm 0 (by omega) (by omega), w32 v h, sm 0 (by omega) (by omega), sm 0 (by omega) (by omega)⟩
  have js : ∀ v, In64 v → (jmpTo v).Wf := fun v h => ⟨sm 4 (by omega) (by omega), sm 0 (by omega) (by omega), sm 0 (by omega) (by omega), sm 0 (by omega) (by omega), sm 0 (by omega) (by omega), h, sm 0 (by omega) (by omega), sm 0 (by omega) (by omega)⟩
  have hnx : In64 (((k + 1 : Nat) : Int)) := sm _ (by omega) (by omega)
  unfold fdI
  split
  · split
    · exact cs _ (hK.v _ _ (by assumption))
    · exact hi
  split
  · split
    · exact cs _ (w32opI _ _ _)
    · exact hi
  split
  · split
    · split
      · exact js _ hnx
      · exact js _ hi.n
    · exact hi
  split
  · split
    · split
      · exact hi
      · exact js _ hnx
    · exact hi
  · exact hi
theorem memBQ {C : List I8} {k : Nat} {b : Bool} (h : ldQ C k = b) : memB (ldR C) (k : Int) = b := by
  rw [← h]
  unfold ldQ memB
  first | rfl | (rw [Bool.eq_iff_iff]; simp)
end Go.Proofs.YtpkagpobobmnfaaGreatDoor

namespace Go.Proofs.YtpkagpobobmnfaaGreatDoor
open Go Go.RowKit Go.Maps

set_option maxRecDepth 100000 in
set_option maxHeartbeats 8000000 in
theorem iFoldF (nm : ByteArray) (C : List I8) (n : Nat) (hn : C.length = n) (A : Option Addr) (c : Nat) (w : World) (h : CdW w A c C) :
    Calls Tryz.prog 19 #[fnV nm A n c] w (GivesFn (nmRf C nm) (cdR C (fdL C)) (cfE C) w) := by
  obtain ⟨W, hW⟩ : ∃ W, (w.alloc (.cells #[.string nm, .slice A n c] 24)).alloc (.cells #[.string ⟨#[]⟩, .slice none 0 0] 24) = W := ⟨_, rfl⟩
  obtain ⟨h1, h2, hbW, hsz⟩ := two8 w _ _ hW
  have HB1 := Lib.hid (show Blk W w.heap.size 24 _ from h1)
  have HB2 := Lib.hid (show Blk W (w.heap.size + 1) 24 _ from h2)
  have hcd := h.below hbW
  have HCD := Lib.hid (fun X (hX : Below W.heap.size W X) => hcd.below hX)
  have HLE := Lib.hid (iLeaders nm C n hn A c W hcd)
  have HW := Lib.hid hW
  have HBW := Lib.hid hbW
  have HSZ := Lib.hid hsz
  have HN := Lib.hid hn
  have hle := h.rd.le
  have hmx := h.rd.max
  rw [hn] at hle
  unfold maxLen at hmx
  have a0 := HB1.out.cell 0
  have a1 := HB1.out.cell 1
  clear h h1 h2 hbW hW hsz hcd hn
  unfold fnV at HLE ⊢
  by_cases hc : cfE C = 0
  rotate_left
  · have hne : (cfE C != 0) = true := by simpa using hc
    unfold GivesFn
    rw [nmR1 hc, cdR1 hc]
    obtain ⟨er, her⟩ : ∃ er, cfE C = er := ⟨_, rfl⟩
    rw [her] at HLE hne ⊢
    obtain ⟨q, hq⟩ : ∃ q, (ldR C).length = q := ⟨_, rfl⟩
    clear hc her
    go_enter Tryz.func19, Tryz.ntmps19
    go_wp2_with fail
    rw [HW.out]
    go_wp2_with fail
    refine HLE.out.mono ?_
    rintro e w1 ⟨A1, c1, rfl, -, b1⟩
    rw [hq]
    have HB2' := Lib.hid (HB2.out.below' b1)
    have HG := Lib.hid (belowThen HBW.out b1)
    have g0 := HB2'.out.cell 0
    have g1 := HB2'.out.cell 1
    have fg0 := HB2'.out.frozen 0
    have fg1 := HB2'.out.frozen 1
    clear b1 a0 a1
    go_wp2_with fail
    refine bodyPost_ret ((stored2F HB2'.out).res2 rfl _ rfl Tryz.underlying24 rfl infoFn2) rfl ?_
    exact ⟨none, 0, rfl, RdE.nil, below2F HG.out (by omega)⟩
  have hok := cfOk hc
  unfold GivesFn
  rw [nmR0 hc, cdR0 hc]
  rw [hc] at HLE ⊢
  have h64 : n ≤ 64 := by have := hok.len; rw [HN.out] at this; exact this
  have HOK := Lib.hid hok
  obtain ⟨q, hq⟩ : ∃ q, (ldR C).length = q := ⟨_, rfl⟩
  have HQ := Lib.hid hq
  have e9 : (fdL C).length = n := by rw [fdLLen]; exact HN.out
  rw [e9]
  clear hc hok e9
  go_enter Tryz.func19, Tryz.ntmps19
  go_wp2_with fail
  rw [HW.out]
  go_wp2_with fail
  refine HLE.out.mono ?_
  rintro e w1 ⟨A1, c1, rfl, r1, b1⟩
  rw [hq]
  have HR1 := Lib.hid r1
  have HB1' := Lib.hid b1
  have HB2' := Lib.hid (HB2.out.below' b1)
  have HST0 := Lib.hid (fdStartF w1 nm C)
  have hsz1 : w.heap.size + 2 ≤ w1.heap.size := by have := b1.size; have := HSZ.out; omega
  have HSZ1 := Lib.hid hsz1
  clear a0 a1 r1 hq hsz1
  have a0 := (HB1.out.below' b1).cell 0
  have a1 := (HB1.out.below' b1).cell 1
  have hmm := @run_makeMap Tryz.prog
  obtain ⟨w2, hw2⟩ : ∃ w2, (w1.alloc (.cells #[.string nm, .slice none 0 0] 24)).alloc (.map #[] 0) = w2 := ⟨_, rfl⟩
  rw [hw2] at HST0
  have a1' := (HST0.out.bel.cell (p := ⟨w.heap.size, 1, none⟩) (by have := HSZ1.out; show w.heap.size < _; omega)).trans a1
  have HW2 := Lib.hid hw2
  clear b1 hw2
  go_upto_region 6 with fail
  rw [HW2.out]
  clear hmm a0 a1
  go_wp2_with fail
  go_loopg [26] n (fun g i X => ∃ k : Nat, k + g = n ∧ i = .int .i64 k ∧ FdStF w1 nm C k X)
  case atStart => exact ⟨0, by omega, rfl, HST0.out⟩
  case round =>
    obtain ⟨k, hk, rfl, hst⟩ := hrel
    obtain ⟨v, hv⟩ := hst.fn
    obtain ⟨Av, cv, ev, -⟩ := hv.row.rd
    rw [fdKLen] at ev
    subst ev
    obtain ⟨d0, d1, fd0, fd1⟩ := hv.cells
    have HV := Lib.hid hv
    cases gk with
    | zero =>
      have hkn : k = n := by omega
      subst hkn
      have hjz : ¬ ((k : Int) < k) := by omega
      have HB3 := Lib.hid (HB2'.out.below' hst.bel)
      have g0 := HB3.out.cell 0
      have g1 := HB3.out.cell 1
      have fg0 := HB3.out.frozen 0
      have fg1 := HB3.out.frozen 1
      have HG := Lib.hid (belowThen (belowThen HBW.out HB1'.out) hst.bel)
      have HL : Hid (fdK C k = fdL C) := Lib.hid (by unfold fdL; rw [HN.out])
      have HZ := HSZ1.out
      clear hst hv a1'
      go_wp2_with fail
      refine bodyPost_ret ((stored2F HB3.out).res2 rfl _ rfl Tryz.underlying24 rfl infoFn2) rfl ?_
      have hrow := HV.out.row.chg ((chgSetF wr (w.heap.size + 1) 0 (.string nm)).trans (chgSetF _ (w.heap.size + 1) 1 (.slice Av k cv)) fun _ _ h => h) fun g hg => by
        have := (World.ownsRow.lt HV.out.row g hg).1
        show g ≠ _
        omega
      obtain ⟨A6, c6, e6, r6⟩ := hrow.rd
      rw [fdKLen] at e6
      injection e6 with e7 _ e8
      subst e7 e8
      rw [HL.out] at r6
      exact ⟨Av, cv, rfl, r6, below2F HG.out (by omega)⟩
    | succ g2 =>
      have hkn : k < n := by omega
      have hkl : k < C.length := by rw [HN.out]; exact hkn
      have hk0 : (0 : Int) ≤ k := by omega
      have hk1 : (k : Int) < n := by omega
      have hbw := belowThen HB1'.out hst.bel
      have hcdw := HCD.out wr hbw
      obtain ⟨q8, off, hA, _, i0, i1, i2, i3, i4, i5, i6, i7⟩ := hcdw.rd.one hkl
      have hA : A = _ := hA
      have hokk := HOK.out
      have hKO := knBOk (C := C) (k := k) (knAOk hokk (k := k) (by omega))
      have hgI : gI C k = C[k] := gIAt hkl
      have hwfC := hcdw.wf C[k] (List.getElem_mem hkl)
      have hckC := hokk.chk C[k] (List.getElem_mem hkl)
      have hFA : fdAt C k = fdI (knB C k (knA C k)) ((k + 1 : Nat) : Int) C[k] := by unfold fdAt; rw [hgI]
      have HF1 := Lib.hid (fun X (hX : MapK X (w1.heap.size + 1) k (knB C k (knA C k))) (hL : Laid7 X) => iFold1 (knB C k (knA C k)) hKO (w1.heap.size + 1) k C[k] hwfC hckC ((k + 1 : Nat) : Int) X hX hL.ins hL.nm)
      rw [← hFA] at HF1
      have hwfR := fdWf hokk hkl hwfC (by rw [HN.out]; exact h64)
      have hckR := fdAtChk hokk hkl
      have HE1 := Lib.hid (fun X (hX : MapK X (w1.heap.size + 1) k (knB C k (knA C k))) (hL : Laid7 X) => iExec (knB C k (knA C k)) (w1.heap.size + 1) k (by omega) (fdAt C k) hwfR hckR X hX hL.ins hL.nm)
      rw [← knAS] at HE1
      have HPU := Lib.hid (fdKS (C := C) (k := k))
      have HCT := Lib.hid (fun X (hX : Below w1.heap.size w1 X) b (hb : ldQ C k = b) => iContains9 (ldR C) q HQ.out (k : Int) b (memBQ hb) A1 c1 X (HR1.out.below hX))
      have HKB1 : Hid (ldQ C k = true → knB C k (knA C k) = knNo) := Lib.hid fun h => if_pos h
      have HKB0 : Hid (ldQ C k = false → knB C k (knA C k) = knA C k) := Lib.hid fun h => if_neg (by rw [h]; simp)
      have hkl2 : (fdK C k).length ≤ 1000 := by rw [fdKLen]; omega
      have HKL := Lib.hid hkl2
      subst hA
      clear hKO hgI hwfC hckC hFA hwfR hckR hokk hkl2
      obtain ⟨ii, hii⟩ : ∃ x, C[k] = x := ⟨_, rfl⟩
      rw [hii] at i0 i1 i2 i3 i4 i5 i6 i7 HF1
      obtain ⟨R, hR⟩ : ∃ R, fdAt C k = R := ⟨_, rfl⟩
      rw [hR] at HF1 HE1 HPU
      obtain ⟨KB, hKB⟩ : ∃ K, knB C k (knA C k) = K := ⟨_, rfl⟩
      rw [hKB] at HF1 HE1 HKB1 HKB0
      clear hii hR hKB
      obtain ⟨op, ra, rb, rc, obj, nn, fn, ord⟩ := ii
      obtain ⟨j0, j1, j2, j3, j4, j5, j6, j7⟩ := R
      unfold GivesI at HF1
      unfold I8.val at HF1 HE1
      simp only at i0 i1 i2 i3 i4 i5 i6 i7 HF1 HE1
      obtain ⟨wb, hwb⟩ : ∃ x, wr.alloc (.cells #[.int .i64 op, .int .i64 ra, .int .i64 rb, .int .i64 rc, .int .i64 obj, .int .i64 nn, .int .i64 fn, .int .i64 ord] 55) = x := ⟨_, rfl⟩
      have hbb : Below wr.heap.size wr wb := by rw [← hwb]; exact belowAlloc wr _
      have hbi : Blk wb wr.heap.size 55 #[.int .i64 op, .int .i64 ra, .int .i64 rb, .int .i64 rc, .int .i64 obj, .int .i64 nn, .int .i64 fn, .int .i64 ord] := by rw [← hwb]; exact Blk.new wr _ _
      have HBI := Lib.hid hbi
      have HBB := Lib.hid (belowThen hst.bel hbb)
      have HMB := Lib.hid (hst.map.below hbb)
      have HVB := Lib.hid (hv.below hbb)
      have HWB := Lib.hid hwb
      have hsz2 : w1.heap.size + 2 ≤ wr.heap.size := hv.le
      have hwk : IntKind.i64.wrap ((k : Int) + 1) = ((k + 1 : Nat) : Int) := by rw [IntKind.wrap_i64]; omega
      have HCTB := Lib.hid (HCT.out wb HBB.out)
      obtain ⟨k1, hk1e⟩ : ∃ k1, k + 1 = k1 := ⟨_, rfl⟩
      rw [hk1e] at hwk HF1 HE1 HPU
      have HK1 := Lib.hid hk1e
      clear hst hv hbw hcdw hbb hbi hwb HCT hk1e
      have hmne : wr.heap.size ≠ w1.heap.size + 1 := by omega
      cases hlq : ldQ C k
      · have HCQ := Lib.hid (HCTB.out false hlq)
        have HM4 : Hid (MapK wb (w1.heap.size + 1) k KB) := Lib.hid (by rw [HKB0.out hlq]; exact HMB.out)
        have HC4 : Hid (Chg wb wb (fun x => x ≠ w1.heap.size + 1)) := Lib.hid (Chg.refl _ _)
        clear hlq
        go_wp2_with fail
        rw [HWB.out]
        go_wp2_with fail
        refine HCQ.out.mono ?_
        rintro e w3 ⟨rfl, rfl⟩
        have hBI4 : Blk wb wr.heap.size 55 _ := (HC4.out.block _ (show wr.heap.size < wb.heap.size from HBI.out.lt) hmne).trans HBI.out
        have HB4 := Lib.hid (belChgF HBB.out HC4.out (show w1.heap.size ≤ wb.heap.size by have := HBB.out.size; omega) fun k hk => (show k ≠ w1.heap.size + 1 by omega))
        have HF4 := Lib.hid (HF1.out wb HM4.out (HCD.out wb (belowThen HB1'.out HB4.out)).ld)
        have HV4 := Lib.hid (HVB.out.chg HC4.out (show w1.heap.size ≠ w1.heap.size + 1 by omega) fun k hk _ => (show k ≠ w1.heap.size + 1 by omega))
        have HBI4 := Lib.hid hBI4
        obtain ⟨x0, x1, x2, x3, x4, x5, x6, x7⟩ := boxFactsW hBI4
        have HSW : Hid (w1.heap.size + 2 ≤ wr.heap.size) := Lib.hid hsz2
        clear hBI4 hsz2
        go_upto_region 11 with fail
        go_cut [26] from 26 to 49 (fun s26 wx => s26 = .int .i64 (k : Int) ∧ Below w1.heap.size w1 wx ∧ MapK wx (w1.heap.size + 1) k KB ∧ FnSv wx w1.heap.size (w1.heap.size + 2) nm (.slice Av k cv) (fdK C k) ∧ Blk wx wr.heap.size 55 #[.int .i64 j0, .int .i64 j1, .int .i64 j2, .int .i64 j3, .int .i64 j4, .int .i64 j5, .int .i64 j6, .int .i64 j7])
        case first =>
          go_wp2_with fail
          refine HF4.out.mono ?_
          rintro e w5 ⟨rfl, b5⟩
          have hBI5 : Blk w5 wr.heap.size 55 _ := HBI4.out.below' b5
          obtain ⟨⟨y0, y1, y2, y3, y4, y5, y6, y7⟩, fx0, fx1, fx2, fx3, fx4, fx5, fx6, fx7⟩ := blkFacts hBI5
          have hC6 := chgSt8 w5 wr.heap.size ⟨j0, j1, j2, j3, j4, j5, j6, j7⟩
          have HB5 := Lib.hid b5
          have HB6 := Lib.hid (belChgF (belowThen HB4.out b5) hC6 (by have := HSW.out; have := hBI5.lt; omega) fun k hk => (show k ≠ wr.heap.size by have := HSW.out; omega))
          have HM6 := Lib.hid ((HM4.out.below b5).chg hC6 (Ne.symm hmne))
          have HV6 := Lib.hid ((HV4.out.below b5).chg hC6 (show w1.heap.size ≠ wr.heap.size by have := HSW.out; omega) fun k hk hv => (by have := (World.ownsRow.lt HV.out.row k hv).2; show k ≠ wr.heap.size; omega))
          have HBI6 := Lib.hid (stored8 (v0 := .int .i64 j0) (v1 := .int .i64 j1) (v2 := .int .i64 j2) (v3 := .int .i64 j3) (v4 := .int .i64 j4) (v5 := .int .i64 j5) (v6 := .int .i64 j6) (v7 := .int .i64 j7) hBI5)
          clear x0 x1 x2 x3 x4 x5 x6 x7 hBI5 hC6 b5
          go_wp2_with fail
          go_meet
          case rel => exact ⟨rfl, HB6.out, HM6.out, HV6.out, HBI6.out⟩
        case rest =>
        obtain ⟨rfl, hbc, hmc, hvc, hic⟩ := hcut
        have HE6 := Lib.hid (HE1.out _ hmc (HCD.out _ (belowThen HB1'.out hbc)).ld)
        have HBC := Lib.hid hbc
        have HVC := Lib.hid hvc
        have HIC := Lib.hid hic
        clear x0 x1 x2 x3 x4 x5 x6 x7 hmc
        obtain ⟨x0, x1, x2, x3, x4, x5, x6, x7⟩ := boxFactsW hic
        clear hic hbc hvc
        go_wp2_with fail
        refine HE6.out.mono ?_
        rintro e w7 ⟨rfl, hm7, hc7⟩
        have hBI7 := (hc7.block _ HIC.out.lt hmne).trans HIC.out
        have hV7 := HVC.out.chg hc7 (show w1.heap.size ≠ w1.heap.size + 1 by omega) fun k hk _ => (show k ≠ w1.heap.size + 1 by omega)
        have hB7 := belChgF HBC.out hc7 (by have := HBC.out.size; omega) fun k hk => (show k ≠ w1.heap.size + 1 by omega)
        have hb8 := belowAlloc w7 (.cells #[.int .i64 j0, .int .i64 j1, .int .i64 j2, .int .i64 j3, .int .i64 j4, .int .i64 j5, .int .i64 j6, .int .i64 j7] 55)
        obtain ⟨v', w9, hrun9, hbl9, hfn9, hc9⟩ := (hV7.below hb8).push HKL.out (i := ⟨j0, j1, j2, j3, j4, j5, j6, j7⟩) (Blk.new w7 _ _)
        rw [← HPU.out] at hfn9
        have HFN9 := Lib.hid hfn9
        obtain ⟨A9, c9, e9, -⟩ := hfn9.row.rd
        subst e9
        have HM9 := Lib.hid ((hm7.below hb8).chg hc9 ⟨(show w1.heap.size + 1 ≠ w1.heap.size by omega), (show w1.heap.size + 1 < w1.heap.size + 2 by omega)⟩)
        have HB9 := Lib.hid (belChgF (belowThen hB7 hb8) hc9 (by have := (belowThen hB7 hb8).size; omega) fun k hk => ⟨(show k ≠ w1.heap.size by omega), (show k < w1.heap.size + 2 by omega)⟩)
        have f1 := hV7.cells.2.1
        have f9 := hbl9.cell 1
        have g9 := hbl9.frozen 1
        clear x0 x1 x2 x3 x4 x5 x6 x7
        obtain ⟨x0, x1, x2, x3, x4, x5, x6, x7⟩ := boxFactsW hBI7
        clear hm7 hc7 hBI7 hV7 hB7 hb8 hbl9 hfn9 hc9
        go_wp2_with (at_builtin; refine Lib.wpList_append_run _ rfl _ _ _ _ rfl _ _ rfl rfl _ _ (hrun9 _) ?_)
        go_roundg g2
        case measure => omega
        case rel => exact ⟨k1, by have := HK1.out; omega, by first | rfl | go_num, ⟨HB9.out, ⟨_, HFN9.out⟩, HM9.out⟩⟩
      · have HCQ := Lib.hid (HCTB.out true hlq)
        obtain ⟨w4, hrun4, hm4, ht4⟩ := HMB.out.clear 33
        have hrun4 : ∀ ty, (Builtin.clear_ #[86] ty #[.map (some (w1.heap.size + 1))]).run Tryz.prog wb = .ok (.tuple #[]) w4 := fun ty => hrun4
        have HM4 : Hid (MapK w4 (w1.heap.size + 1) k KB) := Lib.hid (by rw [HKB1.out hlq]; exact hm4.mono (Nat.zero_le _))
        have HC4 : Hid (Chg wb w4 (fun x => x ≠ w1.heap.size + 1)) := Lib.hid (Chg.ofGrown (F := fun k => k ≠ w1.heap.size + 1) ht4.grown fun k hk e => hk (by injection e with e; exact e.symm))
        clear hlq hm4 ht4
        go_wp2_with fail
        rw [HWB.out]
        go_wp2_with fail
        refine HCQ.out.mono ?_
        rintro e w3 ⟨rfl, rfl⟩
        have hBI4 : Blk w4 wr.heap.size 55 _ := (HC4.out.block _ (show wr.heap.size < wb.heap.size from HBI.out.lt) hmne).trans HBI.out
        have HB4 := Lib.hid (belChgF HBB.out HC4.out (show w1.heap.size ≤ wb.heap.size by have := HBB.out.size; omega) fun k hk => (show k ≠ w1.heap.size + 1 by omega))
        have HF4 := Lib.hid (HF1.out w4 HM4.out (HCD.out w4 (belowThen HB1'.out HB4.out)).ld)
        have HV4 := Lib.hid (HVB.out.chg HC4.out (show w1.heap.size ≠ w1.heap.size + 1 by omega) fun k hk _ => (show k ≠ w1.heap.size + 1 by omega))
        have HBI4 := Lib.hid hBI4
        obtain ⟨x0, x1, x2, x3, x4, x5, x6, x7⟩ := boxFactsW hBI4
        have HSW : Hid (w1.heap.size + 2 ≤ wr.heap.size) := Lib.hid hsz2
        clear hBI4 hsz2
        go_upto_region 11 with fail
        go_cut [26] from 26 to 49 (fun s26 wx => s26 = .int .i64 (k : Int) ∧ Below w1.heap.size w1 wx ∧ MapK wx (w1.heap.size + 1) k KB ∧ FnSv wx w1.heap.size (w1.heap.size + 2) nm (.slice Av k cv) (fdK C k) ∧ Blk wx wr.heap.size 55 #[.int .i64 j0, .int .i64 j1, .int .i64 j2, .int .i64 j3, .int .i64 j4, .int .i64 j5, .int .i64 j6, .int .i64 j7])
        case first =>
          go_wp2_with fail
          refine HF4.out.mono ?_
          rintro e w5 ⟨rfl, b5⟩
          have hBI5 : Blk w5 wr.heap.size 55 _ := HBI4.out.below' b5
          obtain ⟨⟨y0, y1, y2, y3, y4, y5, y6, y7⟩, fx0, fx1, fx2, fx3, fx4, fx5, fx6, fx7⟩ := blkFacts hBI5
          have hC6 := chgSt8 w5 wr.heap.size ⟨j0, j1, j2, j3, j4, j5, j6, j7⟩
          have HB5 := Lib.hid b5
          have HB6 := Lib.hid (belChgF (belowThen HB4.out b5) hC6 (by have := HSW.out; have := hBI5.lt; omega) fun k hk => (show k ≠ wr.heap.size by have := HSW.out; omega))
          have HM6 := Lib.hid ((HM4.out.below b5).chg hC6 (Ne.symm hmne))
          have HV6 := Lib.hid ((HV4.out.below b5).chg hC6 (show w1.heap.size ≠ wr.heap.size by have := HSW.out; omega) fun k hk hv => (by have := (World.ownsRow.lt HV.out.row k hv).2; show k ≠ wr.heap.size; omega))
          have HBI6 := Lib.hid (stored8 (v0 := .int .i64 j0) (v1 := .int .i64 j1) (v2 := .int .i64 j2) (v3 := .int .i64 j3) (v4 := .int .i64 j4) (v5 := .int .i64 j5) (v6 := .int .i64 j6) (v7 := .int .i64 j7) hBI5)
          clear x0 x1 x2 x3 x4 x5 x6 x7 hBI5 hC6 b5
          go_wp2_with fail
          go_meet
          case rel => exact ⟨rfl, HB6.out, HM6.out, HV6.out, HBI6.out⟩
        case rest =>
        obtain ⟨rfl, hbc, hmc, hvc, hic⟩ := hcut
        have HE6 := Lib.hid (HE1.out _ hmc (HCD.out _ (belowThen HB1'.out hbc)).ld)
        have HBC := Lib.hid hbc
        have HVC := Lib.hid hvc
        have HIC := Lib.hid hic
        clear x0 x1 x2 x3 x4 x5 x6 x7 hmc
        obtain ⟨x0, x1, x2, x3, x4, x5, x6, x7⟩ := boxFactsW hic
        clear hic hbc hvc
        go_wp2_with fail
        refine HE6.out.mono ?_
        rintro e w7 ⟨rfl, hm7, hc7⟩
        have hBI7 := (hc7.block _ HIC.out.lt hmne).trans HIC.out
        have hV7 := HVC.out.chg hc7 (show w1.heap.size ≠ w1.heap.size + 1 by omega) fun k hk _ => (show k ≠ w1.heap.size + 1 by omega)
        have hB7 := belChgF HBC.out hc7 (by have := HBC.out.size; omega) fun k hk => (show k ≠ w1.heap.size + 1 by omega)
        have hb8 := belowAlloc w7 (.cells #[.int .i64 j0, .int .i64 j1, .int .i64 j2, .int .i64 j3, .int .i64 j4, .int .i64 j5, .int .i64 j6, .int .i64 j7] 55)
        obtain ⟨v', w9, hrun9, hbl9, hfn9, hc9⟩ := (hV7.below hb8).push HKL.out (i := ⟨j0, j1, j2, j3, j4, j5, j6, j7⟩) (Blk.new w7 _ _)
        rw [← HPU.out] at hfn9
        have HFN9 := Lib.hid hfn9
        obtain ⟨A9, c9, e9, -⟩ := hfn9.row.rd
        subst e9
        have HM9 := Lib.hid ((hm7.below hb8).chg hc9 ⟨(show w1.heap.size + 1 ≠ w1.heap.size by omega), (show w1.heap.size + 1 < w1.heap.size + 2 by omega)⟩)
        have HB9 := Lib.hid (belChgF (belowThen hB7 hb8) hc9 (by have := (belowThen hB7 hb8).size; omega) fun k hk => ⟨(show k ≠ w1.heap.size by omega), (show k < w1.heap.size + 2 by omega)⟩)
        have f1 := hV7.cells.2.1
        have f9 := hbl9.cell 1
        have g9 := hbl9.frozen 1
        clear x0 x1 x2 x3 x4 x5 x6 x7
        obtain ⟨x0, x1, x2, x3, x4, x5, x6, x7⟩ := boxFactsW hBI7
        clear hm7 hc7 hBI7 hV7 hB7 hb8 hbl9 hfn9 hc9
        go_wp2_with (at_builtin; refine Lib.wpList_append_run _ rfl _ _ _ _ rfl _ _ rfl rfl _ _ (hrun9 _) ?_)
        go_roundg g2
        case measure => omega
        case rel => exact ⟨k1, by have := HK1.out; omega, by first | rfl | go_num, ⟨HB9.out, ⟨_, HFN9.out⟩, HM9.out⟩⟩
end Go.Proofs.YtpkagpobobmnfaaGreatDoor
