/-
  The statements' own example reckoned: its code folded and pruned.
-/
import Derived.Test.YtnnpkbonbemeaaaDoorYSa
import Derived.Test.YtnnpkbonbemeaaaDoorYCfXm
import Derived.Test.YtnnpkbonbemeaaaDoorYSb
import Derived.Test.YtnnpkbonbemeaaaDoorYPgX4
import Derived.Deep.QuietTactic
import Derived.BigQuiet
import Derived.Laws.StructEq
import Derived.KernelRfl
import Derived.Test.YtnnpkbonbemeaaaDoorYSr
namespace Go.Proofs.YtnnpkbonbemeaaaDoor

def sfE0 : List I8 := [⟨1, 0, 0, 0, 0, 2, 0, 0⟩, ⟨1, 1, 0, 0, 0, 3, 0, 0⟩, ⟨3, 2, 0, 1, 0, 0, 1, 0⟩, ⟨5, 0, 2, 0, 0, 0, 0, 0⟩, ⟨7, 0, 0, 0, 0, 0, 0, 0⟩]
def sfE1 : List I8 := [⟨1, 0, 0, 0, 0, 2, 0, 0⟩, ⟨1, 1, 0, 0, 0, 3, 0, 0⟩, ⟨1, 2, 0, 0, 0, 5, 0, 0⟩, ⟨4, 0, 0, 0, 0, 0, 0, 0⟩, ⟨7, 0, 0, 0, 0, 0, 0, 0⟩]
def sfE2 : List I8 := [⟨1, 0, 0, 0, 0, 2, 0, 0⟩, ⟨1, 1, 0, 0, 0, 3, 0, 0⟩, ⟨1, 2, 0, 0, 0, 5, 0, 0⟩, ⟨4, 0, 0, 0, 0, 0, 0, 0⟩]
theorem sfC0 : cfE sfE0 = 0 := by decide +kernel
theorem sfC1 : cfE sfE1 = 0 := by decide +kernel
theorem sfFd : fdL sfE0 = sfE1 := by decide +kernel
theorem onEq (C : List I8) : onB C = rcC C.length (sc C) (-1) := funext fun x => by unfold onB; exact rcCEq _ _ _ _
theorem rmEq (C : List I8) (k : Nat) : rmK C k = (List.range k).filter (rcC C.length (sc C) (-1)) := by unfold rmK; rw [onEq]
theorem sfRm : rmK sfE1 5 = [0, 1, 2, 3] := by rw [rmEq]; decide +kernel
theorem sfPr : prL sfE1 = sfE2 := by
  unfold prL prK
  show (rmK sfE1 5).map _ = _
  rw [sfRm]
  show [prI sfE1 ⟨1, 0, 0, 0, 0, 2, 0, 0⟩, prI sfE1 ⟨1, 1, 0, 0, 0, 3, 0, 0⟩, prI sfE1 ⟨1, 2, 0, 0, 0, 5, 0, 0⟩, prI sfE1 ⟨4, 0, 0, 0, 0, 0, 0, 0⟩] = sfE2
  have h1 : ∀ a n, prI sfE1 ⟨1, a, 0, 0, 0, n, 0, 0⟩ = ⟨1, a, 0, 0, 0, n, 0, 0⟩ := fun a n => by unfold prI; rw [if_neg (by unfold I8.jmp; simp)]
  have h4 : prI sfE1 ⟨4, 0, 0, 0, 0, 0, 0, 0⟩ = ⟨4, 0, 0, 0, 0, 0, 0, 0⟩ := by
    unfold prI
    rw [if_pos (by unfold I8.jmp; rfl)]
    have : rmN sfE1 (Int.toNat 0) = 0 := by simp [rmN, rmK]
    show setNf _ ((rmN sfE1 (Int.toNat 0) : Nat) : Int) = _
    rw [this]; rfl
  rw [h1, h1, h1, h4]
  rfl
end Go.Proofs.YtnnpkbonbemeaaaDoor

namespace Go.Proofs.YtnnpkbonbemeaaaDoor
open Go Go.RowKit

/-- A code written out. -/
theorem rdLit8 {Z : World} {b : Nat} {L : List I8} (h : Blk Z b 47 (icCs L).toArray) (hm : L.length ≤ 1000) : RdE 8 EI Z (some ⟨b, 0, none⟩) L.length L := by
  refine ⟨Nat.le_refl _, by unfold maxLen; omega, fun _ => ⟨b, 0, rfl, h.lt, fun j hj => ?_⟩⟩
  have hcell : ∀ i, i < 8 → Z.cell? ⟨b, 0 + j * 8 + i, none⟩ = (icC L[j])[i]? := fun i hi => by
    rw [h.cell, List.getElem?_toArray, show 0 + j * 8 + i = j * 8 + i by omega]
    exact icCsAt L j hj i hi
  exact ⟨hcell 0 (by omega), hcell 1 (by omega), hcell 2 (by omega), hcell 3 (by omega), hcell 4 (by omega), hcell 5 (by omega), hcell 6 (by omega), hcell 7 (by omega)⟩
def UpI (l m : List I8) (k : Nat) : Prop := ∀ j (h1 : j < l.length) (h2 : j < m.length), j < k → l[j] = m[j]
theorem UpI.next {l m : List I8} {k : Nat} (h : UpI l m k) (h1 : k < l.length) (h2 : k < m.length) (e : l[k] = m[k]) : UpI l m (k + 1) := fun j j1 j2 hj => by
  rcases (by omega : j < k ∨ j = k) with g | g
  · exact h j j1 j2 g
  · subst g; exact e
theorem UpI.eq {l m : List I8} {k : Nat} (h : UpI l m k) (hl : l.length = m.length) (hk : l.length ≤ k) : l = m := List.ext_getElem hl fun j h1 h2 => h j h1 h2 (by omega)
set_option maxRecDepth 100000 in
set_option maxHeartbeats 4000000 in
/-- Functions of the same name. -/
theorem rSameC (nm : ByteArray) (l m : List I8) (n k : Nat) (hn : l.length = n) (hm : m.length = k) (A B : Option Addr) (c d : Nat) (w : World) (ha : RdE 8 EI w A c l) (hb : RdE 8 EI w B d m) :
    Calls Tryd.prog 18 #[fnV nm A n c, fnV nm B k d] w fun e w' => e = .returned (.bool (decide (l = m))) ∧ Below w.heap.size w w' := by
  obtain ⟨W, hW⟩ : ∃ W, (w.alloc (.cells #[.string nm, .slice A n c] 42)).alloc (.cells #[.string nm, .slice B k d] 42) = W := ⟨_, rfl⟩
  obtain ⟨h1, h2, hbW, hsz⟩ := two8 w _ _ hW
  have hB1 : Blk W w.heap.size 42 #[.string nm, .slice A n c] := h1
  have hB2 : Blk W (w.heap.size + 1) 42 #[.string nm, .slice B k d] := h2
  have HK := Lib.hid (fun X (hX : Below W.heap.size W X) => (⟨(hB1.below' hX).cell 0, (hB1.below' hX).cell 1, (hB2.below' hX).cell 0, (hB2.below' hX).cell 1⟩ : X.cell? ⟨w.heap.size, 0, none⟩ = some (.string nm) ∧ X.cell? ⟨w.heap.size, 1, none⟩ = some (.slice A n c) ∧ X.cell? ⟨w.heap.size + 1, 0, none⟩ = some (.string nm) ∧ X.cell? ⟨w.heap.size + 1, 1, none⟩ = some (.slice B k d)))
  have hla := ha.le
  have hlb := hb.le
  have hca := ha.max
  have hcb := hb.max
  rw [hn] at hla
  rw [hm] at hlb
  unfold maxLen at hca hcb
  obtain ⟨r, hr⟩ : ∃ r, decide (l = m) = r := ⟨_, rfl⟩
  rw [hr]
  have HR := Lib.hid hr
  have HA := Lib.hid (ha.below stabI hbW)
  have HB := Lib.hid (hb.below stabI hbW)
  have HN := Lib.hid hn
  have HM := Lib.hid hm
  have HW := Lib.hid hW
  have HBW := Lib.hid hbW
  have HBD := Lib.hid (fun X nq (hX : Below W.heap.size W X) => belowDrewN hX nq)
  obtain ⟨a0, a1, b0, b1⟩ := HK.out W (Below.refl _ _)
  have hnn : (nm.toList == nm.toList) = true := by simp
  clear ha hb hr h1 h2 hB1 hB2 hW hbW hsz
  unfold fnV
  by_cases hnk : n = k
  rotate_left
  · have hx : ((n : Int) != (k : Int)) = true := by simp; omega
    have HF := Lib.hid (show false = r by rw [← HR.out]; exact (decide_eq_false fun e => hnk (by rw [← hn, ← hm, e])).symm)
    clear hn hm hnk
    go_enter Tryd.func18, Tryd.ntmps18
    go_wp2_with fail
    rw [HW.out]
    go_wp2
    go_ret
    exact ⟨retB HF.out, HBW.out⟩
  · subst hnk
    clear hn hm
    go_enter Tryd.func18, Tryd.ntmps18
    go_wp2_with fail
    rw [HW.out]
    go_wp2
    go_loopg [5] n (fun g i wr => ∃ j : Nat, j + g = n ∧ i = .int .i64 j ∧ Below W.heap.size W wr ∧ Hid (UpI l m j))
    case atStart => exact ⟨0, by omega, rfl, Below.refl _ _, Lib.hid fun _ _ _ h => by omega⟩
    case round =>
      obtain ⟨j, hj, rfl, hb, HU⟩ := hrel
      clear a0 a1 b0 b1
      obtain ⟨a0, a1, b0, b1⟩ := HK.out wr hb
      cases gk with
      | zero =>
        have hjn : j = n := by omega
        subst hjn
        have hjz : ¬ ((j : Int) < j) := by omega
        have HT := Lib.hid (show true = r by rw [← HR.out]; exact (decide_eq_true (HU.out.eq (HN.out.trans HM.out.symm) (by rw [HN.out]; exact Nat.le_refl _))).symm)
        go_wp2
        go_ret
        exact ⟨retB HT.out, belowThen HBW.out hb⟩
      | succ g2 =>
        have hj0 : (0 : Int) ≤ j := by omega
        have hj1 : (j : Int) < n := by omega
        have jl : j < l.length := by rw [HN.out]; omega
        have jm : j < m.length := by rw [HM.out]; omega
        obtain ⟨q1, o1, eA, _, i0, i1, i2, i3, i4, i5, i6, i7⟩ := (HA.out.below stabI hb).one jl
        obtain ⟨q2, o2, eB, _, y0, y1, y2, y3, y4, y5, y6, y7⟩ := (HB.out.below stabI hb).one jm
        have HNX := Lib.hid (fun e => HU.out.next jl jm e)
        have HNE := Lib.hid (fun (h : l[j] ≠ m[j]) => (show false = r by rw [← HR.out]; exact (decide_eq_false fun e => h (by subst e; rfl)).symm))
        obtain ⟨u, hu⟩ : ∃ u, l[j] = u := ⟨_, rfl⟩
        obtain ⟨u2, hv⟩ : ∃ u, m[j] = u := ⟨_, rfl⟩
        rw [hu] at i0 i1 i2 i3 i4 i5 i6 i7 HNX HNE
        rw [hv] at y0 y1 y2 y3 y4 y5 y6 y7 HNX HNE
        subst eA eB
        obtain ⟨x0, x1, x2, x3, x4, x5, x6, x7⟩ := u
        obtain ⟨z0, z1, z2, z3, z4, z5, z6, z7⟩ := u2
        simp only at i0 i1 i2 i3 i4 i5 i6 i7 y0 y1 y2 y3 y4 y5 y6 y7
        clear hu hv jl jm
        cases he : i8Eq ⟨x0, x1, x2, x3, x4, x5, x6, x7⟩ ⟨z0, z1, z2, z3, z4, z5, z6, z7⟩
        · have HX := Lib.hid (HNE.out (fun e => by rw [i8EqIff, decide_eq_true e] at he; cases he))
          have HQ := fun X => eqInstIs x0 x1 x2 x3 x4 x5 x6 x7 z0 z1 z2 z3 z4 z5 z6 z7 X
          unfold i8Eq at he
          simp only at he
          rw [he] at HQ
          clear he HNX HNE
          go_wp2_with fail
          go_quiet (fail)
          go_wp2
          go_ret
          exact ⟨retB HX.out, belowThen HBW.out (HBD.out _ _ hb)⟩
        · have HX := Lib.hid (HNX.out (by rw [i8EqIff] at he; exact of_decide_eq_true he))
          have HQ := fun X => eqInstIs x0 x1 x2 x3 x4 x5 x6 x7 z0 z1 z2 z3 z4 z5 z6 z7 X
          unfold i8Eq at he
          simp only at he
          rw [he] at HQ
          clear he HNX HNE
          go_wp2_with fail
          go_quiet (fail)
          go_wp2
          go_roundg g2
          case measure => omega
          case rel => exact ⟨j + 1, by omega, by go_num, HBD.out _ _ hb, HX⟩
end Go.Proofs.YtnnpkbonbemeaaaDoor

namespace Go.Proofs.YtnnpkbonbemeaaaDoor
open Go Go.RowKit

def LawOkS (w : World) (e : Ending) (w' : World) : Prop := e = .returned (.bool true) ∧ Below w.heap.size w w'
theorem rdTake9 {X : World} {A : Option Addr} {c : Nat} {l : List I8} (h : RdE 8 EI X A c l) (k : Nat) : RdE 8 EI X A c (l.take k) := by
  refine ⟨Nat.le_trans (by rw [List.length_take]; omega) h.le, h.max, fun hn => ?_⟩
  rw [List.length_take] at hn
  obtain ⟨b, off, e, hl, hc⟩ := h.at_ (by omega)
  refine ⟨b, off, e, hl, fun j hj => ?_⟩
  rw [List.length_take] at hj
  rw [List.getElem_take]
  exact hc j (by omega)
theorem four8 (W : World) (o1 o2 o3 o4 : Obj) {Z : World} (hZ : (((W.alloc o1).alloc o2).alloc o3).alloc o4 = Z) :
    (Z.heap[W.heap.size]? = some o1 ∧ Z.heap[W.heap.size + 1]? = some o2 ∧ Z.heap[W.heap.size + 1 + 1]? = some o3 ∧ Z.heap[W.heap.size + 1 + 1 + 1]? = some o4) ∧ Below W.heap.size W Z := by
  subst hZ
  have new : ∀ (X : World) (o : Obj) (k : Nat), X.heap.size = k → (X.alloc o).heap[k]? = some o := fun X o k h => h ▸ World.alloc_heap_new X o
  have old : ∀ (X : World) (o o' : Obj) (k : Nat), X.heap[k]? = some o' → (X.alloc o).heap[k]? = some o' := fun X o o' k h => ((belowAlloc X o).block k (Array.getElem?_eq_some_iff.1 h).1).trans h
  refine ⟨⟨old _ _ _ _ (old _ _ _ _ (old _ _ _ _ (new _ _ _ rfl))), old _ _ _ _ (old _ _ _ _ (new _ _ _ (by simp))), old _ _ _ _ (new _ _ _ (by simp)), new _ _ _ (by simp)⟩, ?_⟩
  exact belowThen (belowThen (belowThen (belowAlloc _ _) (belowAlloc _ _)) (belowAlloc _ _)) (belowAlloc _ _)
theorem sm64s (n : Int) (h1 : -1000 ≤ n) (h2 : n ≤ 1000) : In64 n := ⟨by omega, by omega⟩
theorem wfSmallS (i : I8) (h : (decide (-1000 ≤ i.op ∧ i.op ≤ 1000) && decide (-1000 ≤ i.a ∧ i.a ≤ 1000) && decide (-1000 ≤ i.b ∧ i.b ≤ 1000) && decide (-1000 ≤ i.c ∧ i.c ≤ 1000) && decide (-1000 ≤ i.obj ∧ i.obj ≤ 1000) && decide (-1000 ≤ i.n ∧ i.n ≤ 1000) && decide (-1000 ≤ i.fn ∧ i.fn ≤ 1000) && decide (-1000 ≤ i.ord ∧ i.ord ≤ 1000)) = true) : i.Wf := by
  simp only [Bool.and_eq_true, decide_eq_true_eq] at h
  obtain ⟨⟨⟨⟨⟨⟨⟨h0, h1⟩, h2⟩, h3⟩, h4⟩, h5⟩, h6⟩, h7⟩ := h
  exact ⟨sm64s _ h0.1 h0.2, sm64s _ h1.1 h1.2, sm64s _ h2.1 h2.2, sm64s _ h3.1 h3.2, sm64s _ h4.1 h4.2, sm64s _ h5.1 h5.2, sm64s _ h6.1 h6.2, sm64s _ h7.1 h7.2⟩
theorem sfWf0 : ∀ i ∈ sfE0, i.Wf := fun i hi => by
  simp only [sfE0, List.mem_cons, List.not_mem_nil, or_false] at hi
  rcases hi with rfl | rfl | rfl | rfl | rfl <;> exact wfSmallS _ (by decide)
theorem sfWf1 : ∀ i ∈ sfE1, i.Wf := fun i hi => by
  simp only [sfE1, List.mem_cons, List.not_mem_nil, or_false] at hi
  rcases hi with rfl | rfl | rfl | rfl | rfl <;> exact wfSmallS _ (by decide)
abbrev sfO0 : Obj := .cells #[.int .i64 1, .int .i64 0, .int .i64 0, .int .i64 0, .int .i64 0, .int .i64 2, .int .i64 0, .int .i64 0, .int .i64 1, .int .i64 1, .int .i64 0, .int .i64 0, .int .i64 0, .int .i64 3, .int .i64 0, .int .i64 0, .int .i64 3, .int .i64 2, .int .i64 0, .int .i64 1, .int .i64 0, .int .i64 0, .int .i64 1, .int .i64 0, .int .i64 5, .int .i64 0, .int .i64 2, .int .i64 0, .int .i64 0, .int .i64 0, .int .i64 0, .int .i64 0, .int .i64 7, .int .i64 0, .int .i64 0, .int .i64 0, .int .i64 0, .int .i64 0, .int .i64 0, .int .i64 0] 47
abbrev sfO1 : Obj := .cells #[.int .i64 1, .int .i64 0, .int .i64 0, .int .i64 0, .int .i64 0, .int .i64 2, .int .i64 0, .int .i64 0, .int .i64 1, .int .i64 1, .int .i64 0, .int .i64 0, .int .i64 0, .int .i64 3, .int .i64 0, .int .i64 0, .int .i64 1, .int .i64 2, .int .i64 0, .int .i64 0, .int .i64 0, .int .i64 5, .int .i64 0, .int .i64 0, .int .i64 4, .int .i64 0, .int .i64 0, .int .i64 0, .int .i64 0, .int .i64 0, .int .i64 0, .int .i64 0, .int .i64 7, .int .i64 0, .int .i64 0, .int .i64 0, .int .i64 0, .int .i64 0, .int .i64 0, .int .i64 0] 47
set_option maxRecDepth 100000 in
set_option maxHeartbeats 8000000 in
theorem exHoldsS (w : World) (hL : Laid7 w) : Calls Tryd.prog 15 #[] w (LawOkS w) := by
  obtain ⟨Z, hZ⟩ : ∃ Z, (((w.alloc sfO0).alloc (.cells #[.string ⟨#[]⟩, .slice (some ⟨w.heap.size, 0, none⟩) 5 5] 42)).alloc sfO1).alloc (.cells #[.string ⟨#[]⟩, .slice (some ⟨w.heap.size + 1 + 1, 0, none⟩) 5 5] 42) = Z := ⟨_, rfl⟩
  obtain ⟨⟨h0, h1, h2, h3⟩, hb⟩ := four8 w _ _ _ _ hZ
  have b0 : Blk Z w.heap.size 47 (icCs sfE0).toArray := h0
  have b2 : Blk Z (w.heap.size + 1 + 1) 47 (icCs sfE1).toArray := h2
  have B1 : Hid (Blk Z (w.heap.size + 1) 42 #[.string ⟨#[]⟩, .slice (some ⟨w.heap.size, 0, none⟩) 5 5]) := Lib.hid h1
  have B3 : Hid (Blk Z (w.heap.size + 1 + 1 + 1) 42 #[.string ⟨#[]⟩, .slice (some ⟨w.heap.size + 1 + 1, 0, none⟩) 5 5]) := Lib.hid h3
  have c0 : CdW Z (some ⟨w.heap.size, 0, none⟩) 5 sfE0 := ⟨rdLit8 b0 (by decide), sfWf0, hL.below hb⟩
  have R2 := Lib.hid (rdLit8 b2 (by decide))
  have HFO := Lib.hid (iFoldF ⟨#[]⟩ sfE0 5 rfl _ 5 Z c0)
  rw [nmR0 sfC0, cdR0 sfC0, sfC0, sfFd] at HFO
  have HLD := Lib.hid (fun X (hX : Below Z.heap.size Z X) => (hL.below hb).below hX)
  have HZ := Lib.hid hZ
  have HB := Lib.hid hb
  have f10 := B1.out.cell 0
  have f11 := B1.out.cell 1
  clear h0 h1 h2 h3 hb b0 b2 c0 hL hZ
  unfold GivesFn fnV at HFO
  rw [show sfE1.length = 5 from rfl] at HFO R2
  go_enter Tryd.func15, Tryd.ntmps15
  go_upto_region 3 with fail
  rw [HZ.out]
  go_wp2_with fail
  refine HFO.out.mono ?_
  rintro e w1 ⟨A1, c1, rfl, r1, b1⟩
  obtain ⟨w2, hw2⟩ : ∃ w2, w1.alloc (.cells #[.string ⟨#[]⟩, .slice A1 5 c1] 42) = w2 := ⟨_, rfl⟩
  have b2 : Below w1.heap.size w1 w2 := by rw [← hw2]; exact belowAlloc _ _
  have hBa : Blk w2 w1.heap.size 42 #[.string ⟨#[]⟩, .slice A1 5 c1] := by rw [← hw2]; exact Blk.new _ _ _
  have cd2 : CdW w2 A1 c1 sfE1 := ⟨r1.below stabI b2, sfWf1, HLD.out w2 (belowThen b1 b2)⟩
  have HPR := Lib.hid (iPruneF ⟨#[]⟩ sfE1 5 rfl A1 c1 w2 cd2)
  rw [nmR0 sfC1, cdR0 sfC1, sfC1, sfPr] at HPR
  unfold GivesFn fnV at HPR
  rw [show sfE2.length = 4 from rfl] at HPR
  have HBA := Lib.hid hBa
  have HR1 := Lib.hid cd2.rd
  have HB2 := Lib.hid (belowThen b1 b2)
  have HW2 := Lib.hid hw2
  have p0 := hBa.cell 0
  have p1 := hBa.cell 1
  clear r1 b1 b2 hBa cd2 hw2 f10 f11
  go_upto_region 4 with fail
  rw [HW2.out]
  go_wp2_with fail
  refine HPR.out.mono ?_
  rintro e w3 ⟨A3, c3, rfl, r3, b3⟩
  obtain ⟨w4, hw4⟩ : ∃ w4, w3.alloc (.cells #[.string ⟨#[]⟩, .slice A3 4 c3] 42) = w4 := ⟨_, rfl⟩
  have b4 : Below w3.heap.size w3 w4 := by rw [← hw4]; exact belowAlloc _ _
  have hBb : Blk w4 w3.heap.size 42 #[.string ⟨#[]⟩, .slice A3 4 c3] := by rw [← hw4]; exact Blk.new _ _ _
  obtain ⟨w5, hw5⟩ : ∃ w5, w4.alloc (.cells #[.string ⟨#[]⟩, .slice (some ⟨w.heap.size + 1 + 1, 0, none⟩) 4 5] 42) = w5 := ⟨_, rfl⟩
  have b5 : Below w4.heap.size w4 w5 := by rw [← hw5]; exact belowAlloc _ _
  have hBc : Blk w5 w4.heap.size 42 #[.string ⟨#[]⟩, .slice (some ⟨w.heap.size + 1 + 1, 0, none⟩) 4 5] := by rw [← hw5]; exact Blk.new _ _ _
  have bZ4 := belowThen (belowThen HB2.out b3) b4
  have bZ5 := belowThen bZ4 b5
  have HBZ5 := Lib.hid bZ5
  have b25 := belowThen (belowThen b3 b4) b5
  have HS1 := Lib.hid (rSameC ⟨#[]⟩ sfE1 sfE1 5 5 rfl rfl A1 (some ⟨w.heap.size + 1 + 1, 0, none⟩) c1 5 w5 (HR1.out.below stabI b25) (R2.out.below stabI bZ5))
  rw [show decide (sfE1 = sfE1) = true from decide_eq_true rfl] at HS1
  have HS2 := Lib.hid (fun X (hX : Below w5.heap.size w5 X) => rSameC ⟨#[]⟩ sfE2 sfE2 4 4 rfl rfl A3 (some ⟨w.heap.size + 1 + 1, 0, none⟩) c3 5 X ((r3.below stabI (belowThen b4 b5)).below stabI hX) (rdTake9 ((R2.out.below stabI bZ5).below stabI hX) 4))
  rw [show decide (sfE2 = sfE2) = true from decide_eq_true rfl] at HS2
  unfold fnV at HS1 HS2
  have HK := Lib.hid (fun X (hX : Below w5.heap.size w5 X) => (⟨((hBb.below' b5).below' hX).cell 0, ((hBb.below' b5).below' hX).cell 1, (hBc.below' hX).cell 0, (hBc.below' hX).cell 1⟩ :
    X.cell? ⟨w3.heap.size, 0, none⟩ = some (.string ⟨#[]⟩) ∧ X.cell? ⟨w3.heap.size, 1, none⟩ = some (.slice A3 4 c3) ∧ X.cell? ⟨w4.heap.size, 0, none⟩ = some (.string ⟨#[]⟩) ∧ X.cell? ⟨w4.heap.size, 1, none⟩ = some (.slice (some ⟨w.heap.size + 1 + 1, 0, none⟩) 4 5)))
  have q0 := (HBA.out.below' b25).cell 0
  have q1 := (HBA.out.below' b25).cell 1
  have q2 := (B3.out.below' bZ5).cell 0
  have q3 := (B3.out.below' bZ5).cell 1
  have q4 := (B3.out.below' bZ4).cell 1
  have HW4 := Lib.hid hw4
  have HW5 := Lib.hid hw5
  clear r3 b3 b4 b5 hBb hBc hw4 hw5 bZ4 bZ5 b25 p0 p1
  go_upto_region 5 with fail
  rw [HW4.out]
  go_upto_region 6 with fail
  rw [HW5.out]
  go_wp2_with fail
  refine HS1.out.mono ?_
  rintro e w6 ⟨rfl, b6⟩
  obtain ⟨p0, p1, p2, p3⟩ := HK.out w6 b6
  have HS3 := Lib.hid (HS2.out w6 b6)
  have HB6 := Lib.hid b6
  clear b6 q0 q1 q2 q3 q4
  go_wp2_with fail
  refine HS3.out.mono ?_
  rintro e w7 ⟨rfl, b7⟩
  go_wp2
  go_ret
  exact ⟨rfl, belowThen HB.out (belowThen HBZ5.out (belowThen HB6.out b7))⟩
end Go.Proofs.YtnnpkbonbemeaaaDoor

namespace Go.Proofs.YtnnpkbonbemeaaaDoor
open Go Go.RowKit

theorem setNfWf {i : I8} (h : i.Wf) {m : Nat} (hm : m ≤ 1000) : (setNf i (m : Int)).Wf := ⟨h.op, h.a, h.b, h.c, h.obj, ⟨by show (-9223372036854775808 : Int) ≤ (m : Int); omega, by show (m : Int) ≤ 9223372036854775807; omega⟩, h.fn, h.ord⟩
theorem thWf {C : List I8} (hok : CfOk C) (h : ∀ i ∈ C, i.Wf) : ∀ i ∈ thL C, i.Wf := fun i hi => by
  obtain ⟨j, hj, rfl⟩ := List.mem_map.1 hi
  unfold thI
  split
  · rename_i hjm
    have h1 := hok.tgt j hj hjm
    have h2 := finLe hok (t := j.n.toNat) (by omega)
    have h3 := hok.len
    exact setNfWf (h j hj) (by omega)
  · exact h j hj
theorem prWf {C : List I8} (hok : CfOk C) (h : ∀ i ∈ C, i.Wf) : ∀ i ∈ prL C, i.Wf := fun i hi => by
  obtain ⟨j, hj, rfl⟩ := List.mem_iff_getElem.1 hi
  obtain ⟨x, hx, _, _, e⟩ := prAt hj
  rw [e]
  unfold prI
  split
  · rename_i hjm
    have h1 := hok.tgt _ (List.getElem_mem hx) hjm
    have h2 := rmNLe (C := C) (k := C[x].n.toNat)
    have h3 := hok.len
    exact setNfWf (h _ (List.getElem_mem hx)) (by omega)
  · exact h _ (List.getElem_mem hx)
theorem fdWfL {C : List I8} (hok : CfOk C) (h : ∀ i ∈ C, i.Wf) : ∀ i ∈ fdL C, i.Wf := fun i hi => by
  obtain ⟨k, hk, rfl⟩ := List.mem_iff_getElem.1 hi
  rw [fdLAt]
  rw [fdLLen] at hk
  exact fdWf hok hk (h _ (List.getElem_mem hk)) hok.len
end Go.Proofs.YtnnpkbonbemeaaaDoor
