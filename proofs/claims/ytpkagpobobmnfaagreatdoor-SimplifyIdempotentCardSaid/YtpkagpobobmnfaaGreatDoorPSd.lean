/-
  Two functions compared; a code that lies written out in a block.
-/
import Derived.Test.YtpkagpobobmnfaaGreatDoorPSb
import Derived.Test.YtpkagpobobmnfaaGreatDoorPX5
import Derived.Deep.QuietTactic
import Derived.BigQuiet
import Derived.Laws.StructEq
import Derived.KernelRfl
namespace Go.Proofs.YtpkagpobobmnfaaGreatDoor
open Go Go.RowKit

/-- A code written out. -/
theorem rdLit8 {Z : World} {b : Nat} {L : List I8} (h : Blk Z b 55 (icCs L).toArray) (hm : L.length ≤ 1000) : RdE 8 EI Z (some ⟨b, 0, none⟩) L.length L := by
  refine ⟨Nat.le_refl _, by unfold maxLen; omega, fun _ => ⟨b, 0, rfl, h.lt, fun j hj => ?_⟩⟩
  have hcell : ∀ i, i < 8 → Z.cell? ⟨b, 0 + j * 8 + i, none⟩ = (icC L[j])[i]? := fun i hi => by
    rw [h.cell, List.getElem?_toArray, show 0 + j * 8 + i = j * 8 + i by omega]
    exact icCsAt L j hj i hi
  exact ⟨hcell 0 (by omega), hcell 1 (by omega), hcell 2 (by omega), hcell 3 (by omega), hcell 4 (by omega), hcell 5 (by omega), hcell 6 (by omega), hcell 7 (by omega)⟩
def UpI (l m : List I8) (k : Nat) : Prop := ∀ j (h1 : j < l.length) (h2 : j < m.length), j < k → l[j] = m[j]
theorem UpI.next {l m : List I8} {k : Nat} (h : UpI l m k) (h1 : k < l.length) (h2 : k < m.length) (e : l[k] = m[k]) : UpI l m (k + 1) := fun j j1 j2 hj => by
  rcases (by omega : j < k ∨ j = k) with g | g
  · exact h j j1 j2 g
  · subst g; exact e
theorem UpI.eq {l m : List I8} {k : Nat} (h : UpI l m k) (hl : l.length = m.length) (hk : l.length ≤ k) : l = m := List.ext_getElem hl fun j h1 h2 => h j h1 h2 (by omega)
set_option maxRecDepth 100000 in
set_option maxHeartbeats 4000000 in
/-- Functions of the same name. -/
theorem rSameC (nm : ByteArray) (l m : List I8) (n k : Nat) (hn : l.length = n) (hm : m.length = k) (A B : Option Addr) (c d : Nat) (w : World) (ha : RdE 8 EI w A c l) (hb : RdE 8 EI w B d m) :
    Calls Tryz.prog 22 #[fnV nm A n c, fnV nm B k d] w fun e w' => e = .returned (.bool (decide (l = m))) ∧ Below w.heap.size w w' := by
  obtain ⟨W, hW⟩ : ∃ W, (w.alloc (.cells #[.string nm, .slice A n c] 24)).alloc (.cells #[.string nm, .slice B k d] 24) = W := ⟨_, rfl⟩
  obtain ⟨h1, h2, hbW, hsz⟩ := two8 w _ _ hW
  have hB1 : Blk W w.heap.size 24 #[.string nm, .slice A n c] := h1
  have hB2 : Blk W (w.heap.size + 1) 24 #[.string nm, .slice B k d] := h2
  have HK := Lib.hid (fun X (hX : Below W.heap.size W X) => (⟨(hB1.below' hX).cell 0, (hB1.below' hX).cell 1, (hB2.below' hX).cell 0, (hB2.below' hX).cell 1⟩ : X.cell? ⟨w.heap.size, 0, none⟩ = some (.string nm) ∧ X.cell? ⟨w.heap.size, 1, none⟩ = some (.slice A n c) ∧ X.cell? ⟨w.heap.size + 1, 0, none⟩ = some (.string nm) ∧ X.cell? ⟨w.heap.size + 1, 1, none⟩ = some (.slice B k d)))
  have hla := ha.le
  have hlb := hb.le
  have hca := ha.max
  have hcb := hb.max
  rw [hn] at hla
  rw [hm] at hlb
  unfold maxLen at hca hcb
  obtain ⟨r, hr⟩ : ∃ r, decide (l = m) = r := ⟨_, rfl⟩
  rw [hr]
  have HR := Lib.hid hr
  have HA := Lib.hid (ha.below stabI hbW)
  have HB := Lib.hid (hb.below stabI hbW)
  have HN := Lib.hid hn
  have HM := Lib.hid hm
  have HW := Lib.hid hW
  have HBW := Lib.hid hbW
  have HBD := Lib.hid (fun X nq (hX : Below W.heap.size W X) => belowDrewN hX nq)
  obtain ⟨a0, a1, b0, b1⟩ := HK.out W (Below.refl _ _)
  have hnn : (nm.toList == nm.toList) = true := by simp
  clear ha hb hr h1 h2 hB1 hB2 hW hbW hsz
  unfold fnV
  by_cases hnk : n = k
  rotate_left
  · have hx : ((n : Int) != (k : Int)) = true := by simp; omega
    have HF := Lib.hid (show false = r by rw [← HR.out]; exact (decide_eq_false fun e => hnk (by rw [← hn, ← hm, e])).symm)
    clear hn hm hnk
    go_enter Tryz.func22, Tryz.ntmps22
    go_wp2_with fail
    rw [HW.out]
    go_wp2
    go_ret
    exact ⟨retB HF.out, HBW.out⟩
  · subst hnk
    clear hn hm
    go_enter Tryz.func22, Tryz.ntmps22
    go_wp2_with fail
    rw [HW.out]
    go_wp2
    go_loopg [5] n (fun g i wr => ∃ j : Nat, j + g = n ∧ i = .int .i64 j ∧ Below W.heap.size W wr ∧ Hid (UpI l m j))
    case atStart => exact ⟨0, by omega, rfl, Below.refl _ _, Lib.hid fun _ _ _ h => by omega⟩
    case round =>
      obtain ⟨j, hj, rfl, hb, HU⟩ := hrel
      clear a0 a1 b0 b1
      obtain ⟨a0, a1, b0, b1⟩ := HK.out wr hb
      cases gk with
      | zero =>
        have hjn : j = n := by omega
        subst hjn
        have hjz : ¬ ((j : Int) < j) := by omega
        have HT := Lib.hid (show true = r by rw [← HR.out]; exact (decide_eq_true (HU.out.eq (HN.out.trans HM.out.symm) (by rw [HN.out]; exact Nat.le_refl _))).symm)
        go_wp2
        go_ret
        exact ⟨retB HT.out, belowThen HBW.out hb⟩
      | succ g2 =>
        have hj0 : (0 : Int) ≤ j := by omega
        have hj1 : (j : Int) < n := by omega
        have jl : j < l.length := by rw [HN.out]; omega
        have jm : j < m.length := by rw [HM.out]; omega
        obtain ⟨q1, o1, eA, _, i0, i1, i2, i3, i4, i5, i6, i7⟩ := (HA.out.below stabI hb).one jl
        obtain ⟨q2, o2, eB, _, y0, y1, y2, y3, y4, y5, y6, y7⟩ := (HB.out.below stabI hb).one jm
        have HNX := Lib.hid (fun e => HU.out.next jl jm e)
        have HNE := Lib.hid (fun (h : l[j] ≠ m[j]) => (show false = r by rw [← HR.out]; exact (decide_eq_false fun e => h (by subst e; rfl)).symm))
        obtain ⟨u, hu⟩ : ∃ u, l[j] = u := ⟨_, rfl⟩
        obtain ⟨u2, hv⟩ : ∃ u, m[j] = u := ⟨_, rfl⟩
        rw [hu] at i0 i1 i2 i3 i4 i5 i6 i7 HNX HNE
        rw [hv] at y0 y1 y2 y3 y4 y5 y6 y7 HNX HNE
        subst eA eB
        obtain ⟨x0, x1, x2, x3, x4, x5, x6, x7⟩ := u
        obtain ⟨z0, z1, z2, z3, z4, z5, z6, z7⟩ := u2
        simp only at i0 i1 i2 i3 i4 i5 i6 i7 y0 y1 y2 y3 y4 y5 y6 y7
        clear hu hv jl jm
        cases he : i8Eq ⟨x0, x1, x2, x3, x4, x5, x6, x7⟩ ⟨z0, z1, z2, z3, z4, z5, z6, z7⟩
        · have HX := Lib.hid (HNE.out (fun e => by rw [i8EqIff, decide_eq_true e] at he; cases he))
          have HQ := fun X => eqInstIs x0 x1 x2 x3 x4 x5 x6 x7 z0 z1 z2 z3 z4 z5 z6 z7 X
          unfold i8Eq at he
          simp only at he
          rw [he] at HQ
          clear he HNX HNE
          go_wp2_with fail
          go_quiet (fail)
          go_wp2
          go_ret
          exact ⟨retB HX.out, belowThen HBW.out (HBD.out _ _ hb)⟩
        · have HX := Lib.hid (HNX.out (by rw [i8EqIff] at he; exact of_decide_eq_true he))
          have HQ := fun X => eqInstIs x0 x1 x2 x3 x4 x5 x6 x7 z0 z1 z2 z3 z4 z5 z6 z7 X
          unfold i8Eq at he
          simp only at he
          rw [he] at HQ
          clear he HNX HNE
          go_wp2_with fail
          go_quiet (fail)
          go_wp2
          go_roundg g2
          case measure => omega
          case rel => exact ⟨j + 1, by omega, by go_num, HBD.out _ _ hb, HX⟩
end Go.Proofs.YtpkagpobobmnfaaGreatDoor

namespace Go.Proofs.YtpkagpobobmnfaaGreatDoor
open Go Go.RowKit

set_option maxRecDepth 100000 in
set_option maxHeartbeats 4000000 in
theorem iEqI (l m : List I8) (n k : Nat) (hn : l.length = n) (hm : m.length = k) (A B : Option Addr) (c d : Nat) (w : World) (ha : RdE 8 EI w A c l) (hb : RdE 8 EI w B d m) :
    Calls Tryz.prog 82 #[.slice A n c, .slice B k d] w fun e w' => e = .returned (.bool (decide (l = m))) ∧ Below w.heap.size w w' := by
  have hla := ha.le
  have hlb := hb.le
  have hca := ha.max
  have hcb := hb.max
  rw [hn] at hla
  rw [hm] at hlb
  unfold maxLen at hca hcb
  obtain ⟨r, hr⟩ : ∃ r, decide (l = m) = r := ⟨_, rfl⟩
  rw [hr]
  have HR := Lib.hid hr
  have HA := Lib.hid ha
  have HB := Lib.hid hb
  have HN := Lib.hid hn
  have HM := Lib.hid hm
  have HBD := Lib.hid (fun X nq (hX : Below w.heap.size w X) => belowDrewN hX nq)
  clear ha hb hr
  by_cases hnk : n = k
  rotate_left
  · have hx : ((n : Int) != (k : Int)) = true := by simp; omega
    have HF := Lib.hid (show false = r by rw [← HR.out]; exact (decide_eq_false fun e => hnk (by rw [← hn, ← hm, e])).symm)
    clear hn hm hnk
    go_enter Tryz.func82, Tryz.ntmps82
    go_wp2
    go_ret
    exact ⟨retB HF.out, Below.refl _ _⟩
  · subst hnk
    clear hn hm
    go_enter Tryz.func82, Tryz.ntmps82
    go_wp2
    go_loopg [13] n (fun g i wr => ∃ j : Nat, j + g = n ∧ i = .int .i64 j ∧ Below w.heap.size w wr ∧ Hid (UpI l m j))
    case atStart => exact ⟨0, by omega, rfl, Below.refl _ _, Lib.hid fun _ _ _ h => by omega⟩
    case round =>
      obtain ⟨j, hj, rfl, hb, HU⟩ := hrel
      cases gk with
      | zero =>
        have hjn : j = n := by omega
        subst hjn
        have hjz : ¬ ((j : Int) < j) := by omega
        have HT := Lib.hid (show true = r by rw [← HR.out]; exact (decide_eq_true (HU.out.eq (HN.out.trans HM.out.symm) (by rw [HN.out]; exact Nat.le_refl _))).symm)
        go_wp2
        go_ret
        exact ⟨retB HT.out, hb⟩
      | succ g2 =>
        have hj0 : (0 : Int) ≤ j := by omega
        have hj1 : (j : Int) < n := by omega
        have jl : j < l.length := by rw [HN.out]; omega
        have jm : j < m.length := by rw [HM.out]; omega
        obtain ⟨q1, o1, eA, _, i0, i1, i2, i3, i4, i5, i6, i7⟩ := (HA.out.below stabI hb).one jl
        obtain ⟨q2, o2, eB, _, y0, y1, y2, y3, y4, y5, y6, y7⟩ := (HB.out.below stabI hb).one jm
        have HNX := Lib.hid (fun e => HU.out.next jl jm e)
        have HNE := Lib.hid (fun (h : l[j] ≠ m[j]) => (show false = r by rw [← HR.out]; exact (decide_eq_false fun e => h (by subst e; rfl)).symm))
        obtain ⟨u, hu⟩ : ∃ u, l[j] = u := ⟨_, rfl⟩
        obtain ⟨u2, hv⟩ : ∃ u, m[j] = u := ⟨_, rfl⟩
        rw [hu] at i0 i1 i2 i3 i4 i5 i6 i7 HNX HNE
        rw [hv] at y0 y1 y2 y3 y4 y5 y6 y7 HNX HNE
        subst eA eB
        obtain ⟨x0, x1, x2, x3, x4, x5, x6, x7⟩ := u
        obtain ⟨z0, z1, z2, z3, z4, z5, z6, z7⟩ := u2
        simp only at i0 i1 i2 i3 i4 i5 i6 i7 y0 y1 y2 y3 y4 y5 y6 y7
        clear hu hv jl jm
        cases he : i8Eq ⟨x0, x1, x2, x3, x4, x5, x6, x7⟩ ⟨z0, z1, z2, z3, z4, z5, z6, z7⟩
        · have HX := Lib.hid (HNE.out (fun e => by rw [i8EqIff, decide_eq_true e] at he; cases he))
          have HQ := fun X => eqInstIs x0 x1 x2 x3 x4 x5 x6 x7 z0 z1 z2 z3 z4 z5 z6 z7 X
          unfold i8Eq at he
          simp only at he
          rw [he] at HQ
          clear he HNX HNE
          go_wp2_with fail
          go_quiet (fail)
          go_wp2
          go_ret
          exact ⟨retB HX.out, HBD.out _ _ hb⟩
        · have HX := Lib.hid (HNX.out (by rw [i8EqIff] at he; exact of_decide_eq_true he))
          have HQ := fun X => eqInstIs x0 x1 x2 x3 x4 x5 x6 x7 z0 z1 z2 z3 z4 z5 z6 z7 X
          unfold i8Eq at he
          simp only at he
          rw [he] at HQ
          clear he HNX HNE
          go_wp2_with fail
          go_quiet (fail)
          go_wp2
          go_roundg g2
          case measure => omega
          case rel => exact ⟨j + 1, by omega, by go_num, HBD.out _ _ hb, HX⟩
end Go.Proofs.YtpkagpobobmnfaaGreatDoor
