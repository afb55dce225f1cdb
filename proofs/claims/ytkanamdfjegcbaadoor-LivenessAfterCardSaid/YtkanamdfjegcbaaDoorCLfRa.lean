/-
  The specification's after: the union of the successors' rows.
-/
import Derived.Test.YtkanamdfjegcbaaDoorCLfRl
namespace Go.Proofs.YtkanamdfjegcbaaDoor
open Go Go.RowKit Go.Shelf

set_option maxRecDepth 100000 in
set_option maxHeartbeats 8000000 in
theorem rAfterS (nm : ByteArray) (C : List I8) (hc : cfE C = 0) (n : Nat) (hn : C.length = n) (A : Option Addr) (c : Nat) (w : World) (h : CdW w A c C) (T : Nat → Int → Bool) (hT : ∀ y, y ≤ n → Regs (T y)) (Ag : Option Addr) (n1 cg : Nat) (hn1 : n + 1 = n1) (hg : RdL w Ag cg ((List.range n1).map fun j => rgL (T j))) (k : Nat) (hk : k < n) :
    Calls Tryd.prog 44 #[fnV nm A n c, .slice Ag n1 cg, .int .i64 k] w (GivesL (nowL T (scV C k)) w) := by
  obtain ⟨W, hW⟩ : ∃ W, w.alloc (.cells #[.string nm, .slice A n c] 24) = W := ⟨_, rfl⟩
  have hbW : Below w.heap.size w W := by rw [← hW]; exact belowAlloc w _
  have hB : Blk W w.heap.size 24 #[.string nm, .slice A n c] := by rw [← hW]; exact Blk.new w _ _
  obtain ⟨k0, k1⟩ : W.cell? ⟨w.heap.size, 0, none⟩ = some (.string nm) ∧ W.cell? ⟨w.heap.size, 1, none⟩ = some (.slice A n c) := ⟨hB.cell 0, hB.cell 1⟩
  have hok := cfOk hc
  have h64 := hok.len
  rw [hn] at h64
  have HX : Hid (Calls Tryd.prog 72 #[fnV nm A n c, .int .i64 k] W (GivesE9 (scS C k) 0 W)) := Lib.hid (by
    have e := nxAtL hc hn hk
    have := rNx12 nm C n hn (k : Int) A c W (h.below hbW)
    rw [e.1, e.2] at this
    exact this)
  obtain ⟨S, hS⟩ : ∃ S, scV C k = S := ⟨_, rfl⟩
  have HSN : Hid (∀ y ∈ S, y ≤ n) := Lib.hid fun y hy => by rw [← hn]; exact (scLe hok (scVMem.1 (hS ▸ hy))).2
  have HSR : Hid (∀ y ∈ S, Regs (T y)) := Lib.hid fun y hy => hT y (HSN.out y hy)
  rw [← scVMap, hS] at HX
  rw [hS]
  unfold GivesE9 fnV at HX
  unfold fnV
  obtain ⟨mS, hmS⟩ : ∃ mS, S.length = mS := ⟨_, rfl⟩
  rw [List.length_map, hmS] at HX
  have HMS := Lib.hid hmS
  have hgl := hg.le
  have hgm := hg.max
  rw [List.length_map, List.length_range] at hgl
  unfold maxLen at hgm
  have HG := Lib.hid (hg.below hbW)
  have hle := h.rd.le
  have hmx := h.rd.max
  rw [hn] at hle
  unfold maxLen at hmx
  have HBW := Lib.hid hbW
  have HWE := Lib.hid hW
  have hnn : n < n1 := by omega
  have hnl : n1 ≤ 100 := by omega
  clear hB hW h hok hn hbW hc hg hT hS hmS hn1
  go_enter Tryd.func44, Tryd.ntmps44
  go_wp2_with fail
  rw [HWE.out]
  refine HX.out.mono ?_
  rintro e w2 ⟨As, cs, rfl, rs, b2⟩
  have hcs := rs.le
  have hcsm := rs.max
  rw [List.length_map, HMS.out] at hcs
  unfold maxLen at hcsm
  obtain ⟨w3, hw3⟩ : ∃ w3, w2.alloc (.cells #[] 3) = w3 := ⟨_, rfl⟩
  have b3 := belowThen b2 (show Below w2.heap.size w2 w3 by rw [← hw3]; exact belowAlloc _ _)
  have HB3 := Lib.hid b3
  have HG3 := Lib.hid (HG.out.below b3)
  have HRS3 : Hid (Rd w3 As cs (S.map Int.ofNat)) := Lib.hid (by rw [← hw3]; exact Rd.alloc rs _)
  have HW3 := Lib.hid hw3
  clear k0 k1 rs b2 b3 hw3 HX HG
  go_wp2_with fail
  rw [HW3.out]
  go_loopg [9, 10] mS (fun g v i X => ∃ (j : Nat) (A : Option Addr) (c q : Nat), j + g = mS ∧ i = .int .i64 j ∧ v = .slice A q c ∧ Hid ((nowL T (S.take j)).length = q) ∧ Hid (Rd X A c (nowL T (S.take j))) ∧ Hid (Below w3.heap.size w3 X))
  case atStart => exact ⟨0, _, 0, 0, by omega, rfl, rfl, Lib.hid rfl, Lib.hid (by rw [List.take_zero, nowNil]; exact rdEmp _ _), Lib.hid (Below.refl _ _)⟩
  case round =>
    obtain ⟨j, A4, c4, q, hj, rfl, rfl, HQ, HNW, HB⟩ := hrel
    have hq8 : q ≤ 8 := by rw [← HQ.out]; exact nowLLen
    cases gk with
    | succ g4 =>
      have hjS : j < S.length := by rw [HMS.out]; omega
      have hj0 : (0 : Int) ≤ j := by omega
      have hj1 : (j : Int) < mS := by omega
      obtain ⟨y, hy⟩ : ∃ y, S[j] = y := ⟨_, rfl⟩
      have hyn := HSN.out y (hy ▸ List.getElem_mem hjS)
      obtain ⟨ad, eA, _, hcl⟩ := (Rd.below HRS3.out HB.out).one (k := j) (by rw [List.length_map]; exact hjS)
      rw [List.getElem_map, hy] at hcl
      have hcl : wr.cell? (ad.add j) = some (.int .i64 (y : Int)) := hcl
      have hy0 : (0 : Int) ≤ y := by omega
      have hy1 : (y : Int) < n1 := by omega
      obtain ⟨ag, At, ct, eG, t0, t2⟩ := (HG3.out.below HB.out).one (k := y) (by rw [List.length_map, List.length_range]; omega)
      simp only [List.getElem_map, List.getElem_range] at t0 t2
      obtain ⟨lt, hlt⟩ : ∃ lt, (rgL (T y)).length = lt := ⟨_, rfl⟩
      have hlt8 : lt ≤ 8 := by rw [← hlt]; exact rgLLen
      have hst := nowStep hjS HSR.out
      rw [hy] at hst
      have HUN := rUnion _ _ _ hst (by rw [HQ.out]; omega) (by rw [hlt]; omega) A4 At c4 ct wr HNW.out t2
      unfold GivesL at HUN
      rw [HQ.out, hlt] at HUN
      have HUN := Lib.hid HUN
      rw [hlt] at t0
      subst eA
      subst eG
      clear hst hlt t2 hy hjS hyn HQ HNW
      go_wp2_with fail
      refine HUN.out.mono ?_
      rintro e w5 ⟨A5, c5, rfl, r5, b5⟩
      have HR5 := Lib.hid r5
      have HB5 := Lib.hid (belowThen HB.out b5)
      clear r5 b5 t0 hcl
      go_wp2
      go_roundg g4
      case measure => omega
      case rel => exact ⟨j + 1, A5, c5, _, by omega, by go_num, rfl, Lib.hid rfl, HR5, HB5⟩
    | zero =>
      have hjm : j = mS := by omega
      subst hjm
      have hjj : ¬ ((j : Int) < (j : Int)) := by omega
      have hta : S.take j = S := by rw [← HMS.out]; exact List.take_length
      rw [hta] at HQ HNW
      clear hta
      go_wp2
      go_ret
      exact ⟨A4, c4, by rw [HQ.out]; rfl, HNW.out, belowThen HBW.out (belowThen HB3.out HB.out)⟩
end Go.Proofs.YtkanamdfjegcbaaDoor
