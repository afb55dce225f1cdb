/-
  The specification's error, Before and Pressure.
-/
import Derived.Test.YtkanamdfjegcbaaDoorBLfRl
import Derived.Test.YtkanamdfjegcbaaDoorBLf4
import Derived.Deep.RegionHeld3
namespace Go.Proofs.YtkanamdfjegcbaaDoor
open Go Go.RowKit Go.Shelf

theorem rdLTake {w : World} {A : Option Addr} {c : Nat} {ls : List (List Int)} (h : RdL w A c ls) (n : Nat) : RdL w A c (ls.take n) := by
  obtain ⟨vs, h1, h2, h3⟩ := h
  refine ⟨vs.take n, ⟨by have := h1.le; rw [List.length_take]; omega, h1.max, fun h0 => ?_⟩, by rw [List.length_take, List.length_take, h2], fun i hi => ?_⟩
  · rw [List.length_take] at h0
    obtain ⟨ad, e, hb, hx⟩ := h1.at_ (by omega)
    refine ⟨ad, e, hb, fun j u hj => ?_⟩
    rw [List.getElem?_take] at hj
    split at hj
    · exact hx j u hj
    · cases hj
  · rw [List.length_take] at hi
    obtain ⟨A', c', e, hr⟩ := h3 i (by omega)
    rw [List.getElem_take]
    exact ⟨A', c', by rw [List.getElem?_take, if_pos (by omega)]; exact e, hr⟩
theorem lvTake {C : List I8} {n : Nat} (hn : C.length = n) : (lvLs C false).take n = beL C := by
  unfold lvLs beL
  rw [← List.map_take, hn, List.take_range]
  congr 2
  omega
set_option maxRecDepth 100000 in
set_option maxHeartbeats 4000000 in
theorem rWrong (nm : ByteArray) (C : List I8) (n : Nat) (hn : C.length = n) (A : Option Addr) (c : Nat) (w : World) (h : CdW w A c C) :
    Calls Tryd.prog 41 #[fnV nm A n c] w fun e w' => e = .returned (.int .i64 (cfE C)) ∧ Below w.heap.size w w' := by
  obtain ⟨W, hWE⟩ : ∃ W, w.alloc (.cells #[.string nm, .slice A n c] 24) = W := ⟨_, rfl⟩
  have hbW : Below w.heap.size w W := by rw [← hWE]; exact belowAlloc w _
  have hBF : Blk W w.heap.size 24 #[.string nm, .slice A n c] := by rw [← hWE]; exact Blk.new w _ _
  have k0 : W.cell? ⟨w.heap.size, 0, none⟩ = some (.string nm) := hBF.cell 0
  have k1 : W.cell? ⟨w.heap.size, 1, none⟩ = some (.slice A n c) := hBF.cell 1
  have HR := Lib.hid (rReach nm C n hn A c W (h.below hbW))
  have HW := Lib.hid hWE
  have HBW := Lib.hid hbW
  generalize cfE C = E at HR ⊢
  unfold GivesE9 at HR
  obtain ⟨q, hq⟩ : ∃ q, (rhR C).length = q := ⟨_, rfl⟩
  rw [hq] at HR
  clear hbW hBF hWE h hn hq
  unfold fnV at HR ⊢
  go_enter Tryd.func41, Tryd.ntmps41
  go_wp2_with fail
  rw [HW.out]
  refine HR.out.mono ?_
  rintro e w1 ⟨A1, c1, rfl, _, b1⟩
  go_wp2
  go_ret
  exact ⟨rfl, belowThen HBW.out b1⟩
set_option maxRecDepth 100000 in
set_option maxHeartbeats 4000000 in
theorem rBefore13 (nm : ByteArray) (C : List I8) (n : Nat) (hn : C.length = n) (A : Option Addr) (c : Nat) (w : World) (h : CdW w A c C) :
    Calls Tryd.prog 13 #[fnV nm A n c] w (GivesQL (beR C) (cfE C) w) := by
  obtain ⟨W, hWE⟩ : ∃ W, w.alloc (.cells #[.string nm, .slice A n c] 24) = W := ⟨_, rfl⟩
  have hbW : Below w.heap.size w W := by rw [← hWE]; exact belowAlloc w _
  have hBF : Blk W w.heap.size 24 #[.string nm, .slice A n c] := by rw [← hWE]; exact Blk.new w _ _
  have HK := Lib.hid (fun X (hX : Below W.heap.size W X) => (⟨hX, (hBF.below' hX).cell 0, (hBF.below' hX).cell 1⟩ : Below W.heap.size W X ∧ X.cell? ⟨w.heap.size, 0, none⟩ = some (.string nm) ∧ X.cell? ⟨w.heap.size, 1, none⟩ = some (.slice A n c)))
  have HWR := Lib.hid (rWrong nm C n hn A c W (h.below hbW))
  have HCD := Lib.hid (h.below hbW)
  have hle := h.rd.le
  have hmx := h.rd.max
  rw [hn] at hle
  unfold maxLen at hmx
  have HW := Lib.hid hWE
  have HBW := Lib.hid hbW
  obtain ⟨-, k0, k1⟩ := HK.out W (Below.refl _ _)
  by_cases hc : cfE C = 0
  rotate_left
  · have e1 : beR C = [] := by unfold beR; rw [if_neg hc]
    have hne : (cfE C != 0) = true := by simpa using hc
    rw [e1]
    clear hc e1 hbW hBF hWE h hn
    unfold fnV at HWR ⊢
    go_enter Tryd.func13, Tryd.ntmps13
    go_wp2_with fail
    rw [HW.out]
    refine HWR.out.mono ?_
    rintro e w1 ⟨rfl, b1⟩
    go_wp2
    go_ret2
    exact ⟨none, 0, rfl, rdLNil _, belowThen HBW.out b1⟩
  have e1 : beR C = beL C := by unfold beR; rw [if_pos hc]
  have HBL := Lib.hid (show (beL C).length = n by unfold beL; rw [List.length_map, List.length_range]; exact hn)
  have HLV := Lib.hid (fun X (hX : Below W.heap.size W X) => rLive0 nm C hc n hn A c X (HCD.out.below hX))
  have HTK := Lib.hid (lvTake hn)
  rw [e1, hc]
  rw [hc] at HWR
  obtain ⟨n1, hn1⟩ : ∃ n1, n + 1 = n1 := ⟨_, rfl⟩
  rw [hn1] at HLV
  have hn2 : n ≤ n1 := by omega
  clear hc e1 hbW hBF hWE h hn hn1
  unfold fnV at HWR HLV ⊢
  go_enter Tryd.func13, Tryd.ntmps13
  go_wp2_with fail
  rw [HW.out]
  refine HWR.out.mono ?_
  rintro e w1 ⟨rfl, b1⟩
  have HB1 := Lib.hid b1
  have HS := Lib.hid (fun X (hX : Below w1.heap.size w1 X) => (let z := HK.out X (belowThen HB1.out hX); ⟨hX, z.2.1, z.2.2⟩ : Below w1.heap.size w1 X ∧ X.cell? ⟨w.heap.size, 0, none⟩ = some (.string nm) ∧ X.cell? ⟨w.heap.size, 1, none⟩ = some (.slice A n c)))
  have S0 := HS.out w1.drew ((Below.refl _ w1).drew)
  obtain ⟨-, f0, f1⟩ := HS.out w1 (Below.refl _ _)
  clear b1 k0 k1
  go_wp2_with fail
  go_region_held3 (fun X => Below w1.heap.size w1 X ∧ X.cell? ⟨w.heap.size, 0, none⟩ = some (.string nm) ∧ X.cell? ⟨w.heap.size, 1, none⟩ = some (.slice A n c)) (first | with_reducible assumption | exact HS.out _ (by with_reducible assumption)) (first
    | (go_at_call 42; refine (HLV.out _ (belowThen HB1.out (‹Below w1.heap.size w1 _ ∧ _›).1)).mono ?_; rintro e t1 ⟨rfl, rl, y1⟩; have q1 := belowThen (‹Below w1.heap.size w1 _ ∧ _›).1 y1)
    | fail)
  go_wp2
  go_ret2
  have h1 := rdLTake rl n
  rw [HTK.out] at h1
  exact ⟨some ⟨w1.heap.size + 1, 0, none⟩, n1, by rw [HBL.out]; rfl, h1, belowThen HBW.out (belowThen HB1.out q1)⟩
set_option maxRecDepth 100000 in
set_option maxHeartbeats 4000000 in
theorem rPressure13 (nm : ByteArray) (C : List I8) (n : Nat) (hn : C.length = n) (A : Option Addr) (c : Nat) (w : World) (h : CdW w A c C) :
    Calls Tryd.prog 15 #[fnV nm A n c] w fun e w' => e = .returned (.tuple #[.int .i64 (prR C), .int .i64 (cfE C)]) ∧ Below w.heap.size w w' := by
  obtain ⟨W, hWE⟩ : ∃ W, w.alloc (.cells #[.string nm, .slice A n c] 24) = W := ⟨_, rfl⟩
  have hbW : Below w.heap.size w W := by rw [← hWE]; exact belowAlloc w _
  have hBF : Blk W w.heap.size 24 #[.string nm, .slice A n c] := by rw [← hWE]; exact Blk.new w _ _
  have k0 : W.cell? ⟨w.heap.size, 0, none⟩ = some (.string nm) := hBF.cell 0
  have k1 : W.cell? ⟨w.heap.size, 1, none⟩ = some (.slice A n c) := hBF.cell 1
  have HCO := Lib.hid (rBefore13 nm C n hn A c W (h.below hbW))
  have HW := Lib.hid hWE
  have HBW := Lib.hid hbW
  have hlen := beRLen (C := C)
  have HM := Lib.hid (mxLe (beLen (C := C)))
  unfold prR
  obtain ⟨ls, hls⟩ : ∃ ls, beR C = ls := ⟨_, rfl⟩
  rw [hls] at HCO hlen HM ⊢
  obtain ⟨q, hq⟩ : ∃ q, ls.length = q := ⟨_, rfl⟩
  have HQ := Lib.hid hq
  rw [hq] at hlen ⊢
  generalize cfE C = E at HCO ⊢
  clear hbW hBF hWE h hn hls hq
  unfold fnV at HCO ⊢
  go_enter Tryd.func15, Tryd.ntmps15
  go_wp2_with fail
  rw [HW.out]
  refine HCO.out.mono ?_
  rintro e w1 ⟨A1, c1, rfl, hr1, b1⟩
  rw [HQ.out]
  obtain ⟨vs, hrs, hvl, hvr⟩ := hr1
  have HRS := Lib.hid (fun X (hX : Below w1.heap.size w1 X) => Rds.below hrs hX)
  have hcl := hrs.le
  have hcm := hrs.max
  rw [hvl, HQ.out] at hcl
  unfold maxLen at hcm
  have HVR := Lib.hid hvr
  have HVL := Lib.hid hvl
  have HB1 := Lib.hid b1
  clear hrs hvr hvl b1
  go_wp2_with fail
  go_loopw [6, 7] (fun m v X => ∃ k : Nat, k ≤ q ∧ v = .int .i64 k ∧ m = .int .i64 ((mxL ls k : Nat) : Int) ∧ Hid (Below w1.heap.size w1 X)) (fun _ v _ => q - (intOf v).toNat)
  case atStart => exact ⟨0, Nat.zero_le _, rfl, rfl, Lib.hid (Below.refl _ _)⟩
  case round =>
    obtain ⟨k, hk, rfl, rfl, HB⟩ := hrel
    by_cases hkq : k < q
    · have hkl : k < ls.length := by rw [HQ.out]; exact hkq
      obtain ⟨A5, c5, hv5, hr5⟩ := HVR.out k hkl
      obtain ⟨ad, hA, _, hcells⟩ := (HRS.out wr HB.out).at_ (by rw [HVL.out]; omega)
      have hc5 := hcells k _ hv5
      subst hA
      have HSU : Hid (mxL ls (k + 1) = max (mxL ls k) ls[k].length) := Lib.hid (by
        show max (mxL ls k) ((ls.getD k []).length) = _
        rw [List.getD, List.getElem?_eq_getElem hkl]; rfl)
      have hm1 := HM.out k
      obtain ⟨a, ha⟩ : ∃ a, mxL ls k = a := ⟨_, rfl⟩
      obtain ⟨b, hb⟩ : ∃ b, ls[k].length = b := ⟨_, rfl⟩
      rw [ha, hb] at HSU
      rw [ha] at hm1 ⊢
      rw [hb] at hc5
      have hmax : max (a : Int) (b : Int) = ((max a b : Nat) : Int) := by omega
      have hk0 : (0 : Int) ≤ k := by omega
      have hk1 : (k : Int) < q := by omega
      clear hcells hv5 hr5 ha hb
      go_wp2_with fail
      go_roundw
      case rel => exact ⟨k + 1, by omega, by go_num, by rw [HSU.out], HB⟩
      case measure => simp [intOf]; omega
    · obtain rfl : k = q := by omega
      go_wp2
      go_ret2
      exact ⟨rfl, belowThen HBW.out (belowThen HB1.out HB.out)⟩
end Go.Proofs.YtkanamdfjegcbaaDoor
