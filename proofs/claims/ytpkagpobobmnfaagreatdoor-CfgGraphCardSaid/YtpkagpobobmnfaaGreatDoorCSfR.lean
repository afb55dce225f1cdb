/-
  The contract of cfg.Reach; searching the reached instructions.
-/
import Derived.Test.YtpkagpobobmnfaaGreatDoorCSm
import Derived.Test.YtpkagpobobmnfaaGreatDoorCCf
import Derived.Test.YtpkagpobobmnfaaGreatDoorCCb
import Derived.Test.YtpkagpobobmnfaaGreatDoorCNum
import Derived.Test.YtpkagpobobmnfaaGreatDoorCCa
import Derived.MapFrom
import Derived.Test.YtpkagpobobmnfaaGreatDoorCCfLa
import Derived.Test.YtpkagpobobmnfaaGreatDoorCIU
import Derived.Test.YtpkagpobobmnfaaGreatDoorCG3
import Derived.Test.YtpkagpobobmnfaaGreatDoorCOp
import Derived.Test.YtpkagpobobmnfaaGreatDoorCLf
import Derived.BigRegionIn
import Derived.Test.YtpkagpobobmnfaaGreatDoorCInT
import Derived.Deep.QuietTactic
import Derived.BigQuiet
import Derived.Deep.LoopGhost
import Derived.Test.YtpkagpobobmnfaaGreatDoorCCc
namespace Go.Proofs.YtpkagpobobmnfaaGreatDoor
open Go Go.RowKit

/-- What Reach gives. -/
noncomputable def rchO (C : List I8) : List Int := if cfE C = 0 then (rmK C C.length).map Int.ofNat else []
theorem rmSrt (C : List I8) (k : Nat) : Srt ((rmK C k).map Int.ofNat) := by
  unfold rmK Srt
  rw [List.pairwise_map]
  refine (List.Pairwise.filter _ (List.pairwise_lt_range (n := k))).imp fun h => ?_
  exact Int.ofNat_lt.2 h
theorem rmMk {C : List I8} {D : List Nat} (h : ∀ x, x ∈ D ↔ onB C x = true) : mk (D.map Int.ofNat) = (rmK C C.length).map Int.ofNat := by
  refine (mkEq (rmSrt C _) fun x => ?_).symm
  rw [List.mem_map, List.mem_map]
  constructor
  · rintro ⟨y, h1, rfl⟩
    exact ⟨y, (h y).2 (rmMem.1 h1).2, rfl⟩
  · rintro ⟨y, h1, rfl⟩
    exact ⟨y, rmMem.2 ⟨onLt ((h y).1 h1), (h y).1 h1⟩, rfl⟩
set_option maxRecDepth 100000 in
set_option maxHeartbeats 4000000 in
theorem iReachF (nm : ByteArray) (C : List I8) (n : Nat) (hn : C.length = n) (A : Option Addr) (c : Nat) (w : World) (h : CdW w A c C) :
    Calls Tryz.prog 10 #[fnV nm A n c] w (GivesE9 (rchO C) (cfE C) w) := by
  obtain ⟨W, hWE⟩ : ∃ W, w.alloc (.cells #[.string nm, .slice A n c] 24) = W := ⟨_, rfl⟩
  have hbW : Below w.heap.size w W := by rw [← hWE]; exact belowAlloc w _
  have hBF : Blk W w.heap.size 24 #[.string nm, .slice A n c] := by rw [← hWE]; exact Blk.new w _ _
  have k0 : W.cell? ⟨w.heap.size, 0, none⟩ = some (.string nm) := hBF.cell 0
  have k1 : W.cell? ⟨w.heap.size, 1, none⟩ = some (.slice A n c) := hBF.cell 1
  have HCO := Lib.hid (iCodeOf nm C n hn A c W (h.below hbW))
  have HCW := Lib.hid (fun X (hX : Below W.heap.size W X) => ((h.below hbW).below hX).rd)
  have HW := Lib.hid hWE
  have HBW := Lib.hid hbW
  have HN := Lib.hid hn
  clear hbW hBF hWE h
  unfold fnV at HCO ⊢
  by_cases hc : cfE C = 0
  rotate_left
  · have e2 : rchO C = [] := by unfold rchO; rw [if_neg hc]
    have hne : (cfE C != 0) = true := by simpa using hc
    rw [e2]
    rw [cdV1 hc] at HCO
    generalize cfE C = E at HCO hne ⊢
    clear hc e2 hn
    go_enter Tryz.func10, Tryz.ntmps10
    go_wp2_with fail
    rw [HW.out]
    go_wp2_with fail
    refine HCO.out.mono ?_
    rintro e w1 ⟨rfl, b1⟩
    go_wp2
    go_ret2
    exact ⟨none, 0, rfl, Rd.nil, belowThen HBW.out b1⟩
  have hok := cfOk hc
  have e2 : rchO C = (rmK C C.length).map Int.ofNat := by unfold rchO; rw [if_pos hc]
  have h64 := hok.len
  rw [hn] at h64
  have HRW := Lib.hid (fun X (hX : Below W.heap.size W X) => iReachW C hok n hn A c (-1) X (HCW.out X hX))
  have HME : Hid (∀ D : List Nat, (∀ x, x ∈ D ↔ rcB n (sc C) (-1) x = true) → mk (D.map Int.ofNat) = rchO C ∧ ∀ x ∈ D, x < n) := Lib.hid fun D hD => by
    have hD' : ∀ x, x ∈ D ↔ onB C x = true := fun x => by rw [hD x]; unfold onB; rw [hn]
    exact ⟨by rw [e2]; exact rmMk hD', fun x hx => by have := onLt ((hD' x).1 hx); omega⟩
  rw [hc]
  rw [cdV0 hc, hc] at HCO
  obtain ⟨R, hR⟩ : ∃ R, rchO C = R := ⟨_, rfl⟩
  rw [hR] at HME ⊢
  clear hc hok e2 hR hn
  go_enter Tryz.func10, Tryz.ntmps10
  go_wp2_with fail
  rw [HW.out]
  go_wp2_with fail
  refine HCO.out.mono ?_
  rintro e w1 ⟨rfl, b1⟩
  have HB1 := Lib.hid b1
  have HR1 := Lib.hid (HRW.out w1 b1)
  clear b1
  go_wp2_with fail
  refine HR1.out.mono ?_
  rintro e w2 ⟨gm, D, rfl, hm, hnd, hD, hg, b2⟩
  obtain ⟨hmk, hlt⟩ := HME.out D hD
  have HS := Lib.hid (iSorted gm D hnd (by have := nodupLe9 hnd hlt; omega) w2 hm)
  rw [hmk] at HS
  have HB2 := Lib.hid (belowThen HB1.out b2)
  clear hm hnd hD hg b2 hmk hlt
  go_wp2_with fail
  refine HS.out.mono ?_
  rintro e w3 ⟨A3, c3, rfl, r3, b3⟩
  go_wp2
  go_ret2
  exact ⟨A3, c3, rfl, r3, belowThen HBW.out (belowThen HB2.out b3)⟩
end Go.Proofs.YtpkagpobobmnfaaGreatDoor
