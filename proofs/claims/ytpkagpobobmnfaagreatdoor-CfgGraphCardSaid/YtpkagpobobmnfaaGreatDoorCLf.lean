/-
  slices.Backward over the steps of a code.
-/
import Derived.Test.YtpkagpobobmnfaaGreatDoorCCt
import Derived.Test.YtpkagpobobmnfaaGreatDoorCCv
import Derived.Test.YtpkagpobobmnfaaGreatDoorCCc
import Derived.Test.YtpkagpobobmnfaaGreatDoorCG3
import Derived.Test.YtpkagpobobmnfaaGreatDoorCOp
import Derived.Test.YtpkagpobobmnfaaGreatDoorCMk
import Derived.Test.YtpkagpobobmnfaaGreatDoorCOwn
import Derived.Test.YtpkagpobobmnfaaGreatDoorCIU
import Derived.ArgAppend
import Derived.Test.YtpkagpobobmnfaaGreatDoorCCf
import Derived.Lib.AppendZeros
import Derived.Test.YtpkagpobobmnfaaGreatDoorCCb
import Derived.Test.YtpkagpobobmnfaaGreatDoorCAr
import Derived.BigRegionIn
import Derived.Test.YtpkagpobobmnfaaGreatDoorCInT
namespace Go.Proofs.YtpkagpobobmnfaaGreatDoor
open Go Go.RowKit Go.Shelf

theorem Keep2.cellAt {b1 b2 : Nat} {X Y : World} (h : Keep2 b1 b2 X Y) {q o : Nat} (hq : q = b1 ∨ q = b2) {v : Value} (hv : X.cell? ⟨q, o, none⟩ = some v) : Y.cell? ⟨q, o, none⟩ = some v := by
  obtain ⟨ob, h1, h2⟩ := cellHeap hv
  have e : Y.cell? ⟨q, o, none⟩ = X.cell? ⟨q, o, none⟩ := World.cell?_of_block (by rw [h.2 q hq ob h1 h2]; exact h1.symm)
  rw [e, hv]
end Go.Proofs.YtpkagpobobmnfaaGreatDoor

namespace Go.Proofs.YtpkagpobobmnfaaGreatDoor
open Go Go.RowKit Go.Shelf

theorem cellsOf {X : World} {base n : Nat} {g : Nat} {vs : List Value} {T : TypeId} {m : Nat} (h : X.ownsRow base T 1 (.slice (some ⟨g, 0, none⟩) n m) n vs) : ∃ o, X.heap[g]? = some o ∧ o.isCells = true := by
  rcases h.2 with ⟨h2, _⟩ | ⟨g', cap, cur, e, _, hg, _⟩
  · simp at h2
  · injection e with e
    injection e with e
    injection e with e
    subst e
    exact ⟨_, hg, rfl⟩
section
variable {C : List I8} {ex : Bool} {n : Nat} {w X Y : World} {A : Option Addr} {c : Nat} {T : Nat → Int → Bool}
end
end Go.Proofs.YtpkagpobobmnfaaGreatDoor

namespace Go.Proofs.YtpkagpobobmnfaaGreatDoor
open Go Go.RowKit Go.Shelf

section
variable {C : List I8} {ex : Bool} {n : Nat} {w X Y : World} {A : Option Addr} {c : Nat} {T0 T : Nat → Int → Bool} {bc : Nat} {Ds ps : List Nat}
theorem OpenR.notCells {Ds : List Nat} {X : World} (h : OpenR Ds X) {D q : Nat} (hD : D ∈ Ds) {o : Obj} (hq : X.heap[q]? = some o) (ho : o.isCells = true) : D ≠ q := fun e => by
  subst e
  rw [h D hD] at hq
  injection hq with hq
  subst hq
  cases ho
end
end Go.Proofs.YtpkagpobobmnfaaGreatDoor

namespace Go.Proofs.YtpkagpobobmnfaaGreatDoor
open Go Go.RowKit Go.Shelf

noncomputable def rhL (C : List I8) (n k : Nat) : List Int := ((List.range k).filter (rcB n (sc C) (-1))).map Int.ofNat
theorem rhNo {C : List I8} {n k : Nat} (h : rcB n (sc C) (-1) k = false) : rhL C n (k + 1) = rhL C n k := by
  unfold rhL
  rw [List.range_succ, List.filter_append, List.filter_cons, List.filter_nil, h]
  simp
theorem rhYes {C : List I8} {n k : Nat} (h : rcB n (sc C) (-1) k = true) : rhL C n (k + 1) = rhL C n k ++ [(k : Int)] := by
  unfold rhL
  rw [List.range_succ, List.filter_append, List.filter_cons, List.filter_nil, h]
  simp
theorem rhLen {C : List I8} {n k : Nat} : (rhL C n k).length ≤ k := by
  unfold rhL
  rw [List.length_map]
  exact Nat.le_trans (List.length_filter_le _ _) (by simp)
noncomputable def rhR (C : List I8) : List Int := if cfE C = 0 then rhL C C.length C.length else []
set_option maxRecDepth 100000 in
set_option maxHeartbeats 4000000 in
theorem rReach (nm : ByteArray) (C : List I8) (n : Nat) (hn : C.length = n) (A : Option Addr) (c : Nat) (w : World) (h : CdW w A c C) :
    Calls Tryz.prog 11 #[fnV nm A n c] w (GivesE9 (rhR C) (cfE C) w) := by
  obtain ⟨W, hWE⟩ : ∃ W, w.alloc (.cells #[.string nm, .slice A n c] 24) = W := ⟨_, rfl⟩
  have hbW : Below w.heap.size w W := by rw [← hWE]; exact belowAlloc w _
  have hBF : Blk W w.heap.size 24 #[.string nm, .slice A n c] := by rw [← hWE]; exact Blk.new w _ _
  have k0 : W.cell? ⟨w.heap.size, 0, none⟩ = some (.string nm) := hBF.cell 0
  have k1 : W.cell? ⟨w.heap.size, 1, none⟩ = some (.slice A n c) := hBF.cell 1
  have HK := Lib.hid (fun X (hX : Below W.heap.size W X) => (⟨(hBF.below' hX).cell 0, (hBF.below' hX).cell 1⟩ : X.cell? ⟨w.heap.size, 0, none⟩ = some (.string nm) ∧ X.cell? ⟨w.heap.size, 1, none⟩ = some (.slice A n c)))
  have HCK := Lib.hid (rCk12 nm C n hn A c W (h.below hbW))
  have HCW := Lib.hid (fun X (hX : Below W.heap.size W X) => ((h.below hbW).below hX).rd)
  have HW := Lib.hid hWE
  have HBW := Lib.hid hbW
  have HN := Lib.hid hn
  clear hbW hBF hWE h
  unfold fnV at HCK ⊢
  by_cases hc : cfE C = 0
  rotate_left
  · have e2 : rhR C = [] := by unfold rhR; rw [if_neg hc]
    have hne : (cfE C != 0) = true := by simpa using hc
    rw [e2]
    generalize cfE C = E at HCK hne ⊢
    clear hc e2 hn
    go_enter Tryz.func11, Tryz.ntmps11
    go_wp2_with fail
    rw [HW.out]
    refine HCK.out.mono ?_
    rintro e w1 ⟨rfl, b1⟩
    go_wp2
    go_ret2
    exact ⟨none, 0, rfl, Rd.nil, belowThen HBW.out b1⟩
  have e2 : rhR C = rhL C n n := by unfold rhR; rw [if_pos hc, hn]
  have hok := cfOk hc
  have h64 := hok.len
  rw [hn] at h64
  have HWO := Lib.hid (fun X (hX : Below W.heap.size W X) => rWithout nm C hok n hn (-1) A c X (HCW.out X hX))
  unfold fnV at HWO
  rw [e2, hc]
  rw [hc] at HCK
  clear hc hok e2 hn
  go_enter Tryz.func11, Tryz.ntmps11
  go_wp2_with fail
  rw [HW.out]
  refine HCK.out.mono ?_
  rintro e w1 ⟨rfl, b1⟩
  have HB1 := Lib.hid b1
  obtain ⟨m0, m1⟩ := HK.out w1 b1
  clear b1 k0 k1
  go_wp2_with fail
  refine (HWO.out w1 HB1.out).mono ?_
  rintro e w2 ⟨gb, n1, E, rfl, hrow, hn1, hn2, hE, hgb, b2⟩
  have HROW := Lib.hid hrow
  have HE := Lib.hid hE
  have HB2 := Lib.hid (belowThen HB1.out b2)
  have HO0 : Hid (OwnI w2 w2.heap.size (.slice none 0 0) (rhL C n 0)) := Lib.hid (OwnI.nil _ _)
  clear hrow hE b2 m0 m1
  go_wp2_with fail
  go_loopw [5, 7] (fun v i X => ∃ k : Nat, k ≤ n ∧ i = .int .i64 k ∧ Hid (OwnI X w2.heap.size v (rhL C n k)) ∧ Hid (Below w2.heap.size w2 X)) (fun _ i _ => n - (intOf i).toNat)
  case atStart => exact ⟨0, Nat.zero_le _, rfl, HO0, Lib.hid (Below.refl _ _)⟩
  case round =>
    clear HO0
    obtain ⟨k, hk, rfl, HO, HB⟩ := hrel
    by_cases hkn : k < n
    · have hce := (HROW.out.chg (Chg.ofBelow HB.out fun _ => True) trivial).cell (i := k) (by omega)
      rw [HE.out k hkn] at hce
      obtain ⟨d, hd⟩ : ∃ d, rcB n (sc C) (-1) k = d := ⟨_, rfl⟩
      rw [hd] at hce
      have hk0 : (0 : Int) ≤ k := by omega
      have hk1 : (k : Int) < n := by omega
      cases d with
      | false =>
        have HF : Hid (OwnI wr w2.heap.size u5 (rhL C n (k + 1))) := Lib.hid (by rw [rhNo hd]; exact HO.out)
        clear hd
        go_wp2
        go_roundw
        case rel => exact ⟨k + 1, by omega, by go_num, HF, HB⟩
        case measure => simp [intOf]; omega
      | true =>
        have HDY := Lib.hid (rhYes hd)
        have hdl := rhLen (C := C) (n := n) (k := k)
        have HSZ := Lib.hid HB.out.size
        clear hd
        go_wp2_with (first
          | (at_builtin; refine appI _ rfl (.tmp 25) (.tmp 27) rfl w2.heap.size _ _ rfl (HO.out.alloc _) (some ⟨wr.heap.size, 0, none⟩) 1 1 [(k : Int)] rfl rfl (Rd.lit wr [(k : Int)] 3 (by simp)) (by simp; omega) (by have := HSZ.out; simp; omega) ?_; intro v1 w7 o1 _ d1; rw [← HDY.out] at o1; have HF := Lib.hid o1; have HH := Lib.hid (((HB.out.alloc HSZ.out (.cells #[.int .i64 (k : Int)] 3))).trans d1); clear o1 d1)
          | fail)
        go_roundw
        case rel => exact ⟨k + 1, by omega, by go_num, HF, HH⟩
        case measure => simp [intOf]; omega
    · obtain rfl : k = n := by omega
      obtain ⟨A9, c9, rfl, hr9, _⟩ := HO.out.rd
      have HR9 := Lib.hid hr9
      obtain ⟨q9, hq9⟩ : ∃ q9, (rhL C k k).length = q9 := ⟨_, rfl⟩
      rw [hq9]
      have HQ9 := Lib.hid hq9
      clear hr9 hq9
      go_wp2
      go_ret2
      exact ⟨A9, c9, by rw [HQ9.out]; rfl, HR9.out, belowThen HBW.out (belowThen HB2.out HB.out)⟩
end Go.Proofs.YtpkagpobobmnfaaGreatDoor
