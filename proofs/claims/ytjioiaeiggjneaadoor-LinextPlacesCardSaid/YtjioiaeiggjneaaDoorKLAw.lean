/-
  The law's awake returns true.
-/
import Derived.Test.YtjioiaeiggjneaaDoorKRnk
import Derived.Test.YtjioiaeiggjneaaDoorKLinQ
import Derived.Test.YtjioiaeiggjneaaDoorKRLs
import Derived.Test.YtjioiaeiggjneaaDoorKRelDist
namespace Go.Proofs.YtjioiaeiggjneaaDoor
open Go Go.RowKit

theorem rpLit (w : World) (l : Prs) (h : l.length ≤ 1000) : Rp (w.alloc (.cells (ct l).toArray 35)) (some ⟨w.heap.size, 0, none⟩) l.length l :=
  ⟨Nat.le_refl _, by unfold maxLen; omega, fun _ => ⟨w.heap.size, 0, rfl, by simp, fun j hj => by
    have hh := heap_alloc_new w (.cells (ct l).toArray 35)
    obtain ⟨h1, h2⟩ := ctAt l j hj
    rw [Nat.zero_add]
    exact ⟨by rw [cell_of_row _ _ _ _ 35 (0, 0) hh]; simpa using h1, by rw [cell_of_row _ _ _ _ 35 (0, 0) hh]; simpa using h2⟩⟩⟩
def exL : Prs := [(2, 0)]
def exF : Nat → Nat → Bool := hasP exL
theorem exAcyL : acyR ((3 : Nat) : Int) exL = true := by
  unfold acyR
  rw [show okR ((3 : Nat) : Int) exL = true by decide, Bool.true_and]
  refine acyIff.2 ?_
  show acyT 3 (tcT 3 (hasP exL))
  rw [show tcT 3 (hasP exL) = cw (hasP exL) 3 from funext fun a => funext fun b => tcC 3 _ a b]
  unfold acyT
  decide
theorem exExts : exts 3 (hasP exL) 3 0 = [[1, 2, 0], [2, 0, 1], [2, 1, 0]] := by decide
theorem exFst : fstL 3 (hasP exL) 3 0 = [1, 2, 0] := by decide
theorem exWays : ways 3 (hasP exL) 3 0 ≤ 9223372036854775807 := by decide
theorem exRnk : rnk 3 (hasP exL) 3 0 (nats [2, 0, 1]) = 1 := by decide
theorem exAlw : allowB 3 (hasP exL) [2, 0, 1] = true := by decide
def exK : List Nat := [0, 2, 4, 5, 6, 7]
theorem exRch (x : Nat) : x ∈ exK ↔ RchS 3 (hasP exL) 0 x := by
  constructor
  · intro h
    have h : x = 0 ∨ x = 2 ∨ x = 4 ∨ x = 5 ∨ x = 6 ∨ x = 7 := by simpa [exK] using h
    rcases h with rfl | rfl | rfl | rfl | rfl | rfl
    · exact ⟨[], by decide, by decide⟩
    · exact ⟨[1], by decide, by decide⟩
    · exact ⟨[2], by decide, by decide⟩
    · exact ⟨[2, 0], by decide, by decide⟩
    · exact ⟨[1, 2], by decide, by decide⟩
    · exact ⟨[1, 2, 0], by decide, by decide⟩
  · rintro ⟨t, ht, rfl⟩
    have hc : ClosedM 3 (hasP exL) (fun s => s ∈ exK) := fun s hs => by
      have h : s = 0 ∨ s = 2 ∨ s = 4 ∨ s = 5 ∨ s = 6 ∨ s = 7 := by simpa [exK] using hs
      rcases h with rfl | rfl | rfl | rfl | rfl | rfl <;> decide
    exact closedRch hc t 0 (by decide) ht
theorem dwnLe (N : Nat) (h : N ≤ 16) (f : Nat → Nat → Bool) : ∀ D, VisT N f D → D.length ≤ 65536 := fun D hD => Nat.le_trans hD.le2 (Nat.le_trans (Nat.pow_le_pow_right (by omega) h) (by decide))
theorem exDwn {D : List Nat} (h : VisT 3 (hasP exL) D) (h0 : 0 ∈ D) : D.length = 6 := h.len h0 (K := exK) (by decide) exRch
theorem litL3 (w : World) : RdL ((((w.alloc (.cells #[.int .i64 1, .int .i64 2, .int .i64 0] 3)).alloc (.cells #[.int .i64 2, .int .i64 0, .int .i64 1] 3)).alloc (.cells #[.int .i64 2, .int .i64 1, .int .i64 0] 3)).alloc
    (.cells #[.slice (some ⟨w.heap.size, 0, none⟩) 3 3, .slice (some ⟨w.heap.size + 1, 0, none⟩) 3 3, .slice (some ⟨w.heap.size + 1 + 1, 0, none⟩) 3 3] 25))
    (some ⟨w.heap.size + 1 + 1 + 1, 0, none⟩) 3 [[1, 2, 0], [2, 0, 1], [2, 1, 0]] := by
  have r1 := Rd.lit w [1, 2, 0] 3 (by simp)
  have r2 := Rd.lit (w.alloc (.cells #[.int .i64 1, .int .i64 2, .int .i64 0] 3)) [2, 0, 1] 3 (by simp)
  have r3 := Rd.lit ((w.alloc (.cells #[.int .i64 1, .int .i64 2, .int .i64 0] 3)).alloc (.cells #[.int .i64 2, .int .i64 0, .int .i64 1] 3)) [2, 1, 0] 3 (by simp)
  have r5 := Rds.lit (((w.alloc (.cells #[.int .i64 1, .int .i64 2, .int .i64 0] 3)).alloc (.cells #[.int .i64 2, .int .i64 0, .int .i64 1] 3)).alloc (.cells #[.int .i64 2, .int .i64 1, .int .i64 0] 3))
    [.slice (some ⟨w.heap.size, 0, none⟩) 3 3, .slice (some ⟨w.heap.size + 1, 0, none⟩) 3 3, .slice (some ⟨w.heap.size + 1 + 1, 0, none⟩) 3 3] 25 (by simp [maxLen])
  have e : ∀ (w : World) (o : Obj), (w.alloc o).heap.size = w.heap.size + 1 := fun w o => by simp
  simp only [e] at r2 r3 r5
  refine ⟨_, r5, rfl, fun i h => ?_⟩
  match i, h with
  | 0, _ => exact ⟨_, _, rfl, ((r1.alloc _).alloc _).alloc _⟩
  | 1, _ => exact ⟨_, _, rfl, (r2.alloc _).alloc _⟩
  | 2, _ => exact ⟨_, _, rfl, r3.alloc _⟩
set_option maxRecDepth 100000 in
set_option maxHeartbeats 4000000 in
theorem awOk (w : World) (hT : Tbl w) : Calls Tryd.prog 5 #[] w fun e w' => e = .returned (.bool true) ∧ Below w.heap.size w w' := by
  obtain ⟨W, hW⟩ : ∃ W, (w.alloc (.cells #[.int .i64 2, .int .i64 0] 35)).alloc (.cells #[.int .i64 3, .slice (some ⟨w.heap.size, 0, none⟩) 1 1] 24) = W := ⟨_, rfl⟩
  have hbW : Below w.heap.size w W := by rw [← hW]; exact belowThen (belowAlloc w _) (belowAlloc _ _)
  have HR : Hid (Rp W (some ⟨w.heap.size, 0, none⟩) 1 exL) := by rw [← hW]; exact Lib.hid ((rpLit w exL (by decide)).below (belowAlloc _ _))
  have HB : Hid (BoxR W (w.heap.size + 1) 3 (.slice (some ⟨w.heap.size, 0, none⟩) 1 1)) := by
    rw [← hW]
    have h := BoxR.new (w.alloc (.cells #[.int .i64 2, .int .i64 0] 35)) 3 (.slice (some ⟨w.heap.size, 0, none⟩) 1 1)
    rw [World.size_alloc] at h
    exact Lib.hid h
  have HT := Lib.hid (hT.below hbW)
  have HW := Lib.hid hW
  have HBW := Lib.hid hbW
  have H1 := Lib.hid (fun X (hX : Below W.heap.size W X) => iFirstOk 3 (by omega) exL 1 rfl (by omega) exAcyL _ 1 X (HR.out.below hX) (HT.out.below hX))
  have H2 := Lib.hid (fun X (hX : Below W.heap.size W X) => iAllOk 3 (by omega) exL 1 rfl (by omega) exAcyL _ 1 3 (by omega) (by omega) (by rw [exExts]; decide) X (HR.out.below hX) (HT.out.below hX))
  have H3 := Lib.hid (fun X (hX : Below W.heap.size W X) => iDownOk 3 (by omega) exL 1 rfl (by omega) exAcyL (dwnLe 3 (by omega) _) _ 1 X (HR.out.below hX) (HT.out.below hX))
  have H4 := Lib.hid (fun B d X (hX : Below W.heap.size W X) (ho : Rd X B d [2, 0, 1]) => iRankOk 3 (by omega) exL 1 rfl (by omega) exAcyL (dwnLe 3 (by omega) _) exWays [2, 0, 1] 3 rfl exAlw _ 1 B d X (HR.out.below hX) (HT.out.below hX) ho)
  have H5 := Lib.hid (fun X (hX : Below W.heap.size W X) => iAllMany 3 (by omega) exL 1 rfl (by omega) exAcyL _ 1 2 (by omega) (by omega) (by rw [exExts]; decide) X (HR.out.below hX) (HT.out.below hX))
  have HK := Lib.hid (fun X (hX : Below W.heap.size W X) => (HB.out.below hX).facts)
  clear hT hW hbW
  go_enter Tryd.func5, Tryd.ntmps5
  go_wp2_with fail
  rw [HW.out]
  refine (H1.out _ (Below.refl _ _)).mono ?_
  rintro e w1 ⟨v1, rfl, o1, b1⟩
  obtain ⟨k0, k1, _, _⟩ := HK.out w1 b1
  have O1 := Lib.hid o1
  clear o1
  go_wp2_with fail
  refine (H2.out w1 b1).mono ?_
  rintro e w2 ⟨v2, vs, rfl, o2, l2, b2⟩
  have B2 := belowThen b1 b2
  clear k0 k1
  obtain ⟨k0, k1, _, _⟩ := HK.out w2 B2
  have O2 := Lib.hid (And.intro o2 l2)
  clear o2 l2
  go_wp2_with fail
  refine (H3.out w2 B2).mono ?_
  rintro e w3 ⟨D, rfl, hD, h0, b3⟩
  have hD6 := exDwn hD h0
  have B3 := belowThen B2 b3
  clear k0 k1
  have hx3 : Below W.heap.size W (w3.alloc (.cells #[.int .i64 2, .int .i64 0, .int .i64 1] 3)) := belowThen B3 (belowAlloc _ _)
  obtain ⟨k0, k1, _, _⟩ := HK.out w3 B3
  have H4X := Lib.hid (H4.out _ _ _ hx3 (Rd.lit w3 [2, 0, 1] 3 (by simp)))
  rw [hD6]
  clear hD h0 hD6
  go_wp2_with fail
  refine H4X.out.mono ?_
  rintro e w4 ⟨rfl, b4⟩
  have B4 := belowThen hx3 b4
  clear k0 k1
  obtain ⟨k0, k1, _, _⟩ := HK.out w4 B4
  rw [show ((rnk 3 (hasP exL) 3 0 (nats [2, 0, 1]) : Nat) : Int) = 1 from by rw [exRnk]; rfl]
  go_wp2_with fail
  refine (H5.out w4 B4).mono ?_
  rintro e w5 ⟨rfl, b5⟩
  have B5 := belowThen B4 b5
  clear k0 k1
  have hb15 : Below w1.heap.size w1 w5 := belowThen b2 (belowThen b3 (belowThen (belowAlloc _ (.cells #[.int .i64 2, .int .i64 0, .int .i64 1] 3)) (belowThen b4 b5)))
  have hb25 : Below w2.heap.size w2 w5 := belowThen b3 (belowThen (belowAlloc _ (.cells #[.int .i64 2, .int .i64 0, .int .i64 1] 3)) (belowThen b4 b5))
  obtain ⟨A1, c1, rfl, r1, _⟩ := O1.out.rd
  have HI := Lib.hid (intsEq [1, 2, 0] 3 3 rfl rfl A1 _ c1 3 (w5.alloc (.cells #[.int .i64 1, .int .i64 2, .int .i64 0] 3)) (by
    have h : Rd w1 A1 c1 [1, 2, 0] := by
      have h := r1
      rw [exFst] at h
      exact h
    exact (h.below hb15).alloc _) (Rd.lit w5 [1, 2, 0] 3 (by simp)))
  obtain ⟨A2, c2, rfl, r2⟩ := RdL.ofOwn O2.out.1 O2.out.2
  have hl2 : ((exts 3 (hasP exL) 3 0).map nI) = [[1, 2, 0], [2, 0, 1], [2, 1, 0]] := by rw [exExts]; rfl
  rw [hl2] at r2
  have HL2 := Lib.hid (r2.below hb25)
  have e1 : ((fstL 3 (hasP exL) 3 0).map Int.ofNat).length = 3 := by rw [exFst]; rfl
  have e2 : ((exts 3 (hasP exL) 3 0).map nI).length = 3 := by rw [exExts]; rfl
  rw [e1, e2]
  have HB5 := Lib.hid B5
  clear r1 r2 hl2 e1 e2 b1 b2 b3 b4 b5 B2 B3 B4 B5 hb15 hb25 hx3
  go_wp2_with fail
  refine HI.out.mono ?_
  rintro e w6 ⟨rfl, b6⟩
  have HB6 := Lib.hid (belowThen (belowAlloc w5 (.cells #[.int .i64 1, .int .i64 2, .int .i64 0] 3)) b6)
  have HLL := Lib.hid (rListsI [[1, 2, 0], [2, 0, 1], [2, 1, 0]] 3 rfl A2 _ c2 3 _ ((HL2.out.below HB6.out).below (belowThen (belowThen (belowAlloc w6 (.cells #[.int .i64 1, .int .i64 2, .int .i64 0] 3)) (belowAlloc _ (.cells #[.int .i64 2, .int .i64 0, .int .i64 1] 3))) (belowThen (belowAlloc _ (.cells #[.int .i64 2, .int .i64 1, .int .i64 0] 3)) (belowAlloc _ _)))) (litL3 w6))
  clear b6
  go_wp2_with fail
  refine HLL.out.mono ?_
  rintro e w7 ⟨rfl, q, rfl⟩
  go_wp2
  go_ret
  exact ⟨rfl, belowThen HBW.out (belowThen HB5.out (belowThen HB6.out (belowDrewN (belowThen (belowThen (belowAlloc w6 _) (belowAlloc _ _)) (belowThen (belowAlloc _ _) (belowAlloc _ _))) q)))⟩
end Go.Proofs.YtjioiaeiggjneaaDoor
