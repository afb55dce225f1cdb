/-
  The statements' own check of the chapter's example.
-/
import Derived.Test.YtpkagpobobmnfaaGreatDoorPSb
import Derived.Test.YtpkagpobobmnfaaGreatDoorPSh
import Derived.Test.YtpkagpobobmnfaaGreatDoorPSd
import Derived.Test.YtpkagpobobmnfaaGreatDoorPSx
namespace Go.Proofs.YtpkagpobobmnfaaGreatDoor
open Go Go.RowKit

def LawOkS (w : World) (e : Ending) (w' : World) : Prop := e = .returned (.bool true) ∧ Below w.heap.size w w'
theorem rdTake9 {X : World} {A : Option Addr} {c : Nat} {l : List I8} (h : RdE 8 EI X A c l) (k : Nat) : RdE 8 EI X A c (l.take k) := by
  refine ⟨Nat.le_trans (by rw [List.length_take]; omega) h.le, h.max, fun hn => ?_⟩
  rw [List.length_take] at hn
  obtain ⟨b, off, e, hl, hc⟩ := h.at_ (by omega)
  refine ⟨b, off, e, hl, fun j hj => ?_⟩
  rw [List.length_take] at hj
  rw [List.getElem_take]
  exact hc j (by omega)
theorem four8 (W : World) (o1 o2 o3 o4 : Obj) {Z : World} (hZ : (((W.alloc o1).alloc o2).alloc o3).alloc o4 = Z) :
    (Z.heap[W.heap.size]? = some o1 ∧ Z.heap[W.heap.size + 1]? = some o2 ∧ Z.heap[W.heap.size + 1 + 1]? = some o3 ∧ Z.heap[W.heap.size + 1 + 1 + 1]? = some o4) ∧ Below W.heap.size W Z := by
  subst hZ
  have new : ∀ (X : World) (o : Obj) (k : Nat), X.heap.size = k → (X.alloc o).heap[k]? = some o := fun X o k h => h ▸ World.alloc_heap_new X o
  have old : ∀ (X : World) (o o' : Obj) (k : Nat), X.heap[k]? = some o' → (X.alloc o).heap[k]? = some o' := fun X o o' k h => ((belowAlloc X o).block k (Array.getElem?_eq_some_iff.1 h).1).trans h
  refine ⟨⟨old _ _ _ _ (old _ _ _ _ (old _ _ _ _ (new _ _ _ rfl))), old _ _ _ _ (old _ _ _ _ (new _ _ _ (by simp))), old _ _ _ _ (new _ _ _ (by simp)), new _ _ _ (by simp)⟩, ?_⟩
  exact belowThen (belowThen (belowThen (belowAlloc _ _) (belowAlloc _ _)) (belowAlloc _ _)) (belowAlloc _ _)
theorem sm64s (n : Int) (h1 : -1000 ≤ n) (h2 : n ≤ 1000) : In64 n := ⟨by omega, by omega⟩
theorem wfSmallS (i : I8) (h : (decide (-1000 ≤ i.op ∧ i.op ≤ 1000) && decide (-1000 ≤ i.a ∧ i.a ≤ 1000) && decide (-1000 ≤ i.b ∧ i.b ≤ 1000) && decide (-1000 ≤ i.c ∧ i.c ≤ 1000) && decide (-1000 ≤ i.obj ∧ i.obj ≤ 1000) && decide (-1000 ≤ i.n ∧ i.n ≤ 1000) && decide (-1000 ≤ i.fn ∧ i.fn ≤ 1000) && decide (-1000 ≤ i.ord ∧ i.ord ≤ 1000)) = true) : i.Wf := by
  simp only [Bool.and_eq_true, decide_eq_true_eq] at h
  obtain ⟨⟨⟨⟨⟨⟨⟨h0, h1⟩, h2⟩, h3⟩, h4⟩, h5⟩, h6⟩, h7⟩ := h
  exact ⟨sm64s _ h0.1 h0.2, sm64s _ h1.1 h1.2, sm64s _ h2.1 h2.2, sm64s _ h3.1 h3.2, sm64s _ h4.1 h4.2, sm64s _ h5.1 h5.2, sm64s _ h6.1 h6.2, sm64s _ h7.1 h7.2⟩
theorem sfWf0 : ∀ i ∈ sfE0, i.Wf := fun i hi => by
  simp only [sfE0, List.mem_cons, List.not_mem_nil, or_false] at hi
  rcases hi with rfl | rfl | rfl | rfl | rfl <;> exact wfSmallS _ (by decide)
theorem sfWf1 : ∀ i ∈ sfE1, i.Wf := fun i hi => by
  simp only [sfE1, List.mem_cons, List.not_mem_nil, or_false] at hi
  rcases hi with rfl | rfl | rfl | rfl | rfl <;> exact wfSmallS _ (by decide)
abbrev sfO0 : Obj := .cells #[.int .i64 1, .int .i64 0, .int .i64 0, .int .i64 0, .int .i64 0, .int .i64 2, .int .i64 0, .int .i64 0, .int .i64 1, .int .i64 1, .int .i64 0, .int .i64 0, .int .i64 0, .int .i64 3, .int .i64 0, .int .i64 0, .int .i64 3, .int .i64 2, .int .i64 0, .int .i64 1, .int .i64 0, .int .i64 0, .int .i64 1, .int .i64 0, .int .i64 5, .int .i64 0, .int .i64 2, .int .i64 0, .int .i64 0, .int .i64 0, .int .i64 0, .int .i64 0, .int .i64 7, .int .i64 0, .int .i64 0, .int .i64 0, .int .i64 0, .int .i64 0, .int .i64 0, .int .i64 0] 55
abbrev sfO1 : Obj := .cells #[.int .i64 1, .int .i64 0, .int .i64 0, .int .i64 0, .int .i64 0, .int .i64 2, .int .i64 0, .int .i64 0, .int .i64 1, .int .i64 1, .int .i64 0, .int .i64 0, .int .i64 0, .int .i64 3, .int .i64 0, .int .i64 0, .int .i64 1, .int .i64 2, .int .i64 0, .int .i64 0, .int .i64 0, .int .i64 5, .int .i64 0, .int .i64 0, .int .i64 4, .int .i64 0, .int .i64 0, .int .i64 0, .int .i64 0, .int .i64 0, .int .i64 0, .int .i64 0, .int .i64 7, .int .i64 0, .int .i64 0, .int .i64 0, .int .i64 0, .int .i64 0, .int .i64 0, .int .i64 0] 55
set_option maxRecDepth 100000 in
set_option maxHeartbeats 8000000 in
theorem exHoldsS (w : World) (hL : Laid7 w) : Calls Tryz.prog 14 #[] w (LawOkS w) := by
  obtain ⟨Z, hZ⟩ : ∃ Z, (((w.alloc sfO0).alloc (.cells #[.string ⟨#[]⟩, .slice (some ⟨w.heap.size, 0, none⟩) 5 5] 24)).alloc sfO1).alloc (.cells #[.string ⟨#[]⟩, .slice (some ⟨w.heap.size + 1 + 1, 0, none⟩) 5 5] 24) = Z := ⟨_, rfl⟩
  obtain ⟨⟨h0, h1, h2, h3⟩, hb⟩ := four8 w _ _ _ _ hZ
  have b0 : Blk Z w.heap.size 55 (icCs sfE0).toArray := h0
  have b2 : Blk Z (w.heap.size + 1 + 1) 55 (icCs sfE1).toArray := h2
  have B1 : Hid (Blk Z (w.heap.size + 1) 24 #[.string ⟨#[]⟩, .slice (some ⟨w.heap.size, 0, none⟩) 5 5]) := Lib.hid h1
  have B3 : Hid (Blk Z (w.heap.size + 1 + 1 + 1) 24 #[.string ⟨#[]⟩, .slice (some ⟨w.heap.size + 1 + 1, 0, none⟩) 5 5]) := Lib.hid h3
  have c0 : CdW Z (some ⟨w.heap.size, 0, none⟩) 5 sfE0 := ⟨rdLit8 b0 (by decide), sfWf0, hL.below hb⟩
  have R2 := Lib.hid (rdLit8 b2 (by decide))
  have HFO := Lib.hid (iFoldF ⟨#[]⟩ sfE0 5 rfl _ 5 Z c0)
  rw [nmR0 sfC0, cdR0 sfC0, sfC0, sfFd] at HFO
  have HLD := Lib.hid (fun X (hX : Below Z.heap.size Z X) => (hL.below hb).below hX)
  have HZ := Lib.hid hZ
  have HB := Lib.hid hb
  have f10 := B1.out.cell 0
  have f11 := B1.out.cell 1
  clear h0 h1 h2 h3 hb b0 b2 c0 hL hZ
  unfold GivesFn fnV at HFO
  rw [show sfE1.length = 5 from rfl] at HFO R2
  go_enter Tryz.func14, Tryz.ntmps14
  go_upto_region 3 with fail
  rw [HZ.out]
  go_wp2_with fail
  refine HFO.out.mono ?_
  rintro e w1 ⟨A1, c1, rfl, r1, b1⟩
  obtain ⟨w2, hw2⟩ : ∃ w2, w1.alloc (.cells #[.string ⟨#[]⟩, .slice A1 5 c1] 24) = w2 := ⟨_, rfl⟩
  have b2 : Below w1.heap.size w1 w2 := by rw [← hw2]; exact belowAlloc _ _
  have hBa : Blk w2 w1.heap.size 24 #[.string ⟨#[]⟩, .slice A1 5 c1] := by rw [← hw2]; exact Blk.new _ _ _
  have cd2 : CdW w2 A1 c1 sfE1 := ⟨r1.below stabI b2, sfWf1, HLD.out w2 (belowThen b1 b2)⟩
  have HPR := Lib.hid (iPruneF ⟨#[]⟩ sfE1 5 rfl A1 c1 w2 cd2)
  rw [nmR0 sfC1, cdR0 sfC1, sfC1, sfPr] at HPR
  unfold GivesFn fnV at HPR
  rw [show sfE2.length = 4 from rfl] at HPR
  have HBA := Lib.hid hBa
  have HR1 := Lib.hid cd2.rd
  have HB2 := Lib.hid (belowThen b1 b2)
  have HW2 := Lib.hid hw2
  have p0 := hBa.cell 0
  have p1 := hBa.cell 1
  clear r1 b1 b2 hBa cd2 hw2 f10 f11
  go_upto_region 4 with fail
  rw [HW2.out]
  go_wp2_with fail
  refine HPR.out.mono ?_
  rintro e w3 ⟨A3, c3, rfl, r3, b3⟩
  obtain ⟨w4, hw4⟩ : ∃ w4, w3.alloc (.cells #[.string ⟨#[]⟩, .slice A3 4 c3] 24) = w4 := ⟨_, rfl⟩
  have b4 : Below w3.heap.size w3 w4 := by rw [← hw4]; exact belowAlloc _ _
  have hBb : Blk w4 w3.heap.size 24 #[.string ⟨#[]⟩, .slice A3 4 c3] := by rw [← hw4]; exact Blk.new _ _ _
  obtain ⟨w5, hw5⟩ : ∃ w5, w4.alloc (.cells #[.string ⟨#[]⟩, .slice (some ⟨w.heap.size + 1 + 1, 0, none⟩) 4 5] 24) = w5 := ⟨_, rfl⟩
  have b5 : Below w4.heap.size w4 w5 := by rw [← hw5]; exact belowAlloc _ _
  have hBc : Blk w5 w4.heap.size 24 #[.string ⟨#[]⟩, .slice (some ⟨w.heap.size + 1 + 1, 0, none⟩) 4 5] := by rw [← hw5]; exact Blk.new _ _ _
  have bZ4 := belowThen (belowThen HB2.out b3) b4
  have bZ5 := belowThen bZ4 b5
  have HBZ5 := Lib.hid bZ5
  have b25 := belowThen (belowThen b3 b4) b5
  have HS1 := Lib.hid (rSameC ⟨#[]⟩ sfE1 sfE1 5 5 rfl rfl A1 (some ⟨w.heap.size + 1 + 1, 0, none⟩) c1 5 w5 (HR1.out.below stabI b25) (R2.out.below stabI bZ5))
  rw [show decide (sfE1 = sfE1) = true from decide_eq_true rfl] at HS1
  have HS2 := Lib.hid (fun X (hX : Below w5.heap.size w5 X) => rSameC ⟨#[]⟩ sfE2 sfE2 4 4 rfl rfl A3 (some ⟨w.heap.size + 1 + 1, 0, none⟩) c3 5 X ((r3.below stabI (belowThen b4 b5)).below stabI hX) (rdTake9 ((R2.out.below stabI bZ5).below stabI hX) 4))
  rw [show decide (sfE2 = sfE2) = true from decide_eq_true rfl] at HS2
  unfold fnV at HS1 HS2
  have HK := Lib.hid (fun X (hX : Below w5.heap.size w5 X) => (⟨((hBb.below' b5).below' hX).cell 0, ((hBb.below' b5).below' hX).cell 1, (hBc.below' hX).cell 0, (hBc.below' hX).cell 1⟩ :
    X.cell? ⟨w3.heap.size, 0, none⟩ = some (.string ⟨#[]⟩) ∧ X.cell? ⟨w3.heap.size, 1, none⟩ = some (.slice A3 4 c3) ∧ X.cell? ⟨w4.heap.size, 0, none⟩ = some (.string ⟨#[]⟩) ∧ X.cell? ⟨w4.heap.size, 1, none⟩ = some (.slice (some ⟨w.heap.size + 1 + 1, 0, none⟩) 4 5)))
  have q0 := (HBA.out.below' b25).cell 0
  have q1 := (HBA.out.below' b25).cell 1
  have q2 := (B3.out.below' bZ5).cell 0
  have q3 := (B3.out.below' bZ5).cell 1
  have q4 := (B3.out.below' bZ4).cell 1
  have HW4 := Lib.hid hw4
  have HW5 := Lib.hid hw5
  clear r3 b3 b4 b5 hBb hBc hw4 hw5 bZ4 bZ5 b25 p0 p1
  go_upto_region 5 with fail
  rw [HW4.out]
  go_upto_region 6 with fail
  rw [HW5.out]
  go_wp2_with fail
  refine HS1.out.mono ?_
  rintro e w6 ⟨rfl, b6⟩
  obtain ⟨p0, p1, p2, p3⟩ := HK.out w6 b6
  have HS3 := Lib.hid (HS2.out w6 b6)
  have HB6 := Lib.hid b6
  clear b6 q0 q1 q2 q3 q4
  go_wp2_with fail
  refine HS3.out.mono ?_
  rintro e w7 ⟨rfl, b7⟩
  go_wp2
  go_ret
  exact ⟨rfl, belowThen HB.out (belowThen HBZ5.out (belowThen HB6.out b7))⟩
end Go.Proofs.YtpkagpobobmnfaaGreatDoor

namespace Go.Proofs.YtpkagpobobmnfaaGreatDoor
open Go Go.RowKit

theorem setNfWf {i : I8} (h : i.Wf) {m : Nat} (hm : m ≤ 1000) : (setNf i (m : Int)).Wf := ⟨h.op, h.a, h.b, h.c, h.obj, ⟨by show (-9223372036854775808 : Int) ≤ (m : Int); omega, by show (m : Int) ≤ 9223372036854775807; omega⟩, h.fn, h.ord⟩
theorem thWf {C : List I8} (hok : CfOk C) (h : ∀ i ∈ C, i.Wf) : ∀ i ∈ thL C, i.Wf := fun i hi => by
  obtain ⟨j, hj, rfl⟩ := List.mem_map.1 hi
  unfold thI
  split
  · rename_i hjm
    have h1 := hok.tgt j hj hjm
    have h2 := finLe hok (t := j.n.toNat) (by omega)
    have h3 := hok.len
    exact setNfWf (h j hj) (by omega)
  · exact h j hj
theorem prWf {C : List I8} (hok : CfOk C) (h : ∀ i ∈ C, i.Wf) : ∀ i ∈ prL C, i.Wf := fun i hi => by
  obtain ⟨j, hj, rfl⟩ := List.mem_iff_getElem.1 hi
  obtain ⟨x, hx, _, _, e⟩ := prAt hj
  rw [e]
  unfold prI
  split
  · rename_i hjm
    have h1 := hok.tgt _ (List.getElem_mem hx) hjm
    have h2 := rmNLe (C := C) (k := C[x].n.toNat)
    have h3 := hok.len
    exact setNfWf (h _ (List.getElem_mem hx)) (by omega)
  · exact h _ (List.getElem_mem hx)
theorem fdWfL {C : List I8} (hok : CfOk C) (h : ∀ i ∈ C, i.Wf) : ∀ i ∈ fdL C, i.Wf := fun i hi => by
  obtain ⟨k, hk, rfl⟩ := List.mem_iff_getElem.1 hi
  rw [fdLAt]
  rw [fdLLen] at hk
  exact fdWf hok hk (h _ (List.getElem_mem hk)) hok.len
end Go.Proofs.YtpkagpobobmnfaaGreatDoor
