/-
  The statements' own example: awake returns true.
-/
import Derived.Test.YtkanamdfjegcbaaDoorCLf4
import Derived.Test.YtkanamdfjegcbaaDoorCR
import Derived.BigRegionIn
namespace Go.Proofs.YtkanamdfjegcbaaDoor
open Go Go.RowKit Go.Shelf
attribute [local go_sem] Oper.semAt_some

def LawOkL (w : World) (e : Ending) (w' : World) : Prop := e = .returned (.bool true) ∧ Below w.heap.size w w'
theorem sm64l (n : Int) (h1 : -1000 ≤ n) (h2 : n ≤ 1000) : In64 n := ⟨by omega, by omega⟩
theorem wfSmallL (i : I8) (h : (decide (-1000 ≤ i.op ∧ i.op ≤ 1000) && decide (-1000 ≤ i.a ∧ i.a ≤ 1000) && decide (-1000 ≤ i.b ∧ i.b ≤ 1000) && decide (-1000 ≤ i.c ∧ i.c ≤ 1000) && decide (-1000 ≤ i.obj ∧ i.obj ≤ 1000) && decide (-1000 ≤ i.n ∧ i.n ≤ 1000) && decide (-1000 ≤ i.fn ∧ i.fn ≤ 1000) && decide (-1000 ≤ i.ord ∧ i.ord ≤ 1000)) = true) : i.Wf := by
  simp only [Bool.and_eq_true, decide_eq_true_eq] at h
  obtain ⟨⟨⟨⟨⟨⟨⟨h0, h1⟩, h2⟩, h3⟩, h4⟩, h5⟩, h6⟩, h7⟩ := h
  exact ⟨sm64l _ h0.1 h0.2, sm64l _ h1.1 h1.2, sm64l _ h2.1 h2.2, sm64l _ h3.1 h3.2, sm64l _ h4.1 h4.2, sm64l _ h5.1 h5.2, sm64l _ h6.1 h6.2, sm64l _ h7.1 h7.2⟩
theorem below4 (w : World) (o1 o2 o3 o4 : Obj) : Below w.heap.size w ((((w.alloc o1).alloc o2).alloc o3).alloc o4) := belowThen (belowThen (belowThen (belowAlloc w o1) (belowAlloc _ o2)) (belowAlloc _ o3)) (belowAlloc _ o4)
theorem rdEmp (w : World) (A : Option Addr) : Rd w A 0 [] := ⟨Nat.le_refl _, by decide, fun h => absurd h (Nat.lt_irrefl 0)⟩
theorem litLs (w : World) (T U : TypeId) : RdL ((((w.alloc (.cells #[] T)).alloc (.cells #[.int .i64 0] T)).alloc (.cells #[] T)).alloc (.cells #[.slice (some ⟨w.heap.size, 0, none⟩) 0 0, .slice (some ⟨w.heap.size + 1, 0, none⟩) 1 1, .slice (some ⟨w.heap.size + 1 + 1, 0, none⟩) 0 0] U)) (some ⟨w.heap.size + 1 + 1 + 1, 0, none⟩) 3 [[], [0], []] := by
  have hb := Blk.new (((w.alloc (.cells #[] T)).alloc (.cells #[.int .i64 0] T)).alloc (.cells #[] T)) U #[.slice (some ⟨w.heap.size, 0, none⟩) 0 0, .slice (some ⟨w.heap.size + 1, 0, none⟩) 1 1, .slice (some ⟨w.heap.size + 1 + 1, 0, none⟩) 0 0]
  rw [World.size_alloc, World.size_alloc, World.size_alloc] at hb
  have h1 := Rd.lit (w.alloc (.cells #[] T)) [0] T (by simp)
  rw [World.size_alloc] at h1
  have h1 := Rd.below h1 (belowThen (belowAlloc _ (.cells #[] T)) (belowAlloc _ (.cells #[.slice (some ⟨w.heap.size, 0, none⟩) 0 0, .slice (some ⟨w.heap.size + 1, 0, none⟩) 1 1, .slice (some ⟨w.heap.size + 1 + 1, 0, none⟩) 0 0] U)))
  refine ⟨[.slice (some ⟨w.heap.size, 0, none⟩) 0 0, .slice (some ⟨w.heap.size + 1, 0, none⟩) 1 1, .slice (some ⟨w.heap.size + 1 + 1, 0, none⟩) 0 0], ⟨Nat.le_refl _, by decide, fun _ => ⟨_, rfl, hb.lt, fun j u hj => ?_⟩⟩, rfl, fun i hi => ?_⟩
  · rw [Addr.add_lit, Nat.zero_add, hb.cell j, ← hj, ← List.getElem?_toArray]
  · have hi : i < 3 := hi
    have hc : i = 0 ∨ i = 1 ∨ i = 2 := by omega
    rcases hc with rfl | rfl | rfl
    · exact ⟨_, _, rfl, rdEmp _ _⟩
    · exact ⟨_, _, rfl, h1⟩
    · exact ⟨_, _, rfl, rdEmp _ _⟩
theorem exLWf : ∀ i ∈ exL, i.Wf := by
  intro i hi
  unfold exL at hi
  simp only [List.mem_cons, List.not_mem_nil, or_false] at hi
  rcases hi with rfl | rfl | rfl <;> exact wfSmallL _ (by decide)
theorem exMWf : ∀ i ∈ exM, i.Wf := by
  intro i hi
  unfold exM at hi
  simp only [List.mem_cons, List.not_mem_nil, or_false] at hi
  rcases hi with rfl | rfl <;> exact wfSmallL _ (by decide)
theorem exLCd (X : World) (b : Nat) (hL : Laid7 X) (b1 : Blk X b 44 #[.int .i64 1, .int .i64 0, .int .i64 0, .int .i64 0, .int .i64 0, .int .i64 1, .int .i64 0, .int .i64 0, .int .i64 2, .int .i64 1, .int .i64 0, .int .i64 0, .int .i64 0, .int .i64 0, .int .i64 0, .int .i64 0, .int .i64 1, .int .i64 0, .int .i64 0, .int .i64 0, .int .i64 0, .int .i64 2, .int .i64 0, .int .i64 0]) : CdW X (some ⟨b, 0, none⟩) 3 exL :=
  ⟨⟨Nat.le_refl _, by decide, fun _ => ⟨_, 0, rfl, b1.lt, fun j hj => by
    have hj' : j < 3 := hj
    have hc : j = 0 ∨ j = 1 ∨ j = 2 := by omega
    rcases hc with rfl | rfl | rfl
    · exact ⟨b1.cell 0, b1.cell 1, b1.cell 2, b1.cell 3, b1.cell 4, b1.cell 5, b1.cell 6, b1.cell 7⟩
    · exact ⟨b1.cell 8, b1.cell 9, b1.cell 10, b1.cell 11, b1.cell 12, b1.cell 13, b1.cell 14, b1.cell 15⟩
    · exact ⟨b1.cell 16, b1.cell 17, b1.cell 18, b1.cell 19, b1.cell 20, b1.cell 21, b1.cell 22, b1.cell 23⟩⟩⟩, exLWf, hL⟩
theorem exMCd (X : World) (b : Nat) (hL : Laid7 X) (b1 : Blk X b 44 #[.int .i64 1, .int .i64 0, .int .i64 0, .int .i64 0, .int .i64 0, .int .i64 1, .int .i64 0, .int .i64 0, .int .i64 1, .int .i64 0, .int .i64 0, .int .i64 0, .int .i64 0, .int .i64 2, .int .i64 0, .int .i64 0]) : CdW X (some ⟨b, 0, none⟩) 2 exM :=
  ⟨⟨Nat.le_refl _, by decide, fun _ => ⟨_, 0, rfl, b1.lt, fun j hj => by
    have hj' : j < 2 := hj
    have hc : j = 0 ∨ j = 1 := by omega
    rcases hc with rfl | rfl
    · exact ⟨b1.cell 0, b1.cell 1, b1.cell 2, b1.cell 3, b1.cell 4, b1.cell 5, b1.cell 6, b1.cell 7⟩
    · exact ⟨b1.cell 8, b1.cell 9, b1.cell 10, b1.cell 11, b1.cell 12, b1.cell 13, b1.cell 14, b1.cell 15⟩⟩⟩, exMWf, hL⟩
set_option maxRecDepth 100000 in
set_option maxHeartbeats 20000000 in
set_option linter.unusedSimpArgs false in
theorem awakeL (w : World) (hL : Laid7 w) : Calls Tryd.prog 11 #[] w (LawOkL w) := by
  obtain ⟨W, hW⟩ : ∃ W, w.alloc (.cells #[.int .i64 1, .int .i64 0, .int .i64 0, .int .i64 0, .int .i64 0, .int .i64 1, .int .i64 0, .int .i64 0, .int .i64 2, .int .i64 1, .int .i64 0, .int .i64 0, .int .i64 0, .int .i64 0, .int .i64 0, .int .i64 0, .int .i64 1, .int .i64 0, .int .i64 0, .int .i64 0, .int .i64 0, .int .i64 2, .int .i64 0, .int .i64 0] 44) = W := ⟨_, rfl⟩
  have hbW : Below w.heap.size w W := by rw [← hW]; exact belowAlloc w _
  have b1 : Blk W w.heap.size 44 #[.int .i64 1, .int .i64 0, .int .i64 0, .int .i64 0, .int .i64 0, .int .i64 1, .int .i64 0, .int .i64 0, .int .i64 2, .int .i64 1, .int .i64 0, .int .i64 0, .int .i64 0, .int .i64 0, .int .i64 0, .int .i64 0, .int .i64 1, .int .i64 0, .int .i64 0, .int .i64 0, .int .i64 0, .int .i64 2, .int .i64 0, .int .i64 0] := by rw [← hW]; exact Blk.new w _ _
  have HCD := Lib.hid (fun X (hX : Below W.heap.size W X) => exLCd X w.heap.size ((hL.below hbW).below hX) (b1.below' hX))
  have HK := Lib.hid (fun X (hX : Below W.heap.size W X) => (b1.below' hX))
  have HLD := Lib.hid (fun X (hX : Below W.heap.size W X) => (hL.below hbW).below hX)
  have HBE := Lib.hid (fun X (hX : Below W.heap.size W X) => iBeforeL ⟨#[]⟩ exL 3 rfl (some ⟨w.heap.size, 0, none⟩) 3 X (HCD.out X hX))
  have HDE := Lib.hid (fun X (hX : Below W.heap.size W X) => iDead ⟨#[]⟩ exL 3 rfl (some ⟨w.heap.size, 0, none⟩) 3 X (HCD.out X hX))
  have HPR := Lib.hid (fun X (hX : Below W.heap.size W X) => iPressure ⟨#[]⟩ exL 3 rfl (some ⟨w.heap.size, 0, none⟩) 3 X (HCD.out X hX))
  have HAF := Lib.hid (fun X (hX : Below W.heap.size W X) => iAfterC ⟨#[]⟩ exL 3 rfl 3 (some ⟨w.heap.size, 0, none⟩) 3 X (HCD.out X hX))
  have HDM := Lib.hid (fun X b hL h => iDead ⟨#[]⟩ exM 2 rfl (some ⟨b, 0, none⟩) 2 X (exMCd X b hL h))
  rw [exBe, exLE] at HBE
  rw [exDe, exLE] at HDE
  rw [exPr, exLE] at HPR
  rw [exAf, exAfR] at HAF
  rw [exDeM, exME] at HDM
  unfold fnV at HBE HDE HPR HAF HDM
  have HW := Lib.hid hW
  have HBW := Lib.hid hbW
  clear hbW b1 hW hL
  refine (callsIn_wide (n := 6)).1 ?_
  refine callsIn_of_wp Tryd.func11 rfl trivial ?_ rfl
  simp only [Tryd.ntmps11, List.size_toArray, List.length_nil, Nat.reduceSub, Array.replicate_succ, Array.replicate_zero, List.push_toArray, List.append_toArray, List.nil_append, List.cons_append]
  gi_wp2_with fail
  rw [HW.out]
  refine ⟨trivial, (callsIn_wide.2 (HBE.out _ (Below.refl _ _))).mono ?_⟩
  rintro e w1 ⟨Aa, ca, he, ra, b1⟩
  have he : e = .returned (.tuple #[.slice Aa 3 ca, .int .i64 0]) := he
  subst he
  have HB1 := Lib.hid b1
  have HRa := Lib.hid ra
  clear b1 ra
  gi_wp2_with fail
  refine ⟨trivial, (callsIn_wide.2 (HDE.out _ HB1.out)).mono ?_⟩
  rintro e w2 ⟨Ab, cb, he, _, b2⟩
  have he : e = .returned (.tuple #[.slice Ab 0 cb, .int .i64 0]) := he
  subst he
  have HB2 := Lib.hid (belowThen HB1.out b2)
  have HRa := Lib.hid (HRa.out.below b2)
  clear b2
  gi_wp2_with fail
  obtain ⟨Z1, hZ1⟩ : ∃ Z1, w2.drew = Z1 := ⟨_, rfl⟩
  have hbZ : Below w2.heap.size w2 Z1 := by rw [← hZ1]; exact (Below.refl _ w2).drew
  have HBZ := Lib.hid (belowThen HB2.out hbZ)
  have HRa := Lib.hid (HRa.out.below hbZ)
  have hlit := HK.out Z1 HBZ.out
  have l0 := hlit.cell 0
  have l1 := hlit.cell 1
  have l2 := hlit.cell 2
  have l3 := hlit.cell 3
  have l4 := hlit.cell 4
  have l5 := hlit.cell 5
  have l6 := hlit.cell 6
  have l7 := hlit.cell 7
  have l16 := hlit.cell 16
  have l17 := hlit.cell 17
  have l18 := hlit.cell 18
  have l19 := hlit.cell 19
  have l20 := hlit.cell 20
  have l21 := hlit.cell 21
  have l22 := hlit.cell 22
  have l23 := hlit.cell 23
  have l0 : Z1.cell? ⟨w.heap.size, 0, none⟩ = some (.int .i64 1) := l0
  have l1 : Z1.cell? ⟨w.heap.size, 1, none⟩ = some (.int .i64 0) := l1
  have l2 : Z1.cell? ⟨w.heap.size, 2, none⟩ = some (.int .i64 0) := l2
  have l3 : Z1.cell? ⟨w.heap.size, 3, none⟩ = some (.int .i64 0) := l3
  have l4 : Z1.cell? ⟨w.heap.size, 4, none⟩ = some (.int .i64 0) := l4
  have l5 : Z1.cell? ⟨w.heap.size, 5, none⟩ = some (.int .i64 1) := l5
  have l6 : Z1.cell? ⟨w.heap.size, 6, none⟩ = some (.int .i64 0) := l6
  have l7 : Z1.cell? ⟨w.heap.size, 7, none⟩ = some (.int .i64 0) := l7
  have l16 : Z1.cell? ⟨w.heap.size, 16, none⟩ = some (.int .i64 1) := l16
  have l17 : Z1.cell? ⟨w.heap.size, 17, none⟩ = some (.int .i64 0) := l17
  have l18 : Z1.cell? ⟨w.heap.size, 18, none⟩ = some (.int .i64 0) := l18
  have l19 : Z1.cell? ⟨w.heap.size, 19, none⟩ = some (.int .i64 0) := l19
  have l20 : Z1.cell? ⟨w.heap.size, 20, none⟩ = some (.int .i64 0) := l20
  have l21 : Z1.cell? ⟨w.heap.size, 21, none⟩ = some (.int .i64 2) := l21
  have l22 : Z1.cell? ⟨w.heap.size, 22, none⟩ = some (.int .i64 0) := l22
  have l23 : Z1.cell? ⟨w.heap.size, 23, none⟩ = some (.int .i64 0) := l23
  have HDD := Lib.hid (HDM.out (Z1.alloc (.cells #[.int .i64 1, .int .i64 0, .int .i64 0, .int .i64 0, .int .i64 0, .int .i64 1, .int .i64 0, .int .i64 0, .int .i64 1, .int .i64 0, .int .i64 0, .int .i64 0, .int .i64 0, .int .i64 2, .int .i64 0, .int .i64 0] 44)) Z1.heap.size ((HLD.out Z1 HBZ.out).below (belowAlloc Z1 _)) (Blk.new Z1 _ _))
  clear hlit hbZ
  refine wpIn_region_any (by kernel_rfl) ?_
  change wpAnyIn _ _ _ _ _ _ _ _ _ (World.drew _)
  rw [hZ1]
  clear hZ1
  refine mergeAnyL fun G hG => ?_
  have hs11111111111111 : ∀ (X9 : World) (A7 : Option Addr) (c7 : Nat) (_ : Rd X9 A7 c7 [0] ∧ Below Z1.heap.size Z1 X9), G 0 #[true, true, true, true, true, true, true, true, true, true, true, true, true, true] { tmps := #[.bool false, .slice (some ⟨w.heap.size, 0, none⟩) 3 3, .slice Aa 3 ca, .int .i64 0, .slice Ab 0 cb, .int .i64 0, .slice A7 1 c7, .int .i64 0, undef, undef, undef, undef, .agg #[.int .i64 1, .int .i64 0, .int .i64 0, .int .i64 0, .int .i64 0, .int .i64 1, .int .i64 0, .int .i64 0], .agg #[.int .i64 2, .int .i64 1, .int .i64 0, .int .i64 0, .int .i64 0, .int .i64 0, .int .i64 0, .int .i64 0], .agg #[.int .i64 1, .int .i64 0, .int .i64 0, .int .i64 0, .int .i64 0, .int .i64 2, .int .i64 0, .int .i64 0], .slice (some ⟨w.heap.size, 0, none⟩) 3 3, .tuple #[.slice Aa 3 ca, .int .i64 0], .slice (some ⟨w.heap.size, 0, none⟩) 3 3, .agg #[.string ⟨#[]⟩, .slice (some ⟨w.heap.size, 0, none⟩) 3 3], .tuple #[.slice Aa 3 ca, .int .i64 0], .slice Aa 3 ca, .int .i64 0, .tuple #[.slice Ab 0 cb, .int .i64 0], .slice (some ⟨w.heap.size, 0, none⟩) 3 3, .agg #[.string ⟨#[]⟩, .slice (some ⟨w.heap.size, 0, none⟩) 3 3], .tuple #[.slice Ab 0 cb, .int .i64 0], .slice Ab 0 cb, .int .i64 0, .tuple #[.slice A7 1 c7, .int .i64 0], .slice (some ⟨w.heap.size, 0, none⟩) 3 3, .pointer (some ⟨w.heap.size, 0, none⟩), .agg #[.int .i64 1, .int .i64 0, .int .i64 0, .int .i64 0, .int .i64 0, .int .i64 1, .int .i64 0, .int .i64 0], .slice (some ⟨w.heap.size, 0, none⟩) 3 3, .pointer (some ⟨w.heap.size, 16, none⟩), .agg #[.int .i64 1, .int .i64 0, .int .i64 0, .int .i64 0, .int .i64 0, .int .i64 2, .int .i64 0, .int .i64 0], .slice (some ⟨Z1.heap.size, 0, none⟩) 2 2, .agg #[.string ⟨#[]⟩, .slice (some ⟨Z1.heap.size, 0, none⟩) 2 2], .tuple #[.slice A7 1 c7, .int .i64 0], .slice A7 1 c7, .int .i64 0, undef, undef, undef, undef, undef, undef, undef, undef, undef, undef, undef, undef, undef, undef, undef, undef, undef, undef, undef, undef, undef, undef, undef, undef, undef, undef, undef, undef, undef, undef, undef, undef, undef, undef, undef, undef, undef, undef, undef, undef, undef, undef, undef, undef, undef, undef, undef, undef, undef, undef, undef, undef], defers := [] } X9 := by
    intro X9 A7 c7 HP
    refine (hG _ _ _ _).2 ?_
    refine wpAnyIn_done (by kernel_rfl) ?_ _
    clear hG
    have HRx := Lib.hid HP.1
    have HB3 := Lib.hid (belowThen HBZ.out HP.2)
    have HRa := Lib.hid (HRa.out.below HP.2)
    clear HP l0 l1 l2 l3 l4 l5 l6 l7 l16 l17 l18 l19 l20 l21 l22 l23
    gi_wp2_with fail
    refine ⟨trivial, (callsIn_wide.2 (HPR.out _ HB3.out)).mono ?_⟩
    rintro e w4 ⟨rfl, b4⟩
    have HB4 := Lib.hid (belowThen HB3.out b4)
    have HRa := Lib.hid (HRa.out.below b4)
    have HRx := Lib.hid (Rd.below HRx.out b4)
    clear b4
    gi_wp2_with fail
    refine ⟨trivial, (callsIn_wide.2 (HAF.out _ HB4.out)).mono ?_⟩
    rintro e w5 ⟨Ae, ce, he, _, b5⟩
    obtain ⟨ne, he⟩ : ∃ ne, e = .returned (.tuple #[.slice Ae ne ce, .int .i64 2]) := ⟨_, he⟩
    subst he
    have HB5 := Lib.hid (belowThen HB4.out b5)
    have HRa := Lib.hid (HRa.out.below b5)
    have HRx := Lib.hid (Rd.below HRx.out b5)
    clear b5
    gi_wp2_with fail
    refine ⟨trivial, (callsIn_wide.2 (intsEq [0] 1 1 rfl rfl A7 _ c7 _ _ (Rd.below HRx.out (belowAlloc _ _)) (Rd.lit _ [0] 3 (by simp)))).mono ?_⟩
    rintro e w6 ⟨rfl, b6⟩
    have HS6 := Lib.hid (belowThen (belowAlloc w5 _) b6)
    have HB6 := Lib.hid (belowThen HB5.out HS6.out)
    have HRa := Lib.hid (HRa.out.below HS6.out)
    clear b6
    gi_wp2_with fail
    refine ⟨trivial, (callsIn_wide.2 (rListsI [[], [0], []] 3 rfl Aa _ ca _ _ (HRa.out.below (below4 w6 _ _ _ _)) (litLs w6 3 34))).mono ?_⟩
    rintro e w7 ⟨rfl, q7, rfl⟩
    gi_wp2
    go_ret
    exact ⟨rfl, belowThen HBW.out (belowThen HB6.out (belowThen (below4 w6 _ _ _ _) (belowN _ q7)))⟩
  have hs11111111111110 : ∀ (X9 : World) (A7 : Option Addr) (c7 : Nat) (_ : Rd X9 A7 c7 [0] ∧ Below Z1.heap.size Z1 X9), G 1 #[true, true, true, true, true, true, true, true, true, true, true, true, true, false] { tmps := #[.bool false, .slice (some ⟨w.heap.size, 0, none⟩) 3 3, .slice Aa 3 ca, .int .i64 0, .slice Ab 0 cb, .int .i64 0, .slice A7 1 c7, undef, undef, undef, undef, undef, .agg #[.int .i64 1, .int .i64 0, .int .i64 0, .int .i64 0, .int .i64 0, .int .i64 1, .int .i64 0, .int .i64 0], .agg #[.int .i64 2, .int .i64 1, .int .i64 0, .int .i64 0, .int .i64 0, .int .i64 0, .int .i64 0, .int .i64 0], .agg #[.int .i64 1, .int .i64 0, .int .i64 0, .int .i64 0, .int .i64 0, .int .i64 2, .int .i64 0, .int .i64 0], .slice (some ⟨w.heap.size, 0, none⟩) 3 3, .tuple #[.slice Aa 3 ca, .int .i64 0], .slice (some ⟨w.heap.size, 0, none⟩) 3 3, .agg #[.string ⟨#[]⟩, .slice (some ⟨w.heap.size, 0, none⟩) 3 3], .tuple #[.slice Aa 3 ca, .int .i64 0], .slice Aa 3 ca, .int .i64 0, .tuple #[.slice Ab 0 cb, .int .i64 0], .slice (some ⟨w.heap.size, 0, none⟩) 3 3, .agg #[.string ⟨#[]⟩, .slice (some ⟨w.heap.size, 0, none⟩) 3 3], .tuple #[.slice Ab 0 cb, .int .i64 0], .slice Ab 0 cb, .int .i64 0, .tuple #[.slice A7 1 c7, .int .i64 0], .slice (some ⟨w.heap.size, 0, none⟩) 3 3, .pointer (some ⟨w.heap.size, 0, none⟩), .agg #[.int .i64 1, .int .i64 0, .int .i64 0, .int .i64 0, .int .i64 0, .int .i64 1, .int .i64 0, .int .i64 0], .slice (some ⟨w.heap.size, 0, none⟩) 3 3, .pointer (some ⟨w.heap.size, 16, none⟩), .agg #[.int .i64 1, .int .i64 0, .int .i64 0, .int .i64 0, .int .i64 0, .int .i64 2, .int .i64 0, .int .i64 0], .slice (some ⟨Z1.heap.size, 0, none⟩) 2 2, .agg #[.string ⟨#[]⟩, .slice (some ⟨Z1.heap.size, 0, none⟩) 2 2], .tuple #[.slice A7 1 c7, .int .i64 0], .slice A7 1 c7, .int .i64 0, undef, undef, undef, undef, undef, undef, undef, undef, undef, undef, undef, undef, undef, undef, undef, undef, undef, undef, undef, undef, undef, undef, undef, undef, undef, undef, undef, undef, undef, undef, undef, undef, undef, undef, undef, undef, undef, undef, undef, undef, undef, undef, undef, undef, undef, undef, undef, undef, undef, undef, undef, undef], defers := [] } X9 := by
    intro X9 A7 c7 HP
    refine (hG _ _ _ _).2 ?_
    refine wpAnyIn_ready (rs := [13]) (by kernel_rfl) (by simp) ?_
    refine AllReadyIn.cons rfl (fun K hK => ?_) (AllReadyIn.nil)
    · go_simp
      refine hK _ _ ?_
      clear hK K
      (try simp only [Act.put, List.setIfInBounds_toArray, List.set_cons_zero, List.set_cons_succ])
      exact (hG _ _ _ _).1 (hs11111111111111 _ _ _ HP)
  have hs11111111111100 : ∀ (X9 : World) (A7 : Option Addr) (c7 : Nat) (_ : Rd X9 A7 c7 [0] ∧ Below Z1.heap.size Z1 X9), G 2 #[true, true, true, true, true, true, true, true, true, true, true, true, false, false] { tmps := #[.bool false, .slice (some ⟨w.heap.size, 0, none⟩) 3 3, .slice Aa 3 ca, .int .i64 0, .slice Ab 0 cb, .int .i64 0, undef, undef, undef, undef, undef, undef, .agg #[.int .i64 1, .int .i64 0, .int .i64 0, .int .i64 0, .int .i64 0, .int .i64 1, .int .i64 0, .int .i64 0], .agg #[.int .i64 2, .int .i64 1, .int .i64 0, .int .i64 0, .int .i64 0, .int .i64 0, .int .i64 0, .int .i64 0], .agg #[.int .i64 1, .int .i64 0, .int .i64 0, .int .i64 0, .int .i64 0, .int .i64 2, .int .i64 0, .int .i64 0], .slice (some ⟨w.heap.size, 0, none⟩) 3 3, .tuple #[.slice Aa 3 ca, .int .i64 0], .slice (some ⟨w.heap.size, 0, none⟩) 3 3, .agg #[.string ⟨#[]⟩, .slice (some ⟨w.heap.size, 0, none⟩) 3 3], .tuple #[.slice Aa 3 ca, .int .i64 0], .slice Aa 3 ca, .int .i64 0, .tuple #[.slice Ab 0 cb, .int .i64 0], .slice (some ⟨w.heap.size, 0, none⟩) 3 3, .agg #[.string ⟨#[]⟩, .slice (some ⟨w.heap.size, 0, none⟩) 3 3], .tuple #[.slice Ab 0 cb, .int .i64 0], .slice Ab 0 cb, .int .i64 0, .tuple #[.slice A7 1 c7, .int .i64 0], .slice (some ⟨w.heap.size, 0, none⟩) 3 3, .pointer (some ⟨w.heap.size, 0, none⟩), .agg #[.int .i64 1, .int .i64 0, .int .i64 0, .int .i64 0, .int .i64 0, .int .i64 1, .int .i64 0, .int .i64 0], .slice (some ⟨w.heap.size, 0, none⟩) 3 3, .pointer (some ⟨w.heap.size, 16, none⟩), .agg #[.int .i64 1, .int .i64 0, .int .i64 0, .int .i64 0, .int .i64 0, .int .i64 2, .int .i64 0, .int .i64 0], .slice (some ⟨Z1.heap.size, 0, none⟩) 2 2, .agg #[.string ⟨#[]⟩, .slice (some ⟨Z1.heap.size, 0, none⟩) 2 2], .tuple #[.slice A7 1 c7, .int .i64 0], .slice A7 1 c7, .int .i64 0, undef, undef, undef, undef, undef, undef, undef, undef, undef, undef, undef, undef, undef, undef, undef, undef, undef, undef, undef, undef, undef, undef, undef, undef, undef, undef, undef, undef, undef, undef, undef, undef, undef, undef, undef, undef, undef, undef, undef, undef, undef, undef, undef, undef, undef, undef, undef, undef, undef, undef, undef, undef], defers := [] } X9 := by
    intro X9 A7 c7 HP
    refine (hG _ _ _ _).2 ?_
    refine wpAnyIn_ready (rs := [12]) (by kernel_rfl) (by simp) ?_
    refine AllReadyIn.cons rfl (fun K hK => ?_) (AllReadyIn.nil)
    · go_simp
      refine hK _ _ ?_
      clear hK K
      (try simp only [Act.put, List.setIfInBounds_toArray, List.set_cons_zero, List.set_cons_succ])
      exact (hG _ _ _ _).1 (hs11111111111110 _ _ _ HP)
  have hs11111111111010 : ∀ (X9 : World) (A7 : Option Addr) (c7 : Nat) (_ : Rd X9 A7 c7 [0] ∧ Below Z1.heap.size Z1 X9), G 2 #[true, true, true, true, true, true, true, true, true, true, true, false, true, false] { tmps := #[.bool false, .slice (some ⟨w.heap.size, 0, none⟩) 3 3, .slice Aa 3 ca, .int .i64 0, .slice Ab 0 cb, .int .i64 0, .slice A7 1 c7, undef, undef, undef, undef, undef, .agg #[.int .i64 1, .int .i64 0, .int .i64 0, .int .i64 0, .int .i64 0, .int .i64 1, .int .i64 0, .int .i64 0], .agg #[.int .i64 2, .int .i64 1, .int .i64 0, .int .i64 0, .int .i64 0, .int .i64 0, .int .i64 0, .int .i64 0], .agg #[.int .i64 1, .int .i64 0, .int .i64 0, .int .i64 0, .int .i64 0, .int .i64 2, .int .i64 0, .int .i64 0], .slice (some ⟨w.heap.size, 0, none⟩) 3 3, .tuple #[.slice Aa 3 ca, .int .i64 0], .slice (some ⟨w.heap.size, 0, none⟩) 3 3, .agg #[.string ⟨#[]⟩, .slice (some ⟨w.heap.size, 0, none⟩) 3 3], .tuple #[.slice Aa 3 ca, .int .i64 0], .slice Aa 3 ca, .int .i64 0, .tuple #[.slice Ab 0 cb, .int .i64 0], .slice (some ⟨w.heap.size, 0, none⟩) 3 3, .agg #[.string ⟨#[]⟩, .slice (some ⟨w.heap.size, 0, none⟩) 3 3], .tuple #[.slice Ab 0 cb, .int .i64 0], .slice Ab 0 cb, .int .i64 0, .tuple #[.slice A7 1 c7, .int .i64 0], .slice (some ⟨w.heap.size, 0, none⟩) 3 3, .pointer (some ⟨w.heap.size, 0, none⟩), .agg #[.int .i64 1, .int .i64 0, .int .i64 0, .int .i64 0, .int .i64 0, .int .i64 1, .int .i64 0, .int .i64 0], .slice (some ⟨w.heap.size, 0, none⟩) 3 3, .pointer (some ⟨w.heap.size, 16, none⟩), .agg #[.int .i64 1, .int .i64 0, .int .i64 0, .int .i64 0, .int .i64 0, .int .i64 2, .int .i64 0, .int .i64 0], .slice (some ⟨Z1.heap.size, 0, none⟩) 2 2, .agg #[.string ⟨#[]⟩, .slice (some ⟨Z1.heap.size, 0, none⟩) 2 2], .tuple #[.slice A7 1 c7, .int .i64 0], .slice A7 1 c7, undef, undef, undef, undef, undef, undef, undef, undef, undef, undef, undef, undef, undef, undef, undef, undef, undef, undef, undef, undef, undef, undef, undef, undef, undef, undef, undef, undef, undef, undef, undef, undef, undef, undef, undef, undef, undef, undef, undef, undef, undef, undef, undef, undef, undef, undef, undef, undef, undef, undef, undef, undef, undef], defers := [] } X9 := by
    intro X9 A7 c7 HP
    refine (hG _ _ _ _).2 ?_
    refine wpAnyIn_ready (rs := [11]) (by kernel_rfl) (by simp) ?_
    refine AllReadyIn.cons rfl (fun K hK => ?_) (AllReadyIn.nil)
    · go_simp
      refine hK _ _ ?_
      clear hK K
      (try simp only [Act.put, List.setIfInBounds_toArray, List.set_cons_zero, List.set_cons_succ])
      exact (hG _ _ _ _).1 (hs11111111111110 _ _ _ HP)
  have hs11111111111000 : ∀ (X9 : World) (A7 : Option Addr) (c7 : Nat) (_ : Rd X9 A7 c7 [0] ∧ Below Z1.heap.size Z1 X9), G 3 #[true, true, true, true, true, true, true, true, true, true, true, false, false, false] { tmps := #[.bool false, .slice (some ⟨w.heap.size, 0, none⟩) 3 3, .slice Aa 3 ca, .int .i64 0, .slice Ab 0 cb, .int .i64 0, undef, undef, undef, undef, undef, undef, .agg #[.int .i64 1, .int .i64 0, .int .i64 0, .int .i64 0, .int .i64 0, .int .i64 1, .int .i64 0, .int .i64 0], .agg #[.int .i64 2, .int .i64 1, .int .i64 0, .int .i64 0, .int .i64 0, .int .i64 0, .int .i64 0, .int .i64 0], .agg #[.int .i64 1, .int .i64 0, .int .i64 0, .int .i64 0, .int .i64 0, .int .i64 2, .int .i64 0, .int .i64 0], .slice (some ⟨w.heap.size, 0, none⟩) 3 3, .tuple #[.slice Aa 3 ca, .int .i64 0], .slice (some ⟨w.heap.size, 0, none⟩) 3 3, .agg #[.string ⟨#[]⟩, .slice (some ⟨w.heap.size, 0, none⟩) 3 3], .tuple #[.slice Aa 3 ca, .int .i64 0], .slice Aa 3 ca, .int .i64 0, .tuple #[.slice Ab 0 cb, .int .i64 0], .slice (some ⟨w.heap.size, 0, none⟩) 3 3, .agg #[.string ⟨#[]⟩, .slice (some ⟨w.heap.size, 0, none⟩) 3 3], .tuple #[.slice Ab 0 cb, .int .i64 0], .slice Ab 0 cb, .int .i64 0, .tuple #[.slice A7 1 c7, .int .i64 0], .slice (some ⟨w.heap.size, 0, none⟩) 3 3, .pointer (some ⟨w.heap.size, 0, none⟩), .agg #[.int .i64 1, .int .i64 0, .int .i64 0, .int .i64 0, .int .i64 0, .int .i64 1, .int .i64 0, .int .i64 0], .slice (some ⟨w.heap.size, 0, none⟩) 3 3, .pointer (some ⟨w.heap.size, 16, none⟩), .agg #[.int .i64 1, .int .i64 0, .int .i64 0, .int .i64 0, .int .i64 0, .int .i64 2, .int .i64 0, .int .i64 0], .slice (some ⟨Z1.heap.size, 0, none⟩) 2 2, .agg #[.string ⟨#[]⟩, .slice (some ⟨Z1.heap.size, 0, none⟩) 2 2], .tuple #[.slice A7 1 c7, .int .i64 0], .slice A7 1 c7, undef, undef, undef, undef, undef, undef, undef, undef, undef, undef, undef, undef, undef, undef, undef, undef, undef, undef, undef, undef, undef, undef, undef, undef, undef, undef, undef, undef, undef, undef, undef, undef, undef, undef, undef, undef, undef, undef, undef, undef, undef, undef, undef, undef, undef, undef, undef, undef, undef, undef, undef, undef, undef], defers := [] } X9 := by
    intro X9 A7 c7 HP
    refine (hG _ _ _ _).2 ?_
    refine wpAnyIn_ready (rs := [11, 12]) (by kernel_rfl) (by simp) ?_
    refine AllReadyIn.cons rfl (fun K hK => ?_) (AllReadyIn.cons rfl (fun K hK => ?_) (AllReadyIn.nil))
    · go_simp
      refine hK _ _ ?_
      clear hK K
      (try simp only [Act.put, List.setIfInBounds_toArray, List.set_cons_zero, List.set_cons_succ])
      exact (hG _ _ _ _).1 (hs11111111111100 _ _ _ HP)
    · go_simp
      refine hK _ _ ?_
      clear hK K
      (try simp only [Act.put, List.setIfInBounds_toArray, List.set_cons_zero, List.set_cons_succ])
      exact (hG _ _ _ _).1 (hs11111111111010 _ _ _ HP)
  have hs11111111110100 : ∀ (X9 : World) (A7 : Option Addr) (c7 : Nat) (_ : Rd X9 A7 c7 [0] ∧ Below Z1.heap.size Z1 X9), G 3 #[true, true, true, true, true, true, true, true, true, true, false, true, false, false] { tmps := #[.bool false, .slice (some ⟨w.heap.size, 0, none⟩) 3 3, .slice Aa 3 ca, .int .i64 0, .slice Ab 0 cb, .int .i64 0, undef, undef, undef, undef, undef, undef, .agg #[.int .i64 1, .int .i64 0, .int .i64 0, .int .i64 0, .int .i64 0, .int .i64 1, .int .i64 0, .int .i64 0], .agg #[.int .i64 2, .int .i64 1, .int .i64 0, .int .i64 0, .int .i64 0, .int .i64 0, .int .i64 0, .int .i64 0], .agg #[.int .i64 1, .int .i64 0, .int .i64 0, .int .i64 0, .int .i64 0, .int .i64 2, .int .i64 0, .int .i64 0], .slice (some ⟨w.heap.size, 0, none⟩) 3 3, .tuple #[.slice Aa 3 ca, .int .i64 0], .slice (some ⟨w.heap.size, 0, none⟩) 3 3, .agg #[.string ⟨#[]⟩, .slice (some ⟨w.heap.size, 0, none⟩) 3 3], .tuple #[.slice Aa 3 ca, .int .i64 0], .slice Aa 3 ca, .int .i64 0, .tuple #[.slice Ab 0 cb, .int .i64 0], .slice (some ⟨w.heap.size, 0, none⟩) 3 3, .agg #[.string ⟨#[]⟩, .slice (some ⟨w.heap.size, 0, none⟩) 3 3], .tuple #[.slice Ab 0 cb, .int .i64 0], .slice Ab 0 cb, .int .i64 0, .tuple #[.slice A7 1 c7, .int .i64 0], .slice (some ⟨w.heap.size, 0, none⟩) 3 3, .pointer (some ⟨w.heap.size, 0, none⟩), .agg #[.int .i64 1, .int .i64 0, .int .i64 0, .int .i64 0, .int .i64 0, .int .i64 1, .int .i64 0, .int .i64 0], .slice (some ⟨w.heap.size, 0, none⟩) 3 3, .pointer (some ⟨w.heap.size, 16, none⟩), .agg #[.int .i64 1, .int .i64 0, .int .i64 0, .int .i64 0, .int .i64 0, .int .i64 2, .int .i64 0, .int .i64 0], .slice (some ⟨Z1.heap.size, 0, none⟩) 2 2, .agg #[.string ⟨#[]⟩, .slice (some ⟨Z1.heap.size, 0, none⟩) 2 2], .tuple #[.slice A7 1 c7, .int .i64 0], undef, .int .i64 0, undef, undef, undef, undef, undef, undef, undef, undef, undef, undef, undef, undef, undef, undef, undef, undef, undef, undef, undef, undef, undef, undef, undef, undef, undef, undef, undef, undef, undef, undef, undef, undef, undef, undef, undef, undef, undef, undef, undef, undef, undef, undef, undef, undef, undef, undef, undef, undef, undef, undef, undef, undef], defers := [] } X9 := by
    intro X9 A7 c7 HP
    refine (hG _ _ _ _).2 ?_
    refine wpAnyIn_ready (rs := [10]) (by kernel_rfl) (by simp) ?_
    refine AllReadyIn.cons rfl (fun K hK => ?_) (AllReadyIn.nil)
    · go_simp
      refine hK _ _ ?_
      clear hK K
      (try simp only [Act.put, List.setIfInBounds_toArray, List.set_cons_zero, List.set_cons_succ])
      exact (hG _ _ _ _).1 (hs11111111111100 _ _ _ HP)
  have hs11111111110000 : ∀ (X9 : World) (A7 : Option Addr) (c7 : Nat) (_ : Rd X9 A7 c7 [0] ∧ Below Z1.heap.size Z1 X9), G 4 #[true, true, true, true, true, true, true, true, true, true, false, false, false, false] { tmps := #[.bool false, .slice (some ⟨w.heap.size, 0, none⟩) 3 3, .slice Aa 3 ca, .int .i64 0, .slice Ab 0 cb, .int .i64 0, undef, undef, undef, undef, undef, undef, .agg #[.int .i64 1, .int .i64 0, .int .i64 0, .int .i64 0, .int .i64 0, .int .i64 1, .int .i64 0, .int .i64 0], .agg #[.int .i64 2, .int .i64 1, .int .i64 0, .int .i64 0, .int .i64 0, .int .i64 0, .int .i64 0, .int .i64 0], .agg #[.int .i64 1, .int .i64 0, .int .i64 0, .int .i64 0, .int .i64 0, .int .i64 2, .int .i64 0, .int .i64 0], .slice (some ⟨w.heap.size, 0, none⟩) 3 3, .tuple #[.slice Aa 3 ca, .int .i64 0], .slice (some ⟨w.heap.size, 0, none⟩) 3 3, .agg #[.string ⟨#[]⟩, .slice (some ⟨w.heap.size, 0, none⟩) 3 3], .tuple #[.slice Aa 3 ca, .int .i64 0], .slice Aa 3 ca, .int .i64 0, .tuple #[.slice Ab 0 cb, .int .i64 0], .slice (some ⟨w.heap.size, 0, none⟩) 3 3, .agg #[.string ⟨#[]⟩, .slice (some ⟨w.heap.size, 0, none⟩) 3 3], .tuple #[.slice Ab 0 cb, .int .i64 0], .slice Ab 0 cb, .int .i64 0, .tuple #[.slice A7 1 c7, .int .i64 0], .slice (some ⟨w.heap.size, 0, none⟩) 3 3, .pointer (some ⟨w.heap.size, 0, none⟩), .agg #[.int .i64 1, .int .i64 0, .int .i64 0, .int .i64 0, .int .i64 0, .int .i64 1, .int .i64 0, .int .i64 0], .slice (some ⟨w.heap.size, 0, none⟩) 3 3, .pointer (some ⟨w.heap.size, 16, none⟩), .agg #[.int .i64 1, .int .i64 0, .int .i64 0, .int .i64 0, .int .i64 0, .int .i64 2, .int .i64 0, .int .i64 0], .slice (some ⟨Z1.heap.size, 0, none⟩) 2 2, .agg #[.string ⟨#[]⟩, .slice (some ⟨Z1.heap.size, 0, none⟩) 2 2], .tuple #[.slice A7 1 c7, .int .i64 0], undef, undef, undef, undef, undef, undef, undef, undef, undef, undef, undef, undef, undef, undef, undef, undef, undef, undef, undef, undef, undef, undef, undef, undef, undef, undef, undef, undef, undef, undef, undef, undef, undef, undef, undef, undef, undef, undef, undef, undef, undef, undef, undef, undef, undef, undef, undef, undef, undef, undef, undef, undef, undef, undef], defers := [] } X9 := by
    intro X9 A7 c7 HP
    refine (hG _ _ _ _).2 ?_
    refine wpAnyIn_ready (rs := [10, 11]) (by kernel_rfl) (by simp) ?_
    refine AllReadyIn.cons rfl (fun K hK => ?_) (AllReadyIn.cons rfl (fun K hK => ?_) (AllReadyIn.nil))
    · go_simp
      refine hK _ _ ?_
      clear hK K
      (try simp only [Act.put, List.setIfInBounds_toArray, List.set_cons_zero, List.set_cons_succ])
      exact (hG _ _ _ _).1 (hs11111111111000 _ _ _ HP)
    · go_simp
      refine hK _ _ ?_
      clear hK K
      (try simp only [Act.put, List.setIfInBounds_toArray, List.set_cons_zero, List.set_cons_succ])
      exact (hG _ _ _ _).1 (hs11111111110100 _ _ _ HP)
  have hs11111111100000 : ∀ (X9 : World) (A7 : Option Addr) (c7 : Nat) (_ : Rd X9 A7 c7 [0] ∧ Below Z1.heap.size Z1 X9), G 5 #[true, true, true, true, true, true, true, true, true, false, false, false, false, false] { tmps := #[.bool false, .slice (some ⟨w.heap.size, 0, none⟩) 3 3, .slice Aa 3 ca, .int .i64 0, .slice Ab 0 cb, .int .i64 0, undef, undef, undef, undef, undef, undef, .agg #[.int .i64 1, .int .i64 0, .int .i64 0, .int .i64 0, .int .i64 0, .int .i64 1, .int .i64 0, .int .i64 0], .agg #[.int .i64 2, .int .i64 1, .int .i64 0, .int .i64 0, .int .i64 0, .int .i64 0, .int .i64 0, .int .i64 0], .agg #[.int .i64 1, .int .i64 0, .int .i64 0, .int .i64 0, .int .i64 0, .int .i64 2, .int .i64 0, .int .i64 0], .slice (some ⟨w.heap.size, 0, none⟩) 3 3, .tuple #[.slice Aa 3 ca, .int .i64 0], .slice (some ⟨w.heap.size, 0, none⟩) 3 3, .agg #[.string ⟨#[]⟩, .slice (some ⟨w.heap.size, 0, none⟩) 3 3], .tuple #[.slice Aa 3 ca, .int .i64 0], .slice Aa 3 ca, .int .i64 0, .tuple #[.slice Ab 0 cb, .int .i64 0], .slice (some ⟨w.heap.size, 0, none⟩) 3 3, .agg #[.string ⟨#[]⟩, .slice (some ⟨w.heap.size, 0, none⟩) 3 3], .tuple #[.slice Ab 0 cb, .int .i64 0], .slice Ab 0 cb, .int .i64 0, undef, .slice (some ⟨w.heap.size, 0, none⟩) 3 3, .pointer (some ⟨w.heap.size, 0, none⟩), .agg #[.int .i64 1, .int .i64 0, .int .i64 0, .int .i64 0, .int .i64 0, .int .i64 1, .int .i64 0, .int .i64 0], .slice (some ⟨w.heap.size, 0, none⟩) 3 3, .pointer (some ⟨w.heap.size, 16, none⟩), .agg #[.int .i64 1, .int .i64 0, .int .i64 0, .int .i64 0, .int .i64 0, .int .i64 2, .int .i64 0, .int .i64 0], .slice (some ⟨Z1.heap.size, 0, none⟩) 2 2, .agg #[.string ⟨#[]⟩, .slice (some ⟨Z1.heap.size, 0, none⟩) 2 2], .tuple #[.slice A7 1 c7, .int .i64 0], undef, undef, undef, undef, undef, undef, undef, undef, undef, undef, undef, undef, undef, undef, undef, undef, undef, undef, undef, undef, undef, undef, undef, undef, undef, undef, undef, undef, undef, undef, undef, undef, undef, undef, undef, undef, undef, undef, undef, undef, undef, undef, undef, undef, undef, undef, undef, undef, undef, undef, undef, undef, undef, undef], defers := [] } X9 := by
    intro X9 A7 c7 HP
    refine (hG _ _ _ _).2 ?_
    refine wpAnyIn_ready (rs := [9]) (by kernel_rfl) (by simp) ?_
    refine AllReadyIn.cons rfl (fun K hK => ?_) (AllReadyIn.nil)
    · go_simp
      refine hK _ _ ?_
      clear hK K
      (try simp only [Act.put, List.setIfInBounds_toArray, List.set_cons_zero, List.set_cons_succ])
      exact (hG _ _ _ _).1 (hs11111111110000 _ _ _ HP)
  have hs11111111000000 : G 6 #[true, true, true, true, true, true, true, true, false, false, false, false, false, false] { tmps := #[.bool false, .slice (some ⟨w.heap.size, 0, none⟩) 3 3, .slice Aa 3 ca, .int .i64 0, .slice Ab 0 cb, .int .i64 0, undef, undef, undef, undef, undef, undef, .agg #[.int .i64 1, .int .i64 0, .int .i64 0, .int .i64 0, .int .i64 0, .int .i64 1, .int .i64 0, .int .i64 0], .agg #[.int .i64 2, .int .i64 1, .int .i64 0, .int .i64 0, .int .i64 0, .int .i64 0, .int .i64 0, .int .i64 0], .agg #[.int .i64 1, .int .i64 0, .int .i64 0, .int .i64 0, .int .i64 0, .int .i64 2, .int .i64 0, .int .i64 0], .slice (some ⟨w.heap.size, 0, none⟩) 3 3, .tuple #[.slice Aa 3 ca, .int .i64 0], .slice (some ⟨w.heap.size, 0, none⟩) 3 3, .agg #[.string ⟨#[]⟩, .slice (some ⟨w.heap.size, 0, none⟩) 3 3], .tuple #[.slice Aa 3 ca, .int .i64 0], .slice Aa 3 ca, .int .i64 0, .tuple #[.slice Ab 0 cb, .int .i64 0], .slice (some ⟨w.heap.size, 0, none⟩) 3 3, .agg #[.string ⟨#[]⟩, .slice (some ⟨w.heap.size, 0, none⟩) 3 3], .tuple #[.slice Ab 0 cb, .int .i64 0], .slice Ab 0 cb, .int .i64 0, undef, .slice (some ⟨w.heap.size, 0, none⟩) 3 3, .pointer (some ⟨w.heap.size, 0, none⟩), .agg #[.int .i64 1, .int .i64 0, .int .i64 0, .int .i64 0, .int .i64 0, .int .i64 1, .int .i64 0, .int .i64 0], .slice (some ⟨w.heap.size, 0, none⟩) 3 3, .pointer (some ⟨w.heap.size, 16, none⟩), .agg #[.int .i64 1, .int .i64 0, .int .i64 0, .int .i64 0, .int .i64 0, .int .i64 2, .int .i64 0, .int .i64 0], .slice (some ⟨Z1.heap.size, 0, none⟩) 2 2, .agg #[.string ⟨#[]⟩, .slice (some ⟨Z1.heap.size, 0, none⟩) 2 2], undef, undef, undef, undef, undef, undef, undef, undef, undef, undef, undef, undef, undef, undef, undef, undef, undef, undef, undef, undef, undef, undef, undef, undef, undef, undef, undef, undef, undef, undef, undef, undef, undef, undef, undef, undef, undef, undef, undef, undef, undef, undef, undef, undef, undef, undef, undef, undef, undef, undef, undef, undef, undef, undef, undef], defers := [] } (Z1.alloc (.cells #[.int .i64 1, .int .i64 0, .int .i64 0, .int .i64 0, .int .i64 0, .int .i64 1, .int .i64 0, .int .i64 0, .int .i64 1, .int .i64 0, .int .i64 0, .int .i64 0, .int .i64 0, .int .i64 2, .int .i64 0, .int .i64 0] 44)) := by
    refine (hG _ _ _ _).2 ?_
    refine wpAnyIn_ready (rs := [8]) (by kernel_rfl) (by simp) ?_
    refine AllReadyIn.cons rfl (fun K hK => ?_) (AllReadyIn.nil)
    · go_simp
      gi_wp2_with fail
      refine ⟨trivial, (callsIn_wide.2 HDD.out).mono ?_⟩
      rintro e X9 ⟨A7, c7, he, hr, hb⟩
      have he : e = .returned (.tuple #[.slice A7 1 c7, .int .i64 0]) := he
      subst he
      refine hK _ _ ?_
      clear hK K
      (try simp only [Act.put, List.setIfInBounds_toArray, List.set_cons_zero, List.set_cons_succ])
      exact (hG _ _ _ _).1 (hs11111111100000 X9 A7 c7 ⟨hr, belowThen (belowAlloc Z1 _) hb⟩)
  have hs11111110000000 : G 7 #[true, true, true, true, true, true, true, false, false, false, false, false, false, false] { tmps := #[.bool false, .slice (some ⟨w.heap.size, 0, none⟩) 3 3, .slice Aa 3 ca, .int .i64 0, .slice Ab 0 cb, .int .i64 0, undef, undef, undef, undef, undef, undef, .agg #[.int .i64 1, .int .i64 0, .int .i64 0, .int .i64 0, .int .i64 0, .int .i64 1, .int .i64 0, .int .i64 0], .agg #[.int .i64 2, .int .i64 1, .int .i64 0, .int .i64 0, .int .i64 0, .int .i64 0, .int .i64 0, .int .i64 0], .agg #[.int .i64 1, .int .i64 0, .int .i64 0, .int .i64 0, .int .i64 0, .int .i64 2, .int .i64 0, .int .i64 0], .slice (some ⟨w.heap.size, 0, none⟩) 3 3, .tuple #[.slice Aa 3 ca, .int .i64 0], .slice (some ⟨w.heap.size, 0, none⟩) 3 3, .agg #[.string ⟨#[]⟩, .slice (some ⟨w.heap.size, 0, none⟩) 3 3], .tuple #[.slice Aa 3 ca, .int .i64 0], .slice Aa 3 ca, .int .i64 0, .tuple #[.slice Ab 0 cb, .int .i64 0], .slice (some ⟨w.heap.size, 0, none⟩) 3 3, .agg #[.string ⟨#[]⟩, .slice (some ⟨w.heap.size, 0, none⟩) 3 3], .tuple #[.slice Ab 0 cb, .int .i64 0], .slice Ab 0 cb, .int .i64 0, undef, .slice (some ⟨w.heap.size, 0, none⟩) 3 3, .pointer (some ⟨w.heap.size, 0, none⟩), .agg #[.int .i64 1, .int .i64 0, .int .i64 0, .int .i64 0, .int .i64 0, .int .i64 1, .int .i64 0, .int .i64 0], .slice (some ⟨w.heap.size, 0, none⟩) 3 3, .pointer (some ⟨w.heap.size, 16, none⟩), .agg #[.int .i64 1, .int .i64 0, .int .i64 0, .int .i64 0, .int .i64 0, .int .i64 2, .int .i64 0, .int .i64 0], .slice (some ⟨Z1.heap.size, 0, none⟩) 2 2, undef, undef, undef, undef, undef, undef, undef, undef, undef, undef, undef, undef, undef, undef, undef, undef, undef, undef, undef, undef, undef, undef, undef, undef, undef, undef, undef, undef, undef, undef, undef, undef, undef, undef, undef, undef, undef, undef, undef, undef, undef, undef, undef, undef, undef, undef, undef, undef, undef, undef, undef, undef, undef, undef, undef, undef], defers := [] } (Z1.alloc (.cells #[.int .i64 1, .int .i64 0, .int .i64 0, .int .i64 0, .int .i64 0, .int .i64 1, .int .i64 0, .int .i64 0, .int .i64 1, .int .i64 0, .int .i64 0, .int .i64 0, .int .i64 0, .int .i64 2, .int .i64 0, .int .i64 0] 44)) := by
    refine (hG _ _ _ _).2 ?_
    refine wpAnyIn_ready (rs := [7]) (by kernel_rfl) (by simp) ?_
    refine AllReadyIn.cons rfl (fun K hK => ?_) (AllReadyIn.nil)
    · go_simp
      refine hK _ _ ?_
      clear hK K
      (try simp only [Act.put, List.setIfInBounds_toArray, List.set_cons_zero, List.set_cons_succ])
      exact (hG _ _ _ _).1 hs11111111000000
  have hs11111100000000 : G 8 #[true, true, true, true, true, true, false, false, false, false, false, false, false, false] { tmps := #[.bool false, .slice (some ⟨w.heap.size, 0, none⟩) 3 3, .slice Aa 3 ca, .int .i64 0, .slice Ab 0 cb, .int .i64 0, undef, undef, undef, undef, undef, undef, .agg #[.int .i64 1, .int .i64 0, .int .i64 0, .int .i64 0, .int .i64 0, .int .i64 1, .int .i64 0, .int .i64 0], .agg #[.int .i64 2, .int .i64 1, .int .i64 0, .int .i64 0, .int .i64 0, .int .i64 0, .int .i64 0, .int .i64 0], .agg #[.int .i64 1, .int .i64 0, .int .i64 0, .int .i64 0, .int .i64 0, .int .i64 2, .int .i64 0, .int .i64 0], .slice (some ⟨w.heap.size, 0, none⟩) 3 3, .tuple #[.slice Aa 3 ca, .int .i64 0], .slice (some ⟨w.heap.size, 0, none⟩) 3 3, .agg #[.string ⟨#[]⟩, .slice (some ⟨w.heap.size, 0, none⟩) 3 3], .tuple #[.slice Aa 3 ca, .int .i64 0], .slice Aa 3 ca, .int .i64 0, .tuple #[.slice Ab 0 cb, .int .i64 0], .slice (some ⟨w.heap.size, 0, none⟩) 3 3, .agg #[.string ⟨#[]⟩, .slice (some ⟨w.heap.size, 0, none⟩) 3 3], .tuple #[.slice Ab 0 cb, .int .i64 0], .slice Ab 0 cb, .int .i64 0, undef, .slice (some ⟨w.heap.size, 0, none⟩) 3 3, .pointer (some ⟨w.heap.size, 0, none⟩), .agg #[.int .i64 1, .int .i64 0, .int .i64 0, .int .i64 0, .int .i64 0, .int .i64 1, .int .i64 0, .int .i64 0], .slice (some ⟨w.heap.size, 0, none⟩) 3 3, .pointer (some ⟨w.heap.size, 16, none⟩), .agg #[.int .i64 1, .int .i64 0, .int .i64 0, .int .i64 0, .int .i64 0, .int .i64 2, .int .i64 0, .int .i64 0], undef, undef, undef, undef, undef, undef, undef, undef, undef, undef, undef, undef, undef, undef, undef, undef, undef, undef, undef, undef, undef, undef, undef, undef, undef, undef, undef, undef, undef, undef, undef, undef, undef, undef, undef, undef, undef, undef, undef, undef, undef, undef, undef, undef, undef, undef, undef, undef, undef, undef, undef, undef, undef, undef, undef, undef, undef], defers := [] } Z1 := by
    refine (hG _ _ _ _).2 ?_
    refine wpAnyIn_ready (rs := [6]) (by kernel_rfl) (by simp) ?_
    refine AllReadyIn.cons rfl (fun K hK => ?_) (AllReadyIn.nil)
    · go_simp
      refine hK _ _ ?_
      clear hK K
      (try simp only [Act.put, List.setIfInBounds_toArray, List.set_cons_zero, List.set_cons_succ])
      exact (hG _ _ _ _).1 hs11111110000000
  have hs11111000000000 : G 9 #[true, true, true, true, true, false, false, false, false, false, false, false, false, false] { tmps := #[.bool false, .slice (some ⟨w.heap.size, 0, none⟩) 3 3, .slice Aa 3 ca, .int .i64 0, .slice Ab 0 cb, .int .i64 0, undef, undef, undef, undef, undef, undef, .agg #[.int .i64 1, .int .i64 0, .int .i64 0, .int .i64 0, .int .i64 0, .int .i64 1, .int .i64 0, .int .i64 0], .agg #[.int .i64 2, .int .i64 1, .int .i64 0, .int .i64 0, .int .i64 0, .int .i64 0, .int .i64 0, .int .i64 0], .agg #[.int .i64 1, .int .i64 0, .int .i64 0, .int .i64 0, .int .i64 0, .int .i64 2, .int .i64 0, .int .i64 0], .slice (some ⟨w.heap.size, 0, none⟩) 3 3, .tuple #[.slice Aa 3 ca, .int .i64 0], .slice (some ⟨w.heap.size, 0, none⟩) 3 3, .agg #[.string ⟨#[]⟩, .slice (some ⟨w.heap.size, 0, none⟩) 3 3], .tuple #[.slice Aa 3 ca, .int .i64 0], .slice Aa 3 ca, .int .i64 0, .tuple #[.slice Ab 0 cb, .int .i64 0], .slice (some ⟨w.heap.size, 0, none⟩) 3 3, .agg #[.string ⟨#[]⟩, .slice (some ⟨w.heap.size, 0, none⟩) 3 3], .tuple #[.slice Ab 0 cb, .int .i64 0], .slice Ab 0 cb, .int .i64 0, undef, .slice (some ⟨w.heap.size, 0, none⟩) 3 3, .pointer (some ⟨w.heap.size, 0, none⟩), .agg #[.int .i64 1, .int .i64 0, .int .i64 0, .int .i64 0, .int .i64 0, .int .i64 1, .int .i64 0, .int .i64 0], .slice (some ⟨w.heap.size, 0, none⟩) 3 3, .pointer (some ⟨w.heap.size, 16, none⟩), undef, undef, undef, undef, undef, undef, undef, undef, undef, undef, undef, undef, undef, undef, undef, undef, undef, undef, undef, undef, undef, undef, undef, undef, undef, undef, undef, undef, undef, undef, undef, undef, undef, undef, undef, undef, undef, undef, undef, undef, undef, undef, undef, undef, undef, undef, undef, undef, undef, undef, undef, undef, undef, undef, undef, undef, undef, undef], defers := [] } Z1 := by
    refine (hG _ _ _ _).2 ?_
    refine wpAnyIn_ready (rs := [5]) (by kernel_rfl) (by simp) ?_
    refine AllReadyIn.cons rfl (fun K hK => ?_) (AllReadyIn.nil)
    · go_simp
      refine hK _ _ ?_
      clear hK K
      (try simp only [Act.put, List.setIfInBounds_toArray, List.set_cons_zero, List.set_cons_succ])
      exact (hG _ _ _ _).1 hs11111100000000
  have hs11011100000000 : G 9 #[true, true, false, true, true, true, false, false, false, false, false, false, false, false] { tmps := #[.bool false, .slice (some ⟨w.heap.size, 0, none⟩) 3 3, .slice Aa 3 ca, .int .i64 0, .slice Ab 0 cb, .int .i64 0, undef, undef, undef, undef, undef, undef, .agg #[.int .i64 1, .int .i64 0, .int .i64 0, .int .i64 0, .int .i64 0, .int .i64 1, .int .i64 0, .int .i64 0], .agg #[.int .i64 2, .int .i64 1, .int .i64 0, .int .i64 0, .int .i64 0, .int .i64 0, .int .i64 0, .int .i64 0], .agg #[.int .i64 1, .int .i64 0, .int .i64 0, .int .i64 0, .int .i64 0, .int .i64 2, .int .i64 0, .int .i64 0], .slice (some ⟨w.heap.size, 0, none⟩) 3 3, .tuple #[.slice Aa 3 ca, .int .i64 0], .slice (some ⟨w.heap.size, 0, none⟩) 3 3, .agg #[.string ⟨#[]⟩, .slice (some ⟨w.heap.size, 0, none⟩) 3 3], .tuple #[.slice Aa 3 ca, .int .i64 0], .slice Aa 3 ca, .int .i64 0, .tuple #[.slice Ab 0 cb, .int .i64 0], .slice (some ⟨w.heap.size, 0, none⟩) 3 3, .agg #[.string ⟨#[]⟩, .slice (some ⟨w.heap.size, 0, none⟩) 3 3], .tuple #[.slice Ab 0 cb, .int .i64 0], .slice Ab 0 cb, .int .i64 0, undef, .slice (some ⟨w.heap.size, 0, none⟩) 3 3, .pointer (some ⟨w.heap.size, 0, none⟩), undef, .slice (some ⟨w.heap.size, 0, none⟩) 3 3, .pointer (some ⟨w.heap.size, 16, none⟩), .agg #[.int .i64 1, .int .i64 0, .int .i64 0, .int .i64 0, .int .i64 0, .int .i64 2, .int .i64 0, .int .i64 0], undef, undef, undef, undef, undef, undef, undef, undef, undef, undef, undef, undef, undef, undef, undef, undef, undef, undef, undef, undef, undef, undef, undef, undef, undef, undef, undef, undef, undef, undef, undef, undef, undef, undef, undef, undef, undef, undef, undef, undef, undef, undef, undef, undef, undef, undef, undef, undef, undef, undef, undef, undef, undef, undef, undef, undef, undef], defers := [] } Z1 := by
    refine (hG _ _ _ _).2 ?_
    refine wpAnyIn_ready (rs := [2]) (by kernel_rfl) (by simp) ?_
    refine AllReadyIn.cons rfl (fun K hK => ?_) (AllReadyIn.nil)
    · go_simp
      refine hK _ _ ?_
      clear hK K
      (try simp only [Act.put, List.setIfInBounds_toArray, List.set_cons_zero, List.set_cons_succ])
      exact (hG _ _ _ _).1 hs11111100000000
  have hs11110000000000 : G 10 #[true, true, true, true, false, false, false, false, false, false, false, false, false, false] { tmps := #[.bool false, .slice (some ⟨w.heap.size, 0, none⟩) 3 3, .slice Aa 3 ca, .int .i64 0, .slice Ab 0 cb, .int .i64 0, undef, undef, undef, undef, undef, undef, .agg #[.int .i64 1, .int .i64 0, .int .i64 0, .int .i64 0, .int .i64 0, .int .i64 1, .int .i64 0, .int .i64 0], .agg #[.int .i64 2, .int .i64 1, .int .i64 0, .int .i64 0, .int .i64 0, .int .i64 0, .int .i64 0, .int .i64 0], .agg #[.int .i64 1, .int .i64 0, .int .i64 0, .int .i64 0, .int .i64 0, .int .i64 2, .int .i64 0, .int .i64 0], .slice (some ⟨w.heap.size, 0, none⟩) 3 3, .tuple #[.slice Aa 3 ca, .int .i64 0], .slice (some ⟨w.heap.size, 0, none⟩) 3 3, .agg #[.string ⟨#[]⟩, .slice (some ⟨w.heap.size, 0, none⟩) 3 3], .tuple #[.slice Aa 3 ca, .int .i64 0], .slice Aa 3 ca, .int .i64 0, .tuple #[.slice Ab 0 cb, .int .i64 0], .slice (some ⟨w.heap.size, 0, none⟩) 3 3, .agg #[.string ⟨#[]⟩, .slice (some ⟨w.heap.size, 0, none⟩) 3 3], .tuple #[.slice Ab 0 cb, .int .i64 0], .slice Ab 0 cb, .int .i64 0, undef, .slice (some ⟨w.heap.size, 0, none⟩) 3 3, .pointer (some ⟨w.heap.size, 0, none⟩), .agg #[.int .i64 1, .int .i64 0, .int .i64 0, .int .i64 0, .int .i64 0, .int .i64 1, .int .i64 0, .int .i64 0], .slice (some ⟨w.heap.size, 0, none⟩) 3 3, undef, undef, undef, undef, undef, undef, undef, undef, undef, undef, undef, undef, undef, undef, undef, undef, undef, undef, undef, undef, undef, undef, undef, undef, undef, undef, undef, undef, undef, undef, undef, undef, undef, undef, undef, undef, undef, undef, undef, undef, undef, undef, undef, undef, undef, undef, undef, undef, undef, undef, undef, undef, undef, undef, undef, undef, undef, undef, undef], defers := [] } Z1 := by
    refine (hG _ _ _ _).2 ?_
    refine wpAnyIn_ready (rs := [4]) (by kernel_rfl) (by simp) ?_
    refine AllReadyIn.cons rfl (fun K hK => ?_) (AllReadyIn.nil)
    · go_simp
      refine hK _ _ ?_
      clear hK K
      (try simp only [Act.put, List.setIfInBounds_toArray, List.set_cons_zero, List.set_cons_succ])
      exact (hG _ _ _ _).1 hs11111000000000
  have hs11011000000000 : G 10 #[true, true, false, true, true, false, false, false, false, false, false, false, false, false] { tmps := #[.bool false, .slice (some ⟨w.heap.size, 0, none⟩) 3 3, .slice Aa 3 ca, .int .i64 0, .slice Ab 0 cb, .int .i64 0, undef, undef, undef, undef, undef, undef, .agg #[.int .i64 1, .int .i64 0, .int .i64 0, .int .i64 0, .int .i64 0, .int .i64 1, .int .i64 0, .int .i64 0], .agg #[.int .i64 2, .int .i64 1, .int .i64 0, .int .i64 0, .int .i64 0, .int .i64 0, .int .i64 0, .int .i64 0], .agg #[.int .i64 1, .int .i64 0, .int .i64 0, .int .i64 0, .int .i64 0, .int .i64 2, .int .i64 0, .int .i64 0], .slice (some ⟨w.heap.size, 0, none⟩) 3 3, .tuple #[.slice Aa 3 ca, .int .i64 0], .slice (some ⟨w.heap.size, 0, none⟩) 3 3, .agg #[.string ⟨#[]⟩, .slice (some ⟨w.heap.size, 0, none⟩) 3 3], .tuple #[.slice Aa 3 ca, .int .i64 0], .slice Aa 3 ca, .int .i64 0, .tuple #[.slice Ab 0 cb, .int .i64 0], .slice (some ⟨w.heap.size, 0, none⟩) 3 3, .agg #[.string ⟨#[]⟩, .slice (some ⟨w.heap.size, 0, none⟩) 3 3], .tuple #[.slice Ab 0 cb, .int .i64 0], .slice Ab 0 cb, .int .i64 0, undef, .slice (some ⟨w.heap.size, 0, none⟩) 3 3, .pointer (some ⟨w.heap.size, 0, none⟩), undef, .slice (some ⟨w.heap.size, 0, none⟩) 3 3, .pointer (some ⟨w.heap.size, 16, none⟩), undef, undef, undef, undef, undef, undef, undef, undef, undef, undef, undef, undef, undef, undef, undef, undef, undef, undef, undef, undef, undef, undef, undef, undef, undef, undef, undef, undef, undef, undef, undef, undef, undef, undef, undef, undef, undef, undef, undef, undef, undef, undef, undef, undef, undef, undef, undef, undef, undef, undef, undef, undef, undef, undef, undef, undef, undef, undef], defers := [] } Z1 := by
    refine (hG _ _ _ _).2 ?_
    refine wpAnyIn_ready (rs := [2, 5]) (by kernel_rfl) (by simp) ?_
    refine AllReadyIn.cons rfl (fun K hK => ?_) (AllReadyIn.cons rfl (fun K hK => ?_) (AllReadyIn.nil))
    · go_simp
      refine hK _ _ ?_
      clear hK K
      (try simp only [Act.put, List.setIfInBounds_toArray, List.set_cons_zero, List.set_cons_succ])
      exact (hG _ _ _ _).1 hs11111000000000
    · go_simp
      refine hK _ _ ?_
      clear hK K
      (try simp only [Act.put, List.setIfInBounds_toArray, List.set_cons_zero, List.set_cons_succ])
      exact (hG _ _ _ _).1 hs11011100000000
  have hs10011100000000 : G 10 #[true, false, false, true, true, true, false, false, false, false, false, false, false, false] { tmps := #[.bool false, .slice (some ⟨w.heap.size, 0, none⟩) 3 3, .slice Aa 3 ca, .int .i64 0, .slice Ab 0 cb, .int .i64 0, undef, undef, undef, undef, undef, undef, .agg #[.int .i64 1, .int .i64 0, .int .i64 0, .int .i64 0, .int .i64 0, .int .i64 1, .int .i64 0, .int .i64 0], .agg #[.int .i64 2, .int .i64 1, .int .i64 0, .int .i64 0, .int .i64 0, .int .i64 0, .int .i64 0, .int .i64 0], .agg #[.int .i64 1, .int .i64 0, .int .i64 0, .int .i64 0, .int .i64 0, .int .i64 2, .int .i64 0, .int .i64 0], .slice (some ⟨w.heap.size, 0, none⟩) 3 3, .tuple #[.slice Aa 3 ca, .int .i64 0], .slice (some ⟨w.heap.size, 0, none⟩) 3 3, .agg #[.string ⟨#[]⟩, .slice (some ⟨w.heap.size, 0, none⟩) 3 3], .tuple #[.slice Aa 3 ca, .int .i64 0], .slice Aa 3 ca, .int .i64 0, .tuple #[.slice Ab 0 cb, .int .i64 0], .slice (some ⟨w.heap.size, 0, none⟩) 3 3, .agg #[.string ⟨#[]⟩, .slice (some ⟨w.heap.size, 0, none⟩) 3 3], .tuple #[.slice Ab 0 cb, .int .i64 0], .slice Ab 0 cb, .int .i64 0, undef, .slice (some ⟨w.heap.size, 0, none⟩) 3 3, undef, undef, .slice (some ⟨w.heap.size, 0, none⟩) 3 3, .pointer (some ⟨w.heap.size, 16, none⟩), .agg #[.int .i64 1, .int .i64 0, .int .i64 0, .int .i64 0, .int .i64 0, .int .i64 2, .int .i64 0, .int .i64 0], undef, undef, undef, undef, undef, undef, undef, undef, undef, undef, undef, undef, undef, undef, undef, undef, undef, undef, undef, undef, undef, undef, undef, undef, undef, undef, undef, undef, undef, undef, undef, undef, undef, undef, undef, undef, undef, undef, undef, undef, undef, undef, undef, undef, undef, undef, undef, undef, undef, undef, undef, undef, undef, undef, undef, undef, undef], defers := [] } Z1 := by
    refine (hG _ _ _ _).2 ?_
    refine wpAnyIn_ready (rs := [1]) (by kernel_rfl) (by simp) ?_
    refine AllReadyIn.cons rfl (fun K hK => ?_) (AllReadyIn.nil)
    · go_simp
      refine hK _ _ ?_
      clear hK K
      (try simp only [Act.put, List.setIfInBounds_toArray, List.set_cons_zero, List.set_cons_succ])
      exact (hG _ _ _ _).1 hs11011100000000
  have hs11100000000000 : G 11 #[true, true, true, false, false, false, false, false, false, false, false, false, false, false] { tmps := #[.bool false, .slice (some ⟨w.heap.size, 0, none⟩) 3 3, .slice Aa 3 ca, .int .i64 0, .slice Ab 0 cb, .int .i64 0, undef, undef, undef, undef, undef, undef, .agg #[.int .i64 1, .int .i64 0, .int .i64 0, .int .i64 0, .int .i64 0, .int .i64 1, .int .i64 0, .int .i64 0], .agg #[.int .i64 2, .int .i64 1, .int .i64 0, .int .i64 0, .int .i64 0, .int .i64 0, .int .i64 0, .int .i64 0], .agg #[.int .i64 1, .int .i64 0, .int .i64 0, .int .i64 0, .int .i64 0, .int .i64 2, .int .i64 0, .int .i64 0], .slice (some ⟨w.heap.size, 0, none⟩) 3 3, .tuple #[.slice Aa 3 ca, .int .i64 0], .slice (some ⟨w.heap.size, 0, none⟩) 3 3, .agg #[.string ⟨#[]⟩, .slice (some ⟨w.heap.size, 0, none⟩) 3 3], .tuple #[.slice Aa 3 ca, .int .i64 0], .slice Aa 3 ca, .int .i64 0, .tuple #[.slice Ab 0 cb, .int .i64 0], .slice (some ⟨w.heap.size, 0, none⟩) 3 3, .agg #[.string ⟨#[]⟩, .slice (some ⟨w.heap.size, 0, none⟩) 3 3], .tuple #[.slice Ab 0 cb, .int .i64 0], .slice Ab 0 cb, .int .i64 0, undef, .slice (some ⟨w.heap.size, 0, none⟩) 3 3, .pointer (some ⟨w.heap.size, 0, none⟩), .agg #[.int .i64 1, .int .i64 0, .int .i64 0, .int .i64 0, .int .i64 0, .int .i64 1, .int .i64 0, .int .i64 0], undef, undef, undef, undef, undef, undef, undef, undef, undef, undef, undef, undef, undef, undef, undef, undef, undef, undef, undef, undef, undef, undef, undef, undef, undef, undef, undef, undef, undef, undef, undef, undef, undef, undef, undef, undef, undef, undef, undef, undef, undef, undef, undef, undef, undef, undef, undef, undef, undef, undef, undef, undef, undef, undef, undef, undef, undef, undef, undef, undef], defers := [] } Z1 := by
    refine (hG _ _ _ _).2 ?_
    refine wpAnyIn_ready (rs := [3]) (by kernel_rfl) (by simp) ?_
    refine AllReadyIn.cons rfl (fun K hK => ?_) (AllReadyIn.nil)
    · go_simp
      refine hK _ _ ?_
      clear hK K
      (try simp only [Act.put, List.setIfInBounds_toArray, List.set_cons_zero, List.set_cons_succ])
      exact (hG _ _ _ _).1 hs11110000000000
  have hs11010000000000 : G 11 #[true, true, false, true, false, false, false, false, false, false, false, false, false, false] { tmps := #[.bool false, .slice (some ⟨w.heap.size, 0, none⟩) 3 3, .slice Aa 3 ca, .int .i64 0, .slice Ab 0 cb, .int .i64 0, undef, undef, undef, undef, undef, undef, .agg #[.int .i64 1, .int .i64 0, .int .i64 0, .int .i64 0, .int .i64 0, .int .i64 1, .int .i64 0, .int .i64 0], .agg #[.int .i64 2, .int .i64 1, .int .i64 0, .int .i64 0, .int .i64 0, .int .i64 0, .int .i64 0, .int .i64 0], .agg #[.int .i64 1, .int .i64 0, .int .i64 0, .int .i64 0, .int .i64 0, .int .i64 2, .int .i64 0, .int .i64 0], .slice (some ⟨w.heap.size, 0, none⟩) 3 3, .tuple #[.slice Aa 3 ca, .int .i64 0], .slice (some ⟨w.heap.size, 0, none⟩) 3 3, .agg #[.string ⟨#[]⟩, .slice (some ⟨w.heap.size, 0, none⟩) 3 3], .tuple #[.slice Aa 3 ca, .int .i64 0], .slice Aa 3 ca, .int .i64 0, .tuple #[.slice Ab 0 cb, .int .i64 0], .slice (some ⟨w.heap.size, 0, none⟩) 3 3, .agg #[.string ⟨#[]⟩, .slice (some ⟨w.heap.size, 0, none⟩) 3 3], .tuple #[.slice Ab 0 cb, .int .i64 0], .slice Ab 0 cb, .int .i64 0, undef, .slice (some ⟨w.heap.size, 0, none⟩) 3 3, .pointer (some ⟨w.heap.size, 0, none⟩), undef, .slice (some ⟨w.heap.size, 0, none⟩) 3 3, undef, undef, undef, undef, undef, undef, undef, undef, undef, undef, undef, undef, undef, undef, undef, undef, undef, undef, undef, undef, undef, undef, undef, undef, undef, undef, undef, undef, undef, undef, undef, undef, undef, undef, undef, undef, undef, undef, undef, undef, undef, undef, undef, undef, undef, undef, undef, undef, undef, undef, undef, undef, undef, undef, undef, undef, undef, undef, undef], defers := [] } Z1 := by
    refine (hG _ _ _ _).2 ?_
    refine wpAnyIn_ready (rs := [2, 4]) (by kernel_rfl) (by simp) ?_
    refine AllReadyIn.cons rfl (fun K hK => ?_) (AllReadyIn.cons rfl (fun K hK => ?_) (AllReadyIn.nil))
    · go_simp
      refine hK _ _ ?_
      clear hK K
      (try simp only [Act.put, List.setIfInBounds_toArray, List.set_cons_zero, List.set_cons_succ])
      exact (hG _ _ _ _).1 hs11110000000000
    · go_simp
      refine hK _ _ ?_
      clear hK K
      (try simp only [Act.put, List.setIfInBounds_toArray, List.set_cons_zero, List.set_cons_succ])
      exact (hG _ _ _ _).1 hs11011000000000
  have hs10011000000000 : G 11 #[true, false, false, true, true, false, false, false, false, false, false, false, false, false] { tmps := #[.bool false, .slice (some ⟨w.heap.size, 0, none⟩) 3 3, .slice Aa 3 ca, .int .i64 0, .slice Ab 0 cb, .int .i64 0, undef, undef, undef, undef, undef, undef, .agg #[.int .i64 1, .int .i64 0, .int .i64 0, .int .i64 0, .int .i64 0, .int .i64 1, .int .i64 0, .int .i64 0], .agg #[.int .i64 2, .int .i64 1, .int .i64 0, .int .i64 0, .int .i64 0, .int .i64 0, .int .i64 0, .int .i64 0], .agg #[.int .i64 1, .int .i64 0, .int .i64 0, .int .i64 0, .int .i64 0, .int .i64 2, .int .i64 0, .int .i64 0], .slice (some ⟨w.heap.size, 0, none⟩) 3 3, .tuple #[.slice Aa 3 ca, .int .i64 0], .slice (some ⟨w.heap.size, 0, none⟩) 3 3, .agg #[.string ⟨#[]⟩, .slice (some ⟨w.heap.size, 0, none⟩) 3 3], .tuple #[.slice Aa 3 ca, .int .i64 0], .slice Aa 3 ca, .int .i64 0, .tuple #[.slice Ab 0 cb, .int .i64 0], .slice (some ⟨w.heap.size, 0, none⟩) 3 3, .agg #[.string ⟨#[]⟩, .slice (some ⟨w.heap.size, 0, none⟩) 3 3], .tuple #[.slice Ab 0 cb, .int .i64 0], .slice Ab 0 cb, .int .i64 0, undef, .slice (some ⟨w.heap.size, 0, none⟩) 3 3, undef, undef, .slice (some ⟨w.heap.size, 0, none⟩) 3 3, .pointer (some ⟨w.heap.size, 16, none⟩), undef, undef, undef, undef, undef, undef, undef, undef, undef, undef, undef, undef, undef, undef, undef, undef, undef, undef, undef, undef, undef, undef, undef, undef, undef, undef, undef, undef, undef, undef, undef, undef, undef, undef, undef, undef, undef, undef, undef, undef, undef, undef, undef, undef, undef, undef, undef, undef, undef, undef, undef, undef, undef, undef, undef, undef, undef, undef], defers := [] } Z1 := by
    refine (hG _ _ _ _).2 ?_
    refine wpAnyIn_ready (rs := [1, 5]) (by kernel_rfl) (by simp) ?_
    refine AllReadyIn.cons rfl (fun K hK => ?_) (AllReadyIn.cons rfl (fun K hK => ?_) (AllReadyIn.nil))
    · go_simp
      refine hK _ _ ?_
      clear hK K
      (try simp only [Act.put, List.setIfInBounds_toArray, List.set_cons_zero, List.set_cons_succ])
      exact (hG _ _ _ _).1 hs11011000000000
    · go_simp
      refine hK _ _ ?_
      clear hK K
      (try simp only [Act.put, List.setIfInBounds_toArray, List.set_cons_zero, List.set_cons_succ])
      exact (hG _ _ _ _).1 hs10011100000000
  have hs00011100000000 : G 11 #[false, false, false, true, true, true, false, false, false, false, false, false, false, false] { tmps := #[.bool false, .slice (some ⟨w.heap.size, 0, none⟩) 3 3, .slice Aa 3 ca, .int .i64 0, .slice Ab 0 cb, .int .i64 0, undef, undef, undef, undef, undef, undef, .agg #[.int .i64 1, .int .i64 0, .int .i64 0, .int .i64 0, .int .i64 0, .int .i64 1, .int .i64 0, .int .i64 0], .agg #[.int .i64 2, .int .i64 1, .int .i64 0, .int .i64 0, .int .i64 0, .int .i64 0, .int .i64 0, .int .i64 0], .agg #[.int .i64 1, .int .i64 0, .int .i64 0, .int .i64 0, .int .i64 0, .int .i64 2, .int .i64 0, .int .i64 0], .slice (some ⟨w.heap.size, 0, none⟩) 3 3, .tuple #[.slice Aa 3 ca, .int .i64 0], .slice (some ⟨w.heap.size, 0, none⟩) 3 3, .agg #[.string ⟨#[]⟩, .slice (some ⟨w.heap.size, 0, none⟩) 3 3], .tuple #[.slice Aa 3 ca, .int .i64 0], .slice Aa 3 ca, .int .i64 0, .tuple #[.slice Ab 0 cb, .int .i64 0], .slice (some ⟨w.heap.size, 0, none⟩) 3 3, .agg #[.string ⟨#[]⟩, .slice (some ⟨w.heap.size, 0, none⟩) 3 3], .tuple #[.slice Ab 0 cb, .int .i64 0], .slice Ab 0 cb, .int .i64 0, undef, undef, undef, undef, .slice (some ⟨w.heap.size, 0, none⟩) 3 3, .pointer (some ⟨w.heap.size, 16, none⟩), .agg #[.int .i64 1, .int .i64 0, .int .i64 0, .int .i64 0, .int .i64 0, .int .i64 2, .int .i64 0, .int .i64 0], undef, undef, undef, undef, undef, undef, undef, undef, undef, undef, undef, undef, undef, undef, undef, undef, undef, undef, undef, undef, undef, undef, undef, undef, undef, undef, undef, undef, undef, undef, undef, undef, undef, undef, undef, undef, undef, undef, undef, undef, undef, undef, undef, undef, undef, undef, undef, undef, undef, undef, undef, undef, undef, undef, undef, undef, undef], defers := [] } Z1 := by
    refine (hG _ _ _ _).2 ?_
    refine wpAnyIn_ready (rs := [0]) (by kernel_rfl) (by simp) ?_
    refine AllReadyIn.cons rfl (fun K hK => ?_) (AllReadyIn.nil)
    · go_simp
      refine hK _ _ ?_
      clear hK K
      (try simp only [Act.put, List.setIfInBounds_toArray, List.set_cons_zero, List.set_cons_succ])
      exact (hG _ _ _ _).1 hs10011100000000
  have hs11000000000000 : G 12 #[true, true, false, false, false, false, false, false, false, false, false, false, false, false] { tmps := #[.bool false, .slice (some ⟨w.heap.size, 0, none⟩) 3 3, .slice Aa 3 ca, .int .i64 0, .slice Ab 0 cb, .int .i64 0, undef, undef, undef, undef, undef, undef, .agg #[.int .i64 1, .int .i64 0, .int .i64 0, .int .i64 0, .int .i64 0, .int .i64 1, .int .i64 0, .int .i64 0], .agg #[.int .i64 2, .int .i64 1, .int .i64 0, .int .i64 0, .int .i64 0, .int .i64 0, .int .i64 0, .int .i64 0], .agg #[.int .i64 1, .int .i64 0, .int .i64 0, .int .i64 0, .int .i64 0, .int .i64 2, .int .i64 0, .int .i64 0], .slice (some ⟨w.heap.size, 0, none⟩) 3 3, .tuple #[.slice Aa 3 ca, .int .i64 0], .slice (some ⟨w.heap.size, 0, none⟩) 3 3, .agg #[.string ⟨#[]⟩, .slice (some ⟨w.heap.size, 0, none⟩) 3 3], .tuple #[.slice Aa 3 ca, .int .i64 0], .slice Aa 3 ca, .int .i64 0, .tuple #[.slice Ab 0 cb, .int .i64 0], .slice (some ⟨w.heap.size, 0, none⟩) 3 3, .agg #[.string ⟨#[]⟩, .slice (some ⟨w.heap.size, 0, none⟩) 3 3], .tuple #[.slice Ab 0 cb, .int .i64 0], .slice Ab 0 cb, .int .i64 0, undef, .slice (some ⟨w.heap.size, 0, none⟩) 3 3, .pointer (some ⟨w.heap.size, 0, none⟩), undef, undef, undef, undef, undef, undef, undef, undef, undef, undef, undef, undef, undef, undef, undef, undef, undef, undef, undef, undef, undef, undef, undef, undef, undef, undef, undef, undef, undef, undef, undef, undef, undef, undef, undef, undef, undef, undef, undef, undef, undef, undef, undef, undef, undef, undef, undef, undef, undef, undef, undef, undef, undef, undef, undef, undef, undef, undef, undef, undef, undef], defers := [] } Z1 := by
    refine (hG _ _ _ _).2 ?_
    refine wpAnyIn_ready (rs := [2, 3]) (by kernel_rfl) (by simp) ?_
    refine AllReadyIn.cons rfl (fun K hK => ?_) (AllReadyIn.cons rfl (fun K hK => ?_) (AllReadyIn.nil))
    · go_simp
      refine hK _ _ ?_
      clear hK K
      (try simp only [Act.put, List.setIfInBounds_toArray, List.set_cons_zero, List.set_cons_succ])
      exact (hG _ _ _ _).1 hs11100000000000
    · go_simp
      refine hK _ _ ?_
      clear hK K
      (try simp only [Act.put, List.setIfInBounds_toArray, List.set_cons_zero, List.set_cons_succ])
      exact (hG _ _ _ _).1 hs11010000000000
  have hs10010000000000 : G 12 #[true, false, false, true, false, false, false, false, false, false, false, false, false, false] { tmps := #[.bool false, .slice (some ⟨w.heap.size, 0, none⟩) 3 3, .slice Aa 3 ca, .int .i64 0, .slice Ab 0 cb, .int .i64 0, undef, undef, undef, undef, undef, undef, .agg #[.int .i64 1, .int .i64 0, .int .i64 0, .int .i64 0, .int .i64 0, .int .i64 1, .int .i64 0, .int .i64 0], .agg #[.int .i64 2, .int .i64 1, .int .i64 0, .int .i64 0, .int .i64 0, .int .i64 0, .int .i64 0, .int .i64 0], .agg #[.int .i64 1, .int .i64 0, .int .i64 0, .int .i64 0, .int .i64 0, .int .i64 2, .int .i64 0, .int .i64 0], .slice (some ⟨w.heap.size, 0, none⟩) 3 3, .tuple #[.slice Aa 3 ca, .int .i64 0], .slice (some ⟨w.heap.size, 0, none⟩) 3 3, .agg #[.string ⟨#[]⟩, .slice (some ⟨w.heap.size, 0, none⟩) 3 3], .tuple #[.slice Aa 3 ca, .int .i64 0], .slice Aa 3 ca, .int .i64 0, .tuple #[.slice Ab 0 cb, .int .i64 0], .slice (some ⟨w.heap.size, 0, none⟩) 3 3, .agg #[.string ⟨#[]⟩, .slice (some ⟨w.heap.size, 0, none⟩) 3 3], .tuple #[.slice Ab 0 cb, .int .i64 0], .slice Ab 0 cb, .int .i64 0, undef, .slice (some ⟨w.heap.size, 0, none⟩) 3 3, undef, undef, .slice (some ⟨w.heap.size, 0, none⟩) 3 3, undef, undef, undef, undef, undef, undef, undef, undef, undef, undef, undef, undef, undef, undef, undef, undef, undef, undef, undef, undef, undef, undef, undef, undef, undef, undef, undef, undef, undef, undef, undef, undef, undef, undef, undef, undef, undef, undef, undef, undef, undef, undef, undef, undef, undef, undef, undef, undef, undef, undef, undef, undef, undef, undef, undef, undef, undef, undef, undef], defers := [] } Z1 := by
    refine (hG _ _ _ _).2 ?_
    refine wpAnyIn_ready (rs := [1, 4]) (by kernel_rfl) (by simp) ?_
    refine AllReadyIn.cons rfl (fun K hK => ?_) (AllReadyIn.cons rfl (fun K hK => ?_) (AllReadyIn.nil))
    · go_simp
      refine hK _ _ ?_
      clear hK K
      (try simp only [Act.put, List.setIfInBounds_toArray, List.set_cons_zero, List.set_cons_succ])
      exact (hG _ _ _ _).1 hs11010000000000
    · go_simp
      refine hK _ _ ?_
      clear hK K
      (try simp only [Act.put, List.setIfInBounds_toArray, List.set_cons_zero, List.set_cons_succ])
      exact (hG _ _ _ _).1 hs10011000000000
  have hs00011000000000 : G 12 #[false, false, false, true, true, false, false, false, false, false, false, false, false, false] { tmps := #[.bool false, .slice (some ⟨w.heap.size, 0, none⟩) 3 3, .slice Aa 3 ca, .int .i64 0, .slice Ab 0 cb, .int .i64 0, undef, undef, undef, undef, undef, undef, .agg #[.int .i64 1, .int .i64 0, .int .i64 0, .int .i64 0, .int .i64 0, .int .i64 1, .int .i64 0, .int .i64 0], .agg #[.int .i64 2, .int .i64 1, .int .i64 0, .int .i64 0, .int .i64 0, .int .i64 0, .int .i64 0, .int .i64 0], .agg #[.int .i64 1, .int .i64 0, .int .i64 0, .int .i64 0, .int .i64 0, .int .i64 2, .int .i64 0, .int .i64 0], .slice (some ⟨w.heap.size, 0, none⟩) 3 3, .tuple #[.slice Aa 3 ca, .int .i64 0], .slice (some ⟨w.heap.size, 0, none⟩) 3 3, .agg #[.string ⟨#[]⟩, .slice (some ⟨w.heap.size, 0, none⟩) 3 3], .tuple #[.slice Aa 3 ca, .int .i64 0], .slice Aa 3 ca, .int .i64 0, .tuple #[.slice Ab 0 cb, .int .i64 0], .slice (some ⟨w.heap.size, 0, none⟩) 3 3, .agg #[.string ⟨#[]⟩, .slice (some ⟨w.heap.size, 0, none⟩) 3 3], .tuple #[.slice Ab 0 cb, .int .i64 0], .slice Ab 0 cb, .int .i64 0, undef, undef, undef, undef, .slice (some ⟨w.heap.size, 0, none⟩) 3 3, .pointer (some ⟨w.heap.size, 16, none⟩), undef, undef, undef, undef, undef, undef, undef, undef, undef, undef, undef, undef, undef, undef, undef, undef, undef, undef, undef, undef, undef, undef, undef, undef, undef, undef, undef, undef, undef, undef, undef, undef, undef, undef, undef, undef, undef, undef, undef, undef, undef, undef, undef, undef, undef, undef, undef, undef, undef, undef, undef, undef, undef, undef, undef, undef, undef, undef], defers := [] } Z1 := by
    refine (hG _ _ _ _).2 ?_
    refine wpAnyIn_ready (rs := [0, 5]) (by kernel_rfl) (by simp) ?_
    refine AllReadyIn.cons rfl (fun K hK => ?_) (AllReadyIn.cons rfl (fun K hK => ?_) (AllReadyIn.nil))
    · go_simp
      refine hK _ _ ?_
      clear hK K
      (try simp only [Act.put, List.setIfInBounds_toArray, List.set_cons_zero, List.set_cons_succ])
      exact (hG _ _ _ _).1 hs10011000000000
    · go_simp
      refine hK _ _ ?_
      clear hK K
      (try simp only [Act.put, List.setIfInBounds_toArray, List.set_cons_zero, List.set_cons_succ])
      exact (hG _ _ _ _).1 hs00011100000000
  have hs10000000000000 : G 13 #[true, false, false, false, false, false, false, false, false, false, false, false, false, false] { tmps := #[.bool false, .slice (some ⟨w.heap.size, 0, none⟩) 3 3, .slice Aa 3 ca, .int .i64 0, .slice Ab 0 cb, .int .i64 0, undef, undef, undef, undef, undef, undef, .agg #[.int .i64 1, .int .i64 0, .int .i64 0, .int .i64 0, .int .i64 0, .int .i64 1, .int .i64 0, .int .i64 0], .agg #[.int .i64 2, .int .i64 1, .int .i64 0, .int .i64 0, .int .i64 0, .int .i64 0, .int .i64 0, .int .i64 0], .agg #[.int .i64 1, .int .i64 0, .int .i64 0, .int .i64 0, .int .i64 0, .int .i64 2, .int .i64 0, .int .i64 0], .slice (some ⟨w.heap.size, 0, none⟩) 3 3, .tuple #[.slice Aa 3 ca, .int .i64 0], .slice (some ⟨w.heap.size, 0, none⟩) 3 3, .agg #[.string ⟨#[]⟩, .slice (some ⟨w.heap.size, 0, none⟩) 3 3], .tuple #[.slice Aa 3 ca, .int .i64 0], .slice Aa 3 ca, .int .i64 0, .tuple #[.slice Ab 0 cb, .int .i64 0], .slice (some ⟨w.heap.size, 0, none⟩) 3 3, .agg #[.string ⟨#[]⟩, .slice (some ⟨w.heap.size, 0, none⟩) 3 3], .tuple #[.slice Ab 0 cb, .int .i64 0], .slice Ab 0 cb, .int .i64 0, undef, .slice (some ⟨w.heap.size, 0, none⟩) 3 3, undef, undef, undef, undef, undef, undef, undef, undef, undef, undef, undef, undef, undef, undef, undef, undef, undef, undef, undef, undef, undef, undef, undef, undef, undef, undef, undef, undef, undef, undef, undef, undef, undef, undef, undef, undef, undef, undef, undef, undef, undef, undef, undef, undef, undef, undef, undef, undef, undef, undef, undef, undef, undef, undef, undef, undef, undef, undef, undef, undef, undef, undef], defers := [] } Z1 := by
    refine (hG _ _ _ _).2 ?_
    refine wpAnyIn_ready (rs := [1, 3]) (by kernel_rfl) (by simp) ?_
    refine AllReadyIn.cons rfl (fun K hK => ?_) (AllReadyIn.cons rfl (fun K hK => ?_) (AllReadyIn.nil))
    · go_simp
      refine hK _ _ ?_
      clear hK K
      (try simp only [Act.put, List.setIfInBounds_toArray, List.set_cons_zero, List.set_cons_succ])
      exact (hG _ _ _ _).1 hs11000000000000
    · go_simp
      refine hK _ _ ?_
      clear hK K
      (try simp only [Act.put, List.setIfInBounds_toArray, List.set_cons_zero, List.set_cons_succ])
      exact (hG _ _ _ _).1 hs10010000000000
  have hs00010000000000 : G 13 #[false, false, false, true, false, false, false, false, false, false, false, false, false, false] { tmps := #[.bool false, .slice (some ⟨w.heap.size, 0, none⟩) 3 3, .slice Aa 3 ca, .int .i64 0, .slice Ab 0 cb, .int .i64 0, undef, undef, undef, undef, undef, undef, .agg #[.int .i64 1, .int .i64 0, .int .i64 0, .int .i64 0, .int .i64 0, .int .i64 1, .int .i64 0, .int .i64 0], .agg #[.int .i64 2, .int .i64 1, .int .i64 0, .int .i64 0, .int .i64 0, .int .i64 0, .int .i64 0, .int .i64 0], .agg #[.int .i64 1, .int .i64 0, .int .i64 0, .int .i64 0, .int .i64 0, .int .i64 2, .int .i64 0, .int .i64 0], .slice (some ⟨w.heap.size, 0, none⟩) 3 3, .tuple #[.slice Aa 3 ca, .int .i64 0], .slice (some ⟨w.heap.size, 0, none⟩) 3 3, .agg #[.string ⟨#[]⟩, .slice (some ⟨w.heap.size, 0, none⟩) 3 3], .tuple #[.slice Aa 3 ca, .int .i64 0], .slice Aa 3 ca, .int .i64 0, .tuple #[.slice Ab 0 cb, .int .i64 0], .slice (some ⟨w.heap.size, 0, none⟩) 3 3, .agg #[.string ⟨#[]⟩, .slice (some ⟨w.heap.size, 0, none⟩) 3 3], .tuple #[.slice Ab 0 cb, .int .i64 0], .slice Ab 0 cb, .int .i64 0, undef, undef, undef, undef, .slice (some ⟨w.heap.size, 0, none⟩) 3 3, undef, undef, undef, undef, undef, undef, undef, undef, undef, undef, undef, undef, undef, undef, undef, undef, undef, undef, undef, undef, undef, undef, undef, undef, undef, undef, undef, undef, undef, undef, undef, undef, undef, undef, undef, undef, undef, undef, undef, undef, undef, undef, undef, undef, undef, undef, undef, undef, undef, undef, undef, undef, undef, undef, undef, undef, undef, undef, undef], defers := [] } Z1 := by
    refine (hG _ _ _ _).2 ?_
    refine wpAnyIn_ready (rs := [0, 4]) (by kernel_rfl) (by simp) ?_
    refine AllReadyIn.cons rfl (fun K hK => ?_) (AllReadyIn.cons rfl (fun K hK => ?_) (AllReadyIn.nil))
    · go_simp
      refine hK _ _ ?_
      clear hK K
      (try simp only [Act.put, List.setIfInBounds_toArray, List.set_cons_zero, List.set_cons_succ])
      exact (hG _ _ _ _).1 hs10010000000000
    · go_simp
      refine hK _ _ ?_
      clear hK K
      (try simp only [Act.put, List.setIfInBounds_toArray, List.set_cons_zero, List.set_cons_succ])
      exact (hG _ _ _ _).1 hs00011000000000
  have hs00000000000000 : G 14 #[false, false, false, false, false, false, false, false, false, false, false, false, false, false] { tmps := #[.bool false, .slice (some ⟨w.heap.size, 0, none⟩) 3 3, .slice Aa 3 ca, .int .i64 0, .slice Ab 0 cb, .int .i64 0, undef, undef, undef, undef, undef, undef, .agg #[.int .i64 1, .int .i64 0, .int .i64 0, .int .i64 0, .int .i64 0, .int .i64 1, .int .i64 0, .int .i64 0], .agg #[.int .i64 2, .int .i64 1, .int .i64 0, .int .i64 0, .int .i64 0, .int .i64 0, .int .i64 0, .int .i64 0], .agg #[.int .i64 1, .int .i64 0, .int .i64 0, .int .i64 0, .int .i64 0, .int .i64 2, .int .i64 0, .int .i64 0], .slice (some ⟨w.heap.size, 0, none⟩) 3 3, .tuple #[.slice Aa 3 ca, .int .i64 0], .slice (some ⟨w.heap.size, 0, none⟩) 3 3, .agg #[.string ⟨#[]⟩, .slice (some ⟨w.heap.size, 0, none⟩) 3 3], .tuple #[.slice Aa 3 ca, .int .i64 0], .slice Aa 3 ca, .int .i64 0, .tuple #[.slice Ab 0 cb, .int .i64 0], .slice (some ⟨w.heap.size, 0, none⟩) 3 3, .agg #[.string ⟨#[]⟩, .slice (some ⟨w.heap.size, 0, none⟩) 3 3], .tuple #[.slice Ab 0 cb, .int .i64 0], .slice Ab 0 cb, .int .i64 0, undef, undef, undef, undef, undef, undef, undef, undef, undef, undef, undef, undef, undef, undef, undef, undef, undef, undef, undef, undef, undef, undef, undef, undef, undef, undef, undef, undef, undef, undef, undef, undef, undef, undef, undef, undef, undef, undef, undef, undef, undef, undef, undef, undef, undef, undef, undef, undef, undef, undef, undef, undef, undef, undef, undef, undef, undef, undef, undef, undef, undef, undef, undef, undef], defers := [] } Z1 := by
    refine (hG _ _ _ _).2 ?_
    refine wpAnyIn_ready (rs := [0, 3]) (by kernel_rfl) (by simp) ?_
    refine AllReadyIn.cons rfl (fun K hK => ?_) (AllReadyIn.cons rfl (fun K hK => ?_) (AllReadyIn.nil))
    · go_simp
      refine hK _ _ ?_
      clear hK K
      (try simp only [Act.put, List.setIfInBounds_toArray, List.set_cons_zero, List.set_cons_succ])
      exact (hG _ _ _ _).1 hs10000000000000
    · go_simp
      refine hK _ _ ?_
      clear hK K
      (try simp only [Act.put, List.setIfInBounds_toArray, List.set_cons_zero, List.set_cons_succ])
      exact (hG _ _ _ _).1 hs00010000000000
  exact hs00000000000000
end Go.Proofs.YtkanamdfjegcbaaDoor
