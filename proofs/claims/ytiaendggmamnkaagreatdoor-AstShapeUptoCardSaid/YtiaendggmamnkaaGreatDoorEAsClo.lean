/-
  The checks of one statement (closures of statementChecks): all but the one on expressions.
-/
import Derived.Test.YtiaendggmamnkaaGreatDoorEAsZ
namespace Go.Proofs.YtiaendggmamnkaaGreatDoor
open Go Go.RowKit

/-- A statement by value. -/
def smV (t : Sm) (A6 A7 A8 : Option Addr) (c6 c7 c8 : Nat) : Value := .agg (smC t.val.kind t.val.name t.val.obj t.val.other t.val.fn t.val.ord (.slice A6 t.val.exprs.length c6) (.slice A7 t.fst.length c7) (.slice A8 t.snd.length c8))
def un0 (b : Bool) (x : Int) : Int := if b = true then 0 else x
theorem iUn0 (b : Bool) (x : Int) (w : World) : Calls Tryz.prog 101 #[.bool b, .int .i64 x] w fun e w' => e = .returned (.int .i64 (un0 b x)) ∧ w' = w := iUnless b x w
set_option linter.unusedSimpArgs false in
set_option maxRecDepth 100000 in
set_option maxHeartbeats 1000000 in
theorem iCk1 (t : Sm) (lv : Nat) (A6 A7 A8 : Option Addr) (c6 c7 c8 : Nat) (w : World) :
    Calls Tryz.prog 146 #[smV t A6 A7 A8 c6 c7 c8, .int .i64 (lv : Int)] w fun e w' => e = .returned (.int .i64 (un0 (decide (lv ≤ 12)) 4)) ∧ Below w.heap.size w w' := by
  obtain ⟨W, hW⟩ : ∃ W, w.alloc (.cells (smC t.val.kind t.val.name t.val.obj t.val.other t.val.fn t.val.ord (.slice A6 t.val.exprs.length c6) (.slice A7 t.fst.length c7) (.slice A8 t.snd.length c8)) 54) = W := ⟨_, rfl⟩
  have hb : Below w.heap.size w W := by rw [← hW]; exact belowAlloc _ _
  have B : Blk W w.heap.size 54 (smC t.val.kind t.val.name t.val.obj t.val.other t.val.fn t.val.ord (.slice A6 t.val.exprs.length c6) (.slice A7 t.fst.length c7) (.slice A8 t.snd.length c8)) := by rw [← hW]; exact Blk.new _ _ _
  have f0 : W.cell? ⟨w.heap.size, 0, none⟩ = some (.int .i64 t.val.kind) := B.cell 0
  have f1 : W.cell? ⟨w.heap.size, 1, none⟩ = some (.string t.val.name) := B.cell 1
  have f2 : W.cell? ⟨w.heap.size, 2, none⟩ = some (.string t.val.obj) := B.cell 2
  have f3 : W.cell? ⟨w.heap.size, 3, none⟩ = some (.string t.val.other) := B.cell 3
  have f4 : W.cell? ⟨w.heap.size, 4, none⟩ = some (.int .i64 t.val.fn) := B.cell 4
  have f5 : W.cell? ⟨w.heap.size, 5, none⟩ = some (.int .i64 t.val.ord) := B.cell 5
  have f6 : W.cell? ⟨w.heap.size, 6, none⟩ = some (.slice A6 t.val.exprs.length c6) := B.cell 6
  have f7 : W.cell? ⟨w.heap.size, 7, none⟩ = some (.slice A7 t.fst.length c7) := B.cell 7
  have f8 : W.cell? ⟨w.heap.size, 8, none⟩ = some (.slice A8 t.snd.length c8) := B.cell 8
  have HUN := Lib.hid (fun b x X => iUn0 b x X)
  have HB := Lib.hid hb
  have HBB := Lib.hid B
  unfold smV
  unfold smC at hW ⊢
  have HW := Lib.hid hW
  clear hW hb B
  have he : decide (lv ≤ 12) = decide ((lv : Int) ≤ 12) := by rw [Bool.eq_iff_iff]; simp; omega
  rw [he]
  clear he
  go_enter Tryz.func146, Tryz.ntmps146
  go_upto_region 1 with fail
  rw [HW.out]
  go_wp2_with fail
  refine (HUN.out _ _ _).mono ?_
  rintro e w' ⟨rfl, rfl⟩
  go_wp2_with fail
  go_ret
  exact ⟨rfl, HB.out⟩
set_option linter.unusedSimpArgs false in
set_option maxRecDepth 100000 in
set_option maxHeartbeats 1000000 in
theorem iCk2 (t : Sm) (lv : Nat) (A6 A7 A8 : Option Addr) (c6 c7 c8 : Nat) (w : World) :
    Calls Tryz.prog 147 #[smV t A6 A7 A8 c6 c7 c8, .int .i64 (lv : Int)] w fun e w' => e = .returned (.int .i64 (un0 (kdOk t.val.kind) 8)) ∧ Below w.heap.size w w' := by
  obtain ⟨W, hW⟩ : ∃ W, w.alloc (.cells (smC t.val.kind t.val.name t.val.obj t.val.other t.val.fn t.val.ord (.slice A6 t.val.exprs.length c6) (.slice A7 t.fst.length c7) (.slice A8 t.snd.length c8)) 54) = W := ⟨_, rfl⟩
  have hb : Below w.heap.size w W := by rw [← hW]; exact belowAlloc _ _
  have B : Blk W w.heap.size 54 (smC t.val.kind t.val.name t.val.obj t.val.other t.val.fn t.val.ord (.slice A6 t.val.exprs.length c6) (.slice A7 t.fst.length c7) (.slice A8 t.snd.length c8)) := by rw [← hW]; exact Blk.new _ _ _
  have f0 : W.cell? ⟨w.heap.size, 0, none⟩ = some (.int .i64 t.val.kind) := B.cell 0
  have f1 : W.cell? ⟨w.heap.size, 1, none⟩ = some (.string t.val.name) := B.cell 1
  have f2 : W.cell? ⟨w.heap.size, 2, none⟩ = some (.string t.val.obj) := B.cell 2
  have f3 : W.cell? ⟨w.heap.size, 3, none⟩ = some (.string t.val.other) := B.cell 3
  have f4 : W.cell? ⟨w.heap.size, 4, none⟩ = some (.int .i64 t.val.fn) := B.cell 4
  have f5 : W.cell? ⟨w.heap.size, 5, none⟩ = some (.int .i64 t.val.ord) := B.cell 5
  have f6 : W.cell? ⟨w.heap.size, 6, none⟩ = some (.slice A6 t.val.exprs.length c6) := B.cell 6
  have f7 : W.cell? ⟨w.heap.size, 7, none⟩ = some (.slice A7 t.fst.length c7) := B.cell 7
  have f8 : W.cell? ⟨w.heap.size, 8, none⟩ = some (.slice A8 t.snd.length c8) := B.cell 8
  have HUN := Lib.hid (fun b x X => iUn0 b x X)
  have HB := Lib.hid hb
  have HBB := Lib.hid B
  unfold smV
  unfold smC at hW ⊢
  have HK := Lib.hid (iKind16 t.val.kind W)
  have HW := Lib.hid hW
  clear hW hb B
  go_enter Tryz.func147, Tryz.ntmps147
  go_upto_region 1 with fail
  rw [HW.out]
  go_wp2_with fail
  refine HK.out.mono ?_
  rintro e w' ⟨rfl, rfl⟩
  go_wp2_with fail
  refine (HUN.out _ _ _).mono ?_
  rintro e w' ⟨rfl, rfl⟩
  go_wp2_with fail
  go_ret
  exact ⟨rfl, HB.out⟩
set_option linter.unusedSimpArgs false in
set_option maxRecDepth 100000 in
set_option maxHeartbeats 1000000 in
theorem iCk3 (m : Nat) (h1 : 1 ≤ m) (h2 : m ≤ 20) (t : Sm) (lv : Nat) (A6 A7 A8 : Option Addr) (c6 c7 c8 : Nat) (w : World) (hk : t.val.kind = (m : Int)) (hT : RwsT w) :
    Calls Tryz.prog 148 #[smV t A6 A7 A8 c6 c7 c8, .int .i64 (lv : Int)] w fun e w' => e = .returned (.int .i64 (un0 (hfB t) 9)) ∧ Below w.heap.size w w' := by
  obtain ⟨W, hW⟩ : ∃ W, w.alloc (.cells (smC t.val.kind t.val.name t.val.obj t.val.other t.val.fn t.val.ord (.slice A6 t.val.exprs.length c6) (.slice A7 t.fst.length c7) (.slice A8 t.snd.length c8)) 54) = W := ⟨_, rfl⟩
  have hb : Below w.heap.size w W := by rw [← hW]; exact belowAlloc _ _
  have B : Blk W w.heap.size 54 (smC t.val.kind t.val.name t.val.obj t.val.other t.val.fn t.val.ord (.slice A6 t.val.exprs.length c6) (.slice A7 t.fst.length c7) (.slice A8 t.snd.length c8)) := by rw [← hW]; exact Blk.new _ _ _
  have f0 : W.cell? ⟨w.heap.size, 0, none⟩ = some (.int .i64 t.val.kind) := B.cell 0
  have f1 : W.cell? ⟨w.heap.size, 1, none⟩ = some (.string t.val.name) := B.cell 1
  have f2 : W.cell? ⟨w.heap.size, 2, none⟩ = some (.string t.val.obj) := B.cell 2
  have f3 : W.cell? ⟨w.heap.size, 3, none⟩ = some (.string t.val.other) := B.cell 3
  have f4 : W.cell? ⟨w.heap.size, 4, none⟩ = some (.int .i64 t.val.fn) := B.cell 4
  have f5 : W.cell? ⟨w.heap.size, 5, none⟩ = some (.int .i64 t.val.ord) := B.cell 5
  have f6 : W.cell? ⟨w.heap.size, 6, none⟩ = some (.slice A6 t.val.exprs.length c6) := B.cell 6
  have f7 : W.cell? ⟨w.heap.size, 7, none⟩ = some (.slice A7 t.fst.length c7) := B.cell 7
  have f8 : W.cell? ⟨w.heap.size, 8, none⟩ = some (.slice A8 t.snd.length c8) := B.cell 8
  have HUN := Lib.hid (fun b x X => iUn0 b x X)
  have HB := Lib.hid hb
  have HBB := Lib.hid B
  unfold smV
  unfold smC at hW ⊢
  have HK := Lib.hid (iFields16 t m hk h1 h2 A6 A7 A8 c6 c7 c8 W (hT.below hb))
  unfold smC at HK
  clear hk
  have HW := Lib.hid hW
  clear hW hb B
  go_enter Tryz.func148, Tryz.ntmps148
  go_upto_region 1 with fail
  rw [HW.out]
  go_wp2_with fail
  refine HK.out.mono ?_
  rintro e w1 ⟨rfl, b1⟩
  go_wp2_with fail
  refine (HUN.out _ _ _).mono ?_
  rintro e w' ⟨rfl, rfl⟩
  go_wp2_with fail
  go_ret
  exact ⟨rfl, belowThen HB.out b1⟩
set_option linter.unusedSimpArgs false in
set_option maxRecDepth 100000 in
set_option maxHeartbeats 1000000 in
theorem iCk4 (m : Nat) (h1 : 1 ≤ m) (h2 : m ≤ 20) (t : Sm) (lv : Nat) (A6 A7 A8 : Option Addr) (c6 c7 c8 : Nat) (w : World) (hk : t.val.kind = (m : Int)) (hT : RwsT w) (hnm : t.val.name.size ≤ maxLen) :
    Calls Tryz.prog 150 #[smV t A6 A7 A8 c6 c7 c8, .int .i64 (lv : Int)] w fun e w' => e = .returned (.int .i64 (un0 (!(rw16 t.val.kind).nm || nmA t.val.name) 6)) ∧ Below w.heap.size w w' := by
  obtain ⟨W, hW⟩ : ∃ W, w.alloc (.cells (smC t.val.kind t.val.name t.val.obj t.val.other t.val.fn t.val.ord (.slice A6 t.val.exprs.length c6) (.slice A7 t.fst.length c7) (.slice A8 t.snd.length c8)) 54) = W := ⟨_, rfl⟩
  have hb : Below w.heap.size w W := by rw [← hW]; exact belowAlloc _ _
  have B : Blk W w.heap.size 54 (smC t.val.kind t.val.name t.val.obj t.val.other t.val.fn t.val.ord (.slice A6 t.val.exprs.length c6) (.slice A7 t.fst.length c7) (.slice A8 t.snd.length c8)) := by rw [← hW]; exact Blk.new _ _ _
  have f0 : W.cell? ⟨w.heap.size, 0, none⟩ = some (.int .i64 t.val.kind) := B.cell 0
  have f1 : W.cell? ⟨w.heap.size, 1, none⟩ = some (.string t.val.name) := B.cell 1
  have f2 : W.cell? ⟨w.heap.size, 2, none⟩ = some (.string t.val.obj) := B.cell 2
  have f3 : W.cell? ⟨w.heap.size, 3, none⟩ = some (.string t.val.other) := B.cell 3
  have f4 : W.cell? ⟨w.heap.size, 4, none⟩ = some (.int .i64 t.val.fn) := B.cell 4
  have f5 : W.cell? ⟨w.heap.size, 5, none⟩ = some (.int .i64 t.val.ord) := B.cell 5
  have f6 : W.cell? ⟨w.heap.size, 6, none⟩ = some (.slice A6 t.val.exprs.length c6) := B.cell 6
  have f7 : W.cell? ⟨w.heap.size, 7, none⟩ = some (.slice A7 t.fst.length c7) := B.cell 7
  have f8 : W.cell? ⟨w.heap.size, 8, none⟩ = some (.slice A8 t.snd.length c8) := B.cell 8
  have HUN := Lib.hid (fun b x X => iUn0 b x X)
  have HB := Lib.hid hb
  have HBB := Lib.hid B
  unfold smV
  unfold smC at hW ⊢
  have hr := ((hT.below hb) m (by omega)).c0
  have HK := Lib.hid (iName16 t.val.name hnm W)
  rw [hk] at f0 hW ⊢
  have hm1 : (m : Int) < 21 := by omega
  have hm0 : (0 : Int) ≤ m := by omega
  clear h1 h2
  have HW := Lib.hid hW
  clear hW hb B
  have HKK := Lib.hid hk
  have HHT := Lib.hid hT
  clear hk hT
  cases hn : (rw16 (m : Int)).nm
  · rw [hn] at hr
    clear hn
    go_enter Tryz.func150, Tryz.ntmps150
    go_upto_region 1 with fail
    rw [HW.out]
    go_wp2_with fail
    refine (HUN.out _ _ _).mono ?_
    rintro e w' ⟨rfl, rfl⟩
    go_wp2_with fail
    go_ret
    exact ⟨rfl, HB.out⟩
  · rw [hn] at hr
    clear hn
    go_enter Tryz.func150, Tryz.ntmps150
    go_upto_region 1 with fail
    rw [HW.out]
    go_wp2_with fail
    refine HK.out.mono ?_
    rintro e w' ⟨rfl, rfl⟩
    go_wp2_with fail
    refine (HUN.out _ _ _).mono ?_
    rintro e w' ⟨rfl, rfl⟩
    go_wp2_with fail
    go_ret
    exact ⟨rfl, HB.out⟩
set_option linter.unusedSimpArgs false in
set_option maxRecDepth 100000 in
set_option maxHeartbeats 1000000 in
theorem iCk6 (m : Nat) (h1 : 1 ≤ m) (h2 : m ≤ 20) (t : Sm) (lv : Nat) (A6 A7 A8 : Option Addr) (c6 c7 c8 : Nat) (w : World) (hk : t.val.kind = (m : Int)) (hT : RwsT w) :
    Calls Tryz.prog 152 #[smV t A6 A7 A8 c6 c7 c8, .int .i64 (lv : Int)] w fun e w' => e = .returned (.int .i64 (un0 (!(rw16 t.val.kind).fn || fnOkA t.val.fn) 8)) ∧ Below w.heap.size w w' := by
  obtain ⟨W, hW⟩ : ∃ W, w.alloc (.cells (smC t.val.kind t.val.name t.val.obj t.val.other t.val.fn t.val.ord (.slice A6 t.val.exprs.length c6) (.slice A7 t.fst.length c7) (.slice A8 t.snd.length c8)) 54) = W := ⟨_, rfl⟩
  have hb : Below w.heap.size w W := by rw [← hW]; exact belowAlloc _ _
  have B : Blk W w.heap.size 54 (smC t.val.kind t.val.name t.val.obj t.val.other t.val.fn t.val.ord (.slice A6 t.val.exprs.length c6) (.slice A7 t.fst.length c7) (.slice A8 t.snd.length c8)) := by rw [← hW]; exact Blk.new _ _ _
  have f0 : W.cell? ⟨w.heap.size, 0, none⟩ = some (.int .i64 t.val.kind) := B.cell 0
  have f1 : W.cell? ⟨w.heap.size, 1, none⟩ = some (.string t.val.name) := B.cell 1
  have f2 : W.cell? ⟨w.heap.size, 2, none⟩ = some (.string t.val.obj) := B.cell 2
  have f3 : W.cell? ⟨w.heap.size, 3, none⟩ = some (.string t.val.other) := B.cell 3
  have f4 : W.cell? ⟨w.heap.size, 4, none⟩ = some (.int .i64 t.val.fn) := B.cell 4
  have f5 : W.cell? ⟨w.heap.size, 5, none⟩ = some (.int .i64 t.val.ord) := B.cell 5
  have f6 : W.cell? ⟨w.heap.size, 6, none⟩ = some (.slice A6 t.val.exprs.length c6) := B.cell 6
  have f7 : W.cell? ⟨w.heap.size, 7, none⟩ = some (.slice A7 t.fst.length c7) := B.cell 7
  have f8 : W.cell? ⟨w.heap.size, 8, none⟩ = some (.slice A8 t.snd.length c8) := B.cell 8
  have HUN := Lib.hid (fun b x X => iUn0 b x X)
  have HB := Lib.hid hb
  have HBB := Lib.hid B
  unfold smV
  unfold smC at hW ⊢
  have hr := ((hT.below hb) m (by omega)).c1
  have HK := Lib.hid (iFn16 t.val.fn W)
  rw [hk] at f0 hW ⊢
  have hm1 : (m : Int) < 21 := by omega
  have hm0 : (0 : Int) ≤ m := by omega
  clear h1 h2
  have HW := Lib.hid hW
  clear hW hb B
  have HKK := Lib.hid hk
  have HHT := Lib.hid hT
  clear hk hT
  cases hn : (rw16 (m : Int)).fn
  · rw [hn] at hr
    clear hn
    go_enter Tryz.func152, Tryz.ntmps152
    go_upto_region 1 with fail
    rw [HW.out]
    go_wp2_with fail
    refine (HUN.out _ _ _).mono ?_
    rintro e w' ⟨rfl, rfl⟩
    go_wp2_with fail
    go_ret
    exact ⟨rfl, HB.out⟩
  · rw [hn] at hr
    clear hn
    go_enter Tryz.func152, Tryz.ntmps152
    go_upto_region 1 with fail
    rw [HW.out]
    go_wp2_with fail
    refine HK.out.mono ?_
    rintro e w' ⟨rfl, rfl⟩
    go_wp2_with fail
    refine (HUN.out _ _ _).mono ?_
    rintro e w' ⟨rfl, rfl⟩
    go_wp2_with fail
    go_ret
    exact ⟨rfl, HB.out⟩
set_option linter.unusedSimpArgs false in
set_option maxRecDepth 100000 in
set_option maxHeartbeats 1000000 in
theorem iCk7 (t : Sm) (lv : Nat) (A6 A7 A8 : Option Addr) (c6 c7 c8 : Nat) (w : World) :
    Calls Tryz.prog 153 #[smV t A6 A7 A8 c6 c7 c8, .int .i64 (lv : Int)] w fun e w' => e = .returned (.int .i64 (un0 (orOkA t.val.ord) 13)) ∧ Below w.heap.size w w' := by
  obtain ⟨W, hW⟩ : ∃ W, w.alloc (.cells (smC t.val.kind t.val.name t.val.obj t.val.other t.val.fn t.val.ord (.slice A6 t.val.exprs.length c6) (.slice A7 t.fst.length c7) (.slice A8 t.snd.length c8)) 54) = W := ⟨_, rfl⟩
  have hb : Below w.heap.size w W := by rw [← hW]; exact belowAlloc _ _
  have B : Blk W w.heap.size 54 (smC t.val.kind t.val.name t.val.obj t.val.other t.val.fn t.val.ord (.slice A6 t.val.exprs.length c6) (.slice A7 t.fst.length c7) (.slice A8 t.snd.length c8)) := by rw [← hW]; exact Blk.new _ _ _
  have f0 : W.cell? ⟨w.heap.size, 0, none⟩ = some (.int .i64 t.val.kind) := B.cell 0
  have f1 : W.cell? ⟨w.heap.size, 1, none⟩ = some (.string t.val.name) := B.cell 1
  have f2 : W.cell? ⟨w.heap.size, 2, none⟩ = some (.string t.val.obj) := B.cell 2
  have f3 : W.cell? ⟨w.heap.size, 3, none⟩ = some (.string t.val.other) := B.cell 3
  have f4 : W.cell? ⟨w.heap.size, 4, none⟩ = some (.int .i64 t.val.fn) := B.cell 4
  have f5 : W.cell? ⟨w.heap.size, 5, none⟩ = some (.int .i64 t.val.ord) := B.cell 5
  have f6 : W.cell? ⟨w.heap.size, 6, none⟩ = some (.slice A6 t.val.exprs.length c6) := B.cell 6
  have f7 : W.cell? ⟨w.heap.size, 7, none⟩ = some (.slice A7 t.fst.length c7) := B.cell 7
  have f8 : W.cell? ⟨w.heap.size, 8, none⟩ = some (.slice A8 t.snd.length c8) := B.cell 8
  have HUN := Lib.hid (fun b x X => iUn0 b x X)
  have HB := Lib.hid hb
  have HBB := Lib.hid B
  unfold smV
  unfold smC at hW ⊢
  have HK := Lib.hid (iOrder16 t.val.ord W)
  have HW := Lib.hid hW
  clear hW hb B
  go_enter Tryz.func153, Tryz.ntmps153
  go_upto_region 1 with fail
  rw [HW.out]
  go_wp2_with fail
  refine HK.out.mono ?_
  rintro e w' ⟨rfl, rfl⟩
  go_wp2_with fail
  refine (HUN.out _ _ _).mono ?_
  rintro e w' ⟨rfl, rfl⟩
  go_wp2_with fail
  go_ret
  exact ⟨rfl, HB.out⟩
set_option linter.unusedSimpArgs false in
set_option maxRecDepth 100000 in
set_option maxHeartbeats 1000000 in
theorem iCk5 (u : Un) (a : PgA) (dx d ub m : Nat) (h1 : 1 ≤ m) (h2 : m ≤ 20) (t : Sm) (lv : Nat) (A6 A7 A8 : Option Addr) (c6 c7 c8 : Nat) (w : World) (hk : t.val.kind = (m : Int)) (hT : RwsT w) (hU : UnR w a u dx d) (hub : UBox w ub a) :
    Calls Tryz.prog 151 #[smV t A6 A7 A8 c6 c7 c8, .int .i64 (lv : Int), .pointer (some ⟨ub, 0, none⟩)] w fun e w' => e = .returned (.int .i64 (un0 (exB u (rw16 t.val.kind).ob t.val.obj && exB u (rw16 t.val.kind).ot t.val.other) 11)) ∧ Below w.heap.size w w' := by
  obtain ⟨W, hW⟩ : ∃ W, w.alloc (.cells (smC t.val.kind t.val.name t.val.obj t.val.other t.val.fn t.val.ord (.slice A6 t.val.exprs.length c6) (.slice A7 t.fst.length c7) (.slice A8 t.snd.length c8)) 54) = W := ⟨_, rfl⟩
  have hb : Below w.heap.size w W := by rw [← hW]; exact belowAlloc _ _
  have B : Blk W w.heap.size 54 (smC t.val.kind t.val.name t.val.obj t.val.other t.val.fn t.val.ord (.slice A6 t.val.exprs.length c6) (.slice A7 t.fst.length c7) (.slice A8 t.snd.length c8)) := by rw [← hW]; exact Blk.new _ _ _
  have f0 : W.cell? ⟨w.heap.size, 0, none⟩ = some (.int .i64 t.val.kind) := B.cell 0
  have f1 : W.cell? ⟨w.heap.size, 1, none⟩ = some (.string t.val.name) := B.cell 1
  have f2 : W.cell? ⟨w.heap.size, 2, none⟩ = some (.string t.val.obj) := B.cell 2
  have f3 : W.cell? ⟨w.heap.size, 3, none⟩ = some (.string t.val.other) := B.cell 3
  have f4 : W.cell? ⟨w.heap.size, 4, none⟩ = some (.int .i64 t.val.fn) := B.cell 4
  have f5 : W.cell? ⟨w.heap.size, 5, none⟩ = some (.int .i64 t.val.ord) := B.cell 5
  have f6 : W.cell? ⟨w.heap.size, 6, none⟩ = some (.slice A6 t.val.exprs.length c6) := B.cell 6
  have f7 : W.cell? ⟨w.heap.size, 7, none⟩ = some (.slice A7 t.fst.length c7) := B.cell 7
  have f8 : W.cell? ⟨w.heap.size, 8, none⟩ = some (.slice A8 t.snd.length c8) := B.cell 8
  have HUN := Lib.hid (fun b x X => iUn0 b x X)
  have HB := Lib.hid hb
  have HBB := Lib.hid B
  unfold smV
  unfold smC at hW ⊢
  obtain ⟨X, hX⟩ : ∃ X, W.alloc (.cells #[.bool (rw16 (m : Int)).nm, .bool (rw16 (m : Int)).fn, .bool (rw16 (m : Int)).od, .int .i64 ((rw16 (m : Int)).ob : Int), .int .i64 ((rw16 (m : Int)).ot : Int), .int .i64 ((rw16 (m : Int)).ex : Int), .bool (rw16 (m : Int)).bd, .bool (rw16 (m : Int)).el] 101) = X := ⟨_, rfl⟩
  have hbX : Below W.heap.size W X := by rw [← hX]; exact belowAlloc W _
  have BR : Blk X W.heap.size 101 #[.bool (rw16 (m : Int)).nm, .bool (rw16 (m : Int)).fn, .bool (rw16 (m : Int)).od, .int .i64 ((rw16 (m : Int)).ob : Int), .int .i64 ((rw16 (m : Int)).ot : Int), .int .i64 ((rw16 (m : Int)).ex : Int), .bool (rw16 (m : Int)).bd, .bool (rw16 (m : Int)).el] := by rw [← hX]; exact Blk.new _ _ _
  obtain ⟨r0, r1, r2, r3, r4, r5, r6, r7⟩ := (hT.below hb) m (by omega)
  have hwX := belowThen hb hbX
  have BX := B.below' hbX
  obtain ⟨d0, d1, d2, d3, d4⟩ := (hub.below hwX).facts
  have x2 : X.cell? ⟨w.heap.size, 2, none⟩ = some (.string t.val.obj) := BX.cell 2
  have y3 : X.cell? ⟨W.heap.size, 3, none⟩ = some (.int .i64 ((rw16 (m : Int)).ob : Int)) := BR.cell 3
  have HE1 := Lib.hid (iExists u a dx d (rw16 (m : Int)).ob t.val.obj X (hU.below hwX))
  have HE2 := Lib.hid (fun Y (hY : Below X.heap.size X Y) => iExists u a dx d (rw16 (m : Int)).ot t.val.other Y (hU.below (belowThen hwX hY)))
  have HKP := Lib.hid (fun Y (hY : Below X.heap.size X Y) => (show (Y.cell? ⟨ub, 0, none⟩ = some (.slice a.A1 a.n1 a.c1) ∧ Y.cell? ⟨ub, 1, none⟩ = some (.slice a.A2 a.n2 a.c2) ∧ Y.cell? ⟨ub, 2, none⟩ = some (.slice a.A3 a.n3 a.c3) ∧ Y.cell? ⟨ub, 3, none⟩ = some (.slice a.A4 a.n4 a.c4) ∧ Y.cell? ⟨ub, 4, none⟩ = some (.slice a.A5 a.n5 a.c5)) ∧ Y.cell? ⟨w.heap.size, 3, none⟩ = some (.string t.val.other) ∧ Y.cell? ⟨W.heap.size, 4, none⟩ = some (.int .i64 ((rw16 (m : Int)).ot : Int)) from ⟨(hub.below (belowThen hwX hY)).facts, (BX.below' hY).cell 3, (BR.below' hY).cell 4⟩))
  have HX := Lib.hid hX
  have HBX := Lib.hid hwX
  rw [hk] at f0 hW ⊢
  have hm1 : (m : Int) < 21 := by omega
  have hm0 : (0 : Int) ≤ m := by omega
  clear h1 h2 hX hbX BR hwX BX hT hU hub hk
  simp only [PgA.val, PgA.fs] at HE1 HE2
  have HW := Lib.hid hW
  clear hW hb B
  generalize hb1 : exB u (rw16 (m : Int)).ob t.val.obj = e1 at HE1
  generalize hb2 : exB u (rw16 (m : Int)).ot t.val.other = e2 at HE2
  cases e1
  · clear hb1 hb2
    go_enter Tryz.func151, Tryz.ntmps151
    go_upto_region 1 with fail
    rw [HW.out]
    go_upto_region 2 with fail
    rw [HX.out]
    go_wp2_with fail
    refine HE1.out.mono ?_
    rintro e X1 ⟨rfl, b1⟩
    go_wp2_with fail
    refine (HUN.out _ _ _).mono ?_
    rintro e w' ⟨rfl, rfl⟩
    go_wp2_with fail
    go_ret
    exact ⟨rfl, belowThen HBX.out b1⟩
  · have HB2 := Lib.hid hb2
    clear hb1 hb2
    go_enter Tryz.func151, Tryz.ntmps151
    go_upto_region 1 with fail
    rw [HW.out]
    go_upto_region 2 with fail
    rw [HX.out]
    go_wp2_with fail
    refine HE1.out.mono ?_
    rintro e X1 ⟨rfl, b1⟩
    obtain ⟨⟨k0, k1, k2, k3, k4⟩, k5, k6⟩ := HKP.out X1 b1
    have HE2 := Lib.hid (HE2.out X1 b1)
    have HB1 := Lib.hid b1
    clear b1
    go_wp2_with fail
    refine HE2.out.mono ?_
    rintro e X2 ⟨rfl, b2⟩
    go_wp2_with fail
    refine (HUN.out _ _ _).mono ?_
    rintro e w' ⟨rfl, rfl⟩
    go_wp2_with fail
    go_ret
    exact ⟨rfl, belowThen HBX.out (belowThen HB1.out b2)⟩
set_option linter.unusedSimpArgs false in
set_option maxRecDepth 100000 in
set_option maxHeartbeats 1000000 in
theorem iCk9 (dx : Nat) (t : Sm) (lv : Nat) (A6 A7 A8 : Option Addr) (c6 c7 c8 : Nat) (w : World) (hE : RdE 5 (EX dx) w A6 c6 t.val.exprs) (hlen : t.val.kind = 6 → t.val.exprs.length = 2) (hsz : ∀ e ∈ t.val.exprs, Tr.szL [e] ≤ 4000000) :
    Calls Tryz.prog 156 #[smV t A6 A7 A8 c6 c7 c8, .int .i64 (lv : Int)] w fun e w' => e = .returned (.int .i64 (un0 (decide (t.val.kind ≠ 6) || decide ((dp2 t.val.exprs : Int) < 3)) 4)) ∧ Below w.heap.size w w' := by
  obtain ⟨W, hW⟩ : ∃ W, w.alloc (.cells (smC t.val.kind t.val.name t.val.obj t.val.other t.val.fn t.val.ord (.slice A6 t.val.exprs.length c6) (.slice A7 t.fst.length c7) (.slice A8 t.snd.length c8)) 54) = W := ⟨_, rfl⟩
  have hb : Below w.heap.size w W := by rw [← hW]; exact belowAlloc _ _
  have B : Blk W w.heap.size 54 (smC t.val.kind t.val.name t.val.obj t.val.other t.val.fn t.val.ord (.slice A6 t.val.exprs.length c6) (.slice A7 t.fst.length c7) (.slice A8 t.snd.length c8)) := by rw [← hW]; exact Blk.new _ _ _
  have f0 : W.cell? ⟨w.heap.size, 0, none⟩ = some (.int .i64 t.val.kind) := B.cell 0
  have f1 : W.cell? ⟨w.heap.size, 1, none⟩ = some (.string t.val.name) := B.cell 1
  have f2 : W.cell? ⟨w.heap.size, 2, none⟩ = some (.string t.val.obj) := B.cell 2
  have f3 : W.cell? ⟨w.heap.size, 3, none⟩ = some (.string t.val.other) := B.cell 3
  have f4 : W.cell? ⟨w.heap.size, 4, none⟩ = some (.int .i64 t.val.fn) := B.cell 4
  have f5 : W.cell? ⟨w.heap.size, 5, none⟩ = some (.int .i64 t.val.ord) := B.cell 5
  have f6 : W.cell? ⟨w.heap.size, 6, none⟩ = some (.slice A6 t.val.exprs.length c6) := B.cell 6
  have f7 : W.cell? ⟨w.heap.size, 7, none⟩ = some (.slice A7 t.fst.length c7) := B.cell 7
  have f8 : W.cell? ⟨w.heap.size, 8, none⟩ = some (.slice A8 t.snd.length c8) := B.cell 8
  have HUN := Lib.hid (fun b x X => iUn0 b x X)
  have HB := Lib.hid hb
  have HBB := Lib.hid B
  unfold smV
  unfold smC at hW ⊢
  have HW := Lib.hid hW
  clear hW hb B
  by_cases hk : t.val.kind = 6
  · have hl := hlen hk
    match he : t.val.exprs, hl with
    | [e0, e1], _ =>
    rw [he] at hE hsz
    obtain ⟨eb, eo, hA, hlt, hx⟩ := hE.one (j := 1) (by simp)
    subst hA
    cases dx with
    | zero => exact hx.elim
    | succ dx1 =>
    obtain ⟨x0, x1, x2, x3, hsn, v4, x4, A4, c4, rfl, r4⟩ := hx
    simp only [List.getElem_cons_succ, List.getElem_cons_zero, Nat.one_mul] at x0 x1 x2 x3 x4 hsn r4
    have hb := HB.out
    have y0 := (hb.cell (p := ⟨eb, eo + 5, none⟩) hlt).trans x0
    have y1 := (hb.cell (p := ⟨eb, eo + 5 + 1, none⟩) hlt).trans x1
    have y2 := (hb.cell (p := ⟨eb, eo + 5 + 2, none⟩) hlt).trans x2
    have y3 := (hb.cell (p := ⟨eb, eo + 5 + 3, none⟩) hlt).trans x3
    have y4 := (hb.cell (p := ⟨eb, eo + 5 + 4, none⟩) hlt).trans x4
    have HD := Lib.hid (iDepth16 dx1 e1 hsn A4 _ c4 rfl (hsz e1 (by simp)) W (r4.below (stabX dx1) hb))
    unfold exC at HD
    have hle := hE.le
    have hmx := hE.max
    simp only [List.length_cons, List.length_nil] at hle
    rw [he] at f6
    simp only [List.length_cons, List.length_nil, Nat.zero_add, Nat.reduceAdd] at f6 hle
    rw [hk] at f0
    have HHE := Lib.hid he
    have HHK := Lib.hid hk
    have hdp : dp2 [e0, e1] = Tr.dp e1 := rfl
    rw [hk]
    rw [hk, he] at HW
    simp only [List.length_cons, List.length_nil, Nat.zero_add, Nat.reduceAdd] at HW ⊢
    have HDP := Lib.hid hdp
    obtain ⟨q, hq⟩ : ∃ q, Tr.dp e1 = q := ⟨_, rfl⟩
    rw [hq] at HD HDP
    rw [HDP.out]
    clear hk hE hsz hlen x0 x1 x2 x3 x4 r4 hb he hdp hq
    go_enter Tryz.func156, Tryz.ntmps156
    go_upto_region 1 with fail
    rw [HW.out]
    go_wp2_with fail
    refine HD.out.mono ?_
    rintro e w1 ⟨rfl, b1⟩
    go_wp2_with fail
    refine (HUN.out _ _ _).mono ?_
    rintro e w' ⟨rfl, rfl⟩
    go_wp2_with fail
    go_ret
    exact ⟨by first | rfl | simp, belowThen HB.out b1⟩
  · have hz : (t.val.kind != 6) = true := by simpa using hk
    have HX : Hid (un0 (decide (t.val.kind ≠ 6) || decide ((dp2 t.val.exprs : Int) < 3)) 4 = un0 true 4) := Lib.hid (by rw [decide_eq_true hk]; rfl)
    rw [HX.out]
    clear hk hlen hsz hE
    go_enter Tryz.func156, Tryz.ntmps156
    go_upto_region 1 with fail
    rw [HW.out]
    go_wp2_with fail
    refine (HUN.out _ _ _).mono ?_
    rintro e w' ⟨rfl, rfl⟩
    go_wp2_with fail
    go_ret
    exact ⟨rfl, HB.out⟩
end Go.Proofs.YtiaendggmamnkaaGreatDoor
