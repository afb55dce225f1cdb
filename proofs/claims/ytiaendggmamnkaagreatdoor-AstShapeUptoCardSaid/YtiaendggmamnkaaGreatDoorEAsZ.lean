/-
  hasFields, by classes of kinds.
-/
import Derived.Test.YtiaendggmamnkaaGreatDoorEGy
import Derived.BigGuardPart
namespace Go.Proofs.YtiaendggmamnkaaGreatDoor
open Go Go.RowKit

/-- hfB by its fields. -/
def hfV (r : Rw) (nm ob ot : ByteArray) (f o : Int) (n6 n7 n8 : Nat) : Bool :=
  (r.nm || nm.toList.isEmpty) && (r.ob != 0 || ob.toList.isEmpty) && (r.ot != 0 || ot.toList.isEmpty) && (r.fn || f == 0) &&
  (r.od || o == 0) && ((n6 : Int) == (r.ex : Int)) && (r.bd || (n7 : Int) == 0) && (r.el || (n8 : Int) == 0)
theorem szEmp (s : ByteArray) : (s.size == 0) = s.toList.isEmpty := by
  rw [szDec]
  cases s.toList <;> rfl
theorem natB (a b : Nat) : (a == b) = ((a : Int) == (b : Int)) := by
  by_cases h : a = b
  · subst h; simp
  · have h2 : ¬ (a : Int) = b := by omega
    rw [show (a == b) = false from beq_eq_false_iff_ne.2 h, show ((a : Int) == (b : Int)) = false from beq_eq_false_iff_ne.2 h2]
theorem hfVIs (t : Sm) : hfB t = hfV (rw16 t.val.kind) t.val.name t.val.obj t.val.other t.val.fn t.val.ord t.val.exprs.length t.fst.length t.snd.length := by
  unfold hfB hfV
  rw [szEmp, szEmp, szEmp, natB t.val.exprs.length, natB t.fst.length, natB t.snd.length]
  rfl
set_option linter.unusedSimpArgs false in
set_option maxRecDepth 100000 in
set_option maxHeartbeats 1000000 in
theorem hf_a (ex m : Nat) (hm : m < 21) (f o : Int) (s sb st : ByteArray) (A6 A7 A8 : Option Addr) (n6 c6 n7 c7 n8 c8 : Nat) (w : World) (hT : RwA w m ⟨true, false, false, 0, 0, ex, false, false⟩) :
    Calls Tryz.prog 149 #[.agg (smC (m : Int) s sb st f o (.slice A6 n6 c6) (.slice A7 n7 c7) (.slice A8 n8 c8))] w fun e w' => e = .returned (.bool (hfV ⟨true, false, false, 0, 0, ex, false, false⟩ s sb st f o n6 n7 n8)) ∧ Below w.heap.size w w' := by
  obtain ⟨W, hW⟩ : ∃ W, w.alloc (.cells (smC (m : Int) s sb st f o (.slice A6 n6 c6) (.slice A7 n7 c7) (.slice A8 n8 c8)) 54) = W := ⟨_, rfl⟩
  have hb : Below w.heap.size w W := by rw [← hW]; exact belowAlloc _ _
  have B : Blk W w.heap.size 54 (smC (m : Int) s sb st f o (.slice A6 n6 c6) (.slice A7 n7 c7) (.slice A8 n8 c8)) := by rw [← hW]; exact Blk.new _ _ _
  have hlt : 0 < w.heap.size := World.block_lt_of_cell? _ _ hT.c0
  obtain ⟨X, hX⟩ : ∃ X, W.alloc (.cells #[.bool true, .bool false, .bool false, .int .i64 0, .int .i64 0, .int .i64 (ex : Int), .bool false, .bool false] 101) = X := ⟨_, rfl⟩
  have hb2 : Below W.heap.size W X := by rw [← hX]; exact belowAlloc W _
  have BR : Blk X W.heap.size 101 #[.bool true, .bool false, .bool false, .int .i64 0, .int .i64 0, .int .i64 (ex : Int), .bool false, .bool false] := by rw [← hX]; exact Blk.new _ _ _
  have B2 := B.below' hb2
  have hgl : ∀ o, W.cell? ⟨0, o, none⟩ = w.cell? ⟨0, o, none⟩ := fun o => hb.cell (p := ⟨0, o, none⟩) hlt
  have f0 : W.cell? ⟨w.heap.size, 0, none⟩ = some (.int .i64 (m : Int)) := B.cell 0
  have r0 : W.cell? ⟨0, m * 8, none⟩ = some (.bool true) := (hgl _).trans hT.c0
  have r1 : W.cell? ⟨0, m * 8 + 1, none⟩ = some (.bool false) := (hgl _).trans hT.c1
  have r2 : W.cell? ⟨0, m * 8 + 2, none⟩ = some (.bool false) := (hgl _).trans hT.c2
  have r3 : W.cell? ⟨0, m * 8 + 3, none⟩ = some (.int .i64 0) := (hgl _).trans hT.c3
  have r4 : W.cell? ⟨0, m * 8 + 4, none⟩ = some (.int .i64 0) := (hgl _).trans hT.c4
  have r5 : W.cell? ⟨0, m * 8 + 5, none⟩ = some (.int .i64 (ex : Int)) := (hgl _).trans hT.c5
  have r6 : W.cell? ⟨0, m * 8 + 6, none⟩ = some (.bool false) := (hgl _).trans hT.c6
  have r7 : W.cell? ⟨0, m * 8 + 7, none⟩ = some (.bool false) := (hgl _).trans hT.c7
  have g1 : X.cell? ⟨w.heap.size, 1, none⟩ = some (.string s) := B2.cell 1
  have g2 : X.cell? ⟨w.heap.size, 2, none⟩ = some (.string sb) := B2.cell 2
  have g3 : X.cell? ⟨w.heap.size, 3, none⟩ = some (.string st) := B2.cell 3
  have g4 : X.cell? ⟨w.heap.size, 4, none⟩ = some (.int .i64 f) := B2.cell 4
  have g5 : X.cell? ⟨w.heap.size, 5, none⟩ = some (.int .i64 o) := B2.cell 5
  have g6 : X.cell? ⟨w.heap.size, 6, none⟩ = some (.slice A6 n6 c6) := B2.cell 6
  have g7 : X.cell? ⟨w.heap.size, 7, none⟩ = some (.slice A7 n7 c7) := B2.cell 7
  have g8 : X.cell? ⟨w.heap.size, 8, none⟩ = some (.slice A8 n8 c8) := B2.cell 8
  have q0 : X.cell? ⟨W.heap.size, 0, none⟩ = some (.bool true) := BR.cell 0
  have q1 : X.cell? ⟨W.heap.size, 1, none⟩ = some (.bool false) := BR.cell 1
  have q2 : X.cell? ⟨W.heap.size, 2, none⟩ = some (.bool false) := BR.cell 2
  have q3 : X.cell? ⟨W.heap.size, 3, none⟩ = some (.int .i64 0) := BR.cell 3
  have q4 : X.cell? ⟨W.heap.size, 4, none⟩ = some (.int .i64 0) := BR.cell 4
  have q5 : X.cell? ⟨W.heap.size, 5, none⟩ = some (.int .i64 (ex : Int)) := BR.cell 5
  have q6 : X.cell? ⟨W.heap.size, 6, none⟩ = some (.bool false) := BR.cell 6
  have q7 : X.cell? ⟨W.heap.size, 7, none⟩ = some (.bool false) := BR.cell 7
  have hm1 : (m : Int) < 21 := by omega
  have hm0 : (0 : Int) ≤ m := by omega
  obtain ⟨rr, hr⟩ : ∃ r, hfV ⟨true, false, false, 0, 0, ex, false, false⟩ s sb st f o n6 n7 n8 = r := ⟨_, rfl⟩
  rw [hr]
  have HR := Lib.hid hr
  have HBB := Lib.hid (belowThen hb hb2)


  unfold smC at hW ⊢
  have HW := Lib.hid hW
  have HX := Lib.hid hX
  clear hX BR hW hb hb2 B B2 hgl hr hT hlt  
  go_enter Tryz.func149, Tryz.ntmps149
  go_upto_region 1 with fail
  rw [HW.out]
  go_upto_region 2 with fail
  rw [HX.out]
  go_simp
  go_wp2_with fail
  all_goals go_ret
  all_goals refine ⟨?_, HBB.out⟩
  all_goals rw [← HR.out]
  all_goals refine congrArg (fun b => Ending.returned (Value.bool b)) ?_
  all_goals unfold hfV
  all_goals (simp [*])
  all_goals first
    | done
    | omega
set_option linter.unusedSimpArgs false in
set_option maxRecDepth 100000 in
set_option maxHeartbeats 1000000 in
theorem hf_b (ob : Nat) (hob : ob ≠ 0) (ex m : Nat) (hm : m < 21) (f o : Int) (s sb st : ByteArray) (A6 A7 A8 : Option Addr) (n6 c6 n7 c7 n8 c8 : Nat) (w : World) (hT : RwA w m ⟨true, false, true, ob, 0, ex, false, false⟩) :
    Calls Tryz.prog 149 #[.agg (smC (m : Int) s sb st f o (.slice A6 n6 c6) (.slice A7 n7 c7) (.slice A8 n8 c8))] w fun e w' => e = .returned (.bool (hfV ⟨true, false, true, ob, 0, ex, false, false⟩ s sb st f o n6 n7 n8)) ∧ Below w.heap.size w w' := by
  obtain ⟨W, hW⟩ : ∃ W, w.alloc (.cells (smC (m : Int) s sb st f o (.slice A6 n6 c6) (.slice A7 n7 c7) (.slice A8 n8 c8)) 54) = W := ⟨_, rfl⟩
  have hb : Below w.heap.size w W := by rw [← hW]; exact belowAlloc _ _
  have B : Blk W w.heap.size 54 (smC (m : Int) s sb st f o (.slice A6 n6 c6) (.slice A7 n7 c7) (.slice A8 n8 c8)) := by rw [← hW]; exact Blk.new _ _ _
  have hlt : 0 < w.heap.size := World.block_lt_of_cell? _ _ hT.c0
  obtain ⟨X, hX⟩ : ∃ X, W.alloc (.cells #[.bool true, .bool false, .bool true, .int .i64 (ob : Int), .int .i64 0, .int .i64 (ex : Int), .bool false, .bool false] 101) = X := ⟨_, rfl⟩
  have hb2 : Below W.heap.size W X := by rw [← hX]; exact belowAlloc W _
  have BR : Blk X W.heap.size 101 #[.bool true, .bool false, .bool true, .int .i64 (ob : Int), .int .i64 0, .int .i64 (ex : Int), .bool false, .bool false] := by rw [← hX]; exact Blk.new _ _ _
  have B2 := B.below' hb2
  have hgl : ∀ o, W.cell? ⟨0, o, none⟩ = w.cell? ⟨0, o, none⟩ := fun o => hb.cell (p := ⟨0, o, none⟩) hlt
  have f0 : W.cell? ⟨w.heap.size, 0, none⟩ = some (.int .i64 (m : Int)) := B.cell 0
  have r0 : W.cell? ⟨0, m * 8, none⟩ = some (.bool true) := (hgl _).trans hT.c0
  have r1 : W.cell? ⟨0, m * 8 + 1, none⟩ = some (.bool false) := (hgl _).trans hT.c1
  have r2 : W.cell? ⟨0, m * 8 + 2, none⟩ = some (.bool true) := (hgl _).trans hT.c2
  have r3 : W.cell? ⟨0, m * 8 + 3, none⟩ = some (.int .i64 (ob : Int)) := (hgl _).trans hT.c3
  have r4 : W.cell? ⟨0, m * 8 + 4, none⟩ = some (.int .i64 0) := (hgl _).trans hT.c4
  have r5 : W.cell? ⟨0, m * 8 + 5, none⟩ = some (.int .i64 (ex : Int)) := (hgl _).trans hT.c5
  have r6 : W.cell? ⟨0, m * 8 + 6, none⟩ = some (.bool false) := (hgl _).trans hT.c6
  have r7 : W.cell? ⟨0, m * 8 + 7, none⟩ = some (.bool false) := (hgl _).trans hT.c7
  have g1 : X.cell? ⟨w.heap.size, 1, none⟩ = some (.string s) := B2.cell 1
  have g2 : X.cell? ⟨w.heap.size, 2, none⟩ = some (.string sb) := B2.cell 2
  have g3 : X.cell? ⟨w.heap.size, 3, none⟩ = some (.string st) := B2.cell 3
  have g4 : X.cell? ⟨w.heap.size, 4, none⟩ = some (.int .i64 f) := B2.cell 4
  have g5 : X.cell? ⟨w.heap.size, 5, none⟩ = some (.int .i64 o) := B2.cell 5
  have g6 : X.cell? ⟨w.heap.size, 6, none⟩ = some (.slice A6 n6 c6) := B2.cell 6
  have g7 : X.cell? ⟨w.heap.size, 7, none⟩ = some (.slice A7 n7 c7) := B2.cell 7
  have g8 : X.cell? ⟨w.heap.size, 8, none⟩ = some (.slice A8 n8 c8) := B2.cell 8
  have q0 : X.cell? ⟨W.heap.size, 0, none⟩ = some (.bool true) := BR.cell 0
  have q1 : X.cell? ⟨W.heap.size, 1, none⟩ = some (.bool false) := BR.cell 1
  have q2 : X.cell? ⟨W.heap.size, 2, none⟩ = some (.bool true) := BR.cell 2
  have q3 : X.cell? ⟨W.heap.size, 3, none⟩ = some (.int .i64 (ob : Int)) := BR.cell 3
  have q4 : X.cell? ⟨W.heap.size, 4, none⟩ = some (.int .i64 0) := BR.cell 4
  have q5 : X.cell? ⟨W.heap.size, 5, none⟩ = some (.int .i64 (ex : Int)) := BR.cell 5
  have q6 : X.cell? ⟨W.heap.size, 6, none⟩ = some (.bool false) := BR.cell 6
  have q7 : X.cell? ⟨W.heap.size, 7, none⟩ = some (.bool false) := BR.cell 7
  have hm1 : (m : Int) < 21 := by omega
  have hm0 : (0 : Int) ≤ m := by omega
  have ob1 : ((ob : Int) != 0) = true := by simpa using hob
  obtain ⟨rr, hr⟩ : ∃ r, hfV ⟨true, false, true, ob, 0, ex, false, false⟩ s sb st f o n6 n7 n8 = r := ⟨_, rfl⟩
  rw [hr]
  have HR := Lib.hid hr
  have HBB := Lib.hid (belowThen hb hb2)
  have HOB := Lib.hid hob

  unfold smC at hW ⊢
  have HW := Lib.hid hW
  have HX := Lib.hid hX
  clear hX BR hW hb hb2 B B2 hgl hr hT hlt hob 
  go_enter Tryz.func149, Tryz.ntmps149
  go_upto_region 1 with fail
  rw [HW.out]
  go_upto_region 2 with fail
  rw [HX.out]
  go_simp
  go_wp2_with fail
  all_goals go_ret
  all_goals refine ⟨?_, HBB.out⟩
  all_goals rw [← HR.out]
  all_goals refine congrArg (fun b => Ending.returned (Value.bool b)) ?_
  all_goals unfold hfV
  all_goals (simp [*, HOB.out])
  all_goals first
    | done
    | omega
set_option linter.unusedSimpArgs false in
set_option maxRecDepth 100000 in
set_option maxHeartbeats 1000000 in
theorem hf_c (ob : Nat) (hob : ob ≠ 0) (ex m : Nat) (hm : m < 21) (f o : Int) (s sb st : ByteArray) (A6 A7 A8 : Option Addr) (n6 c6 n7 c7 n8 c8 : Nat) (w : World) (hT : RwA w m ⟨false, false, true, ob, 0, ex, false, false⟩) :
    Calls Tryz.prog 149 #[.agg (smC (m : Int) s sb st f o (.slice A6 n6 c6) (.slice A7 n7 c7) (.slice A8 n8 c8))] w fun e w' => e = .returned (.bool (hfV ⟨false, false, true, ob, 0, ex, false, false⟩ s sb st f o n6 n7 n8)) ∧ Below w.heap.size w w' := by
  obtain ⟨W, hW⟩ : ∃ W, w.alloc (.cells (smC (m : Int) s sb st f o (.slice A6 n6 c6) (.slice A7 n7 c7) (.slice A8 n8 c8)) 54) = W := ⟨_, rfl⟩
  have hb : Below w.heap.size w W := by rw [← hW]; exact belowAlloc _ _
  have B : Blk W w.heap.size 54 (smC (m : Int) s sb st f o (.slice A6 n6 c6) (.slice A7 n7 c7) (.slice A8 n8 c8)) := by rw [← hW]; exact Blk.new _ _ _
  have hlt : 0 < w.heap.size := World.block_lt_of_cell? _ _ hT.c0
  obtain ⟨X, hX⟩ : ∃ X, W.alloc (.cells #[.bool false, .bool false, .bool true, .int .i64 (ob : Int), .int .i64 0, .int .i64 (ex : Int), .bool false, .bool false] 101) = X := ⟨_, rfl⟩
  have hb2 : Below W.heap.size W X := by rw [← hX]; exact belowAlloc W _
  have BR : Blk X W.heap.size 101 #[.bool false, .bool false, .bool true, .int .i64 (ob : Int), .int .i64 0, .int .i64 (ex : Int), .bool false, .bool false] := by rw [← hX]; exact Blk.new _ _ _
  have B2 := B.below' hb2
  have hgl : ∀ o, W.cell? ⟨0, o, none⟩ = w.cell? ⟨0, o, none⟩ := fun o => hb.cell (p := ⟨0, o, none⟩) hlt
  have f0 : W.cell? ⟨w.heap.size, 0, none⟩ = some (.int .i64 (m : Int)) := B.cell 0
  have r0 : W.cell? ⟨0, m * 8, none⟩ = some (.bool false) := (hgl _).trans hT.c0
  have r1 : W.cell? ⟨0, m * 8 + 1, none⟩ = some (.bool false) := (hgl _).trans hT.c1
  have r2 : W.cell? ⟨0, m * 8 + 2, none⟩ = some (.bool true) := (hgl _).trans hT.c2
  have r3 : W.cell? ⟨0, m * 8 + 3, none⟩ = some (.int .i64 (ob : Int)) := (hgl _).trans hT.c3
  have r4 : W.cell? ⟨0, m * 8 + 4, none⟩ = some (.int .i64 0) := (hgl _).trans hT.c4
  have r5 : W.cell? ⟨0, m * 8 + 5, none⟩ = some (.int .i64 (ex : Int)) := (hgl _).trans hT.c5
  have r6 : W.cell? ⟨0, m * 8 + 6, none⟩ = some (.bool false) := (hgl _).trans hT.c6
  have r7 : W.cell? ⟨0, m * 8 + 7, none⟩ = some (.bool false) := (hgl _).trans hT.c7
  have g1 : X.cell? ⟨w.heap.size, 1, none⟩ = some (.string s) := B2.cell 1
  have g2 : X.cell? ⟨w.heap.size, 2, none⟩ = some (.string sb) := B2.cell 2
  have g3 : X.cell? ⟨w.heap.size, 3, none⟩ = some (.string st) := B2.cell 3
  have g4 : X.cell? ⟨w.heap.size, 4, none⟩ = some (.int .i64 f) := B2.cell 4
  have g5 : X.cell? ⟨w.heap.size, 5, none⟩ = some (.int .i64 o) := B2.cell 5
  have g6 : X.cell? ⟨w.heap.size, 6, none⟩ = some (.slice A6 n6 c6) := B2.cell 6
  have g7 : X.cell? ⟨w.heap.size, 7, none⟩ = some (.slice A7 n7 c7) := B2.cell 7
  have g8 : X.cell? ⟨w.heap.size, 8, none⟩ = some (.slice A8 n8 c8) := B2.cell 8
  have q0 : X.cell? ⟨W.heap.size, 0, none⟩ = some (.bool false) := BR.cell 0
  have q1 : X.cell? ⟨W.heap.size, 1, none⟩ = some (.bool false) := BR.cell 1
  have q2 : X.cell? ⟨W.heap.size, 2, none⟩ = some (.bool true) := BR.cell 2
  have q3 : X.cell? ⟨W.heap.size, 3, none⟩ = some (.int .i64 (ob : Int)) := BR.cell 3
  have q4 : X.cell? ⟨W.heap.size, 4, none⟩ = some (.int .i64 0) := BR.cell 4
  have q5 : X.cell? ⟨W.heap.size, 5, none⟩ = some (.int .i64 (ex : Int)) := BR.cell 5
  have q6 : X.cell? ⟨W.heap.size, 6, none⟩ = some (.bool false) := BR.cell 6
  have q7 : X.cell? ⟨W.heap.size, 7, none⟩ = some (.bool false) := BR.cell 7
  have hm1 : (m : Int) < 21 := by omega
  have hm0 : (0 : Int) ≤ m := by omega
  have ob1 : ((ob : Int) != 0) = true := by simpa using hob
  obtain ⟨rr, hr⟩ : ∃ r, hfV ⟨false, false, true, ob, 0, ex, false, false⟩ s sb st f o n6 n7 n8 = r := ⟨_, rfl⟩
  rw [hr]
  have HR := Lib.hid hr
  have HBB := Lib.hid (belowThen hb hb2)
  have HOB := Lib.hid hob

  unfold smC at hW ⊢
  have HW := Lib.hid hW
  have HX := Lib.hid hX
  clear hX BR hW hb hb2 B B2 hgl hr hT hlt hob 
  go_enter Tryz.func149, Tryz.ntmps149
  go_upto_region 1 with fail
  rw [HW.out]
  go_upto_region 2 with fail
  rw [HX.out]
  go_simp
  go_wp2_with fail
  all_goals go_ret
  all_goals refine ⟨?_, HBB.out⟩
  all_goals rw [← HR.out]
  all_goals refine congrArg (fun b => Ending.returned (Value.bool b)) ?_
  all_goals unfold hfV
  all_goals (simp [*, HOB.out])
  all_goals first
    | done
    | omega
set_option linter.unusedSimpArgs false in
set_option maxRecDepth 100000 in
set_option maxHeartbeats 1000000 in
theorem hf_d (ex m : Nat) (hm : m < 21) (f o : Int) (s sb st : ByteArray) (A6 A7 A8 : Option Addr) (n6 c6 n7 c7 n8 c8 : Nat) (w : World) (hT : RwA w m ⟨false, false, false, 0, 0, ex, false, false⟩) :
    Calls Tryz.prog 149 #[.agg (smC (m : Int) s sb st f o (.slice A6 n6 c6) (.slice A7 n7 c7) (.slice A8 n8 c8))] w fun e w' => e = .returned (.bool (hfV ⟨false, false, false, 0, 0, ex, false, false⟩ s sb st f o n6 n7 n8)) ∧ Below w.heap.size w w' := by
  obtain ⟨W, hW⟩ : ∃ W, w.alloc (.cells (smC (m : Int) s sb st f o (.slice A6 n6 c6) (.slice A7 n7 c7) (.slice A8 n8 c8)) 54) = W := ⟨_, rfl⟩
  have hb : Below w.heap.size w W := by rw [← hW]; exact belowAlloc _ _
  have B : Blk W w.heap.size 54 (smC (m : Int) s sb st f o (.slice A6 n6 c6) (.slice A7 n7 c7) (.slice A8 n8 c8)) := by rw [← hW]; exact Blk.new _ _ _
  have hlt : 0 < w.heap.size := World.block_lt_of_cell? _ _ hT.c0
  obtain ⟨X, hX⟩ : ∃ X, W.alloc (.cells #[.bool false, .bool false, .bool false, .int .i64 0, .int .i64 0, .int .i64 (ex : Int), .bool false, .bool false] 101) = X := ⟨_, rfl⟩
  have hb2 : Below W.heap.size W X := by rw [← hX]; exact belowAlloc W _
  have BR : Blk X W.heap.size 101 #[.bool false, .bool false, .bool false, .int .i64 0, .int .i64 0, .int .i64 (ex : Int), .bool false, .bool false] := by rw [← hX]; exact Blk.new _ _ _
  have B2 := B.below' hb2
  have hgl : ∀ o, W.cell? ⟨0, o, none⟩ = w.cell? ⟨0, o, none⟩ := fun o => hb.cell (p := ⟨0, o, none⟩) hlt
  have f0 : W.cell? ⟨w.heap.size, 0, none⟩ = some (.int .i64 (m : Int)) := B.cell 0
  have r0 : W.cell? ⟨0, m * 8, none⟩ = some (.bool false) := (hgl _).trans hT.c0
  have r1 : W.cell? ⟨0, m * 8 + 1, none⟩ = some (.bool false) := (hgl _).trans hT.c1
  have r2 : W.cell? ⟨0, m * 8 + 2, none⟩ = some (.bool false) := (hgl _).trans hT.c2
  have r3 : W.cell? ⟨0, m * 8 + 3, none⟩ = some (.int .i64 0) := (hgl _).trans hT.c3
  have r4 : W.cell? ⟨0, m * 8 + 4, none⟩ = some (.int .i64 0) := (hgl _).trans hT.c4
  have r5 : W.cell? ⟨0, m * 8 + 5, none⟩ = some (.int .i64 (ex : Int)) := (hgl _).trans hT.c5
  have r6 : W.cell? ⟨0, m * 8 + 6, none⟩ = some (.bool false) := (hgl _).trans hT.c6
  have r7 : W.cell? ⟨0, m * 8 + 7, none⟩ = some (.bool false) := (hgl _).trans hT.c7
  have g1 : X.cell? ⟨w.heap.size, 1, none⟩ = some (.string s) := B2.cell 1
  have g2 : X.cell? ⟨w.heap.size, 2, none⟩ = some (.string sb) := B2.cell 2
  have g3 : X.cell? ⟨w.heap.size, 3, none⟩ = some (.string st) := B2.cell 3
  have g4 : X.cell? ⟨w.heap.size, 4, none⟩ = some (.int .i64 f) := B2.cell 4
  have g5 : X.cell? ⟨w.heap.size, 5, none⟩ = some (.int .i64 o) := B2.cell 5
  have g6 : X.cell? ⟨w.heap.size, 6, none⟩ = some (.slice A6 n6 c6) := B2.cell 6
  have g7 : X.cell? ⟨w.heap.size, 7, none⟩ = some (.slice A7 n7 c7) := B2.cell 7
  have g8 : X.cell? ⟨w.heap.size, 8, none⟩ = some (.slice A8 n8 c8) := B2.cell 8
  have q0 : X.cell? ⟨W.heap.size, 0, none⟩ = some (.bool false) := BR.cell 0
  have q1 : X.cell? ⟨W.heap.size, 1, none⟩ = some (.bool false) := BR.cell 1
  have q2 : X.cell? ⟨W.heap.size, 2, none⟩ = some (.bool false) := BR.cell 2
  have q3 : X.cell? ⟨W.heap.size, 3, none⟩ = some (.int .i64 0) := BR.cell 3
  have q4 : X.cell? ⟨W.heap.size, 4, none⟩ = some (.int .i64 0) := BR.cell 4
  have q5 : X.cell? ⟨W.heap.size, 5, none⟩ = some (.int .i64 (ex : Int)) := BR.cell 5
  have q6 : X.cell? ⟨W.heap.size, 6, none⟩ = some (.bool false) := BR.cell 6
  have q7 : X.cell? ⟨W.heap.size, 7, none⟩ = some (.bool false) := BR.cell 7
  have hm1 : (m : Int) < 21 := by omega
  have hm0 : (0 : Int) ≤ m := by omega
  obtain ⟨rr, hr⟩ : ∃ r, hfV ⟨false, false, false, 0, 0, ex, false, false⟩ s sb st f o n6 n7 n8 = r := ⟨_, rfl⟩
  rw [hr]
  have HR := Lib.hid hr
  have HBB := Lib.hid (belowThen hb hb2)


  unfold smC at hW ⊢
  have HW := Lib.hid hW
  have HX := Lib.hid hX
  clear hX BR hW hb hb2 B B2 hgl hr hT hlt  
  go_enter Tryz.func149, Tryz.ntmps149
  go_upto_region 1 with fail
  rw [HW.out]
  go_upto_region 2 with fail
  rw [HX.out]
  go_simp
  go_wp2_with fail
  all_goals go_ret
  all_goals refine ⟨?_, HBB.out⟩
  all_goals rw [← HR.out]
  all_goals refine congrArg (fun b => Ending.returned (Value.bool b)) ?_
  all_goals unfold hfV
  all_goals (simp [*])
  all_goals first
    | done
    | omega
set_option linter.unusedSimpArgs false in
set_option maxRecDepth 100000 in
set_option maxHeartbeats 1000000 in
theorem hf_e (ob : Nat) (hob : ob ≠ 0) (ex m : Nat) (hm : m < 21) (f o : Int) (s sb st : ByteArray) (A6 A7 A8 : Option Addr) (n6 c6 n7 c7 n8 c8 : Nat) (w : World) (hT : RwA w m ⟨true, true, true, ob, 0, ex, false, false⟩) :
    Calls Tryz.prog 149 #[.agg (smC (m : Int) s sb st f o (.slice A6 n6 c6) (.slice A7 n7 c7) (.slice A8 n8 c8))] w fun e w' => e = .returned (.bool (hfV ⟨true, true, true, ob, 0, ex, false, false⟩ s sb st f o n6 n7 n8)) ∧ Below w.heap.size w w' := by
  obtain ⟨W, hW⟩ : ∃ W, w.alloc (.cells (smC (m : Int) s sb st f o (.slice A6 n6 c6) (.slice A7 n7 c7) (.slice A8 n8 c8)) 54) = W := ⟨_, rfl⟩
  have hb : Below w.heap.size w W := by rw [← hW]; exact belowAlloc _ _
  have B : Blk W w.heap.size 54 (smC (m : Int) s sb st f o (.slice A6 n6 c6) (.slice A7 n7 c7) (.slice A8 n8 c8)) := by rw [← hW]; exact Blk.new _ _ _
  have hlt : 0 < w.heap.size := World.block_lt_of_cell? _ _ hT.c0
  obtain ⟨X, hX⟩ : ∃ X, W.alloc (.cells #[.bool true, .bool true, .bool true, .int .i64 (ob : Int), .int .i64 0, .int .i64 (ex : Int), .bool false, .bool false] 101) = X := ⟨_, rfl⟩
  have hb2 : Below W.heap.size W X := by rw [← hX]; exact belowAlloc W _
  have BR : Blk X W.heap.size 101 #[.bool true, .bool true, .bool true, .int .i64 (ob : Int), .int .i64 0, .int .i64 (ex : Int), .bool false, .bool false] := by rw [← hX]; exact Blk.new _ _ _
  have B2 := B.below' hb2
  have hgl : ∀ o, W.cell? ⟨0, o, none⟩ = w.cell? ⟨0, o, none⟩ := fun o => hb.cell (p := ⟨0, o, none⟩) hlt
  have f0 : W.cell? ⟨w.heap.size, 0, none⟩ = some (.int .i64 (m : Int)) := B.cell 0
  have r0 : W.cell? ⟨0, m * 8, none⟩ = some (.bool true) := (hgl _).trans hT.c0
  have r1 : W.cell? ⟨0, m * 8 + 1, none⟩ = some (.bool true) := (hgl _).trans hT.c1
  have r2 : W.cell? ⟨0, m * 8 + 2, none⟩ = some (.bool true) := (hgl _).trans hT.c2
  have r3 : W.cell? ⟨0, m * 8 + 3, none⟩ = some (.int .i64 (ob : Int)) := (hgl _).trans hT.c3
  have r4 : W.cell? ⟨0, m * 8 + 4, none⟩ = some (.int .i64 0) := (hgl _).trans hT.c4
  have r5 : W.cell? ⟨0, m * 8 + 5, none⟩ = some (.int .i64 (ex : Int)) := (hgl _).trans hT.c5
  have r6 : W.cell? ⟨0, m * 8 + 6, none⟩ = some (.bool false) := (hgl _).trans hT.c6
  have r7 : W.cell? ⟨0, m * 8 + 7, none⟩ = some (.bool false) := (hgl _).trans hT.c7
  have g1 : X.cell? ⟨w.heap.size, 1, none⟩ = some (.string s) := B2.cell 1
  have g2 : X.cell? ⟨w.heap.size, 2, none⟩ = some (.string sb) := B2.cell 2
  have g3 : X.cell? ⟨w.heap.size, 3, none⟩ = some (.string st) := B2.cell 3
  have g4 : X.cell? ⟨w.heap.size, 4, none⟩ = some (.int .i64 f) := B2.cell 4
  have g5 : X.cell? ⟨w.heap.size, 5, none⟩ = some (.int .i64 o) := B2.cell 5
  have g6 : X.cell? ⟨w.heap.size, 6, none⟩ = some (.slice A6 n6 c6) := B2.cell 6
  have g7 : X.cell? ⟨w.heap.size, 7, none⟩ = some (.slice A7 n7 c7) := B2.cell 7
  have g8 : X.cell? ⟨w.heap.size, 8, none⟩ = some (.slice A8 n8 c8) := B2.cell 8
  have q0 : X.cell? ⟨W.heap.size, 0, none⟩ = some (.bool true) := BR.cell 0
  have q1 : X.cell? ⟨W.heap.size, 1, none⟩ = some (.bool true) := BR.cell 1
  have q2 : X.cell? ⟨W.heap.size, 2, none⟩ = some (.bool true) := BR.cell 2
  have q3 : X.cell? ⟨W.heap.size, 3, none⟩ = some (.int .i64 (ob : Int)) := BR.cell 3
  have q4 : X.cell? ⟨W.heap.size, 4, none⟩ = some (.int .i64 0) := BR.cell 4
  have q5 : X.cell? ⟨W.heap.size, 5, none⟩ = some (.int .i64 (ex : Int)) := BR.cell 5
  have q6 : X.cell? ⟨W.heap.size, 6, none⟩ = some (.bool false) := BR.cell 6
  have q7 : X.cell? ⟨W.heap.size, 7, none⟩ = some (.bool false) := BR.cell 7
  have hm1 : (m : Int) < 21 := by omega
  have hm0 : (0 : Int) ≤ m := by omega
  have ob1 : ((ob : Int) != 0) = true := by simpa using hob
  obtain ⟨rr, hr⟩ : ∃ r, hfV ⟨true, true, true, ob, 0, ex, false, false⟩ s sb st f o n6 n7 n8 = r := ⟨_, rfl⟩
  rw [hr]
  have HR := Lib.hid hr
  have HBB := Lib.hid (belowThen hb hb2)
  have HOB := Lib.hid hob

  unfold smC at hW ⊢
  have HW := Lib.hid hW
  have HX := Lib.hid hX
  clear hX BR hW hb hb2 B B2 hgl hr hT hlt hob 
  go_enter Tryz.func149, Tryz.ntmps149
  go_upto_region 1 with fail
  rw [HW.out]
  go_upto_region 2 with fail
  rw [HX.out]
  go_simp
  go_wp2_with fail
  all_goals go_ret
  all_goals refine ⟨?_, HBB.out⟩
  all_goals rw [← HR.out]
  all_goals refine congrArg (fun b => Ending.returned (Value.bool b)) ?_
  all_goals unfold hfV
  all_goals (simp [*, HOB.out])
  all_goals first
    | done
    | omega
set_option linter.unusedSimpArgs false in
set_option maxRecDepth 100000 in
set_option maxHeartbeats 1000000 in
theorem hf_f (ob : Nat) (hob : ob ≠ 0) (ex m : Nat) (hm : m < 21) (f o : Int) (s sb st : ByteArray) (A6 A7 A8 : Option Addr) (n6 c6 n7 c7 n8 c8 : Nat) (w : World) (hT : RwA w m ⟨false, false, false, ob, 0, ex, false, false⟩) :
    Calls Tryz.prog 149 #[.agg (smC (m : Int) s sb st f o (.slice A6 n6 c6) (.slice A7 n7 c7) (.slice A8 n8 c8))] w fun e w' => e = .returned (.bool (hfV ⟨false, false, false, ob, 0, ex, false, false⟩ s sb st f o n6 n7 n8)) ∧ Below w.heap.size w w' := by
  obtain ⟨W, hW⟩ : ∃ W, w.alloc (.cells (smC (m : Int) s sb st f o (.slice A6 n6 c6) (.slice A7 n7 c7) (.slice A8 n8 c8)) 54) = W := ⟨_, rfl⟩
  have hb : Below w.heap.size w W := by rw [← hW]; exact belowAlloc _ _
  have B : Blk W w.heap.size 54 (smC (m : Int) s sb st f o (.slice A6 n6 c6) (.slice A7 n7 c7) (.slice A8 n8 c8)) := by rw [← hW]; exact Blk.new _ _ _
  have hlt : 0 < w.heap.size := World.block_lt_of_cell? _ _ hT.c0
  obtain ⟨X, hX⟩ : ∃ X, W.alloc (.cells #[.bool false, .bool false, .bool false, .int .i64 (ob : Int), .int .i64 0, .int .i64 (ex : Int), .bool false, .bool false] 101) = X := ⟨_, rfl⟩
  have hb2 : Below W.heap.size W X := by rw [← hX]; exact belowAlloc W _
  have BR : Blk X W.heap.size 101 #[.bool false, .bool false, .bool false, .int .i64 (ob : Int), .int .i64 0, .int .i64 (ex : Int), .bool false, .bool false] := by rw [← hX]; exact Blk.new _ _ _
  have B2 := B.below' hb2
  have hgl : ∀ o, W.cell? ⟨0, o, none⟩ = w.cell? ⟨0, o, none⟩ := fun o => hb.cell (p := ⟨0, o, none⟩) hlt
  have f0 : W.cell? ⟨w.heap.size, 0, none⟩ = some (.int .i64 (m : Int)) := B.cell 0
  have r0 : W.cell? ⟨0, m * 8, none⟩ = some (.bool false) := (hgl _).trans hT.c0
  have r1 : W.cell? ⟨0, m * 8 + 1, none⟩ = some (.bool false) := (hgl _).trans hT.c1
  have r2 : W.cell? ⟨0, m * 8 + 2, none⟩ = some (.bool false) := (hgl _).trans hT.c2
  have r3 : W.cell? ⟨0, m * 8 + 3, none⟩ = some (.int .i64 (ob : Int)) := (hgl _).trans hT.c3
  have r4 : W.cell? ⟨0, m * 8 + 4, none⟩ = some (.int .i64 0) := (hgl _).trans hT.c4
  have r5 : W.cell? ⟨0, m * 8 + 5, none⟩ = some (.int .i64 (ex : Int)) := (hgl _).trans hT.c5
  have r6 : W.cell? ⟨0, m * 8 + 6, none⟩ = some (.bool false) := (hgl _).trans hT.c6
  have r7 : W.cell? ⟨0, m * 8 + 7, none⟩ = some (.bool false) := (hgl _).trans hT.c7
  have g1 : X.cell? ⟨w.heap.size, 1, none⟩ = some (.string s) := B2.cell 1
  have g2 : X.cell? ⟨w.heap.size, 2, none⟩ = some (.string sb) := B2.cell 2
  have g3 : X.cell? ⟨w.heap.size, 3, none⟩ = some (.string st) := B2.cell 3
  have g4 : X.cell? ⟨w.heap.size, 4, none⟩ = some (.int .i64 f) := B2.cell 4
  have g5 : X.cell? ⟨w.heap.size, 5, none⟩ = some (.int .i64 o) := B2.cell 5
  have g6 : X.cell? ⟨w.heap.size, 6, none⟩ = some (.slice A6 n6 c6) := B2.cell 6
  have g7 : X.cell? ⟨w.heap.size, 7, none⟩ = some (.slice A7 n7 c7) := B2.cell 7
  have g8 : X.cell? ⟨w.heap.size, 8, none⟩ = some (.slice A8 n8 c8) := B2.cell 8
  have q0 : X.cell? ⟨W.heap.size, 0, none⟩ = some (.bool false) := BR.cell 0
  have q1 : X.cell? ⟨W.heap.size, 1, none⟩ = some (.bool false) := BR.cell 1
  have q2 : X.cell? ⟨W.heap.size, 2, none⟩ = some (.bool false) := BR.cell 2
  have q3 : X.cell? ⟨W.heap.size, 3, none⟩ = some (.int .i64 (ob : Int)) := BR.cell 3
  have q4 : X.cell? ⟨W.heap.size, 4, none⟩ = some (.int .i64 0) := BR.cell 4
  have q5 : X.cell? ⟨W.heap.size, 5, none⟩ = some (.int .i64 (ex : Int)) := BR.cell 5
  have q6 : X.cell? ⟨W.heap.size, 6, none⟩ = some (.bool false) := BR.cell 6
  have q7 : X.cell? ⟨W.heap.size, 7, none⟩ = some (.bool false) := BR.cell 7
  have hm1 : (m : Int) < 21 := by omega
  have hm0 : (0 : Int) ≤ m := by omega
  have ob1 : ((ob : Int) != 0) = true := by simpa using hob
  obtain ⟨rr, hr⟩ : ∃ r, hfV ⟨false, false, false, ob, 0, ex, false, false⟩ s sb st f o n6 n7 n8 = r := ⟨_, rfl⟩
  rw [hr]
  have HR := Lib.hid hr
  have HBB := Lib.hid (belowThen hb hb2)
  have HOB := Lib.hid hob

  unfold smC at hW ⊢
  have HW := Lib.hid hW
  have HX := Lib.hid hX
  clear hX BR hW hb hb2 B B2 hgl hr hT hlt hob 
  go_enter Tryz.func149, Tryz.ntmps149
  go_upto_region 1 with fail
  rw [HW.out]
  go_upto_region 2 with fail
  rw [HX.out]
  go_simp
  go_wp2_with fail
  all_goals go_ret
  all_goals refine ⟨?_, HBB.out⟩
  all_goals rw [← HR.out]
  all_goals refine congrArg (fun b => Ending.returned (Value.bool b)) ?_
  all_goals unfold hfV
  all_goals (simp [*, HOB.out])
  all_goals first
    | done
    | omega
set_option linter.unusedSimpArgs false in
set_option maxRecDepth 100000 in
set_option maxHeartbeats 1000000 in
theorem hf_g (ob : Nat) (hob : ob ≠ 0) (ex m : Nat) (hm : m < 21) (f o : Int) (s sb st : ByteArray) (A6 A7 A8 : Option Addr) (n6 c6 n7 c7 n8 c8 : Nat) (w : World) (hT : RwA w m ⟨true, false, false, ob, 0, ex, false, false⟩) :
    Calls Tryz.prog 149 #[.agg (smC (m : Int) s sb st f o (.slice A6 n6 c6) (.slice A7 n7 c7) (.slice A8 n8 c8))] w fun e w' => e = .returned (.bool (hfV ⟨true, false, false, ob, 0, ex, false, false⟩ s sb st f o n6 n7 n8)) ∧ Below w.heap.size w w' := by
  obtain ⟨W, hW⟩ : ∃ W, w.alloc (.cells (smC (m : Int) s sb st f o (.slice A6 n6 c6) (.slice A7 n7 c7) (.slice A8 n8 c8)) 54) = W := ⟨_, rfl⟩
  have hb : Below w.heap.size w W := by rw [← hW]; exact belowAlloc _ _
  have B : Blk W w.heap.size 54 (smC (m : Int) s sb st f o (.slice A6 n6 c6) (.slice A7 n7 c7) (.slice A8 n8 c8)) := by rw [← hW]; exact Blk.new _ _ _
  have hlt : 0 < w.heap.size := World.block_lt_of_cell? _ _ hT.c0
  obtain ⟨X, hX⟩ : ∃ X, W.alloc (.cells #[.bool true, .bool false, .bool false, .int .i64 (ob : Int), .int .i64 0, .int .i64 (ex : Int), .bool false, .bool false] 101) = X := ⟨_, rfl⟩
  have hb2 : Below W.heap.size W X := by rw [← hX]; exact belowAlloc W _
  have BR : Blk X W.heap.size 101 #[.bool true, .bool false, .bool false, .int .i64 (ob : Int), .int .i64 0, .int .i64 (ex : Int), .bool false, .bool false] := by rw [← hX]; exact Blk.new _ _ _
  have B2 := B.below' hb2
  have hgl : ∀ o, W.cell? ⟨0, o, none⟩ = w.cell? ⟨0, o, none⟩ := fun o => hb.cell (p := ⟨0, o, none⟩) hlt
  have f0 : W.cell? ⟨w.heap.size, 0, none⟩ = some (.int .i64 (m : Int)) := B.cell 0
  have r0 : W.cell? ⟨0, m * 8, none⟩ = some (.bool true) := (hgl _).trans hT.c0
  have r1 : W.cell? ⟨0, m * 8 + 1, none⟩ = some (.bool false) := (hgl _).trans hT.c1
  have r2 : W.cell? ⟨0, m * 8 + 2, none⟩ = some (.bool false) := (hgl _).trans hT.c2
  have r3 : W.cell? ⟨0, m * 8 + 3, none⟩ = some (.int .i64 (ob : Int)) := (hgl _).trans hT.c3
  have r4 : W.cell? ⟨0, m * 8 + 4, none⟩ = some (.int .i64 0) := (hgl _).trans hT.c4
  have r5 : W.cell? ⟨0, m * 8 + 5, none⟩ = some (.int .i64 (ex : Int)) := (hgl _).trans hT.c5
  have r6 : W.cell? ⟨0, m * 8 + 6, none⟩ = some (.bool false) := (hgl _).trans hT.c6
  have r7 : W.cell? ⟨0, m * 8 + 7, none⟩ = some (.bool false) := (hgl _).trans hT.c7
  have g1 : X.cell? ⟨w.heap.size, 1, none⟩ = some (.string s) := B2.cell 1
  have g2 : X.cell? ⟨w.heap.size, 2, none⟩ = some (.string sb) := B2.cell 2
  have g3 : X.cell? ⟨w.heap.size, 3, none⟩ = some (.string st) := B2.cell 3
  have g4 : X.cell? ⟨w.heap.size, 4, none⟩ = some (.int .i64 f) := B2.cell 4
  have g5 : X.cell? ⟨w.heap.size, 5, none⟩ = some (.int .i64 o) := B2.cell 5
  have g6 : X.cell? ⟨w.heap.size, 6, none⟩ = some (.slice A6 n6 c6) := B2.cell 6
  have g7 : X.cell? ⟨w.heap.size, 7, none⟩ = some (.slice A7 n7 c7) := B2.cell 7
  have g8 : X.cell? ⟨w.heap.size, 8, none⟩ = some (.slice A8 n8 c8) := B2.cell 8
  have q0 : X.cell? ⟨W.heap.size, 0, none⟩ = some (.bool true) := BR.cell 0
  have q1 : X.cell? ⟨W.heap.size, 1, none⟩ = some (.bool false) := BR.cell 1
  have q2 : X.cell? ⟨W.heap.size, 2, none⟩ = some (.bool false) := BR.cell 2
  have q3 : X.cell? ⟨W.heap.size, 3, none⟩ = some (.int .i64 (ob : Int)) := BR.cell 3
  have q4 : X.cell? ⟨W.heap.size, 4, none⟩ = some (.int .i64 0) := BR.cell 4
  have q5 : X.cell? ⟨W.heap.size, 5, none⟩ = some (.int .i64 (ex : Int)) := BR.cell 5
  have q6 : X.cell? ⟨W.heap.size, 6, none⟩ = some (.bool false) := BR.cell 6
  have q7 : X.cell? ⟨W.heap.size, 7, none⟩ = some (.bool false) := BR.cell 7
  have hm1 : (m : Int) < 21 := by omega
  have hm0 : (0 : Int) ≤ m := by omega
  have ob1 : ((ob : Int) != 0) = true := by simpa using hob
  obtain ⟨rr, hr⟩ : ∃ r, hfV ⟨true, false, false, ob, 0, ex, false, false⟩ s sb st f o n6 n7 n8 = r := ⟨_, rfl⟩
  rw [hr]
  have HR := Lib.hid hr
  have HBB := Lib.hid (belowThen hb hb2)
  have HOB := Lib.hid hob

  unfold smC at hW ⊢
  have HW := Lib.hid hW
  have HX := Lib.hid hX
  clear hX BR hW hb hb2 B B2 hgl hr hT hlt hob 
  go_enter Tryz.func149, Tryz.ntmps149
  go_upto_region 1 with fail
  rw [HW.out]
  go_upto_region 2 with fail
  rw [HX.out]
  go_simp
  go_wp2_with fail
  all_goals go_ret
  all_goals refine ⟨?_, HBB.out⟩
  all_goals rw [← HR.out]
  all_goals refine congrArg (fun b => Ending.returned (Value.bool b)) ?_
  all_goals unfold hfV
  all_goals (simp [*, HOB.out])
  all_goals first
    | done
    | omega
set_option linter.unusedSimpArgs false in
set_option maxRecDepth 100000 in
set_option maxHeartbeats 1000000 in
theorem hf_h (ob : Nat) (hob : ob ≠ 0) (ot : Nat) (hot : ot ≠ 0) (ex m : Nat) (hm : m < 21) (f o : Int) (s sb st : ByteArray) (A6 A7 A8 : Option Addr) (n6 c6 n7 c7 n8 c8 : Nat) (w : World) (hT : RwA w m ⟨false, false, false, ob, ot, ex, false, false⟩) :
    Calls Tryz.prog 149 #[.agg (smC (m : Int) s sb st f o (.slice A6 n6 c6) (.slice A7 n7 c7) (.slice A8 n8 c8))] w fun e w' => e = .returned (.bool (hfV ⟨false, false, false, ob, ot, ex, false, false⟩ s sb st f o n6 n7 n8)) ∧ Below w.heap.size w w' := by
  obtain ⟨W, hW⟩ : ∃ W, w.alloc (.cells (smC (m : Int) s sb st f o (.slice A6 n6 c6) (.slice A7 n7 c7) (.slice A8 n8 c8)) 54) = W := ⟨_, rfl⟩
  have hb : Below w.heap.size w W := by rw [← hW]; exact belowAlloc _ _
  have B : Blk W w.heap.size 54 (smC (m : Int) s sb st f o (.slice A6 n6 c6) (.slice A7 n7 c7) (.slice A8 n8 c8)) := by rw [← hW]; exact Blk.new _ _ _
  have hlt : 0 < w.heap.size := World.block_lt_of_cell? _ _ hT.c0
  obtain ⟨X, hX⟩ : ∃ X, W.alloc (.cells #[.bool false, .bool false, .bool false, .int .i64 (ob : Int), .int .i64 (ot : Int), .int .i64 (ex : Int), .bool false, .bool false] 101) = X := ⟨_, rfl⟩
  have hb2 : Below W.heap.size W X := by rw [← hX]; exact belowAlloc W _
  have BR : Blk X W.heap.size 101 #[.bool false, .bool false, .bool false, .int .i64 (ob : Int), .int .i64 (ot : Int), .int .i64 (ex : Int), .bool false, .bool false] := by rw [← hX]; exact Blk.new _ _ _
  have B2 := B.below' hb2
  have hgl : ∀ o, W.cell? ⟨0, o, none⟩ = w.cell? ⟨0, o, none⟩ := fun o => hb.cell (p := ⟨0, o, none⟩) hlt
  have f0 : W.cell? ⟨w.heap.size, 0, none⟩ = some (.int .i64 (m : Int)) := B.cell 0
  have r0 : W.cell? ⟨0, m * 8, none⟩ = some (.bool false) := (hgl _).trans hT.c0
  have r1 : W.cell? ⟨0, m * 8 + 1, none⟩ = some (.bool false) := (hgl _).trans hT.c1
  have r2 : W.cell? ⟨0, m * 8 + 2, none⟩ = some (.bool false) := (hgl _).trans hT.c2
  have r3 : W.cell? ⟨0, m * 8 + 3, none⟩ = some (.int .i64 (ob : Int)) := (hgl _).trans hT.c3
  have r4 : W.cell? ⟨0, m * 8 + 4, none⟩ = some (.int .i64 (ot : Int)) := (hgl _).trans hT.c4
  have r5 : W.cell? ⟨0, m * 8 + 5, none⟩ = some (.int .i64 (ex : Int)) := (hgl _).trans hT.c5
  have r6 : W.cell? ⟨0, m * 8 + 6, none⟩ = some (.bool false) := (hgl _).trans hT.c6
  have r7 : W.cell? ⟨0, m * 8 + 7, none⟩ = some (.bool false) := (hgl _).trans hT.c7
  have g1 : X.cell? ⟨w.heap.size, 1, none⟩ = some (.string s) := B2.cell 1
  have g2 : X.cell? ⟨w.heap.size, 2, none⟩ = some (.string sb) := B2.cell 2
  have g3 : X.cell? ⟨w.heap.size, 3, none⟩ = some (.string st) := B2.cell 3
  have g4 : X.cell? ⟨w.heap.size, 4, none⟩ = some (.int .i64 f) := B2.cell 4
  have g5 : X.cell? ⟨w.heap.size, 5, none⟩ = some (.int .i64 o) := B2.cell 5
  have g6 : X.cell? ⟨w.heap.size, 6, none⟩ = some (.slice A6 n6 c6) := B2.cell 6
  have g7 : X.cell? ⟨w.heap.size, 7, none⟩ = some (.slice A7 n7 c7) := B2.cell 7
  have g8 : X.cell? ⟨w.heap.size, 8, none⟩ = some (.slice A8 n8 c8) := B2.cell 8
  have q0 : X.cell? ⟨W.heap.size, 0, none⟩ = some (.bool false) := BR.cell 0
  have q1 : X.cell? ⟨W.heap.size, 1, none⟩ = some (.bool false) := BR.cell 1
  have q2 : X.cell? ⟨W.heap.size, 2, none⟩ = some (.bool false) := BR.cell 2
  have q3 : X.cell? ⟨W.heap.size, 3, none⟩ = some (.int .i64 (ob : Int)) := BR.cell 3
  have q4 : X.cell? ⟨W.heap.size, 4, none⟩ = some (.int .i64 (ot : Int)) := BR.cell 4
  have q5 : X.cell? ⟨W.heap.size, 5, none⟩ = some (.int .i64 (ex : Int)) := BR.cell 5
  have q6 : X.cell? ⟨W.heap.size, 6, none⟩ = some (.bool false) := BR.cell 6
  have q7 : X.cell? ⟨W.heap.size, 7, none⟩ = some (.bool false) := BR.cell 7
  have hm1 : (m : Int) < 21 := by omega
  have hm0 : (0 : Int) ≤ m := by omega
  have ob1 : ((ob : Int) != 0) = true := by simpa using hob
  have ot1 : ((ot : Int) != 0) = true := by simpa using hot
  obtain ⟨rr, hr⟩ : ∃ r, hfV ⟨false, false, false, ob, ot, ex, false, false⟩ s sb st f o n6 n7 n8 = r := ⟨_, rfl⟩
  rw [hr]
  have HR := Lib.hid hr
  have HBB := Lib.hid (belowThen hb hb2)
  have HOB := Lib.hid hob
  have HOT := Lib.hid hot
  unfold smC at hW ⊢
  have HW := Lib.hid hW
  have HX := Lib.hid hX
  clear hX BR hW hb hb2 B B2 hgl hr hT hlt hob hot
  go_enter Tryz.func149, Tryz.ntmps149
  go_upto_region 1 with fail
  rw [HW.out]
  go_upto_region 2 with fail
  rw [HX.out]
  go_simp
  go_wp2_with fail
  all_goals go_ret
  all_goals refine ⟨?_, HBB.out⟩
  all_goals rw [← HR.out]
  all_goals refine congrArg (fun b => Ending.returned (Value.bool b)) ?_
  all_goals unfold hfV
  all_goals (simp [*, HOB.out, HOT.out])
  all_goals first
    | done
    | omega
set_option linter.unusedSimpArgs false in
set_option maxRecDepth 100000 in
set_option maxHeartbeats 1000000 in
theorem hf_i (ex m : Nat) (hm : m < 21) (f o : Int) (s sb st : ByteArray) (A6 A7 A8 : Option Addr) (n6 c6 n7 c7 n8 c8 : Nat) (w : World) (hT : RwA w m ⟨false, false, false, 0, 0, ex, true, true⟩) :
    Calls Tryz.prog 149 #[.agg (smC (m : Int) s sb st f o (.slice A6 n6 c6) (.slice A7 n7 c7) (.slice A8 n8 c8))] w fun e w' => e = .returned (.bool (hfV ⟨false, false, false, 0, 0, ex, true, true⟩ s sb st f o n6 n7 n8)) ∧ Below w.heap.size w w' := by
  obtain ⟨W, hW⟩ : ∃ W, w.alloc (.cells (smC (m : Int) s sb st f o (.slice A6 n6 c6) (.slice A7 n7 c7) (.slice A8 n8 c8)) 54) = W := ⟨_, rfl⟩
  have hb : Below w.heap.size w W := by rw [← hW]; exact belowAlloc _ _
  have B : Blk W w.heap.size 54 (smC (m : Int) s sb st f o (.slice A6 n6 c6) (.slice A7 n7 c7) (.slice A8 n8 c8)) := by rw [← hW]; exact Blk.new _ _ _
  have hlt : 0 < w.heap.size := World.block_lt_of_cell? _ _ hT.c0
  obtain ⟨X, hX⟩ : ∃ X, W.alloc (.cells #[.bool false, .bool false, .bool false, .int .i64 0, .int .i64 0, .int .i64 (ex : Int), .bool true, .bool true] 101) = X := ⟨_, rfl⟩
  have hb2 : Below W.heap.size W X := by rw [← hX]; exact belowAlloc W _
  have BR : Blk X W.heap.size 101 #[.bool false, .bool false, .bool false, .int .i64 0, .int .i64 0, .int .i64 (ex : Int), .bool true, .bool true] := by rw [← hX]; exact Blk.new _ _ _
  have B2 := B.below' hb2
  have hgl : ∀ o, W.cell? ⟨0, o, none⟩ = w.cell? ⟨0, o, none⟩ := fun o => hb.cell (p := ⟨0, o, none⟩) hlt
  have f0 : W.cell? ⟨w.heap.size, 0, none⟩ = some (.int .i64 (m : Int)) := B.cell 0
  have r0 : W.cell? ⟨0, m * 8, none⟩ = some (.bool false) := (hgl _).trans hT.c0
  have r1 : W.cell? ⟨0, m * 8 + 1, none⟩ = some (.bool false) := (hgl _).trans hT.c1
  have r2 : W.cell? ⟨0, m * 8 + 2, none⟩ = some (.bool false) := (hgl _).trans hT.c2
  have r3 : W.cell? ⟨0, m * 8 + 3, none⟩ = some (.int .i64 0) := (hgl _).trans hT.c3
  have r4 : W.cell? ⟨0, m * 8 + 4, none⟩ = some (.int .i64 0) := (hgl _).trans hT.c4
  have r5 : W.cell? ⟨0, m * 8 + 5, none⟩ = some (.int .i64 (ex : Int)) := (hgl _).trans hT.c5
  have r6 : W.cell? ⟨0, m * 8 + 6, none⟩ = some (.bool true) := (hgl _).trans hT.c6
  have r7 : W.cell? ⟨0, m * 8 + 7, none⟩ = some (.bool true) := (hgl _).trans hT.c7
  have g1 : X.cell? ⟨w.heap.size, 1, none⟩ = some (.string s) := B2.cell 1
  have g2 : X.cell? ⟨w.heap.size, 2, none⟩ = some (.string sb) := B2.cell 2
  have g3 : X.cell? ⟨w.heap.size, 3, none⟩ = some (.string st) := B2.cell 3
  have g4 : X.cell? ⟨w.heap.size, 4, none⟩ = some (.int .i64 f) := B2.cell 4
  have g5 : X.cell? ⟨w.heap.size, 5, none⟩ = some (.int .i64 o) := B2.cell 5
  have g6 : X.cell? ⟨w.heap.size, 6, none⟩ = some (.slice A6 n6 c6) := B2.cell 6
  have g7 : X.cell? ⟨w.heap.size, 7, none⟩ = some (.slice A7 n7 c7) := B2.cell 7
  have g8 : X.cell? ⟨w.heap.size, 8, none⟩ = some (.slice A8 n8 c8) := B2.cell 8
  have q0 : X.cell? ⟨W.heap.size, 0, none⟩ = some (.bool false) := BR.cell 0
  have q1 : X.cell? ⟨W.heap.size, 1, none⟩ = some (.bool false) := BR.cell 1
  have q2 : X.cell? ⟨W.heap.size, 2, none⟩ = some (.bool false) := BR.cell 2
  have q3 : X.cell? ⟨W.heap.size, 3, none⟩ = some (.int .i64 0) := BR.cell 3
  have q4 : X.cell? ⟨W.heap.size, 4, none⟩ = some (.int .i64 0) := BR.cell 4
  have q5 : X.cell? ⟨W.heap.size, 5, none⟩ = some (.int .i64 (ex : Int)) := BR.cell 5
  have q6 : X.cell? ⟨W.heap.size, 6, none⟩ = some (.bool true) := BR.cell 6
  have q7 : X.cell? ⟨W.heap.size, 7, none⟩ = some (.bool true) := BR.cell 7
  have hm1 : (m : Int) < 21 := by omega
  have hm0 : (0 : Int) ≤ m := by omega
  obtain ⟨rr, hr⟩ : ∃ r, hfV ⟨false, false, false, 0, 0, ex, true, true⟩ s sb st f o n6 n7 n8 = r := ⟨_, rfl⟩
  rw [hr]
  have HR := Lib.hid hr
  have HBB := Lib.hid (belowThen hb hb2)


  unfold smC at hW ⊢
  have HW := Lib.hid hW
  have HX := Lib.hid hX
  clear hX BR hW hb hb2 B B2 hgl hr hT hlt  
  go_enter Tryz.func149, Tryz.ntmps149
  go_upto_region 1 with fail
  rw [HW.out]
  go_upto_region 2 with fail
  rw [HX.out]
  go_simp
  go_wp2_with fail
  all_goals go_ret
  all_goals refine ⟨?_, HBB.out⟩
  all_goals rw [← HR.out]
  all_goals refine congrArg (fun b => Ending.returned (Value.bool b)) ?_
  all_goals unfold hfV
  all_goals (simp [*])
  all_goals first
    | done
    | omega
set_option linter.unusedSimpArgs false in
set_option maxRecDepth 100000 in
set_option maxHeartbeats 1000000 in
theorem hf_j (ex m : Nat) (hm : m < 21) (f o : Int) (s sb st : ByteArray) (A6 A7 A8 : Option Addr) (n6 c6 n7 c7 n8 c8 : Nat) (w : World) (hT : RwA w m ⟨false, false, false, 0, 0, ex, true, false⟩) :
    Calls Tryz.prog 149 #[.agg (smC (m : Int) s sb st f o (.slice A6 n6 c6) (.slice A7 n7 c7) (.slice A8 n8 c8))] w fun e w' => e = .returned (.bool (hfV ⟨false, false, false, 0, 0, ex, true, false⟩ s sb st f o n6 n7 n8)) ∧ Below w.heap.size w w' := by
  obtain ⟨W, hW⟩ : ∃ W, w.alloc (.cells (smC (m : Int) s sb st f o (.slice A6 n6 c6) (.slice A7 n7 c7) (.slice A8 n8 c8)) 54) = W := ⟨_, rfl⟩
  have hb : Below w.heap.size w W := by rw [← hW]; exact belowAlloc _ _
  have B : Blk W w.heap.size 54 (smC (m : Int) s sb st f o (.slice A6 n6 c6) (.slice A7 n7 c7) (.slice A8 n8 c8)) := by rw [← hW]; exact Blk.new _ _ _
  have hlt : 0 < w.heap.size := World.block_lt_of_cell? _ _ hT.c0
  obtain ⟨X, hX⟩ : ∃ X, W.alloc (.cells #[.bool false, .bool false, .bool false, .int .i64 0, .int .i64 0, .int .i64 (ex : Int), .bool true, .bool false] 101) = X := ⟨_, rfl⟩
  have hb2 : Below W.heap.size W X := by rw [← hX]; exact belowAlloc W _
  have BR : Blk X W.heap.size 101 #[.bool false, .bool false, .bool false, .int .i64 0, .int .i64 0, .int .i64 (ex : Int), .bool true, .bool false] := by rw [← hX]; exact Blk.new _ _ _
  have B2 := B.below' hb2
  have hgl : ∀ o, W.cell? ⟨0, o, none⟩ = w.cell? ⟨0, o, none⟩ := fun o => hb.cell (p := ⟨0, o, none⟩) hlt
  have f0 : W.cell? ⟨w.heap.size, 0, none⟩ = some (.int .i64 (m : Int)) := B.cell 0
  have r0 : W.cell? ⟨0, m * 8, none⟩ = some (.bool false) := (hgl _).trans hT.c0
  have r1 : W.cell? ⟨0, m * 8 + 1, none⟩ = some (.bool false) := (hgl _).trans hT.c1
  have r2 : W.cell? ⟨0, m * 8 + 2, none⟩ = some (.bool false) := (hgl _).trans hT.c2
  have r3 : W.cell? ⟨0, m * 8 + 3, none⟩ = some (.int .i64 0) := (hgl _).trans hT.c3
  have r4 : W.cell? ⟨0, m * 8 + 4, none⟩ = some (.int .i64 0) := (hgl _).trans hT.c4
  have r5 : W.cell? ⟨0, m * 8 + 5, none⟩ = some (.int .i64 (ex : Int)) := (hgl _).trans hT.c5
  have r6 : W.cell? ⟨0, m * 8 + 6, none⟩ = some (.bool true) := (hgl _).trans hT.c6
  have r7 : W.cell? ⟨0, m * 8 + 7, none⟩ = some (.bool false) := (hgl _).trans hT.c7
  have g1 : X.cell? ⟨w.heap.size, 1, none⟩ = some (.string s) := B2.cell 1
  have g2 : X.cell? ⟨w.heap.size, 2, none⟩ = some (.string sb) := B2.cell 2
  have g3 : X.cell? ⟨w.heap.size, 3, none⟩ = some (.string st) := B2.cell 3
  have g4 : X.cell? ⟨w.heap.size, 4, none⟩ = some (.int .i64 f) := B2.cell 4
  have g5 : X.cell? ⟨w.heap.size, 5, none⟩ = some (.int .i64 o) := B2.cell 5
  have g6 : X.cell? ⟨w.heap.size, 6, none⟩ = some (.slice A6 n6 c6) := B2.cell 6
  have g7 : X.cell? ⟨w.heap.size, 7, none⟩ = some (.slice A7 n7 c7) := B2.cell 7
  have g8 : X.cell? ⟨w.heap.size, 8, none⟩ = some (.slice A8 n8 c8) := B2.cell 8
  have q0 : X.cell? ⟨W.heap.size, 0, none⟩ = some (.bool false) := BR.cell 0
  have q1 : X.cell? ⟨W.heap.size, 1, none⟩ = some (.bool false) := BR.cell 1
  have q2 : X.cell? ⟨W.heap.size, 2, none⟩ = some (.bool false) := BR.cell 2
  have q3 : X.cell? ⟨W.heap.size, 3, none⟩ = some (.int .i64 0) := BR.cell 3
  have q4 : X.cell? ⟨W.heap.size, 4, none⟩ = some (.int .i64 0) := BR.cell 4
  have q5 : X.cell? ⟨W.heap.size, 5, none⟩ = some (.int .i64 (ex : Int)) := BR.cell 5
  have q6 : X.cell? ⟨W.heap.size, 6, none⟩ = some (.bool true) := BR.cell 6
  have q7 : X.cell? ⟨W.heap.size, 7, none⟩ = some (.bool false) := BR.cell 7
  have hm1 : (m : Int) < 21 := by omega
  have hm0 : (0 : Int) ≤ m := by omega
  obtain ⟨rr, hr⟩ : ∃ r, hfV ⟨false, false, false, 0, 0, ex, true, false⟩ s sb st f o n6 n7 n8 = r := ⟨_, rfl⟩
  rw [hr]
  have HR := Lib.hid hr
  have HBB := Lib.hid (belowThen hb hb2)


  unfold smC at hW ⊢
  have HW := Lib.hid hW
  have HX := Lib.hid hX
  clear hX BR hW hb hb2 B B2 hgl hr hT hlt  
  go_enter Tryz.func149, Tryz.ntmps149
  go_upto_region 1 with fail
  rw [HW.out]
  go_upto_region 2 with fail
  rw [HX.out]
  go_simp
  go_wp2_with fail
  all_goals go_ret
  all_goals refine ⟨?_, HBB.out⟩
  all_goals rw [← HR.out]
  all_goals refine congrArg (fun b => Ending.returned (Value.bool b)) ?_
  all_goals unfold hfV
  all_goals (simp [*])
  all_goals first
    | done
    | omega
theorem iFields16 (t : Sm) (m : Nat) (hk : t.val.kind = (m : Int)) (h1 : 1 ≤ m) (h2 : m ≤ 20) (A6 A7 A8 : Option Addr) (c6 c7 c8 : Nat) (w : World) (hT : RwsT w) :
    Calls Tryz.prog 149 #[.agg (smC t.val.kind t.val.name t.val.obj t.val.other t.val.fn t.val.ord (.slice A6 t.val.exprs.length c6) (.slice A7 t.fst.length c7) (.slice A8 t.snd.length c8))] w fun e w' => e = .returned (.bool (hfB t)) ∧ Below w.heap.size w w' := by
  rw [hfVIs, hk]
  have hr := hT m (by omega)
  have hc : m = 1 ∨ m = 2 ∨ m = 3 ∨ m = 4 ∨ m = 5 ∨ m = 6 ∨ m = 7 ∨ m = 8 ∨ m = 9 ∨ m = 10 ∨ m = 11 ∨ m = 12 ∨ m = 13 ∨ m = 14 ∨ m = 15 ∨ m = 16 ∨ m = 17 ∨ m = 18 ∨ m = 19 ∨ m = 20 := by omega
  rcases hc with rfl | rfl | rfl | rfl | rfl | rfl | rfl | rfl | rfl | rfl | rfl | rfl | rfl | rfl | rfl | rfl | rfl | rfl | rfl | rfl
  · exact hf_a _ 1 (by omega) _ _ _ _ _ A6 A7 A8 _ c6 _ c7 _ c8 w hr
  · exact hf_b 1 (by decide) _ 2 (by omega) _ _ _ _ _ A6 A7 A8 _ c6 _ c7 _ c8 w hr
  · exact hf_c 1 (by decide) _ 3 (by omega) _ _ _ _ _ A6 A7 A8 _ c6 _ c7 _ c8 w hr
  · exact hf_b 1 (by decide) _ 4 (by omega) _ _ _ _ _ A6 A7 A8 _ c6 _ c7 _ c8 w hr
  · exact hf_b 1 (by decide) _ 5 (by omega) _ _ _ _ _ A6 A7 A8 _ c6 _ c7 _ c8 w hr
  · exact hf_b 1 (by decide) _ 6 (by omega) _ _ _ _ _ A6 A7 A8 _ c6 _ c7 _ c8 w hr
  · exact hf_d _ 7 (by omega) _ _ _ _ _ A6 A7 A8 _ c6 _ c7 _ c8 w hr
  · exact hf_e 1 (by decide) _ 8 (by omega) _ _ _ _ _ A6 A7 A8 _ c6 _ c7 _ c8 w hr
  · exact hf_f 2 (by decide) _ 9 (by omega) _ _ _ _ _ A6 A7 A8 _ c6 _ c7 _ c8 w hr
  · exact hf_f 2 (by decide) _ 10 (by omega) _ _ _ _ _ A6 A7 A8 _ c6 _ c7 _ c8 w hr
  · exact hf_g 2 (by decide) _ 11 (by omega) _ _ _ _ _ A6 A7 A8 _ c6 _ c7 _ c8 w hr
  · exact hf_h 3 (by decide) 2 (by decide) _ 12 (by omega) _ _ _ _ _ A6 A7 A8 _ c6 _ c7 _ c8 w hr
  · exact hf_f 3 (by decide) _ 13 (by omega) _ _ _ _ _ A6 A7 A8 _ c6 _ c7 _ c8 w hr
  · exact hf_f 3 (by decide) _ 14 (by omega) _ _ _ _ _ A6 A7 A8 _ c6 _ c7 _ c8 w hr
  · exact hf_g 4 (by decide) _ 15 (by omega) _ _ _ _ _ A6 A7 A8 _ c6 _ c7 _ c8 w hr
  · exact hf_d _ 16 (by omega) _ _ _ _ _ A6 A7 A8 _ c6 _ c7 _ c8 w hr
  · exact hf_d _ 17 (by omega) _ _ _ _ _ A6 A7 A8 _ c6 _ c7 _ c8 w hr
  · exact hf_i _ 18 (by omega) _ _ _ _ _ A6 A7 A8 _ c6 _ c7 _ c8 w hr
  · exact hf_j _ 19 (by omega) _ _ _ _ _ A6 A7 A8 _ c6 _ c7 _ c8 w hr
  · exact hf_d _ 20 (by omega) _ _ _ _ _ A6 A7 A8 _ c6 _ c7 _ c8 w hr
end Go.Proofs.YtiaendggmamnkaaGreatDoor
