/-
  The error of one part of an expression (checkPart).
-/
import Derived.Test.YtiaendggmamnkaaGreatDoorEQn
import Derived.Test.YtiaendggmamnkaaGreatDoorEAsD
namespace Go.Proofs.YtiaendggmamnkaaGreatDoor
open Go Go.RowKit

/-- pxE by its fields. -/
def pxV (ls : List ByteArray) (k m : Int) (s : ByteArray) (f : Int) (n4 : Nat) : Int :=
  if k ≠ 1 ∧ k ≠ 2 ∧ k ≠ 3 then 8
  else if ((k == 1 || m == 0) && (k == 2 || decide (s.toList = [])) && (k == 3 || f == 0) && (n4 == if k = 3 then 2 else 0)) = false then 9
  else if vlOk m = false then 2
  else if k = 2 ∧ nmA s = false then 6
  else if k = 2 ∧ inS s ls = false then 11
  else if k = 3 ∧ fnOkA f = false then 8 else 0
theorem szDec (s : ByteArray) : (s.size == 0) = decide (s.toList = []) := by
  rw [ByteArray.toList_eq]
  have : s.size = s.data.toList.length := rfl
  rw [this]
  cases s.data.toList <;> simp
theorem pxVIs (ls : List ByteArray) (t : Ex) : pxE ls t = pxV ls t.val.kind t.val.n t.val.name t.val.fn t.fst.length := by
  unfold pxE pxV fdX
  rw [szDec]
theorem vl0 : vlOk 0 = true := by decide
set_option linter.unusedSimpArgs false in
set_option maxRecDepth 100000 in
set_option maxHeartbeats 1000000 in
theorem iPart1 (m f : Int) (s : ByteArray) (hs : s.size ≤ maxLen) (A4 : Option Addr) (n4 c4 : Nat) (ls : List ByteArray) (AL : Option Addr) (nl cL : Nat) (hl : ls.length = nl)  (w : World) (hr : RdE 1 ES w AL cL ls) :
    Calls Tryz.prog 56 #[.agg (exC 1 m s f (.slice A4 n4 c4)), .slice AL nl cL] w fun e w' => e = .returned (.int .i64 (pxV ls 1 m s f n4)) ∧ Below w.heap.size w w' := by
  obtain ⟨W, hW⟩ : ∃ W, w.alloc (.cells (exC 1 m s f (.slice A4 n4 c4)) 37) = W := ⟨_, rfl⟩
  have hb : Below w.heap.size w W := by rw [← hW]; exact belowAlloc _ _
  have B : Blk W w.heap.size 37 (exC 1 m s f (.slice A4 n4 c4)) := by rw [← hW]; exact Blk.new _ _ _
  have f0 : W.cell? ⟨w.heap.size, 0, none⟩ = some (.int .i64 1) := B.cell 0
  have f1 : W.cell? ⟨w.heap.size, 1, none⟩ = some (.int .i64 m) := B.cell 1
  have f2 : W.cell? ⟨w.heap.size, 2, none⟩ = some (.string s) := B.cell 2
  have f3 : W.cell? ⟨w.heap.size, 3, none⟩ = some (.int .i64 f) := B.cell 3
  have f4 : W.cell? ⟨w.heap.size, 4, none⟩ = some (.slice A4 n4 c4) := B.cell 4
  have HV := Lib.hid (fun X => iValue16 m X)
  have HN := Lib.hid (fun X => iName16 s hs X)
  have HM := Lib.hid (fun X (hX : Below w.heap.size w X) => iHas16 ls nl cL hl AL s X (hr.below stabS hX))
  have HF := Lib.hid (fun X => iFn16 f X)
  obtain ⟨r, hr⟩ : ∃ r, pxV ls 1 m s f n4 = r := ⟨_, rfl⟩
  rw [hr]
  have HR := Lib.hid hr
  unfold exC at hW ⊢
  have HW := Lib.hid hW
  have HB := Lib.hid hb
  clear B hW hb hr hs hl
  generalize hq1 : vlOk m = q1 at HV
  have Hhq1 := Lib.hid hq1
  clear hq1
  cases q1
  all_goals
    go_enter Tryz.func56, Tryz.ntmps56
    go_upto_region 1 with fail
    rw [HW.out]
    go_quiet (fail)
    go_wp2_with (first | (go_at_call 103; refine (HV.out _).mono ?_; rintro e w' ⟨rfl, rfl⟩))
    all_goals go_ret
    all_goals refine ⟨?_, belowDrewN HB.out _⟩
    all_goals rw [← HR.out]
    all_goals congr 2
    all_goals unfold pxV
    all_goals (simp [*, vl0, Hhq1.out])
    all_goals first
      | done
      | (have h9 := ‹((n4 : Int) != 0) = true›; simp at h9; omega)
      | (have h9 := ‹((n4 : Int) != 0) = false›; simp at h9; omega)
set_option linter.unusedSimpArgs false in
set_option maxRecDepth 100000 in
set_option maxHeartbeats 1000000 in
theorem iPart2 (m f : Int) (s : ByteArray) (hs : s.size ≤ maxLen) (A4 : Option Addr) (n4 c4 : Nat) (ls : List ByteArray) (AL : Option Addr) (nl cL : Nat) (hl : ls.length = nl)  (w : World) (hr : RdE 1 ES w AL cL ls) :
    Calls Tryz.prog 56 #[.agg (exC 2 m s f (.slice A4 n4 c4)), .slice AL nl cL] w fun e w' => e = .returned (.int .i64 (pxV ls 2 m s f n4)) ∧ Below w.heap.size w w' := by
  obtain ⟨W, hW⟩ : ∃ W, w.alloc (.cells (exC 2 m s f (.slice A4 n4 c4)) 37) = W := ⟨_, rfl⟩
  have hb : Below w.heap.size w W := by rw [← hW]; exact belowAlloc _ _
  have B : Blk W w.heap.size 37 (exC 2 m s f (.slice A4 n4 c4)) := by rw [← hW]; exact Blk.new _ _ _
  have f0 : W.cell? ⟨w.heap.size, 0, none⟩ = some (.int .i64 2) := B.cell 0
  have f1 : W.cell? ⟨w.heap.size, 1, none⟩ = some (.int .i64 m) := B.cell 1
  have f2 : W.cell? ⟨w.heap.size, 2, none⟩ = some (.string s) := B.cell 2
  have f3 : W.cell? ⟨w.heap.size, 3, none⟩ = some (.int .i64 f) := B.cell 3
  have f4 : W.cell? ⟨w.heap.size, 4, none⟩ = some (.slice A4 n4 c4) := B.cell 4
  have HV := Lib.hid (fun X => iValue16 0 X)
  have HN := Lib.hid (fun X => iName16 s hs X)
  have HM := Lib.hid (fun X (hX : Below w.heap.size w X) => iHas16 ls nl cL hl AL s X (hr.below stabS hX))
  have HF := Lib.hid (fun X => iFn16 f X)
  obtain ⟨r, hr⟩ : ∃ r, pxV ls 2 m s f n4 = r := ⟨_, rfl⟩
  rw [hr]
  have HR := Lib.hid hr
  unfold exC at hW ⊢
  have HW := Lib.hid hW
  have HB := Lib.hid hb
  clear B hW hb hr hs hl
  rw [vl0] at HV
  generalize hq2 : nmA s = q2 at HN
  generalize hq3 : inS s ls = q3 at HM
  have Hhq2 := Lib.hid hq2
  have Hhq3 := Lib.hid hq3
  clear hq2 hq3
  cases q2 <;> cases q3
  all_goals
    go_enter Tryz.func56, Tryz.ntmps56
    go_upto_region 1 with fail
    rw [HW.out]
    go_quiet (fail)
    go_wp2_with (first | (go_at_call 103; refine (HV.out _).mono ?_; rintro e w' ⟨rfl, rfl⟩) | (go_at_call 113; refine (HN.out _).mono ?_; rintro e w' ⟨rfl, rfl⟩) | (go_at_call 114; refine (HM.out _ (belowDrewN HB.out _)).mono ?_; rintro e w' ⟨rfl, rfl⟩))
    all_goals go_ret
    all_goals refine ⟨?_, belowDrewN HB.out _⟩
    all_goals rw [← HR.out]
    all_goals congr 2
    all_goals unfold pxV
    all_goals (simp [*, vl0, Hhq2.out, Hhq3.out])
    all_goals first
      | done
      | (have h9 := ‹((n4 : Int) != 0) = true›; simp at h9; omega)
      | (have h9 := ‹((n4 : Int) != 0) = false›; simp at h9; omega)
set_option linter.unusedSimpArgs false in
set_option maxRecDepth 100000 in
set_option maxHeartbeats 1000000 in
theorem iPart3 (m f : Int) (s : ByteArray) (hs : s.size ≤ maxLen) (A4 : Option Addr) (n4 c4 : Nat) (ls : List ByteArray) (AL : Option Addr) (nl cL : Nat) (hl : ls.length = nl)  (w : World) (hr : RdE 1 ES w AL cL ls) :
    Calls Tryz.prog 56 #[.agg (exC 3 m s f (.slice A4 n4 c4)), .slice AL nl cL] w fun e w' => e = .returned (.int .i64 (pxV ls 3 m s f n4)) ∧ Below w.heap.size w w' := by
  obtain ⟨W, hW⟩ : ∃ W, w.alloc (.cells (exC 3 m s f (.slice A4 n4 c4)) 37) = W := ⟨_, rfl⟩
  have hb : Below w.heap.size w W := by rw [← hW]; exact belowAlloc _ _
  have B : Blk W w.heap.size 37 (exC 3 m s f (.slice A4 n4 c4)) := by rw [← hW]; exact Blk.new _ _ _
  have f0 : W.cell? ⟨w.heap.size, 0, none⟩ = some (.int .i64 3) := B.cell 0
  have f1 : W.cell? ⟨w.heap.size, 1, none⟩ = some (.int .i64 m) := B.cell 1
  have f2 : W.cell? ⟨w.heap.size, 2, none⟩ = some (.string s) := B.cell 2
  have f3 : W.cell? ⟨w.heap.size, 3, none⟩ = some (.int .i64 f) := B.cell 3
  have f4 : W.cell? ⟨w.heap.size, 4, none⟩ = some (.slice A4 n4 c4) := B.cell 4
  have HV := Lib.hid (fun X => iValue16 0 X)
  have HN := Lib.hid (fun X => iName16 s hs X)
  have HM := Lib.hid (fun X (hX : Below w.heap.size w X) => iHas16 ls nl cL hl AL s X (hr.below stabS hX))
  have HF := Lib.hid (fun X => iFn16 f X)
  obtain ⟨r, hr⟩ : ∃ r, pxV ls 3 m s f n4 = r := ⟨_, rfl⟩
  rw [hr]
  have HR := Lib.hid hr
  unfold exC at hW ⊢
  have HW := Lib.hid hW
  have HB := Lib.hid hb
  clear B hW hb hr hs hl
  rw [vl0] at HV
  generalize hq4 : fnOkA f = q4 at HF
  have Hhq4 := Lib.hid hq4
  clear hq4
  cases q4
  all_goals
    go_enter Tryz.func56, Tryz.ntmps56
    go_upto_region 1 with fail
    rw [HW.out]
    go_quiet (fail)
    go_wp2_with (first | (go_at_call 103; refine (HV.out _).mono ?_; rintro e w' ⟨rfl, rfl⟩) | (go_at_call 115; refine (HF.out _).mono ?_; rintro e w' ⟨rfl, rfl⟩))
    all_goals go_ret
    all_goals refine ⟨?_, belowDrewN HB.out _⟩
    all_goals rw [← HR.out]
    all_goals congr 2
    all_goals unfold pxV
    all_goals (simp [*, vl0, Hhq4.out])
    all_goals first
      | done
      | (have h9 := ‹((n4 : Int) != 2) = true›; simp at h9; omega)
      | (have h9 := ‹((n4 : Int) != 2) = false›; simp at h9; omega)
set_option linter.unusedSimpArgs false in
set_option maxRecDepth 100000 in
set_option maxHeartbeats 1000000 in
theorem iPart0 (k : Int) (m f : Int) (s : ByteArray) (hs : s.size ≤ maxLen) (A4 : Option Addr) (n4 c4 : Nat) (ls : List ByteArray) (AL : Option Addr) (nl cL : Nat) (hl : ls.length = nl) (hk : k ≠ 1 ∧ k ≠ 2 ∧ k ≠ 3) (w : World) (hr : RdE 1 ES w AL cL ls) :
    Calls Tryz.prog 56 #[.agg (exC k m s f (.slice A4 n4 c4)), .slice AL nl cL] w fun e w' => e = .returned (.int .i64 (pxV ls k m s f n4)) ∧ Below w.heap.size w w' := by
  obtain ⟨W, hW⟩ : ∃ W, w.alloc (.cells (exC k m s f (.slice A4 n4 c4)) 37) = W := ⟨_, rfl⟩
  have hb : Below w.heap.size w W := by rw [← hW]; exact belowAlloc _ _
  have B : Blk W w.heap.size 37 (exC k m s f (.slice A4 n4 c4)) := by rw [← hW]; exact Blk.new _ _ _
  have f0 : W.cell? ⟨w.heap.size, 0, none⟩ = some (.int .i64 k) := B.cell 0
  have f1 : W.cell? ⟨w.heap.size, 1, none⟩ = some (.int .i64 m) := B.cell 1
  have f2 : W.cell? ⟨w.heap.size, 2, none⟩ = some (.string s) := B.cell 2
  have f3 : W.cell? ⟨w.heap.size, 3, none⟩ = some (.int .i64 f) := B.cell 3
  have f4 : W.cell? ⟨w.heap.size, 4, none⟩ = some (.slice A4 n4 c4) := B.cell 4
  have HV := Lib.hid (fun X => iValue16 m X)
  have HN := Lib.hid (fun X => iName16 s hs X)
  have HM := Lib.hid (fun X (hX : Below w.heap.size w X) => iHas16 ls nl cL hl AL s X (hr.below stabS hX))
  have HF := Lib.hid (fun X => iFn16 f X)
  obtain ⟨r, hr⟩ : ∃ r, pxV ls k m s f n4 = r := ⟨_, rfl⟩
  rw [hr]
  have HR := Lib.hid hr
  unfold exC at hW ⊢
  have HW := Lib.hid hW
  have HB := Lib.hid hb
  clear B hW hb hr hs hl
  obtain ⟨h1, h2, h3⟩ := hk
  have z1 : (k == 1) = false := by simpa using h1
  have z2 : (k == 2) = false := by simpa using h2
  have z3 : (k == 3) = false := by simpa using h3
  have HX := Lib.hid (show (8 : Int) = r from (by rw [← HR.out]; unfold pxV; rw [if_pos ⟨h1, h2, h3⟩]))
  clear h1 h2 h3
  go_enter Tryz.func56, Tryz.ntmps56
  go_upto_region 1 with fail
  rw [HW.out]
  go_quiet (fail)
  go_wp2_with fail
  go_ret
  exact ⟨by rw [← HX.out]; rfl, belowDrewN HB.out _⟩
end Go.Proofs.YtiaendggmamnkaaGreatDoor

namespace Go.Proofs.YtiaendggmamnkaaGreatDoor
open Go Go.RowKit Go.Shelf
attribute [local go_sem] Oper.semAt_some

theorem iPart16 (ls : List ByteArray) (t : Ex) (hs : t.val.name.size ≤ maxLen) (A4 : Option Addr) (c4 : Nat) (AL : Option Addr) (nl cL : Nat) (hl : ls.length = nl) (w : World) (hr : RdE 1 ES w AL cL ls) :
    Calls Tryz.prog 56 #[.agg (exC t.val.kind t.val.n t.val.name t.val.fn (.slice A4 t.fst.length c4)), .slice AL nl cL] w fun e w' => e = .returned (.int .i64 (pxE ls t)) ∧ Below w.heap.size w w' := by
  rw [pxVIs]
  by_cases h1 : t.val.kind = 1
  · rw [h1]; exact iPart1 _ _ _ hs A4 _ c4 ls AL nl cL hl w hr
  by_cases h2 : t.val.kind = 2
  · rw [h2]; exact iPart2 _ _ _ hs A4 _ c4 ls AL nl cL hl w hr
  by_cases h3 : t.val.kind = 3
  · rw [h3]; exact iPart3 _ _ _ hs A4 _ c4 ls AL nl cL hl w hr
  exact iPart0 _ _ _ _ hs A4 _ c4 ls AL nl cL hl ⟨h1, h2, h3⟩ w hr
theorem lowHeap {B q : Nat} {o : Obj} (h : q < B) : LowI B (fun X => X.heap[q]? = some o) := fun _ _ hX hc => (hc.block _ (Array.getElem?_eq_some_iff.1 hX).1 h).trans hX
theorem three16 (w : World) (o1 o2 o3 : Obj) {Z : World} (hZ : ((w.alloc o1).alloc o2).alloc o3 = Z) : Z.heap[w.heap.size]? = some o1 ∧ Z.heap[w.heap.size + 1]? = some o2 ∧ Z.heap[w.heap.size + 1 + 1]? = some o3 ∧ Below w.heap.size w Z ∧ Z.heap.size = w.heap.size + 3 := by
  subst hZ
  have new : ∀ (X : World) (o : Obj) (k : Nat), X.heap.size = k → (X.alloc o).heap[k]? = some o := fun X o k h => h ▸ World.alloc_heap_new X o
  have old : ∀ (X : World) (o o' : Obj) (k : Nat), X.heap[k]? = some o' → (X.alloc o).heap[k]? = some o' := fun X o o' k h => ((belowAlloc X o).block k (Array.getElem?_eq_some_iff.1 h).1).trans h
  exact ⟨old _ _ _ _ (old _ _ _ _ (new _ _ _ rfl)), old _ _ _ _ (new _ _ _ (by simp)), new _ _ _ (by simp), belowThen (belowThen (belowAlloc _ _) (belowAlloc _ _)) (belowAlloc _ _), by simp⟩
def mxL {β : Type} (l : List (Nat × Nat × Tr β)) : Nat := l.foldl (fun m x => max m x.2.1) 0
theorem mxApp {β : Type} (a b : List (Nat × Nat × Tr β)) : mxL (a ++ b) = max (mxL a) (mxL b) := by
  have key : ∀ (l : List (Nat × Nat × Tr β)) (m : Nat), l.foldl (fun m x => max m x.2.1) m = max m (l.foldl (fun m x => max m x.2.1) 0) := by
    intro l
    induction l with
    | nil => intro m; simp
    | cons q r ih => intro m; rw [List.foldl_cons, ih, List.foldl_cons, ih (max 0 q.2.1)]; omega
  unfold mxL
  rw [List.foldl_append, key]
theorem mxOne {β : Type} (x : Nat × Nat × Tr β) : mxL [x] = x.2.1 := by simp [mxL]
theorem mxAll {β : Type} (t : Tr β) : mxL (numb 0 (Tr.ndsL 1 [t])) = Tr.dp t := by unfold mxL; rw [topNumb, Tr.topDp]
theorem pxFcons (ls : List ByteArray) (x : Nat × Nat × Ex) (r : List (Nat × Nat × Ex)) : pxF ls (x :: r) = if pxE ls x.2.2 ≠ 0 then pxE ls x.2.2 else pxF ls r := rfl
theorem resChX {tmps : Array Value} {b : Nat} {r : Int} {W : World} (hp : tmps.getD 4 undef = .pointer (some ⟨b, 0, none⟩)) (hB : Boxed W b 30 (.int .i64 r)) : (results Tryz.f19 tmps).run Tryz.prog W = .ok (.int .i64 r) W := by
  have hc := hB.cell
  have hp' : tmps[4]?.getD undef = .pointer (some ⟨b, 0, none⟩) := by simpa using hp
  simp [results, hp', asAddr, loadVar, isAgg, run_underlying Tryz.underlying30, go_sem, hc]
set_option maxRecDepth 100000 in
set_option maxHeartbeats 2000000 in
theorem iCheckX (d : Nat) (t : Ex) (hs : t.snd = []) (hW : WfX t) (A4 : Option Addr) (n4 c4 : Nat) (hn : t.fst.length = n4) (ls : List ByteArray) (AL : Option Addr) (nl cL : Nat) (hl : ls.length = nl) (w : World) (hr : RdE 5 (EX d) w A4 c4 t.fst) (hrl : RdE 1 ES w AL cL ls) :
    Calls Tryz.prog 19 #[.agg (exC t.val.kind t.val.n t.val.name t.val.fn (.slice A4 n4 c4)), .slice AL nl cL] w fun e w' => e = .returned (.int .i64 (chX ls t)) ∧ Below w.heap.size w w' := by
  obtain ⟨W, hWd⟩ : ∃ W, ((w.alloc (.cells (exC t.val.kind t.val.n t.val.name t.val.fn (.slice A4 n4 c4)) 37)).alloc (.cells #[.slice AL nl cL] 23)).alloc (.cells #[.int .i64 0] 30) = W := ⟨_, rfl⟩
  obtain ⟨hB0, hB1, hB2, hb, hz⟩ := three16 w _ _ _ hWd
  have B0 : Blk W w.heap.size 37 (exC t.val.kind t.val.n t.val.name t.val.fn (.slice A4 n4 c4)) := hB0
  have B1 : Boxed W (w.heap.size + 1) 23 (.slice AL nl cL) := hB1
  have B2 : Boxed W (w.heap.size + 1 + 1) 30 (.int .i64 0) := hB2
  have f0 : W.cell? ⟨w.heap.size, 0, none⟩ = some (.int .i64 t.val.kind) := B0.cell 0
  have f1 : W.cell? ⟨w.heap.size, 1, none⟩ = some (.int .i64 t.val.n) := B0.cell 1
  have f2 : W.cell? ⟨w.heap.size, 2, none⟩ = some (.string t.val.name) := B0.cell 2
  have f3 : W.cell? ⟨w.heap.size, 3, none⟩ = some (.int .i64 t.val.fn) := B0.cell 3
  have f4 : W.cell? ⟨w.heap.size, 4, none⟩ = some (.slice A4 n4 c4) := B0.cell 4
  have HIT := Lib.hid (fun X => iExpressions t.val.kind t.val.n t.val.fn t.val.name A4 n4 c4 X)
  have HB0 := Lib.hid B0
  have HB1 := Lib.hid B1
  have HB2 := Lib.hid B2
  have HBW := Lib.hid hb
  have HZ := Lib.hid hz
  have HR := Lib.hid hr
  have HRL := Lib.hid hrl
  unfold exC at hWd HIT ⊢
  have HWd := Lib.hid hWd
  clear hWd hB0 hB1 hB2 B0 B1 B2 hb hz hr hrl
  refine (callsIn_wide (n := 8)).1 ?_
  refine callsIn_of_wp_marks Tryz.func19 rfl trivial ?_ rfl
  simp only [Tryz.ntmps19, List.size_toArray, List.length_cons, List.length_nil, Nat.reduceAdd, Nat.reduceSub, Array.replicate_succ, Array.replicate_zero, List.push_toArray, List.append_toArray, List.nil_append, List.cons_append]
  gi_upto_region 1 with fail
  rw [HWd.out]
  gi_wp2_with fail
  refine ⟨trivial, (callsIn_wide.2 (HIT.out W)).mono ?_⟩
  rintro e V ⟨g, z, rfl, hg, hz, hBg, hI, hb⟩
  have HRX := Lib.hid (ex1 d hn hs hBg ((HR.out.below (stabX d) HBW.out).below (stabX d) hb))
  have HBV := Lib.hid (belowThen HBW.out hb)
  have HBX := Lib.hid hb
  have HK := Lib.hid (show Boxed V (w.heap.size + 1 + 1) 30 (.int .i64 0) from (hb.block _ HB2.out.lt).trans HB2.out)
  have HI := Lib.hid hI
  have HZV := Lib.hid (show w.heap.size + 1 + 1 < z ∧ z + 1 < V.heap.size ∧ w.heap.size + 1 + 1 < V.heap.size from ⟨by have := HZ.out; omega, hI.f.lt, by have := HZ.out; have := hI.f.lt; omega⟩)
  have HV := Lib.hid (visSX (d + 1) 7 (by omega) V z (some ⟨g, 0, none⟩) 1 1 [t] rfl HRX.out hW.sz (fun q => q ≠ w.heap.size + 1 + 1) (fun q _ h => ⟨30, .int .i64 0, by rw [Classical.not_not.1 h]; exact HK.out⟩))
  unfold itrX
  clear hg hz hBg hI hb f0 f1 f2 f3 f4
  gi_wp2_with fail
  refine rangeLow (w := V) (w0 := V) (gf := 164) (lb := #[.pointer (some ⟨z, 0, none⟩), .pointer (some ⟨z + 1, 0, none⟩)]) rfl entVisX (Arg := ArgX (d + 1) V) (G := fun X => Chg V X (fun q => q ≠ w.heap.size + 1 + 1) ∧ ItrX X z (some ⟨g, 0, none⟩) 1 1) HV.out
    (lowGX (Nat.le_refl _) HZV.out.2.1) (Below.refl _ _) (fun x args h => by obtain ⟨_, _, rfl, _⟩ := h; rfl)
    (fun pre X => Boxed X (w.heap.size + 1 + 1) 30 (.int .i64 0) ∧ mxL pre ≤ 3 ∧ Chg V X (fun q => q ≠ w.heap.size + 1 + 1) ∧ ItrX X z (some ⟨g, 0, none⟩) 1 1)
    (fun c pre X => Boxed X (w.heap.size + 1 + 1) 30 (.int .i64 4) ∧ (c = .ret ∧ 3 < Tr.dp t) ∧ Chg V X (fun q => q ≠ w.heap.size + 1 + 1) ∧ ItrX X z (some ⟨g, 0, none⟩) 1 1)
    ?hI ?hIx (fun _ _ h => h.2.2) (fun _ _ _ h => h.2.2)
    ?h0 (fun X args => { tmps := #[.agg #[.int .i64 t.val.kind, .int .i64 t.val.n, .string t.val.name, .int .i64 t.val.fn, .slice A4 n4 c4], .slice AL nl cL, .pointer (some ⟨w.heap.size, 0, none⟩), .pointer (some ⟨w.heap.size + 1, 0, none⟩), .pointer (some ⟨w.heap.size + 1 + 1, 0, none⟩), .pointer (some ⟨X.heap.size, 0, none⟩), undef, undef, undef, .agg #[.int .i64 t.val.kind, .int .i64 t.val.n, .string t.val.name, .int .i64 t.val.fn, .slice A4 n4 c4], .func (.func 164) #[] #[.pointer (some ⟨z, 0, none⟩), .pointer (some ⟨z + 1, 0, none⟩)], args.getD 0 undef, args.getD 1 undef, undef, undef, undef, undef, undef, undef, undef, undef, undef, undef, undef, undef, undef], defers := [] }) (fun args X => X.alloc (.cells (agC (args.getD 0 undef)) 92)) (fun _ _ => belowAlloc _ _) ?assign ?body ?done ?stop
  case hI => exact fun p => lowAnd (lowBox HZV.out.2.2) (lowAnd (lowPure _) (lowGX (Nat.le_refl _) HZV.out.2.1))
  case hIx => exact fun c p => lowAnd (lowBox HZV.out.2.2) (lowAnd (lowPure _) (lowGX (Nat.le_refl _) HZV.out.2.1))
  case h0 => exact ⟨HK.out, by simp [mxL], Chg.refl _ _, HI.out⟩
  case assign =>
    intro lr x args X K ha hK
    obtain ⟨_, _, rfl, _⟩ := ha
    rw [zip2]
    gi_wp2
    exact hK
  case body =>
    rintro lr pre x post args X U hL ⟨h1, h2, h3, h4⟩ hA hs ⟨o, hU⟩ hlX hlV
    obtain ⟨_, _, rfl, _⟩ := hA
    have hle : mxL (pre ++ [x]) ≤ Tr.dp t := by
      have h9 := mxAll t
      rw [hL, show pre ++ x :: post = (pre ++ [x]) ++ post by simp, mxApp] at h9
      omega
    rw [mxApp, mxOne] at hle
    have hnx : mxL (pre ++ [x]) = max (mxL pre) x.2.1 := by rw [mxApp, mxOne]
    obtain ⟨num, lv, y⟩ := x
    have hpl : Blk U X.heap.size 92 #[.int .i64 (num : Int), .int .i64 (lv : Int)] := by
      rw [hU]
      exact (World.putObj_heap_other (show X.heap.size ≠ lr by omega)).trans (Blk.new X _ _)
    have p1 : U.cell? ⟨X.heap.size, 1, none⟩ = some (.int .i64 (lv : Int)) := hpl.cell 1
    dsimp only at hle hnx
    have HG := Lib.hid (And.intro h3 h4)
    have HB := Lib.hid h1
    have HNX := Lib.hid hnx
    have HLE := Lib.hid hle
    by_cases hlv : 3 < lv
    · have kf := h1.cell
      have ff := h1.frozen
      have HY := Lib.hid (h1.set (.int .i64 4))
      have HC := Lib.hid (chgSet16 U (w.heap.size + 1 + 1) 0 (.int .i64 4))
      clear h1 h2 h3 h4 hpl hU hL hle hnx
      gi_wp2
      exact ⟨HC.out.mono fun q hq => by have := HZV.out; omega, HY.out, ⟨rfl, by have := HLE.out; omega⟩, keepGX HG.out HC.out (fun q _ h => h) (by have := HZV.out; omega) (by have := HZV.out; omega)⟩
    · have h2' : mxL (pre ++ [(num, lv, y)]) ≤ 3 := by rw [hnx]; omega
      have H2 := Lib.hid h2'
      clear h1 h2 h3 h4 hpl hU hL hle hnx h2'
      gi_wp2
      exact ⟨Chg.refl _ _, HB.out, H2.out, HG.out⟩
  case stop =>
    rintro R c pre X hR ⟨h1, ⟨rfl, h2⟩, h3, h4⟩ hK
    have HX := Lib.hid (show chX ls t = 4 by unfold chX; rw [if_pos h2])
    have hbx : ∀ o', Boxed (X.putObj R o') (w.heap.size + 1 + 1) 30 (.int .i64 4) := fun o' => (World.putObj_heap_other (by have := HZV.out; omega)).trans h1
    have HBX2 := Lib.hid hbx
    have HG := Lib.hid h3
    clear h1 h2 h3 h4 hbx
    gi_wp2
    refine ⟨by simp, .inl ⟨_, _, rfl, run_takeDeferred hK, ?_⟩⟩
    refine ⟨_, resChX rfl (HBX2.out _), by rw [HX.out], ?_⟩
    have hb := HBV.out
    exact ⟨HG.out.os.trans hb.os, HG.out.tape.trans hb.tape, HG.out.output.trans hb.output, by simpa using Nat.le_trans hb.size HG.out.size, fun q hq => (World.putObj_heap_other (by have := HZV.out; omega)).trans ((HG.out.block q (Nat.lt_of_lt_of_le hq hb.size) (by omega)).trans (hb.block q hq))⟩
  case done =>
    rintro R X hR ⟨h1, h2, h3, h4⟩ hK
    rw [mxAll] at h2
    have HX := Lib.hid (show chX ls t = pxF ls (numb 0 (Tr.ndsL 1 [t])) by unfold chX; rw [if_neg (by omega)])
    have hq : ∀ q, q ≠ w.heap.size + 1 + 1 → q < V.heap.size → X.heap[q]? = V.heap[q]? := fun q hq hv => h3.block q hv hq
    have B0 : Blk X w.heap.size 37 (exC t.val.kind t.val.n t.val.name t.val.fn (.slice A4 n4 c4)) := (hq _ (by omega) (by have := HZV.out; omega)).trans ((HBX.out.block _ HB0.out.lt).trans HB0.out)
    have B1 : Boxed X (w.heap.size + 1) 23 (.slice AL nl cL) := (hq _ (by omega) (by have := HZV.out; omega)).trans ((HBX.out.block _ HB1.out.lt).trans HB1.out)
    have hbw : Below w.heap.size w X := by
      have hb := HBV.out
      exact ⟨h3.os.trans hb.os, h3.tape.trans hb.tape, h3.output.trans hb.output, Nat.le_trans hb.size h3.size, fun q hq2 => (hq q (by omega) (Nat.lt_of_lt_of_le hq2 hb.size)).trans (hb.block q hq2)⟩
    have f0 : X.cell? ⟨w.heap.size, 0, none⟩ = some (.int .i64 t.val.kind) := B0.cell 0
    have f1 : X.cell? ⟨w.heap.size, 1, none⟩ = some (.int .i64 t.val.n) := B0.cell 1
    have f2 : X.cell? ⟨w.heap.size, 2, none⟩ = some (.string t.val.name) := B0.cell 2
    have f3 : X.cell? ⟨w.heap.size, 3, none⟩ = some (.int .i64 t.val.fn) := B0.cell 3
    have f4 : X.cell? ⟨w.heap.size, 4, none⟩ = some (.slice A4 n4 c4) := B0.cell 4
    have HC1 := Lib.hid B1
    have HC2 := Lib.hid h1
    have HKD := Lib.hid hK
    have HBW2 := Lib.hid hbw
    have HRV := Lib.hid hR
    have HZX := Lib.hid (show V.heap.size ≤ X.heap.size ∧ R < X.heap.size from ⟨h3.size, (Array.getElem?_eq_some_iff.1 hK).1⟩)
    have HITX := Lib.hid (HIT.out X)
    clear h1 h2 h3 h4 hq hbw B0 B1 hK
    gi_wp2_with fail
    refine ⟨trivial, (callsIn_wide.2 HITX.out).mono ?_⟩
    rintro e Y ⟨g2, z2, rfl, hg2, hz2, hBg2, hI2, hb2⟩
    have HRX2 := Lib.hid (ex1 d hn hs hBg2 ((HR.out.below (stabX d) HBW2.out).below (stabX d) hb2))
    have HBY := Lib.hid (belowThen HBW2.out hb2)
    have HK2 := Lib.hid (show Boxed Y (w.heap.size + 1 + 1) 30 (.int .i64 0) from (hb2.block _ HC2.out.lt).trans HC2.out)
    have HL2 := Lib.hid (show Boxed Y (w.heap.size + 1) 23 (.slice AL nl cL) from (hb2.block _ HC1.out.lt).trans HC1.out)
    have HD2 := Lib.hid (show Y.heap[R]? = some (.deferred (some [])) from (hb2.block _ HZX.out.2).trans HKD.out)
    have HI2 := Lib.hid hI2
    have HZ2 := Lib.hid (show w.heap.size + 1 + 1 < z2 ∧ z2 + 1 < Y.heap.size ∧ w.heap.size + 1 + 1 < Y.heap.size ∧ R < Y.heap.size from ⟨by have := HZV.out; have := HZX.out; omega, hI2.f.lt, by have := HZV.out; have := HZX.out; have := hI2.f.lt; omega, by have := HZX.out; have := hI2.f.lt; omega⟩)
    have HV2 := Lib.hid (visSX (d + 1) 7 (by omega) Y z2 (some ⟨g2, 0, none⟩) 1 1 [t] rfl HRX2.out hW.sz (fun q => q ≠ w.heap.size + 1 + 1) (fun q _ h => ⟨30, .int .i64 0, by rw [Classical.not_not.1 h]; exact HK2.out⟩))
    unfold itrX
    clear hg2 hz2 hBg2 hI2 hb2 f0 f1 f2 f3 f4
    gi_wp2_with fail
    refine rangeLow (w := Y) (w0 := Y) (gf := 164) (lb := #[.pointer (some ⟨z2, 0, none⟩), .pointer (some ⟨z2 + 1, 0, none⟩)]) rfl entVisX (Arg := ArgX (d + 1) Y) (G := fun X => Chg Y X (fun q => q ≠ w.heap.size + 1 + 1) ∧ ItrX X z2 (some ⟨g2, 0, none⟩) 1 1) HV2.out
      (lowGX (Nat.le_refl _) HZ2.out.2.1) (Below.refl _ _) (fun x args h => by obtain ⟨_, _, rfl, _⟩ := h; rfl)
      (fun pre X => Boxed X (w.heap.size + 1 + 1) 30 (.int .i64 0) ∧ ((∀ post, numb 0 (Tr.ndsL 1 [t]) = pre ++ post → pxF ls (numb 0 (Tr.ndsL 1 [t])) = pxF ls post) ∧ Boxed X (w.heap.size + 1) 23 (.slice AL nl cL) ∧ X.heap[R]? = some (.deferred (some []))) ∧ Chg Y X (fun q => q ≠ w.heap.size + 1 + 1) ∧ ItrX X z2 (some ⟨g2, 0, none⟩) 1 1)
      (fun c pre X => Boxed X (w.heap.size + 1 + 1) 30 (.int .i64 (pxF ls (numb 0 (Tr.ndsL 1 [t])))) ∧ (c = .ret ∧ X.heap[R]? = some (.deferred (some []))) ∧ Chg Y X (fun q => q ≠ w.heap.size + 1 + 1) ∧ ItrX X z2 (some ⟨g2, 0, none⟩) 1 1)
      ?hI2 ?hIx2 (fun _ _ h => h.2.2) (fun _ _ _ h => h.2.2)
      ?h02 (fun X args => { tmps := #[.agg #[.int .i64 t.val.kind, .int .i64 t.val.n, .string t.val.name, .int .i64 t.val.fn, .slice A4 n4 c4], .slice AL nl cL, .pointer (some ⟨w.heap.size, 0, none⟩), .pointer (some ⟨w.heap.size + 1, 0, none⟩), .pointer (some ⟨w.heap.size + 1 + 1, 0, none⟩), undef, undef, .pointer (some ⟨X.heap.size, 0, none⟩), undef, .agg #[.int .i64 t.val.kind, .int .i64 t.val.n, .string t.val.name, .int .i64 t.val.fn, .slice A4 n4 c4], .func (.func 164) #[] #[.pointer (some ⟨z, 0, none⟩), .pointer (some ⟨z + 1, 0, none⟩)], undef, undef, undef, undef, undef, .agg #[.int .i64 t.val.kind, .int .i64 t.val.n, .string t.val.name, .int .i64 t.val.fn, .slice A4 n4 c4], .func (.func 164) #[] #[.pointer (some ⟨z2, 0, none⟩), .pointer (some ⟨z2 + 1, 0, none⟩)], args.getD 0 undef, args.getD 1 undef, undef, undef, undef, undef, undef, undef], defers := [] }) (fun args X => X.alloc (.cells (agC (args.getD 1 undef)) 37)) (fun _ _ => belowAlloc _ _) ?assign2 ?body2 ?done2 ?stop2
    case hI2 => exact fun p => lowAnd (lowBox HZ2.out.2.2.1) (lowAnd (lowAnd (lowPure _) (lowAnd (lowBox (by have := HZ2.out; omega)) (lowHeap HZ2.out.2.2.2))) (lowGX (Nat.le_refl _) HZ2.out.2.1))
    case hIx2 => exact fun c p => lowAnd (lowBox HZ2.out.2.2.1) (lowAnd (lowAnd (lowPure _) (lowHeap HZ2.out.2.2.2)) (lowGX (Nat.le_refl _) HZ2.out.2.1))
    case h02 => exact ⟨HK2.out, ⟨fun post h => by rw [h]; rfl, HL2.out, HD2.out⟩, Chg.refl _ _, HI2.out⟩
    case assign2 =>
      intro lr x args X K ha hK
      obtain ⟨_, _, rfl, _⟩ := ha
      rw [zip2]
      gi_wp2
      exact hK
    case body2 =>
      rintro lr pre x post args X U hL ⟨h1, ⟨h2, h5, h6⟩, h3, h4⟩ hA hs2 ⟨o, hU⟩ hlX hlV
      obtain ⟨A5, c5, rfl, hr5, hsn5⟩ := hA
      have hnm := hW.nm x (by rw [hL]; simp)
      obtain ⟨num, lv, y⟩ := x
      dsimp only at hr5 hsn5 hnm
      have hpl : Blk U X.heap.size 37 #[.int .i64 y.val.kind, .int .i64 y.val.n, .string y.val.name, .int .i64 y.val.fn, .slice A5 y.fst.length c5] := by
        rw [hU]
        exact (World.putObj_heap_other (show X.heap.size ≠ lr by omega)).trans (Blk.new X _ _)
      have hbu : Below w.heap.size w U := by
        have hb := HBY.out
        exact ⟨h3.os.trans hb.os, h3.tape.trans hb.tape, h3.output.trans hb.output, Nat.le_trans hb.size h3.size, fun q hq2 => (h3.block q (Nat.lt_of_lt_of_le hq2 hb.size) (by omega)).trans (hb.block q hq2)⟩
      have p0 : U.cell? ⟨X.heap.size, 0, none⟩ = some (.int .i64 y.val.kind) := hpl.cell 0
      have p1 : U.cell? ⟨X.heap.size, 1, none⟩ = some (.int .i64 y.val.n) := hpl.cell 1
      have p2 : U.cell? ⟨X.heap.size, 2, none⟩ = some (.string y.val.name) := hpl.cell 2
      have p3 : U.cell? ⟨X.heap.size, 3, none⟩ = some (.int .i64 y.val.fn) := hpl.cell 3
      have p4 : U.cell? ⟨X.heap.size, 4, none⟩ = some (.slice A5 y.fst.length c5) := hpl.cell 4
      have q1 : U.cell? ⟨w.heap.size + 1, 0, none⟩ = some (.slice AL nl cL) := h5.cell
      have HPT := Lib.hid (iPart16 ls y hnm A5 c5 AL nl cL hl U (HRL.out.below stabS hbu))
      unfold exC at HPT
      have hgo := h2 _ hL
      rw [pxFcons] at hgo
      have HNX : Hid (∀ r, pxE ls y = r → r = 0 → ∀ post', numb 0 (Tr.ndsL 1 [t]) = (pre ++ [(num, lv, y)]) ++ post' → pxF ls (numb 0 (Tr.ndsL 1 [t])) = pxF ls post') := Lib.hid fun r h9 h0 post' h8 => by
        have : post' = post := by
          rw [hL, List.append_assoc] at h8
          have := List.append_cancel_left h8
          simpa using this.symm
        subst this
        rw [hgo, if_neg (by rw [h9]; simpa using h0)]
      have HXX : Hid (∀ r, pxE ls y = r → r ≠ 0 → pxF ls (numb 0 (Tr.ndsL 1 [t])) = r) := Lib.hid fun r h9 h0 => by rw [hgo, if_pos (by rw [h9]; exact h0), h9]
      have HG := Lib.hid (And.intro h3 h4)
      have HB := Lib.hid h1
      have HLO := Lib.hid h5
      have HDD := Lib.hid h6
      obtain ⟨r, hr9⟩ : ∃ r, pxE ls y = r := ⟨_, rfl⟩
      rw [hr9] at HPT
      have HNX := Lib.hid (HNX.out r hr9)
      have HXX := Lib.hid (HXX.out r hr9)
      clear h1 h2 h3 h4 h5 h6 hpl hU hbu hgo hnm hr9 hr5 hsn5 hL
      gi_wp2_with fail
      refine ⟨trivial, (CallsIn.inRound lr (callsIn_wide.2 HPT.out)).mono ?_⟩
      rintro e U2 ⟨rfl, b2⟩
      have HB2x := Lib.hid (show Boxed U2 (w.heap.size + 1 + 1) 30 (.int .i64 0) from (b2.block _ HB.out.lt).trans HB.out)
      have HL2x := Lib.hid (show Boxed U2 (w.heap.size + 1) 23 (.slice AL nl cL) from (b2.block _ HLO.out.lt).trans HLO.out)
      have HD2x := Lib.hid (show U2.heap[R]? = some (.deferred (some [])) from (b2.block _ (Array.getElem?_eq_some_iff.1 HDD.out).1).trans HDD.out)
      have HC2x := Lib.hid (Chg.ofBelow b2 (fun _ => True))
      have HG2x := Lib.hid (keepGX HG.out HC2x.out (fun _ _ _ => trivial) trivial trivial)
      clear b2 p0 p1 p2 p3 p4 q1
      by_cases hr0 : r = 0
      · have H2 := Lib.hid (HNX.out hr0)
        have hrz : (r != 0) = false := by simpa using hr0
        clear hr0
        gi_wp2_with fail
        exact ⟨HC2x.out.mono fun _ _ => trivial, HB2x.out, ⟨H2.out, HL2x.out, HD2x.out⟩, HG2x.out⟩
      · have H2 := Lib.hid (HXX.out hr0)
        have hrz : (r != 0) = true := by simpa using hr0
        have kf := HB2x.out.cell
        have ff := HB2x.out.frozen
        have HY := Lib.hid (HB2x.out.set (.int .i64 r))
        have HC := Lib.hid (chgSet16 U2 (w.heap.size + 1 + 1) 0 (.int .i64 r))
        have HDY := Lib.hid (show (U2.setCell ⟨w.heap.size + 1 + 1, 0, none⟩ (.int .i64 r)).heap[R]? = some (.deferred (some [])) from (HC.out.block _ (Array.getElem?_eq_some_iff.1 HD2x.out).1 (by have := HRV.out; have := HZV.out; omega)).trans HD2x.out)
        clear hr0
        gi_wp2_with fail
        exact ⟨(HC2x.out.mono (G := fun q => Y.heap.size ≤ q) fun _ _ => trivial).trans HC.out (fun q _ hq => by have := HZ2.out; omega), by rw [H2.out]; exact HY.out, ⟨rfl, HDY.out⟩, keepGX HG2x.out HC.out (fun q _ h => h) (by have := HZ2.out; omega) (by have := HZ2.out; omega)⟩
    case stop2 =>
      rintro R2 c pre X2 hR2 ⟨h1, ⟨rfl, h2⟩, h3, h4⟩ hK2
      have hd2 : (X2.putObj R2 (.deferred none)).heap[R]? = some (.deferred (some [])) := (World.putObj_heap_other (by have := HZ2.out; omega)).trans h2
      have HBX2 := Lib.hid (show Boxed ((X2.putObj R2 (.deferred none)).putObj R (.deferred none)) (w.heap.size + 1 + 1) 30 (.int .i64 (pxF ls (numb 0 (Tr.ndsL 1 [t])))) from (World.putObj_heap_other (by have := HRV.out; have := HZV.out; omega)).trans ((World.putObj_heap_other (by have := HZ2.out; omega)).trans h1))
      have HG := Lib.hid h3
      clear h1 h2 h3 h4
      gi_wp2
      refine ⟨by simp, .inl ⟨_, _, rfl, run_takeDeferred hK2, ?_⟩⟩
      refine ⟨by simp, .inl ⟨_, _, rfl, run_takeDeferred hd2, ?_⟩⟩
      refine ⟨_, resChX rfl HBX2.out, by rw [HX.out], ?_⟩
      have hb := HBY.out
      exact ⟨HG.out.os.trans hb.os, HG.out.tape.trans hb.tape, HG.out.output.trans hb.output, by simpa using Nat.le_trans hb.size HG.out.size, fun q hq => (World.putObj_heap_other (by have := HZ2.out; have := HRV.out; have := HZV.out; omega)).trans ((World.putObj_heap_other (by have := HZ2.out; omega)).trans ((HG.out.block q (Nat.lt_of_lt_of_le hq hb.size) (by omega)).trans (hb.block q hq)))⟩
    case done2 =>
      rintro R2 X2 hR2 ⟨h1, ⟨h2, h5, h6⟩, h3, h4⟩ hK2
      have HR0 := Lib.hid (show pxF ls (numb 0 (Tr.ndsL 1 [t])) = 0 from h2 [] (by simp))
      have kf := h1.cell
      have ff := h1.frozen
      have HY := Lib.hid (h1.set (.int .i64 0))
      have HC := Lib.hid (chgSet16 X2 (w.heap.size + 1 + 1) 0 (.int .i64 0))
      obtain ⟨X3, hX3⟩ : ∃ X3, X2.setCell ⟨w.heap.size + 1 + 1, 0, none⟩ (.int .i64 0) = X3 := ⟨_, rfl⟩
      rw [hX3] at HY HC
      have hdR2 : X3.heap[R2]? = some (.deferred (some [])) := (HC.out.block _ (Array.getElem?_eq_some_iff.1 hK2).1 (by have := HZ2.out; omega)).trans hK2
      have hdR : (X3.putObj R2 (.deferred none)).heap[R]? = some (.deferred (some [])) := (World.putObj_heap_other (by have := HZ2.out; omega)).trans ((HC.out.block _ (Array.getElem?_eq_some_iff.1 h6).1 (by have := HRV.out; have := HZV.out; omega)).trans h6)
      have HBX2 := Lib.hid (show Boxed ((X3.putObj R2 (.deferred none)).putObj R (.deferred none)) (w.heap.size + 1 + 1) 30 (.int .i64 0) from (World.putObj_heap_other (by have := HRV.out; have := HZV.out; omega)).trans ((World.putObj_heap_other (by have := HZ2.out; omega)).trans HY.out))
      have HG := Lib.hid (h3.trans HC.out (fun _ _ h => h))
      have HX3 := Lib.hid hX3
      clear h1 h2 h3 h4 h5 h6 hX3
      gi_wp2
      rw [HX3.out]
      refine ⟨by simp, .inl ⟨_, _, rfl, run_takeDeferred hdR2, ?_⟩⟩
      refine ⟨by simp, .inl ⟨_, _, rfl, run_takeDeferred hdR, ?_⟩⟩
      refine ⟨_, resChX rfl HBX2.out, by rw [HX.out, HR0.out], ?_⟩
      have hb := HBY.out
      exact ⟨HG.out.os.trans hb.os, HG.out.tape.trans hb.tape, HG.out.output.trans hb.output, by simpa using Nat.le_trans hb.size HG.out.size, fun q hq => (World.putObj_heap_other (by have := HZ2.out; have := HRV.out; have := HZV.out; omega)).trans ((World.putObj_heap_other (by have := HZ2.out; omega)).trans ((HG.out.block q (Nat.lt_of_lt_of_le hq hb.size) (by omega)).trans (hb.block q hq)))⟩
end Go.Proofs.YtiaendggmamnkaaGreatDoor
