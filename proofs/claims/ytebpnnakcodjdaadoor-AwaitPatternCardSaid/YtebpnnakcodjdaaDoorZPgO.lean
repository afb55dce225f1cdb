/-
  The objects that an operation names, and the check of one instruction in its function.
-/
import Derived.Test.YtebpnnakcodjdaaDoorZPgJ
namespace Go.Proofs.YtebpnnakcodjdaaDoor
open Go Go.RowKit

/-- How many objects an operation names, by the lengths alone. -/
def objL (n1 n2 n3 n4 : Nat) (op : Int) : Option Nat :=
  if op = 8 ∨ op = 9 ∨ op = 10 ∨ op = 11 ∨ op = 12 ∨ op = 14 then some n1
  else if op = 15 ∨ op = 16 ∨ op = 17 then some n2
  else if op = 18 ∨ op = 19 ∨ op = 20 then some n3
  else if op = 21 then some n4 else none
theorem objEq {w : World} {a : PgA} {p : Prg} (h : PgW w a p) (op : Int) : p.objN op = objL a.n1 a.n2 a.n3 a.n4 op := by
  unfold Prg.objN objL
  rw [h.l1, h.l2, h.l3, h.l4]
def objR : Option Nat → Ending
  | some c => .returned (.tuple #[.int .i64 (c : Int), .bool true])
  | none => .returned (.tuple #[.int .i64 0, .bool false])
set_option maxHeartbeats 2000000 in
theorem iObjects (a : PgA) (op : Int) (w : World) (g1 : a.n1 ≤ maxLen) (g2 : a.n2 ≤ maxLen) (g3 : a.n3 ≤ maxLen) (g4 : a.n4 ≤ maxLen) : Calls Tryd.prog 68 #[a.val, .int .i64 op] w fun e w' => e = objR (objL a.n1 a.n2 a.n3 a.n4 op) ∧ Below w.heap.size w w' := by
  obtain ⟨A1, n1, c1, A2, n2, c2, A3, n3, c3, A4, n4, c4, A5, n5, c5⟩ := a
  simp only [PgA.val, PgA.fs] at *
  unfold maxLen at g1 g2 g3 g4
  have hbw := belowAlloc w (.cells #[.slice A1 n1 c1, .slice A2 n2 c2, .slice A3 n3 c3, .slice A4 n4 c4, .slice A5 n5 c5] 27)
  by_cases h8 : op = 8
  · subst h8
    have HR := Lib.hid (show objL n1 n2 n3 n4 8 = some n1 from rfl)
    go_enter Tryd.func68, Tryd.ntmps68
    go_wp2
    go_ret2
    exact ⟨by rw [HR.out]; rfl, hbw⟩
  by_cases h9 : op = 9
  · subst h9
    have HR := Lib.hid (show objL n1 n2 n3 n4 9 = some n1 from rfl)
    go_enter Tryd.func68, Tryd.ntmps68
    go_wp2
    go_ret2
    exact ⟨by rw [HR.out]; rfl, hbw⟩
  by_cases h10 : op = 10
  · subst h10
    have HR := Lib.hid (show objL n1 n2 n3 n4 10 = some n1 from rfl)
    go_enter Tryd.func68, Tryd.ntmps68
    go_wp2
    go_ret2
    exact ⟨by rw [HR.out]; rfl, hbw⟩
  by_cases h11 : op = 11
  · subst h11
    have HR := Lib.hid (show objL n1 n2 n3 n4 11 = some n1 from rfl)
    go_enter Tryd.func68, Tryd.ntmps68
    go_wp2
    go_ret2
    exact ⟨by rw [HR.out]; rfl, hbw⟩
  by_cases h12 : op = 12
  · subst h12
    have HR := Lib.hid (show objL n1 n2 n3 n4 12 = some n1 from rfl)
    go_enter Tryd.func68, Tryd.ntmps68
    go_wp2
    go_ret2
    exact ⟨by rw [HR.out]; rfl, hbw⟩
  by_cases h14 : op = 14
  · subst h14
    have HR := Lib.hid (show objL n1 n2 n3 n4 14 = some n1 from rfl)
    go_enter Tryd.func68, Tryd.ntmps68
    go_wp2
    go_ret2
    exact ⟨by rw [HR.out]; rfl, hbw⟩
  by_cases h15 : op = 15
  · subst h15
    have HR := Lib.hid (show objL n1 n2 n3 n4 15 = some n2 from rfl)
    go_enter Tryd.func68, Tryd.ntmps68
    go_wp2
    go_ret2
    exact ⟨by rw [HR.out]; rfl, hbw⟩
  by_cases h16 : op = 16
  · subst h16
    have HR := Lib.hid (show objL n1 n2 n3 n4 16 = some n2 from rfl)
    go_enter Tryd.func68, Tryd.ntmps68
    go_wp2
    go_ret2
    exact ⟨by rw [HR.out]; rfl, hbw⟩
  by_cases h17 : op = 17
  · subst h17
    have HR := Lib.hid (show objL n1 n2 n3 n4 17 = some n2 from rfl)
    go_enter Tryd.func68, Tryd.ntmps68
    go_wp2
    go_ret2
    exact ⟨by rw [HR.out]; rfl, hbw⟩
  by_cases h18 : op = 18
  · subst h18
    have HR := Lib.hid (show objL n1 n2 n3 n4 18 = some n3 from rfl)
    go_enter Tryd.func68, Tryd.ntmps68
    go_wp2
    go_ret2
    exact ⟨by rw [HR.out]; rfl, hbw⟩
  by_cases h19 : op = 19
  · subst h19
    have HR := Lib.hid (show objL n1 n2 n3 n4 19 = some n3 from rfl)
    go_enter Tryd.func68, Tryd.ntmps68
    go_wp2
    go_ret2
    exact ⟨by rw [HR.out]; rfl, hbw⟩
  by_cases h20 : op = 20
  · subst h20
    have HR := Lib.hid (show objL n1 n2 n3 n4 20 = some n3 from rfl)
    go_enter Tryd.func68, Tryd.ntmps68
    go_wp2
    go_ret2
    exact ⟨by rw [HR.out]; rfl, hbw⟩
  by_cases h21 : op = 21
  · subst h21
    have HR := Lib.hid (show objL n1 n2 n3 n4 21 = some n4 from rfl)
    go_enter Tryd.func68, Tryd.ntmps68
    go_wp2
    go_ret2
    exact ⟨by rw [HR.out]; rfl, hbw⟩
  have HR : Hid (objL n1 n2 n3 n4 op = none) := Lib.hid (by unfold objL; simp [h8, h9, h10, h11, h12, h14, h15, h16, h17, h18, h19, h20, h21])
  have z8 : (op == 8) = false := by simpa using h8
  have z9 : (op == 9) = false := by simpa using h9
  have z10 : (op == 10) = false := by simpa using h10
  have z11 : (op == 11) = false := by simpa using h11
  have z12 : (op == 12) = false := by simpa using h12
  have z14 : (op == 14) = false := by simpa using h14
  have z15 : (op == 15) = false := by simpa using h15
  have z16 : (op == 16) = false := by simpa using h16
  have z17 : (op == 17) = false := by simpa using h17
  have z18 : (op == 18) = false := by simpa using h18
  have z19 : (op == 19) = false := by simpa using h19
  have z20 : (op == 20) = false := by simpa using h20
  have z21 : (op == 21) = false := by simpa using h21
  clear h8 h9 h10 h11 h12 h14 h15 h16 h17 h18 h19 h20 h21
  go_enter Tryd.func68, Tryd.ntmps68
  go_wp2
  go_ret2
  exact ⟨by rw [HR.out]; rfl, hbw⟩
theorem iBelowA (n : Int) (c : Nat) (x : Int) (hx : x = (c : Int)) (r : Bool) (hr : belB n c = r) (w : World) : Calls Tryd.prog 55 #[.int .i64 n, .int .i64 x] w fun e w' => e = .returned (.bool r) ∧ w = w' := by
  subst hx
  subst hr
  exact iBelow n c w
theorem retIO {a b : Int} (h : a = b) : Ending.returned (.int .i64 a) = .returned (.int .i64 b) := by rw [h]
theorem iObjSome (a : PgA) (op : Int) (c : Nat) (ho : objL a.n1 a.n2 a.n3 a.n4 op = some c) (w : World) (g1 : a.n1 ≤ maxLen) (g2 : a.n2 ≤ maxLen) (g3 : a.n3 ≤ maxLen) (g4 : a.n4 ≤ maxLen) : Calls Tryd.prog 68 #[a.val, .int .i64 op] w fun e w' => e = .returned (.tuple #[.int .i64 (c : Int), .bool true]) ∧ Below w.heap.size w w' :=
  (iObjects a op w g1 g2 g3 g4).mono fun _ _ h => ⟨h.1.trans (by rw [ho]; rfl), h.2⟩
theorem iObjNone (a : PgA) (op : Int) (ho : objL a.n1 a.n2 a.n3 a.n4 op = none) (w : World) (g1 : a.n1 ≤ maxLen) (g2 : a.n2 ≤ maxLen) (g3 : a.n3 ≤ maxLen) (g4 : a.n4 ≤ maxLen) : Calls Tryd.prog 68 #[a.val, .int .i64 op] w fun e w' => e = .returned (.tuple #[.int .i64 0, .bool false]) ∧ Below w.heap.size w w' :=
  (iObjects a op w g1 g2 g3 g4).mono fun _ _ h => ⟨h.1.trans (by rw [ho]; rfl), h.2⟩
theorem insBad {p : Prg} {len : Nat} {i : I8} (h : i.chk ≠ 0) : p.insE len i = i.chk := by unfold Prg.insE; rw [if_pos h]
theorem insObj {p : Prg} {len c : Nat} {i : I8} (h : i.chk = 0) (ho : p.objN i.op = some c) (hb : belB i.obj c = false) : p.insE len i = 11 := by
  unfold Prg.insE
  rw [if_neg (by rw [h]; simp), ho]
  simp [hb]
theorem insMid {p : Prg} {len c : Nat} {i : I8} (h : i.chk = 0) (ho : p.objN i.op = some c) (hb : belB i.obj c = true) (h18 : i.op ≠ 18) (h4 : i.op ≠ 4) (h5 : i.op ≠ 5) : p.insE len i = 0 := by
  unfold Prg.insE
  rw [if_neg (by rw [h]; simp), ho]
  simp [hb, h18, h4, h5]
theorem insWait {p : Prg} {len c : Nat} {i : I8} (h : i.chk = 0) (ho : p.objN i.op = some c) (hb : belB i.obj c = true) (h18 : i.op = 18) : p.insE len i = if belB i.n p.muts.length = false then 11 else 0 := by
  unfold Prg.insE
  rw [if_neg (by rw [h]; simp), ho]
  simp [hb, h18]
theorem insNone {p : Prg} {len : Nat} {i : I8} (h : i.chk = 0) (ho : p.objN i.op = none) (h18 : i.op ≠ 18) (h4 : i.op ≠ 4) (h5 : i.op ≠ 5) : p.insE len i = 0 := by
  unfold Prg.insE
  rw [if_neg (by rw [h]; simp), ho]
  simp [h18, h4, h5]
theorem insJump {p : Prg} {len : Nat} {i : I8} (h : i.chk = 0) (ho : p.objN i.op = none) (h4 : i.op = 4 ∨ i.op = 5) : p.insE len i = if belB i.n (len + 1) = false then 12 else 0 := by
  unfold Prg.insE
  rw [if_neg (by rw [h]; simp), ho]
  rcases h4 with h4 | h4 <;> simp [h4]
set_option maxRecDepth 100000 in
set_option maxHeartbeats 4000000 in
theorem iInstr (a : PgA) (p : Prg) (i : I8) (len : Nat) (hlen : len + 1 ≤ maxLen) (w : World) (hP : PgW w a p) (hi : i.Wf) (hT : InsT w) (hN : Nm w) : Calls Tryd.prog 53 #[a.val, i.val, .int .i64 (len : Int)] w fun e w' => e = .returned (.int .i64 (p.insE len i)) ∧ Below w.heap.size w w' := by
  have g1 : a.n1 ≤ maxLen := by have h1 := hP.vars.le; have h2 := hP.vars.max; rw [hP.l1] at h1; omega
  have g2 : a.n2 ≤ maxLen := by have h1 := hP.muts.le; have h2 := hP.muts.max; rw [hP.l2] at h1; omega
  have g3 : a.n3 ≤ maxLen := by have h1 := hP.conds.le; have h2 := hP.conds.max; rw [hP.l3] at h1; omega
  have g4 : a.n4 ≤ maxLen := by have h1 := hP.funcs.le; have h2 := hP.funcs.max; rw [hP.l4] at h1; omega
  obtain ⟨r, hr⟩ : ∃ r, p.insE len i = r := ⟨_, rfl⟩
  rw [hr]
  have HM := Lib.hid hP.l2
  have HOE := Lib.hid (objEq hP)
  have HO1 := Lib.hid (fun c op ho X => iObjSome a op c ho X g1 g2 g3 g4)
  have HO2 := Lib.hid (fun op ho X => iObjNone a op ho X g1 g2 g3 g4)
  clear hP
  obtain ⟨A1, n1, c1, A2, n2, c2, A3, n3, c3, A4, n4, c4, A5, n5, c5⟩ := a
  obtain ⟨op, ra, rb, rc, obj, n, fn, ord⟩ := i
  have HC := Lib.hid (fun X x hx hT hN => iCheckA op ra rb rc obj n fn ord x hx hi X hT hN)
  simp only [PgA.val, PgA.fs, I8.val] at *
  unfold maxLen at g1 g2 g3 g4 hlen
  obtain ⟨W, hW⟩ : ∃ W, (w.alloc (.cells #[.slice A1 n1 c1, .slice A2 n2 c2, .slice A3 n3 c3, .slice A4 n4 c4, .slice A5 n5 c5] 27)).alloc (.cells #[.int .i64 op, .int .i64 ra, .int .i64 rb, .int .i64 rc, .int .i64 obj, .int .i64 n, .int .i64 fn, .int .i64 ord] 47) = W := ⟨_, rfl⟩
  have hbW : Below w.heap.size w W := by rw [← hW]; exact (belowAlloc w _).alloc (by simp) _
  have HBP : Hid (Blk W w.heap.size 27 #[.slice A1 n1 c1, .slice A2 n2 c2, .slice A3 n3 c3, .slice A4 n4 c4, .slice A5 n5 c5]) := by rw [← hW]; exact Lib.hid ((Blk.new w _ _).alloc _)
  have HBI : Hid (Blk W (w.heap.size + 1) 47 #[.int .i64 op, .int .i64 ra, .int .i64 rb, .int .i64 rc, .int .i64 obj, .int .i64 n, .int .i64 fn, .int .i64 ord]) := by rw [← hW]; exact Lib.hid (Blk.new1 w _ _ _)
  have HTN := Lib.hid (And.intro (hT.below hbW) (hN.below hbW))
  have HW := Lib.hid hW
  have HR := Lib.hid hr
  have i0 := HBI.out.cell 0
  have i1 := HBI.out.cell 1
  have i2 := HBI.out.cell 2
  have i3 := HBI.out.cell 3
  have i4 := HBI.out.cell 4
  have i5 := HBI.out.cell 5
  have i6 := HBI.out.cell 6
  have i7 := HBI.out.cell 7
  simp only [List.getElem?_toArray, List.getElem?_cons_zero, List.getElem?_cons_succ] at i0 i1 i2 i3 i4 i5 i6 i7
  clear hW hr hT hN hi
  by_cases hx : (I8.mk8 op ra rb rc obj n fn ord).chk = 0
  rotate_left
  · obtain ⟨x, hxe⟩ : ∃ x, (I8.mk8 op ra rb rc obj n fn ord).chk = x := ⟨_, rfl⟩
    have HX : Hid (r = x) := Lib.hid (by rw [← HR.out, insBad hx, hxe])
    have hx0 : (x != 0) = true := by rw [hxe] at hx; simpa using hx
    have HXE := Lib.hid hxe
    clear hx hxe
    go_enter Tryd.func53, Tryd.ntmps53
    go_wp2_with fail
    rw [HW.out]
    refine (HC.out W _ HXE.out HTN.out.1 HTN.out.2).mono ?_
    rintro e w2 ⟨rfl, b2⟩
    have B2 := belowThen hbW b2
    go_wp2
    go_ret
    exact ⟨retIO HX.out.symm, B2⟩
  have HX0 := Lib.hid hx
  clear hx
  by_cases h18 : op = 18
  · subst h18
    have ho : objL n1 n2 n3 n4 18 = some n3 := rfl
    have hon := (HOE.out 18).trans ho
    have HO := Lib.hid (HO1.out n3 18 ho)
    clear HO1 HO2
    cases hb : belB obj n3
    · have HV := Lib.hid (iBelowA obj n3 n3 rfl false hb)
      have HX : Hid (r = 11) := Lib.hid (HR.out.symm.trans (insObj HX0.out hon hb))
      clear hb ho hon
      go_enter Tryd.func53, Tryd.ntmps53
      go_wp2_with fail
      rw [HW.out]
      refine (HC.out W _ HX0.out HTN.out.1 HTN.out.2).mono ?_
      rintro e w2 ⟨rfl, b2⟩
      have B2 := belowThen hbW b2
      have HBP := Lib.hid (HBP.out.below' b2)
      have HBI := Lib.hid (HBI.out.below' b2)
      clear i0 i1 i2 i3 i4 i5 i6 i7
      have i0 := HBI.out.cell 0
      have j0 := HBP.out.cell 0
      have j1 := HBP.out.cell 1
      have j2 := HBP.out.cell 2
      have j3 := HBP.out.cell 3
      have j4 := HBP.out.cell 4
      simp only [List.getElem?_toArray, List.getElem?_cons_zero, List.getElem?_cons_succ] at i0 j0 j1 j2 j3 j4
      go_wp2_with fail
      refine (HO.out _).mono ?_
      rintro e w3 ⟨rfl, b3⟩
      have B3 := belowThen B2 b3
      have HBP := Lib.hid (HBP.out.below' b3)
      have HBI := Lib.hid (HBI.out.below' b3)
      clear i0 j0 j1 j2 j3 j4
      have i0 := HBI.out.cell 0
      have i4 := HBI.out.cell 4
      have i5 := HBI.out.cell 5
      have j1 := HBP.out.cell 1
      simp only [List.getElem?_toArray, List.getElem?_cons_zero, List.getElem?_cons_succ] at i0 i4 i5 j1
      go_wp2_with (first | (go_at_call 55; refine (HV.out _).mono ?_; rintro e w' ⟨rfl, rfl⟩))
      go_ret
      exact ⟨retIO HX.out.symm, B3⟩
    · have HV := Lib.hid (iBelowA obj n3 n3 rfl true hb)
      have hi0 := insWait (len := len) HX0.out hon hb rfl
      rw [HM.out] at hi0
      clear hb ho hon
      cases hb2 : belB n n2
      · have HV2 := Lib.hid (iBelowA n n2 n2 rfl false hb2)
        have HX : Hid (r = 11) := Lib.hid (HR.out.symm.trans (hi0.trans (by rw [hb2]; rfl)))
        clear hb2 hi0
        go_enter Tryd.func53, Tryd.ntmps53
        go_wp2_with fail
        rw [HW.out]
        refine (HC.out W _ HX0.out HTN.out.1 HTN.out.2).mono ?_
        rintro e w2 ⟨rfl, b2⟩
        have B2 := belowThen hbW b2
        have HBP := Lib.hid (HBP.out.below' b2)
        have HBI := Lib.hid (HBI.out.below' b2)
        clear i0 i1 i2 i3 i4 i5 i6 i7
        have i0 := HBI.out.cell 0
        have j0 := HBP.out.cell 0
        have j1 := HBP.out.cell 1
        have j2 := HBP.out.cell 2
        have j3 := HBP.out.cell 3
        have j4 := HBP.out.cell 4
        simp only [List.getElem?_toArray, List.getElem?_cons_zero, List.getElem?_cons_succ] at i0 j0 j1 j2 j3 j4
        go_wp2_with fail
        refine (HO.out _).mono ?_
        rintro e w3 ⟨rfl, b3⟩
        have B3 := belowThen B2 b3
        have HBP := Lib.hid (HBP.out.below' b3)
        have HBI := Lib.hid (HBI.out.below' b3)
        clear i0 j0 j1 j2 j3 j4
        have i0 := HBI.out.cell 0
        have i4 := HBI.out.cell 4
        have i5 := HBI.out.cell 5
        have j1 := HBP.out.cell 1
        simp only [List.getElem?_toArray, List.getElem?_cons_zero, List.getElem?_cons_succ] at i0 i4 i5 j1
        go_wp2_with fail
        refine (HV.out _).mono ?_
        rintro e w' ⟨rfl, rfl⟩
        go_wp2_with fail
        refine (HV2.out _).mono ?_
        rintro e w' ⟨rfl, rfl⟩
        go_wp2
        go_ret
        exact ⟨retIO HX.out.symm, B3⟩
      · have HV2 := Lib.hid (iBelowA n n2 n2 rfl true hb2)
        have HX : Hid (r = 0) := Lib.hid (HR.out.symm.trans (hi0.trans (by rw [hb2]; rfl)))
        clear hb2 hi0
        go_enter Tryd.func53, Tryd.ntmps53
        go_wp2_with fail
        rw [HW.out]
        refine (HC.out W _ HX0.out HTN.out.1 HTN.out.2).mono ?_
        rintro e w2 ⟨rfl, b2⟩
        have B2 := belowThen hbW b2
        have HBP := Lib.hid (HBP.out.below' b2)
        have HBI := Lib.hid (HBI.out.below' b2)
        clear i0 i1 i2 i3 i4 i5 i6 i7
        have i0 := HBI.out.cell 0
        have j0 := HBP.out.cell 0
        have j1 := HBP.out.cell 1
        have j2 := HBP.out.cell 2
        have j3 := HBP.out.cell 3
        have j4 := HBP.out.cell 4
        simp only [List.getElem?_toArray, List.getElem?_cons_zero, List.getElem?_cons_succ] at i0 j0 j1 j2 j3 j4
        go_wp2_with fail
        refine (HO.out _).mono ?_
        rintro e w3 ⟨rfl, b3⟩
        have B3 := belowThen B2 b3
        have HBP := Lib.hid (HBP.out.below' b3)
        have HBI := Lib.hid (HBI.out.below' b3)
        clear i0 j0 j1 j2 j3 j4
        have i0 := HBI.out.cell 0
        have i4 := HBI.out.cell 4
        have i5 := HBI.out.cell 5
        have j1 := HBP.out.cell 1
        simp only [List.getElem?_toArray, List.getElem?_cons_zero, List.getElem?_cons_succ] at i0 i4 i5 j1
        go_wp2_with fail
        refine (HV.out _).mono ?_
        rintro e w' ⟨rfl, rfl⟩
        go_wp2_with fail
        refine (HV2.out _).mono ?_
        rintro e w' ⟨rfl, rfl⟩
        go_wp2
        go_ret
        exact ⟨retIO HX.out.symm, B3⟩
  have z18 : (op == 18) = false := by simpa using h18
  by_cases h4 : op = 4
  · subst h4
    have ho : objL n1 n2 n3 n4 4 = none := rfl
    have hon := (HOE.out 4).trans ho
    have HO := Lib.hid (HO2.out 4 ho)
    have hi0 := insJump (len := len) HX0.out hon (by simp)
    clear HO1 HO2 ho hon
    cases hb : belB n (len + 1)
    · have HV := Lib.hid (iBelowA n (len + 1) (len + 1) (by simp) false hb)
      have HX : Hid (r = 12) := Lib.hid (HR.out.symm.trans (hi0.trans (by rw [hb]; rfl)))
      clear hb hi0
      go_enter Tryd.func53, Tryd.ntmps53
      go_wp2_with fail
      rw [HW.out]
      refine (HC.out W _ HX0.out HTN.out.1 HTN.out.2).mono ?_
      rintro e w2 ⟨rfl, b2⟩
      have B2 := belowThen hbW b2
      have HBP := Lib.hid (HBP.out.below' b2)
      have HBI := Lib.hid (HBI.out.below' b2)
      clear i0 i1 i2 i3 i4 i5 i6 i7
      have i0 := HBI.out.cell 0
      have j0 := HBP.out.cell 0
      have j1 := HBP.out.cell 1
      have j2 := HBP.out.cell 2
      have j3 := HBP.out.cell 3
      have j4 := HBP.out.cell 4
      simp only [List.getElem?_toArray, List.getElem?_cons_zero, List.getElem?_cons_succ] at i0 j0 j1 j2 j3 j4
      go_wp2_with fail
      refine (HO.out _).mono ?_
      rintro e w3 ⟨rfl, b3⟩
      have B3 := belowThen B2 b3
      have HBP := Lib.hid (HBP.out.below' b3)
      have HBI := Lib.hid (HBI.out.below' b3)
      clear i0 j0 j1 j2 j3 j4
      have i0 := HBI.out.cell 0
      have i4 := HBI.out.cell 4
      have i5 := HBI.out.cell 5
      have j1 := HBP.out.cell 1
      simp only [List.getElem?_toArray, List.getElem?_cons_zero, List.getElem?_cons_succ] at i0 i4 i5 j1
      go_wp2_with (first | (go_at_call 55; refine (HV.out _).mono ?_; rintro e w' ⟨rfl, rfl⟩))
      go_ret
      exact ⟨retIO HX.out.symm, B3⟩
    · have HV := Lib.hid (iBelowA n (len + 1) (len + 1) (by simp) true hb)
      have HX : Hid (r = 0) := Lib.hid (HR.out.symm.trans (hi0.trans (by rw [hb]; rfl)))
      clear hb hi0
      go_enter Tryd.func53, Tryd.ntmps53
      go_wp2_with fail
      rw [HW.out]
      refine (HC.out W _ HX0.out HTN.out.1 HTN.out.2).mono ?_
      rintro e w2 ⟨rfl, b2⟩
      have B2 := belowThen hbW b2
      have HBP := Lib.hid (HBP.out.below' b2)
      have HBI := Lib.hid (HBI.out.below' b2)
      clear i0 i1 i2 i3 i4 i5 i6 i7
      have i0 := HBI.out.cell 0
      have j0 := HBP.out.cell 0
      have j1 := HBP.out.cell 1
      have j2 := HBP.out.cell 2
      have j3 := HBP.out.cell 3
      have j4 := HBP.out.cell 4
      simp only [List.getElem?_toArray, List.getElem?_cons_zero, List.getElem?_cons_succ] at i0 j0 j1 j2 j3 j4
      go_wp2_with fail
      refine (HO.out _).mono ?_
      rintro e w3 ⟨rfl, b3⟩
      have B3 := belowThen B2 b3
      have HBP := Lib.hid (HBP.out.below' b3)
      have HBI := Lib.hid (HBI.out.below' b3)
      clear i0 j0 j1 j2 j3 j4
      have i0 := HBI.out.cell 0
      have i4 := HBI.out.cell 4
      have i5 := HBI.out.cell 5
      have j1 := HBP.out.cell 1
      simp only [List.getElem?_toArray, List.getElem?_cons_zero, List.getElem?_cons_succ] at i0 i4 i5 j1
      go_wp2_with (first | (go_at_call 55; refine (HV.out _).mono ?_; rintro e w' ⟨rfl, rfl⟩))
      go_ret
      exact ⟨retIO HX.out.symm, B3⟩
  have z4 : (op == 4) = false := by simpa using h4
  by_cases h5 : op = 5
  · subst h5
    have ho : objL n1 n2 n3 n4 5 = none := rfl
    have hon := (HOE.out 5).trans ho
    have HO := Lib.hid (HO2.out 5 ho)
    have hi0 := insJump (len := len) HX0.out hon (by simp)
    clear HO1 HO2 ho hon
    cases hb : belB n (len + 1)
    · have HV := Lib.hid (iBelowA n (len + 1) (len + 1) (by simp) false hb)
      have HX : Hid (r = 12) := Lib.hid (HR.out.symm.trans (hi0.trans (by rw [hb]; rfl)))
      clear hb hi0
      go_enter Tryd.func53, Tryd.ntmps53
      go_wp2_with fail
      rw [HW.out]
      refine (HC.out W _ HX0.out HTN.out.1 HTN.out.2).mono ?_
      rintro e w2 ⟨rfl, b2⟩
      have B2 := belowThen hbW b2
      have HBP := Lib.hid (HBP.out.below' b2)
      have HBI := Lib.hid (HBI.out.below' b2)
      clear i0 i1 i2 i3 i4 i5 i6 i7
      have i0 := HBI.out.cell 0
      have j0 := HBP.out.cell 0
      have j1 := HBP.out.cell 1
      have j2 := HBP.out.cell 2
      have j3 := HBP.out.cell 3
      have j4 := HBP.out.cell 4
      simp only [List.getElem?_toArray, List.getElem?_cons_zero, List.getElem?_cons_succ] at i0 j0 j1 j2 j3 j4
      go_wp2_with fail
      refine (HO.out _).mono ?_
      rintro e w3 ⟨rfl, b3⟩
      have B3 := belowThen B2 b3
      have HBP := Lib.hid (HBP.out.below' b3)
      have HBI := Lib.hid (HBI.out.below' b3)
      clear i0 j0 j1 j2 j3 j4
      have i0 := HBI.out.cell 0
      have i4 := HBI.out.cell 4
      have i5 := HBI.out.cell 5
      have j1 := HBP.out.cell 1
      simp only [List.getElem?_toArray, List.getElem?_cons_zero, List.getElem?_cons_succ] at i0 i4 i5 j1
      go_wp2_with (first | (go_at_call 55; refine (HV.out _).mono ?_; rintro e w' ⟨rfl, rfl⟩))
      go_ret
      exact ⟨retIO HX.out.symm, B3⟩
    · have HV := Lib.hid (iBelowA n (len + 1) (len + 1) (by simp) true hb)
      have HX : Hid (r = 0) := Lib.hid (HR.out.symm.trans (hi0.trans (by rw [hb]; rfl)))
      clear hb hi0
      go_enter Tryd.func53, Tryd.ntmps53
      go_wp2_with fail
      rw [HW.out]
      refine (HC.out W _ HX0.out HTN.out.1 HTN.out.2).mono ?_
      rintro e w2 ⟨rfl, b2⟩
      have B2 := belowThen hbW b2
      have HBP := Lib.hid (HBP.out.below' b2)
      have HBI := Lib.hid (HBI.out.below' b2)
      clear i0 i1 i2 i3 i4 i5 i6 i7
      have i0 := HBI.out.cell 0
      have j0 := HBP.out.cell 0
      have j1 := HBP.out.cell 1
      have j2 := HBP.out.cell 2
      have j3 := HBP.out.cell 3
      have j4 := HBP.out.cell 4
      simp only [List.getElem?_toArray, List.getElem?_cons_zero, List.getElem?_cons_succ] at i0 j0 j1 j2 j3 j4
      go_wp2_with fail
      refine (HO.out _).mono ?_
      rintro e w3 ⟨rfl, b3⟩
      have B3 := belowThen B2 b3
      have HBP := Lib.hid (HBP.out.below' b3)
      have HBI := Lib.hid (HBI.out.below' b3)
      clear i0 j0 j1 j2 j3 j4
      have i0 := HBI.out.cell 0
      have i4 := HBI.out.cell 4
      have i5 := HBI.out.cell 5
      have j1 := HBP.out.cell 1
      simp only [List.getElem?_toArray, List.getElem?_cons_zero, List.getElem?_cons_succ] at i0 i4 i5 j1
      go_wp2_with (first | (go_at_call 55; refine (HV.out _).mono ?_; rintro e w' ⟨rfl, rfl⟩))
      go_ret
      exact ⟨retIO HX.out.symm, B3⟩
  have z5 : (op == 5) = false := by simpa using h5
  rcases ho : objL n1 n2 n3 n4 op with _ | c
  · have hon := (HOE.out op).trans ho
    have HO := Lib.hid (HO2.out op ho)
    have HX : Hid (r = 0) := Lib.hid (HR.out.symm.trans (insNone HX0.out hon h18 h4 h5))
    clear HO1 HO2 ho hon h18 h4 h5
    go_enter Tryd.func53, Tryd.ntmps53
    go_wp2_with fail
    rw [HW.out]
    refine (HC.out W _ HX0.out HTN.out.1 HTN.out.2).mono ?_
    rintro e w2 ⟨rfl, b2⟩
    have B2 := belowThen hbW b2
    have HBP := Lib.hid (HBP.out.below' b2)
    have HBI := Lib.hid (HBI.out.below' b2)
    clear i0 i1 i2 i3 i4 i5 i6 i7
    have i0 := HBI.out.cell 0
    have j0 := HBP.out.cell 0
    have j1 := HBP.out.cell 1
    have j2 := HBP.out.cell 2
    have j3 := HBP.out.cell 3
    have j4 := HBP.out.cell 4
    simp only [List.getElem?_toArray, List.getElem?_cons_zero, List.getElem?_cons_succ] at i0 j0 j1 j2 j3 j4
    go_wp2_with fail
    refine (HO.out _).mono ?_
    rintro e w3 ⟨rfl, b3⟩
    have B3 := belowThen B2 b3
    have HBP := Lib.hid (HBP.out.below' b3)
    have HBI := Lib.hid (HBI.out.below' b3)
    clear i0 j0 j1 j2 j3 j4
    have i0 := HBI.out.cell 0
    have i4 := HBI.out.cell 4
    have i5 := HBI.out.cell 5
    have j1 := HBP.out.cell 1
    simp only [List.getElem?_toArray, List.getElem?_cons_zero, List.getElem?_cons_succ] at i0 i4 i5 j1
    go_wp2
    go_ret
    exact ⟨retIO HX.out.symm, B3⟩
  · have hon := (HOE.out op).trans ho
    have HO := Lib.hid (HO1.out c op ho)
    cases hb : belB obj c
    · have HV := Lib.hid (iBelowA obj c c rfl false hb)
      have HX : Hid (r = 11) := Lib.hid (HR.out.symm.trans (insObj HX0.out hon hb))
      clear HO1 HO2 ho hon hb h18 h4 h5
      go_enter Tryd.func53, Tryd.ntmps53
      go_wp2_with fail
      rw [HW.out]
      refine (HC.out W _ HX0.out HTN.out.1 HTN.out.2).mono ?_
      rintro e w2 ⟨rfl, b2⟩
      have B2 := belowThen hbW b2
      have HBP := Lib.hid (HBP.out.below' b2)
      have HBI := Lib.hid (HBI.out.below' b2)
      clear i0 i1 i2 i3 i4 i5 i6 i7
      have i0 := HBI.out.cell 0
      have j0 := HBP.out.cell 0
      have j1 := HBP.out.cell 1
      have j2 := HBP.out.cell 2
      have j3 := HBP.out.cell 3
      have j4 := HBP.out.cell 4
      simp only [List.getElem?_toArray, List.getElem?_cons_zero, List.getElem?_cons_succ] at i0 j0 j1 j2 j3 j4
      go_wp2_with fail
      refine (HO.out _).mono ?_
      rintro e w3 ⟨rfl, b3⟩
      have B3 := belowThen B2 b3
      have HBP := Lib.hid (HBP.out.below' b3)
      have HBI := Lib.hid (HBI.out.below' b3)
      clear i0 j0 j1 j2 j3 j4
      have i0 := HBI.out.cell 0
      have i4 := HBI.out.cell 4
      have i5 := HBI.out.cell 5
      have j1 := HBP.out.cell 1
      simp only [List.getElem?_toArray, List.getElem?_cons_zero, List.getElem?_cons_succ] at i0 i4 i5 j1
      go_wp2_with (first | (go_at_call 55; refine (HV.out _).mono ?_; rintro e w' ⟨rfl, rfl⟩))
      go_ret
      exact ⟨retIO HX.out.symm, B3⟩
    · have HV := Lib.hid (iBelowA obj c c rfl true hb)
      have HX : Hid (r = 0) := Lib.hid (HR.out.symm.trans (insMid HX0.out hon hb h18 h4 h5))
      clear HO1 HO2 ho hon hb h18 h4 h5
      go_enter Tryd.func53, Tryd.ntmps53
      go_wp2_with fail
      rw [HW.out]
      refine (HC.out W _ HX0.out HTN.out.1 HTN.out.2).mono ?_
      rintro e w2 ⟨rfl, b2⟩
      have B2 := belowThen hbW b2
      have HBP := Lib.hid (HBP.out.below' b2)
      have HBI := Lib.hid (HBI.out.below' b2)
      clear i0 i1 i2 i3 i4 i5 i6 i7
      have i0 := HBI.out.cell 0
      have j0 := HBP.out.cell 0
      have j1 := HBP.out.cell 1
      have j2 := HBP.out.cell 2
      have j3 := HBP.out.cell 3
      have j4 := HBP.out.cell 4
      simp only [List.getElem?_toArray, List.getElem?_cons_zero, List.getElem?_cons_succ] at i0 j0 j1 j2 j3 j4
      go_wp2_with fail
      refine (HO.out _).mono ?_
      rintro e w3 ⟨rfl, b3⟩
      have B3 := belowThen B2 b3
      have HBP := Lib.hid (HBP.out.below' b3)
      have HBI := Lib.hid (HBI.out.below' b3)
      clear i0 j0 j1 j2 j3 j4
      have i0 := HBI.out.cell 0
      have i4 := HBI.out.cell 4
      have i5 := HBI.out.cell 5
      have j1 := HBP.out.cell 1
      simp only [List.getElem?_toArray, List.getElem?_cons_zero, List.getElem?_cons_succ] at i0 i4 i5 j1
      go_wp2_with (first | (go_at_call 55; refine (HV.out _).mono ?_; rintro e w' ⟨rfl, rfl⟩))
      go_ret
      exact ⟨retIO HX.out.symm, B3⟩
end Go.Proofs.YtebpnnakcodjdaaDoor
