/-
  The check of a statement's expressions (a closure over the local variables).
-/
import Derived.Test.YtiaendggmamnkaaGreatDoorEAsClo
namespace Go.Proofs.YtiaendggmamnkaaGreatDoor
open Go Go.RowKit

theorem xsEgo {ls : List ByteArray} {l : List Ex} {k : Nat} (hk : k < l.length) : xsE ls (l.drop k) = if chX ls l[k] ≠ 0 then chX ls l[k] else xsE ls (l.drop (k + 1)) := by
  rw [List.drop_eq_getElem_cons hk, xsE]
theorem xsEend {ls : List ByteArray} {l : List Ex} {k : Nat} (hk : l.length ≤ k) : xsE ls (l.drop k) = 0 := by
  rw [List.drop_eq_nil_of_le hk, xsE]
set_option maxRecDepth 100000 in
set_option maxHeartbeats 1000000 in
theorem iCk8 (dx : Nat) (ls : List ByteArray) (AL : Option Addr) (nl cL lb : Nat) (hl : ls.length = nl) (t : Sm) (lv : Nat) (A6 A7 A8 : Option Addr) (c6 c7 c8 : Nat) (w : World) (hE : RdE 5 (EX dx) w A6 c6 t.val.exprs) (hW : ∀ e ∈ t.val.exprs, WfX e) (hrl : RdE 1 ES w AL cL ls) (hlb : Boxed w lb 23 (.slice AL nl cL)) :
    Calls Tryz.prog 155 #[smV t A6 A7 A8 c6 c7 c8, .int .i64 (lv : Int), .pointer (some ⟨lb, 0, none⟩)] w fun e w' => e = .returned (.int .i64 (xsE ls t.val.exprs)) ∧ Below w.heap.size w w' := by
  obtain ⟨W, hWd⟩ : ∃ W, w.alloc (.cells (smC t.val.kind t.val.name t.val.obj t.val.other t.val.fn t.val.ord (.slice A6 t.val.exprs.length c6) (.slice A7 t.fst.length c7) (.slice A8 t.snd.length c8)) 54) = W := ⟨_, rfl⟩
  have hb : Below w.heap.size w W := by rw [← hWd]; exact belowAlloc _ _
  have B : Blk W w.heap.size 54 (smC t.val.kind t.val.name t.val.obj t.val.other t.val.fn t.val.ord (.slice A6 t.val.exprs.length c6) (.slice A7 t.fst.length c7) (.slice A8 t.snd.length c8)) := by rw [← hWd]; exact Blk.new _ _ _
  have f6 : W.cell? ⟨w.heap.size, 6, none⟩ = some (.slice A6 t.val.exprs.length c6) := B.cell 6
  obtain ⟨r, hr⟩ : ∃ r, xsE ls t.val.exprs = r := ⟨_, rfl⟩
  rw [hr]
  have HR := Lib.hid hr
  obtain ⟨n6, hn6⟩ : ∃ n, t.val.exprs.length = n := ⟨_, rfl⟩
  have hle := hE.le
  have hmx := hE.max
  unfold maxLen at hmx
  rw [hn6] at f6 hle
  unfold smV
  unfold smC at hWd ⊢
  rw [hn6] at hWd ⊢
  have HE := Lib.hid hE
  have HN := Lib.hid hn6
  have HWF := Lib.hid hW
  have HRL := Lib.hid hrl
  have HLB := Lib.hid hlb
  have HB := Lib.hid hb
  have HWd := Lib.hid hWd
  clear hE hW hrl hlb hb B hr hn6 hWd
  go_enter Tryz.func155, Tryz.ntmps155
  go_upto_region 1 with fail
  rw [HWd.out]
  go_wp2_with fail
  go_loopw [12] (fun i wr => ∃ k : Nat, k ≤ n6 ∧ i = .int .i64 k ∧ Below w.heap.size w wr ∧ Hid (xsE ls (t.val.exprs.drop k) = r)) (fun i _ => n6 - (intOf i).toNat)
  case atStart => exact ⟨0, Nat.zero_le _, rfl, HB.out, HR⟩
  case round =>
    obtain ⟨k, hk, rfl, hbr, HA⟩ := hrel
    by_cases hlt : k < n6
    · have hkl : k < t.val.exprs.length := by rw [HN.out]; exact hlt
      obtain ⟨eb, eo, hA, hel, hx⟩ := HE.out.one hkl
      subst hA
      have hwf := HWF.out _ (List.getElem_mem hkl)
      have hgo := xsEgo (ls := ls) hkl
      obtain ⟨e, he⟩ : ∃ e, t.val.exprs[k] = e := ⟨_, rfl⟩
      rw [he] at hx hwf hgo
      cases dx with
      | zero => exact hx.elim
      | succ dx1 =>
      obtain ⟨x0, x1, x2, x3, hsn, v4, x4, A4, c4, rfl, r4⟩ := hx
      have y0 := (hbr.cell (p := ⟨eb, eo + k * 5, none⟩) hel).trans x0
      have y1 := (hbr.cell (p := ⟨eb, eo + k * 5 + 1, none⟩) hel).trans x1
      have y2 := (hbr.cell (p := ⟨eb, eo + k * 5 + 2, none⟩) hel).trans x2
      have y3 := (hbr.cell (p := ⟨eb, eo + k * 5 + 3, none⟩) hel).trans x3
      have y4 := (hbr.cell (p := ⟨eb, eo + k * 5 + 4, none⟩) hel).trans x4
      obtain ⟨n4, hn4⟩ : ∃ n, e.fst.length = n := ⟨_, rfl⟩
      rw [hn4] at y4
      obtain ⟨X, hX⟩ : ∃ X, wr.alloc (.cells #[.int .i64 e.val.kind, .int .i64 e.val.n, .string e.val.name, .int .i64 e.val.fn, .slice A4 n4 c4] 37) = X := ⟨_, rfl⟩
      have hbX : Below wr.heap.size wr X := by rw [← hX]; exact belowAlloc _ _
      have BX : Blk X wr.heap.size 37 #[.int .i64 e.val.kind, .int .i64 e.val.n, .string e.val.name, .int .i64 e.val.fn, .slice A4 n4 c4] := by rw [← hX]; exact Blk.new _ _ _
      have hwX := belowThen hbr hbX
      have z0 : X.cell? ⟨wr.heap.size, 0, none⟩ = some (.int .i64 e.val.kind) := BX.cell 0
      have z1 : X.cell? ⟨wr.heap.size, 1, none⟩ = some (.int .i64 e.val.n) := BX.cell 1
      have z2 : X.cell? ⟨wr.heap.size, 2, none⟩ = some (.string e.val.name) := BX.cell 2
      have z3 : X.cell? ⟨wr.heap.size, 3, none⟩ = some (.int .i64 e.val.fn) := BX.cell 3
      have z4 : X.cell? ⟨wr.heap.size, 4, none⟩ = some (.slice A4 n4 c4) := BX.cell 4
      have q0 : X.cell? ⟨lb, 0, none⟩ = some (.slice AL nl cL) := Boxed.cell (show Boxed X lb 23 (.slice AL nl cL) from (hwX.block _ HLB.out.lt).trans HLB.out)
      have HC := Lib.hid (iCheckX dx1 e hsn hwf A4 n4 c4 hn4 ls AL nl cL hl X (r4.below (stabX dx1) hwX) (HRL.out.below stabS hwX))
      unfold exC at HC
      obtain ⟨r9, hr9⟩ : ∃ r, chX ls e = r := ⟨_, rfl⟩
      rw [hr9] at HC hgo
      have HGO := Lib.hid hgo
      have HWX := Lib.hid hwX
      have HX := Lib.hid hX
      have hk0 : (0 : Int) ≤ k := by omega
      have hk1 : (k : Int) < n6 := by omega
      clear hX hbX BX hwX hgo hr9 x0 x1 x2 x3 x4 r4 he hwf hbr hn4 hsn
      by_cases hr0 : r9 = 0
      · have HNX := Lib.hid (show xsE ls (t.val.exprs.drop (k + 1)) = r by rw [← HA.out, HGO.out, if_neg (by simpa using hr0)])
        subst hr0
        go_upto_region 4 with fail
        rw [HX.out]
        go_wp2_with fail
        refine HC.out.mono ?_
        rintro e' w1 ⟨rfl, b1⟩
        go_wp2_with fail
        go_roundw
        case rel => exact ⟨k + 1, by omega, by go_num, belowThen HWX.out b1, HNX⟩
        case measure => simp [intOf]; omega
      · have HNX := Lib.hid (show r9 = r by rw [← HA.out, HGO.out, if_pos hr0])
        have hrz : (r9 != 0) = true := by simpa using hr0
        clear hr0
        go_upto_region 4 with fail
        rw [HX.out]
        go_wp2_with fail
        refine HC.out.mono ?_
        rintro e' w1 ⟨rfl, b1⟩
        go_wp2_with fail
        go_ret
        exact ⟨by rw [← HNX.out]; rfl, belowThen HWX.out b1⟩
    · have HNX := Lib.hid (show (0 : Int) = r by rw [← HA.out, xsEend (by rw [HN.out]; omega)])
      go_wp2_with fail
      go_ret
      exact ⟨by rw [← HNX.out]; rfl, hbr⟩
end Go.Proofs.YtiaendggmamnkaaGreatDoor

namespace Go.Proofs.YtiaendggmamnkaaGreatDoor
open Go Go.RowKit

/-- The nine closures. -/
def ckFs (ub lb : Nat) : Array Value := #[.func (.func 146) #[] #[], .func (.func 147) #[] #[], .func (.func 148) #[] #[], .func (.func 150) #[] #[], .func (.func 151) #[] #[.pointer (some ⟨ub, 0, none⟩)], .func (.func 152) #[] #[], .func (.func 153) #[] #[], .func (.func 155) #[] #[.pointer (some ⟨lb, 0, none⟩)], .func (.func 156) #[] #[]]
/-- What the checks need in memory. -/
structure Chks (g ub lb : Nat) (a : PgA) (AL : Option Addr) (nl cL : Nat) (X : World) : Prop where
  arr : Blk X g 153 (ckFs ub lb)
  ubx : UBox X ub a
  lbx : Boxed X lb 23 (.slice AL nl cL)
theorem Chks.below {g ub lb : Nat} {a : PgA} {AL : Option Addr} {nl cL : Nat} {X Y : World} (h : Chks g ub lb a AL nl cL X) (hb : Below X.heap.size X Y) : Chks g ub lb a AL nl cL Y := ⟨h.arr.below' hb, h.ubx.below hb, (hb.block _ h.lbx.lt).trans h.lbx⟩
set_option maxRecDepth 100000 in
set_option maxHeartbeats 1000000 in
theorem iChecks (a : PgA) (AL : Option Addr) (nl cL : Nat) (w : World) :
    Calls Tryz.prog 106 #[a.val, .slice AL nl cL] w fun e w' => ∃ g ub lb, e = .returned (.slice (some ⟨g, 0, none⟩) 9 9) ∧ Chks g ub lb a AL nl cL w' ∧ w.heap.size ≤ g ∧ w.heap.size ≤ ub ∧ w.heap.size ≤ lb ∧ Below w.heap.size w w' := by
  obtain ⟨W, hW⟩ : ∃ W, ((w.alloc (.cells a.fs 27)).alloc (.cells #[.slice AL nl cL] 23)).alloc (.cells (ckFs w.heap.size (w.heap.size + 1)) 153) = W := ⟨_, rfl⟩
  obtain ⟨h0, h1, h2, hb, hz⟩ := three16 w _ _ _ hW
  have HF := Lib.hid (show Chks (w.heap.size + 1 + 1) w.heap.size (w.heap.size + 1) a AL nl cL W ∧ Below w.heap.size w W from ⟨⟨h2, h0, h1⟩, hb⟩)
  clear h0 h1 h2 hb hz
  obtain ⟨A1, n1, c1, A2, n2, c2, A3, n3, c3, A4, n4, c4, A5, n5, c5⟩ := a
  simp only [PgA.val, PgA.fs] at *
  unfold ckFs at hW
  have HW := Lib.hid hW
  clear hW
  go_enter Tryz.func106, Tryz.ntmps106
  go_wp2_with fail
  go_ret
  rw [HW.out]
  exact ⟨_, _, _, rfl, HF.out.1, by omega, by omega, by omega, HF.out.2⟩
/-- What the checks say, in order. -/
def ckS (u : Un) (ls : List ByteArray) (l : Nat) (t : Sm) : Nat → Int
  | 0 => un0 (decide (l ≤ 12)) 4
  | 1 => un0 (kdOk t.val.kind) 8
  | 2 => un0 (hfB t) 9
  | 3 => un0 (!(rw16 t.val.kind).nm || nmA t.val.name) 6
  | 4 => un0 (exB u (rw16 t.val.kind).ob t.val.obj && exB u (rw16 t.val.kind).ot t.val.other) 11
  | 5 => un0 (!(rw16 t.val.kind).fn || fnOkA t.val.fn) 8
  | 6 => un0 (orOkA t.val.ord) 13
  | 7 => xsE ls t.val.exprs
  | _ => un0 (decide (t.val.kind ≠ 6) || decide ((dp2 t.val.exprs : Int) < 3)) 4
def ckF (g : Nat → Int) : Nat → Nat → Int
  | 0, _ => 0
  | d + 1, k => if g k ≠ 0 then g k else ckF g d (k + 1)
theorem un0z (b : Bool) {x : Int} (hx : x ≠ 0) : un0 b x = 0 ↔ b = true := by
  unfold un0; cases b <;> simp [hx]
theorem stEck (u : Un) (ls : List ByteArray) (l : Nat) (t : Sm) : stE u ls l t = ckF (ckS u ls l t) 9 0 := by
  unfold stE
  simp only [ckF, ckS]
  have e0 : un0 (decide (l ≤ 12)) 4 = if 12 < l then 4 else 0 := by unfold un0; by_cases h : 12 < l <;> simp [h] <;> omega
  have e8 : (un0 (decide (t.val.kind ≠ 6) || decide ((dp2 t.val.exprs : Int) < 3)) 4) = if t.val.kind = 6 ∧ ¬ dp2 t.val.exprs < 3 then 4 else 0 := by
    unfold un0
    by_cases h1 : t.val.kind = 6 <;> by_cases h2 : dp2 t.val.exprs < 3 <;> simp [h1, h2] <;> omega
  rw [e0, e8]
  unfold un0
  by_cases g0 : 12 < l
  · simp [g0]
  · simp only [g0, if_false]
    cases kdOk t.val.kind
    · simp
    · cases hfB t
      · simp
      · cases (rw16 t.val.kind).nm <;> cases nmA t.val.name <;> simp
        all_goals (cases exB u (rw16 t.val.kind).ob t.val.obj <;> cases exB u (rw16 t.val.kind).ot t.val.other <;> simp)
        all_goals (cases (rw16 t.val.kind).fn <;> cases fnOkA t.val.fn <;> simp)
        all_goals (cases orOkA t.val.ord <;> simp)
        all_goals (by_cases hx : xsE ls t.val.exprs = 0 <;> simp [hx])
        all_goals (by_cases h1 : t.val.kind = 6 <;> by_cases h2 : dp2 t.val.exprs < 3 <;> simp [h1, h2])
end Go.Proofs.YtiaendggmamnkaaGreatDoor
