/-
  The specification's code: the first error of a function's instructions.
-/
import Derived.Test.YtebpnnakcodjdaaDoorZPgJ
import Derived.Test.YtebpnnakcodjdaaDoorZIU
import Derived.Test.YtebpnnakcodjdaaDoorZPgO
import Derived.BigQuiet
import Derived.Test.YtebpnnakcodjdaaDoorZG3
namespace Go.Proofs.YtebpnnakcodjdaaDoor
open Go Go.RowKit

theorem rValue (n : Int) (w : World) : Calls Tryd.prog 21 #[.int .i64 n] w fun e w' => e = .returned (.bool (isVal n)) ∧ w = w' := by
  have HL : Hid (isVal n = (decide (-2147483648 ≤ n) && decide (n ≤ 2147483647))) := Lib.hid rfl
  go_enter Tryd.func21, Tryd.ntmps21
  go_wp2
  all_goals go_ret
  all_goals exact ⟨retBl (by rw [HL.out, Bool.eq_iff_iff]; (try simp); omega), rfl⟩
set_option maxHeartbeats 2000000 in
theorem rThreads {a : PgA} {p : Prg} (w : World) (hP : PgW w a p) : Calls Tryd.prog 23 #[a.val] w fun e w' => e = .returned (.int .i64 p.thE) ∧ Below w.heap.size w w' := by
  obtain ⟨r, hr⟩ : ∃ r, p.thE = r := ⟨_, rfl⟩
  rw [hr]
  have HT := Lib.hid (fun X (hX : Below w.heap.size w X) k (hk : k < p.thr.length) => (hP.below hX).thr.one hk)
  have HL := Lib.hid hP.l5
  have HL4 := Lib.hid hP.l4
  have hm := hP.thr.max
  have hle := hP.thr.le
  have hm4 := hP.funcs.max
  have hle4 := hP.funcs.le
  rw [hP.l5] at hle
  rw [hP.l4] at hle4
  unfold maxLen at hm hm4
  have HR := Lib.hid hr
  obtain ⟨A1, n1, c1, A2, n2, c2, A3, n3, c3, A4, n4, c4, A5, n5, c5⟩ := a
  simp only [PgA.val, PgA.fs] at *
  have hb0 := belowAlloc w (.cells #[.slice A1 n1 c1, .slice A2 n2 c2, .slice A3 n3 c3, .slice A4 n4 c4, .slice A5 n5 c5] 27)
  clear hr hP
  by_cases h1 : n5 < 1
  · have HX := Lib.hid (show 4 = r by rw [← HR.out]; unfold Prg.thE; rw [if_pos (.inl (by rw [HL.out]; exact h1))])
    go_enter Tryd.func23, Tryd.ntmps23
    go_wp2
    all_goals first
      | (exfalso; omega)
      | (go_ret; exact ⟨retIO HX.out, hb0⟩)
  by_cases h2 : 8 < n5
  · have HX := Lib.hid (show 4 = r by rw [← HR.out]; unfold Prg.thE; rw [if_pos (.inr (by rw [HL.out]; exact h2))])
    go_enter Tryd.func23, Tryd.ntmps23
    go_wp2
    all_goals first
      | (exfalso; omega)
      | (go_ret; exact ⟨retIO HX.out, hb0⟩)
  have HR := Lib.hid (show p.thF (p.thr.drop 0) = r by rw [← HR.out]; unfold Prg.thE; rw [if_neg (by rw [HL.out]; show ¬ (n5 < 1 ∨ 8 < n5); omega), List.drop_zero])
  go_enter Tryd.func23, Tryd.ntmps23
  go_wp2
  all_goals (try (exfalso; omega))
  go_loopw [3] (fun i wr => ∃ k : Nat, k ≤ n5 ∧ i = .int .i64 k ∧ Below w.heap.size w wr ∧ Hid (p.thF (p.thr.drop k) = r) ∧ wr.cell? ⟨w.heap.size, 3, none⟩ = some (.slice A4 n4 c4) ∧ wr.cell? ⟨w.heap.size, 4, none⟩ = some (.slice A5 n5 c5)) (fun i _ => n5 - (intOf i).toNat)
  case atStart => exact ⟨0, Nat.zero_le _, rfl, hb0, HR, (Blk.new w _ _).cell 3, (Blk.new w _ _).cell 4⟩
  case round =>
    obtain ⟨k, hk, rfl, hb, HA, g3, g4⟩ := hrel
    by_cases hlt : k < n5
    · have hkl : k < p.thr.length := by rw [HL.out]; exact hlt
      obtain ⟨q, off, hA, _, h1, h2⟩ := HT.out wr hb k hkl
      have hA : A5 = _ := hA
      subst hA
      obtain ⟨s, hs⟩ : ∃ s, p.thr[k].1 = s := ⟨_, rfl⟩
      obtain ⟨z, hz⟩ : ∃ s, p.thr[k].2 = s := ⟨_, rfl⟩
      rw [hs] at h1
      rw [hz] at h2
      have HZ := Lib.hid hz
      have HS := Lib.hid hs
      have hk0 : (0 : Int) ≤ k := by omega
      have hk1 : (k : Int) < n5 := by omega
      have HV := Lib.hid (fun X => rValue z X)
      have HBB := Lib.hid (show ∀ b, (decide (0 ≤ s) && decide (s < (n4 : Int))) = b → belB p.thr[k].1 p.funcs.length = b from fun b e => by rw [HS.out, HL4.out]; exact e)
      have HN := Lib.hid (fun nq => belowDrewN hb nq)
      clear hs hz
      by_cases hs0 : s < 0
      · have d0 : decide (s < 0) = true := by simpa using hs0
        have HX := Lib.hid (Eq.trans (thFobj hkl (HBB.out false (by rw [decide_eq_false (by omega)]; rfl))).symm HA.out)
        clear hs0
        go_wp2_with fail
        go_quiet (fail)
        go_wp2
        go_ret
        exact ⟨retIO HX.out, HN.out _⟩
      have d0 : decide (s < 0) = false := by simpa using hs0
      by_cases hs1 : (n4 : Int) ≤ s
      · have d1 : decide ((n4 : Int) ≤ s) = true := by simpa using hs1
        have HX := Lib.hid (Eq.trans (thFobj hkl (HBB.out false (by rw [decide_eq_false (show ¬ s < (n4 : Int) by omega), Bool.and_false]))).symm HA.out)
        clear hs0 hs1
        go_wp2_with fail
        go_quiet (fail)
        go_wp2
        go_ret
        exact ⟨retIO HX.out, HN.out _⟩
      have d1 : decide ((n4 : Int) ≤ s) = false := by simpa using hs1
      have hbel := HBB.out true (by rw [decide_eq_true (show 0 ≤ s by omega), decide_eq_true (show s < (n4 : Int) by omega)]; rfl)
      clear hs0 hs1
      cases hv : isVal z
      · have HX := Lib.hid (Eq.trans (thFval hkl hbel (by rw [HZ.out]; exact hv)).symm HA.out)
        rw [hv] at HV
        clear hv hbel
        go_wp2_with fail
        go_quiet (fail)
        go_wp2_with (go_at_call 21; refine (HV.out _).mono ?_; rintro e w' ⟨rfl, rfl⟩)
        go_ret
        exact ⟨retIO HX.out, HN.out _⟩
      · have HX := Lib.hid ((thFgo hkl hbel (by rw [HZ.out]; exact hv)).symm.trans HA.out)
        rw [hv] at HV
        clear hv hbel
        go_wp2_with fail
        go_quiet (fail)
        go_wp2_with (go_at_call 21; refine (HV.out _).mono ?_; rintro e w' ⟨rfl, rfl⟩)
        go_roundw
        case rel => exact ⟨k + 1, by omega, by go_num, HN.out _, HX, g3, g4⟩
        case measure => simp [intOf]; omega
    · have HX := Lib.hid (Eq.trans (thFend (by rw [HL.out]; show n5 ≤ k; omega)).symm HA.out)
      go_wp2
      go_ret
      exact ⟨retIO HX.out, hb⟩
end Go.Proofs.YtebpnnakcodjdaaDoor

namespace Go.Proofs.YtebpnnakcodjdaaDoor
open Go Go.RowKit

def exB (n1 n2 n3 n4 : Nat) (i : I8) : Bool := if i.op = 18 ∧ belB i.n n2 = false then false else match objL n1 n2 n3 n4 i.op with | some c => belB i.obj c | none => true
set_option maxHeartbeats 4000000 in
theorem rExists (a : PgA) (i : I8) (w : World) (g1 : a.n1 ≤ maxLen) (g2 : a.n2 ≤ maxLen) (g3 : a.n3 ≤ maxLen) (g4 : a.n4 ≤ maxLen) : Calls Tryd.prog 41 #[a.val, i.val] w fun e w' => e = .returned (.bool (exB a.n1 a.n2 a.n3 a.n4 i)) ∧ Below w.heap.size w w' := by
  obtain ⟨A1, n1, c1, A2, n2, c2, A3, n3, c3, A4, n4, c4, A5, n5, c5⟩ := a
  obtain ⟨op, ra, rb, rc, obj, n, fn, ord⟩ := i
  simp only [PgA.val, PgA.fs, I8.val] at *
  unfold maxLen at g1 g2 g3 g4
  have hbw : Below w.heap.size w ((w.alloc (.cells #[.slice A1 n1 c1, .slice A2 n2 c2, .slice A3 n3 c3, .slice A4 n4 c4, .slice A5 n5 c5] 27)).alloc (.cells #[.int .i64 op, .int .i64 ra, .int .i64 rb, .int .i64 rc, .int .i64 obj, .int .i64 n, .int .i64 fn, .int .i64 ord] 47)) := (belowAlloc w _).alloc (by simp) _
  by_cases h8 : op = 8
  · subst h8
    have HL : Hid (exB n1 n2 n3 n4 ⟨8, ra, rb, rc, obj, n, fn, ord⟩ = (decide (0 ≤ obj) && decide (obj < (n1 : Int)))) := Lib.hid rfl
    go_enter Tryd.func41, Tryd.ntmps41
    go_wp2
    all_goals go_ret
    all_goals exact ⟨retBl (by rw [HL.out, Bool.eq_iff_iff]; (try simp); omega), hbw⟩
  by_cases h9 : op = 9
  · subst h9
    have HL : Hid (exB n1 n2 n3 n4 ⟨9, ra, rb, rc, obj, n, fn, ord⟩ = (decide (0 ≤ obj) && decide (obj < (n1 : Int)))) := Lib.hid rfl
    go_enter Tryd.func41, Tryd.ntmps41
    go_wp2
    all_goals go_ret
    all_goals exact ⟨retBl (by rw [HL.out, Bool.eq_iff_iff]; (try simp); omega), hbw⟩
  by_cases h10 : op = 10
  · subst h10
    have HL : Hid (exB n1 n2 n3 n4 ⟨10, ra, rb, rc, obj, n, fn, ord⟩ = (decide (0 ≤ obj) && decide (obj < (n1 : Int)))) := Lib.hid rfl
    go_enter Tryd.func41, Tryd.ntmps41
    go_wp2
    all_goals go_ret
    all_goals exact ⟨retBl (by rw [HL.out, Bool.eq_iff_iff]; (try simp); omega), hbw⟩
  by_cases h11 : op = 11
  · subst h11
    have HL : Hid (exB n1 n2 n3 n4 ⟨11, ra, rb, rc, obj, n, fn, ord⟩ = (decide (0 ≤ obj) && decide (obj < (n1 : Int)))) := Lib.hid rfl
    go_enter Tryd.func41, Tryd.ntmps41
    go_wp2
    all_goals go_ret
    all_goals exact ⟨retBl (by rw [HL.out, Bool.eq_iff_iff]; (try simp); omega), hbw⟩
  by_cases h12 : op = 12
  · subst h12
    have HL : Hid (exB n1 n2 n3 n4 ⟨12, ra, rb, rc, obj, n, fn, ord⟩ = (decide (0 ≤ obj) && decide (obj < (n1 : Int)))) := Lib.hid rfl
    go_enter Tryd.func41, Tryd.ntmps41
    go_wp2
    all_goals go_ret
    all_goals exact ⟨retBl (by rw [HL.out, Bool.eq_iff_iff]; (try simp); omega), hbw⟩
  by_cases h14 : op = 14
  · subst h14
    have HL : Hid (exB n1 n2 n3 n4 ⟨14, ra, rb, rc, obj, n, fn, ord⟩ = (decide (0 ≤ obj) && decide (obj < (n1 : Int)))) := Lib.hid rfl
    go_enter Tryd.func41, Tryd.ntmps41
    go_wp2
    all_goals go_ret
    all_goals exact ⟨retBl (by rw [HL.out, Bool.eq_iff_iff]; (try simp); omega), hbw⟩
  by_cases h15 : op = 15
  · subst h15
    have HL : Hid (exB n1 n2 n3 n4 ⟨15, ra, rb, rc, obj, n, fn, ord⟩ = (decide (0 ≤ obj) && decide (obj < (n2 : Int)))) := Lib.hid rfl
    go_enter Tryd.func41, Tryd.ntmps41
    go_wp2
    all_goals go_ret
    all_goals exact ⟨retBl (by rw [HL.out, Bool.eq_iff_iff]; (try simp); omega), hbw⟩
  by_cases h16 : op = 16
  · subst h16
    have HL : Hid (exB n1 n2 n3 n4 ⟨16, ra, rb, rc, obj, n, fn, ord⟩ = (decide (0 ≤ obj) && decide (obj < (n2 : Int)))) := Lib.hid rfl
    go_enter Tryd.func41, Tryd.ntmps41
    go_wp2
    all_goals go_ret
    all_goals exact ⟨retBl (by rw [HL.out, Bool.eq_iff_iff]; (try simp); omega), hbw⟩
  by_cases h17 : op = 17
  · subst h17
    have HL : Hid (exB n1 n2 n3 n4 ⟨17, ra, rb, rc, obj, n, fn, ord⟩ = (decide (0 ≤ obj) && decide (obj < (n2 : Int)))) := Lib.hid rfl
    go_enter Tryd.func41, Tryd.ntmps41
    go_wp2
    all_goals go_ret
    all_goals exact ⟨retBl (by rw [HL.out, Bool.eq_iff_iff]; (try simp); omega), hbw⟩
  by_cases h19 : op = 19
  · subst h19
    have HL : Hid (exB n1 n2 n3 n4 ⟨19, ra, rb, rc, obj, n, fn, ord⟩ = (decide (0 ≤ obj) && decide (obj < (n3 : Int)))) := Lib.hid rfl
    go_enter Tryd.func41, Tryd.ntmps41
    go_wp2
    all_goals go_ret
    all_goals exact ⟨retBl (by rw [HL.out, Bool.eq_iff_iff]; (try simp); omega), hbw⟩
  by_cases h20 : op = 20
  · subst h20
    have HL : Hid (exB n1 n2 n3 n4 ⟨20, ra, rb, rc, obj, n, fn, ord⟩ = (decide (0 ≤ obj) && decide (obj < (n3 : Int)))) := Lib.hid rfl
    go_enter Tryd.func41, Tryd.ntmps41
    go_wp2
    all_goals go_ret
    all_goals exact ⟨retBl (by rw [HL.out, Bool.eq_iff_iff]; (try simp); omega), hbw⟩
  by_cases h21 : op = 21
  · subst h21
    have HL : Hid (exB n1 n2 n3 n4 ⟨21, ra, rb, rc, obj, n, fn, ord⟩ = (decide (0 ≤ obj) && decide (obj < (n4 : Int)))) := Lib.hid rfl
    go_enter Tryd.func41, Tryd.ntmps41
    go_wp2
    all_goals go_ret
    all_goals exact ⟨retBl (by rw [HL.out, Bool.eq_iff_iff]; (try simp); omega), hbw⟩
  by_cases h18 : op = 18
  · subst h18
    have HL : Hid (exB n1 n2 n3 n4 ⟨18, ra, rb, rc, obj, n, fn, ord⟩ = ((decide (0 ≤ n) && decide (n < (n2 : Int))) && (decide (0 ≤ obj) && decide (obj < (n3 : Int))))) := Lib.hid (by unfold exB; cases h : belB n n2 <;> (unfold belB at h; rw [h]) <;> rfl)
    go_enter Tryd.func41, Tryd.ntmps41
    go_wp2
    all_goals go_ret
    all_goals exact ⟨retBl (by rw [HL.out, Bool.eq_iff_iff]; (try simp); omega), hbw⟩
  have HR : Hid (exB n1 n2 n3 n4 ⟨op, ra, rb, rc, obj, n, fn, ord⟩ = true) := Lib.hid (by unfold exB objL; simp [h8, h9, h10, h11, h12, h14, h15, h16, h17, h18, h19, h20, h21])
  have z8 : (op == 8) = false := by simpa using h8
  have z9 : (op == 9) = false := by simpa using h9
  have z10 : (op == 10) = false := by simpa using h10
  have z11 : (op == 11) = false := by simpa using h11
  have z12 : (op == 12) = false := by simpa using h12
  have z14 : (op == 14) = false := by simpa using h14
  have z15 : (op == 15) = false := by simpa using h15
  have z16 : (op == 16) = false := by simpa using h16
  have z17 : (op == 17) = false := by simpa using h17
  have z18 : (op == 18) = false := by simpa using h18
  have z19 : (op == 19) = false := by simpa using h19
  have z20 : (op == 20) = false := by simpa using h20
  have z21 : (op == 21) = false := by simpa using h21
  clear h8 h9 h10 h11 h12 h14 h15 h16 h17 h18 h19 h20 h21
  go_enter Tryd.func41, Tryd.ntmps41
  go_wp2
  go_ret
  exact ⟨retBl HR.out.symm, hbw⟩
end Go.Proofs.YtebpnnakcodjdaaDoor

namespace Go.Proofs.YtebpnnakcodjdaaDoor
open Go Go.RowKit

theorem cdHit {p : Prg} {len : Nat} {l : List I8} {k : Nat} (hk : k < l.length) (h : p.insE len l[k] ≠ 0) : p.cdF len (l.drop k) k = (p.insE len l[k], (k : Int)) := by
  rw [List.drop_eq_getElem_cons hk, Prg.cdF, if_pos h]
theorem cdMiss {p : Prg} {len : Nat} {l : List I8} {k : Nat} (hk : k < l.length) (h : p.insE len l[k] = 0) : p.cdF len (l.drop k) k = p.cdF len (l.drop (k + 1)) (k + 1) := by
  rw [List.drop_eq_getElem_cons hk, Prg.cdF, if_neg (by rw [h]; simp)]
theorem cdEnd {p : Prg} {len : Nat} {l : List I8} {k : Nat} (hk : l.length ≤ k) : p.cdF len (l.drop k) k = (0, -1) := by
  rw [List.drop_eq_nil_of_le hk, Prg.cdF]
theorem exNo {w : World} {a : PgA} {p : Prg} (hP : PgW w a p) {len : Nat} {i : I8} (h : i.chk = 0) (he : exB a.n1 a.n2 a.n3 a.n4 i = false) : p.insE len i = 11 := by
  unfold Prg.insE
  unfold exB at he
  rw [if_neg (by rw [h]; simp), objEq hP, hP.l2]
  generalize objL a.n1 a.n2 a.n3 a.n4 i.op = o at he ⊢
  by_cases h1 : i.op = 18 ∧ belB i.n a.n2 = false
  · cases o <;> simp [h1]
  · rw [if_neg h1] at he
    cases o with
    | none => simp at he
    | some c => simp only at he; simp [he]
theorem exYes {w : World} {a : PgA} {p : Prg} (hP : PgW w a p) {len : Nat} {i : I8} (h : i.chk = 0) (he : exB a.n1 a.n2 a.n3 a.n4 i = true) : p.insE len i = if (i.op = 4 ∨ i.op = 5) ∧ belB i.n (len + 1) = false then 12 else 0 := by
  unfold Prg.insE
  unfold exB at he
  rw [if_neg (by rw [h]; simp), objEq hP, hP.l2]
  generalize objL a.n1 a.n2 a.n3 a.n4 i.op = o at he ⊢
  by_cases h1 : i.op = 18 ∧ belB i.n a.n2 = false
  · rw [if_pos h1] at he
    cases he
  · rw [if_neg h1] at he
    cases o with
    | none => simp only [if_neg h1]; rfl
    | some c => simp only at he; simp only [he, if_neg h1]; rfl
theorem ret2I {x y : Int × Int} (h : x = y) : Ending.returned (.tuple #[.int .i64 x.1, .int .i64 x.2]) = .returned (.tuple #[.int .i64 y.1, .int .i64 y.2]) := by rw [h]
set_option maxRecDepth 100000 in
set_option maxHeartbeats 4000000 in
theorem rCode {a : PgA} {p : Prg} (w : World) (hP : PgW w a p) (nm : ByteArray) (l : List I8) (Ac : Option Addr) (nc cc : Nat) (hn : l.length = nc) (hr : RdE 8 EI w Ac cc l) :
    Calls Tryd.prog 22 #[a.val, .agg #[.string nm, .slice Ac nc cc]] w fun e w' => e = .returned (.tuple #[.int .i64 (p.cd1 l).1, .int .i64 (p.cd1 l).2]) ∧ Below w.heap.size w w' := by
  have g1 : a.n1 ≤ maxLen := by have h1 := hP.vars.le; have h2 := hP.vars.max; rw [hP.l1] at h1; omega
  have g2 : a.n2 ≤ maxLen := by have h1 := hP.muts.le; have h2 := hP.muts.max; rw [hP.l2] at h1; omega
  have g3 : a.n3 ≤ maxLen := by have h1 := hP.conds.le; have h2 := hP.conds.max; rw [hP.l3] at h1; omega
  have g4 : a.n4 ≤ maxLen := by have h1 := hP.funcs.le; have h2 := hP.funcs.max; rw [hP.l4] at h1; omega
  obtain ⟨r, hrr⟩ : ∃ r, p.cd1 l = r := ⟨_, rfl⟩
  rw [hrr]
  obtain ⟨W, hWE⟩ : ∃ W, (w.alloc (.cells a.fs 27)).alloc (.cells #[.string nm, .slice Ac nc cc] 42) = W := ⟨_, rfl⟩
  have hbW : Below w.heap.size w W := by rw [← hWE]; exact (belowAlloc w _).alloc (by simp) _
  have hB : PBox W w.heap.size a := by rw [← hWE]; exact (Blk.new w _ _).alloc _
  have hBF : Blk W (w.heap.size + 1) 42 #[.string nm, .slice Ac nc cc] := by rw [← hWE]; exact Blk.new1 w _ _ _
  have HK := Lib.hid (fun Y (hY : Below W.heap.size W Y) => (hB.below hY).facts)
  have HKF : Hid (∀ Y, Below W.heap.size W Y → Y.cell? ⟨w.heap.size + 1, 1, none⟩ = some (.slice Ac nc cc)) := Lib.hid (fun Y hY => (hBF.below' hY).cell 1)
  have HI := Lib.hid (fun Y (hY : Below W.heap.size W Y) k (hk : k < l.length) => ((hr.below stabI hbW).below stabI hY).one hk)
  have HEN := Lib.hid (fun len i h he => exNo hP (len := len) (i := i) h he)
  have HEY := Lib.hid (fun len i h he => exYes hP (len := len) (i := i) h he)
  have HEX := Lib.hid (fun i X => rExists a i X g1 g2 g3 g4)
  have hle := hr.le
  have hmx := hr.max
  rw [hn] at hle
  unfold maxLen at hmx
  have HN := Lib.hid hn
  have HW := Lib.hid hWE
  have HBW := Lib.hid hbW
  obtain ⟨A1, n1, c1, A2, n2, c2, A3, n3, c3, A4, n4, c4, A5, n5, c5⟩ := a
  simp only [PgA.val, PgA.fs] at *
  have hb0 := Below.refl W.heap.size W
  have f1 := HKF.out W hb0
  clear hP hB hbW hBF hWE hn hr g1 g2 g3 g4
  by_cases h64 : 64 < nc
  · have HX : Hid ((4, -1) = r) := Lib.hid (by rw [← hrr]; unfold Prg.cd1; rw [if_pos (by rw [HN.out]; exact h64)])
    clear hrr
    go_enter Tryd.func22, Tryd.ntmps22
    go_wp2
    go_ret2
    exact ⟨by rw [← HX.out]; rfl, by rw [HW.out]; exact HBW.out⟩
  have HR : Hid (p.cdF nc (l.drop 0) 0 = r) := Lib.hid (by rw [← hrr]; unfold Prg.cd1; rw [if_neg (by rw [HN.out]; exact h64), HN.out]; rfl)
  clear hrr
  go_enter Tryd.func22, Tryd.ntmps22
  go_wp2
  rw [HW.out]
  go_loopw [6] (fun i wr => ∃ k : Nat, k ≤ nc ∧ i = .int .i64 k ∧ Below W.heap.size W wr ∧ Hid (p.cdF nc (l.drop k) k = r)) (fun i _ => nc - (intOf i).toNat)
  case atStart => exact ⟨0, Nat.zero_le _, rfl, hb0, HR⟩
  case round =>
    obtain ⟨k, hk, rfl, hb, HE⟩ := hrel
    have f1 := HKF.out wr hb
    by_cases hlt : k < nc
    · have hkl : k < l.length := by rw [HN.out]; exact hlt
      obtain ⟨q, off, hA, _, i0, i1, i2, i3, i4, i5, i6, i7⟩ := HI.out wr hb k hkl
      have hA : Ac = _ := hA
      subst hA
      obtain ⟨ii, hii⟩ : ∃ x, l[k] = x := ⟨_, rfl⟩
      rw [hii] at i0 i1 i2 i3 i4 i5 i6 i7
      have HII := Lib.hid hii
      clear hii
      obtain ⟨op, ra, rb, rc, obj, n, fn, ord⟩ := ii
      simp only at i0 i1 i2 i3 i4 i5 i6 i7
      have hk0 : (0 : Int) ≤ k := by omega
      have hk1 : (k : Int) < nc := by omega
      have HB := Lib.hid hb
      have HCK := Lib.hid (fun e he X => rCheckA op ra rb rc obj n fn ord e he X)
      have HEXI := Lib.hid (HEX.out (I8.mk8 op ra rb rc obj n fn ord))
      simp only [I8.val] at HEXI
      obtain ⟨wb, hwb⟩ : ∃ x, wr.alloc (.cells #[.int .i64 op, .int .i64 ra, .int .i64 rb, .int .i64 rc, .int .i64 obj, .int .i64 n, .int .i64 fn, .int .i64 ord] 47) = x := ⟨_, rfl⟩
      have hbb : Below wr.heap.size wr wb := by rw [← hwb]; exact belowAlloc wr _
      have hbi : Blk wb wr.heap.size 47 #[.int .i64 op, .int .i64 ra, .int .i64 rb, .int .i64 rc, .int .i64 obj, .int .i64 n, .int .i64 fn, .int .i64 ord] := by rw [← hwb]; exact Blk.new wr _ _
      have HBB := Lib.hid (belowThen hb hbb)
      have HBI := Lib.hid (fun Y (hY : Below wb.heap.size wb Y) => boxFactsW (hbi.below' hY))
      have HWB := Lib.hid hwb
      clear hwb hbb hbi hb
      by_cases hck : (I8.mk8 op ra rb rc obj n fn ord).chk = 0
      rotate_left
      · obtain ⟨e, he⟩ : ∃ e, (I8.mk8 op ra rb rc obj n fn ord).chk = e := ⟨_, rfl⟩
        have HX : Hid ((e, (k : Int)) = r) := Lib.hid (by
          have h1 := insBad (p := p) (len := nc) hck
          have h2 := cdHit (p := p) (len := nc) hkl (by rw [HII.out, h1]; exact hck)
          rw [← HE.out, h2, HII.out, h1, he])
        have hne : (e != 0) = true := by rw [he] at hck; simpa using hck
        have HC := Lib.hid (HCK.out e he)
        clear hck he
        go_wp2_with fail
        rw [HWB.out]
        refine (HC.out wb).mono ?_
        rintro e1 w2 ⟨rfl, b2⟩
        go_wp2
        go_ret2
        exact ⟨ret2I HX.out, belowThen HBW.out (belowThen HBB.out b2)⟩
      have HC := Lib.hid (HCK.out 0 hck)
      cases hex : exB n1 n2 n3 n4 (I8.mk8 op ra rb rc obj n fn ord)
      · have HX : Hid ((11, (k : Int)) = r) := Lib.hid (by
          have h1 := HEN.out nc _ hck hex
          have h2 := cdHit (p := p) (len := nc) hkl (by rw [HII.out, h1]; decide)
          rw [← HE.out, h2, HII.out, h1])
        rw [hex] at HEXI
        clear hck hex
        go_wp2_with fail
        rw [HWB.out]
        refine (HC.out wb).mono ?_
        rintro e1 w2 ⟨rfl, b2⟩
        have B2 := belowThen HBB.out b2
        obtain ⟨j0, j1, j2, j3, j4, j5, j6, j7⟩ := HBI.out w2 b2
        obtain ⟨p0, p1, p2, p3, p4⟩ := HK.out w2 B2
        go_wp2_with fail
        refine (HEXI.out w2).mono ?_
        rintro e1 w3 ⟨rfl, b3⟩
        go_wp2
        go_ret2
        exact ⟨ret2I HX.out, belowThen HBW.out (belowThen B2 b3)⟩
      have hy := HEY.out nc _ hck hex
      rw [hex] at HEXI
      simp only at hy
      clear hck hex
      go_wp2_with fail
      rw [HWB.out]
      refine (HC.out wb).mono ?_
      rintro e1 w2 ⟨rfl, b2⟩
      have B2 := belowThen HBB.out b2
      obtain ⟨j0, j1, j2, j3, j4, j5, j6, j7⟩ := HBI.out w2 b2
      obtain ⟨p0, p1, p2, p3, p4⟩ := HK.out w2 B2
      go_wp2_with fail
      refine (HEXI.out w2).mono ?_
      rintro e1 w3 ⟨rfl, b3⟩
      have B3 := belowThen B2 b3
      have f2 := HKF.out w3 B3
      clear j0 j1 j2 j3 j4 j5 j6 j7 p0 p1 p2 p3 p4
      obtain ⟨j0, j1, j2, j3, j4, j5, j6, j7⟩ := HBI.out w3 (belowThen b2 b3)
      clear j1 j2 j3 j4 j6 j7
      have HY := Lib.hid hy
      have HB3 := Lib.hid B3
      have fin12 : ((op = 4 ∨ op = 5) ∧ (n < 0 ∨ (nc : Int) < n)) → ((12, (k : Int)) = r) := fun hc => by
        have h1 : p.insE nc (I8.mk8 op ra rb rc obj n fn ord) = 12 := by
          rw [HY.out, if_pos ⟨hc.1, by unfold belB; rcases hc.2 with h | h
                                       · rw [decide_eq_false (show ¬ 0 ≤ n by omega)]; rfl
                                       · rw [decide_eq_false (show ¬ n < ((nc + 1 : Nat) : Int) by omega), Bool.and_false]⟩]
        have h2 := cdHit (p := p) (len := nc) hkl (by rw [HII.out, h1]; decide)
        rw [← HE.out, h2, HII.out, h1]
      have fin0 : ¬ ((op = 4 ∨ op = 5) ∧ (n < 0 ∨ (nc : Int) < n)) → p.cdF nc (l.drop (k + 1)) (k + 1) = r := fun hc => by
        have h1 : p.insE nc (I8.mk8 op ra rb rc obj n fn ord) = 0 := by
          rw [HY.out, if_neg fun h => hc ⟨h.1, by
            have h2 := h.2
            unfold belB at h2
            rw [Bool.and_eq_false_iff, decide_eq_false_iff_not, decide_eq_false_iff_not] at h2
            omega⟩]
        rw [← HE.out, cdMiss (p := p) (len := nc) hkl (by rw [HII.out, h1])]
      have F12 := Lib.hid fin12
      have F0 := Lib.hid fin0
      clear hy B3 B2 fin12 fin0
      by_cases h4 : op = 4
      · subst h4
        by_cases hn0 : n < 0
        · have HX := Lib.hid (F12.out ⟨.inl rfl, .inl hn0⟩)
          go_wp2
          all_goals first
            | (exfalso; omega)
            | (go_ret2; exact ⟨ret2I HX.out, belowThen HBW.out HB3.out⟩)
        by_cases hn1 : (nc : Int) < n
        · have HX := Lib.hid (F12.out ⟨.inl rfl, .inr hn1⟩)
          go_wp2
          all_goals first
            | (exfalso; omega)
            | (go_ret2; exact ⟨ret2I HX.out, belowThen HBW.out HB3.out⟩)
        have HX := Lib.hid (F0.out (by omega))
        have hm : nc - (k + 1) < nc - k := by omega
        go_wp2
        all_goals first
          | (exfalso; omega)
          | exact ⟨⟨k + 1, by omega, by go_num, HB3.out, HX⟩, by simp [intOf]; omega⟩
      by_cases h5 : op = 5
      · subst h5
        by_cases hn0 : n < 0
        · have HX := Lib.hid (F12.out ⟨.inr rfl, .inl hn0⟩)
          go_wp2
          all_goals first
            | (exfalso; omega)
            | (go_ret2; exact ⟨ret2I HX.out, belowThen HBW.out HB3.out⟩)
        by_cases hn1 : (nc : Int) < n
        · have HX := Lib.hid (F12.out ⟨.inr rfl, .inr hn1⟩)
          go_wp2
          all_goals first
            | (exfalso; omega)
            | (go_ret2; exact ⟨ret2I HX.out, belowThen HBW.out HB3.out⟩)
        have HX := Lib.hid (F0.out (by omega))
        have hm : nc - (k + 1) < nc - k := by omega
        go_wp2
        all_goals first
          | (exfalso; omega)
          | exact ⟨⟨k + 1, by omega, by go_num, HB3.out, HX⟩, by simp [intOf]; omega⟩
      have z4 : (op == 4) = false := by simpa using h4
      have z5 : (op == 5) = false := by simpa using h5
      have HX := Lib.hid (F0.out (by omega))
      clear h4 h5
      go_wp2
      go_roundw
      case rel => exact ⟨k + 1, by omega, by go_num, HB3.out, HX⟩
      case measure => simp [intOf]; omega
    · have HX := Lib.hid ((cdEnd (p := p) (len := nc) (l := l) (k := k) (by rw [HN.out]; omega)).symm.trans HE.out)
      go_wp2
      go_ret2
      exact ⟨ret2I HX.out, belowThen HBW.out hb⟩
end Go.Proofs.YtebpnnakcodjdaaDoor
