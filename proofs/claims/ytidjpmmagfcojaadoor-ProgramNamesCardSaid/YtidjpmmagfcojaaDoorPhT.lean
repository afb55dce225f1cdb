/-
  The specification's Function, and its Spawns.
-/
import Derived.Test.YtidjpmmagfcojaaDoorPhG
namespace Go.Proofs.YtidjpmmagfcojaaDoor
open Go Go.RowKit

def Prg.few (p : Prg) : Bool := decide (p.vars.length ≤ 20) && decide (p.muts.length ≤ 20) && decide (p.conds.length ≤ 20) && decide (p.funcs.length ≤ 20) && decide (p.thr.length ≤ 20)
def Prg.short (p : Prg) : Bool := p.funcs.all fun f => decide (f.2.length ≤ 100)
def Prg.small (p : Prg) : Bool := p.few && p.short
theorem Prg.smallNo {p : Prg} (h : p.few = false) : false = p.small := by unfold Prg.small; rw [h]; rfl
theorem Prg.smallLong {p : Prg} (h : p.few = true) {k : Nat} (hk : k < p.funcs.length) (hl : 100 < p.funcs[k].2.length) : false = p.small := by
  unfold Prg.small Prg.short
  rw [h, Bool.true_and]
  refine (List.all_eq_false.2 ⟨p.funcs[k], List.getElem_mem hk, ?_⟩).symm
  simpa using hl
theorem Prg.smallYes {p : Prg} (h : p.few = true) (hl : ∀ k (hk : k < p.funcs.length), p.funcs[k].2.length ≤ 100) : true = p.small := by
  unfold Prg.small Prg.short
  rw [h, Bool.true_and]
  refine (List.all_eq_true.2 fun x hx => ?_).symm
  obtain ⟨k, hk, rfl⟩ := List.getElem_of_mem hx
  simpa using hl k hk
theorem shortNext {p : Prg} {k : Nat} (HA : ∀ j (hj : j < p.funcs.length), j < k → p.funcs[j].2.length ≤ 100) (hk : k < p.funcs.length) (h : p.funcs[k].2.length ≤ 100) : ∀ j (hj : j < p.funcs.length), j < k + 1 → p.funcs[j].2.length ≤ 100 := fun j hj hlt => by
  rcases Nat.lt_or_ge j k with h' | h'
  · exact HA j hj h'
  · have e : j = k := by omega
    subst e
    exact h
set_option maxHeartbeats 1000000 in
theorem rSmall {a : PgA} {p : Prg} (w : World) (hP : PgW w a p) : Calls Tryd.prog 10 #[a.val] w fun e w' => e = .returned (.bool p.small) ∧ Below w.heap.size w w' := by
  have HF := Lib.hid (fun X (hX : Below w.heap.size w X) k (hk : k < p.funcs.length) => (hP.below hX).funcs.one hk)
  have HL := Lib.hid hP.l4
  have HE : Hid (p.few = (decide (a.n1 ≤ 20) && decide (a.n2 ≤ 20) && decide (a.n3 ≤ 20) && decide (a.n4 ≤ 20) && decide (a.n5 ≤ 20))) := by unfold Prg.few; rw [hP.l1, hP.l2, hP.l3, hP.l4, hP.l5]; exact Lib.hid rfl
  have m1 := hP.vars.max
  have m2 := hP.muts.max
  have m3 := hP.conds.max
  have m4 := hP.funcs.max
  have m5 := hP.thr.max
  have e1 := hP.vars.le
  have e2 := hP.muts.le
  have e3 := hP.conds.le
  have e4 := hP.funcs.le
  have e5 := hP.thr.le
  rw [hP.l1] at e1
  rw [hP.l2] at e2
  rw [hP.l3] at e3
  rw [hP.l4] at e4
  rw [hP.l5] at e5
  unfold maxLen at m1 m2 m3 m4 m5
  obtain ⟨A1, n1, c1, A2, n2, c2, A3, n3, c3, A4, n4, c4, A5, n5, c5⟩ := a
  simp only [PgA.val, PgA.fs] at *
  have hb0 := belowAlloc w (.cells #[.slice A1 n1 c1, .slice A2 n2 c2, .slice A3 n3 c3, .slice A4 n4 c4, .slice A5 n5 c5] 27)
  obtain ⟨r, hr⟩ : ∃ r, p.small = r := ⟨_, rfl⟩
  rw [hr]
  clear hP
  by_cases h1 : 20 < n1
  · have HR := Lib.hid ((p.smallNo (by rw [HE.out, decide_eq_false (show ¬ n1 ≤ 20 by omega)]; rfl)).trans hr)
    clear HE hr
    go_enter Tryd.func10, Tryd.ntmps10
    go_wp2
    all_goals first
      | (exfalso; omega)
      | (go_ret; exact ⟨retBl HR.out, hb0⟩)
  by_cases h2 : 20 < n2
  · have HR := Lib.hid ((p.smallNo (by rw [HE.out, decide_eq_false (show ¬ n2 ≤ 20 by omega)]; simp)).trans hr)
    clear HE hr
    go_enter Tryd.func10, Tryd.ntmps10
    go_wp2
    all_goals first
      | (exfalso; omega)
      | (go_ret; exact ⟨retBl HR.out, hb0⟩)
  by_cases h3 : 20 < n3
  · have HR := Lib.hid ((p.smallNo (by rw [HE.out, decide_eq_false (show ¬ n3 ≤ 20 by omega)]; simp)).trans hr)
    clear HE hr
    go_enter Tryd.func10, Tryd.ntmps10
    go_wp2
    all_goals first
      | (exfalso; omega)
      | (go_ret; exact ⟨retBl HR.out, hb0⟩)
  by_cases h4 : 20 < n4
  · have HR := Lib.hid ((p.smallNo (by rw [HE.out, decide_eq_false (show ¬ n4 ≤ 20 by omega)]; simp)).trans hr)
    clear HE hr
    go_enter Tryd.func10, Tryd.ntmps10
    go_wp2
    all_goals first
      | (exfalso; omega)
      | (go_ret; exact ⟨retBl HR.out, hb0⟩)
  by_cases h5 : 20 < n5
  · have HR := Lib.hid ((p.smallNo (by rw [HE.out, decide_eq_false (show ¬ n5 ≤ 20 by omega)]; simp)).trans hr)
    clear HE hr
    go_enter Tryd.func10, Tryd.ntmps10
    go_wp2
    all_goals first
      | (exfalso; omega)
      | (go_ret; exact ⟨retBl HR.out, hb0⟩)
  have HFW := Lib.hid (show p.few = true by rw [HE.out]; simp; omega)
  have HR := Lib.hid hr
  clear HE hr
  go_enter Tryd.func10, Tryd.ntmps10
  go_wp2
  all_goals (try (exfalso; omega))
  go_loopw [3] (fun i wr => ∃ k : Nat, k ≤ n4 ∧ i = .int .i64 k ∧ Below w.heap.size w wr ∧ Hid (∀ j (hj : j < p.funcs.length), j < k → p.funcs[j].2.length ≤ 100) ∧ wr.cell? ⟨w.heap.size, 3, none⟩ = some (.slice A4 n4 c4)) (fun i _ => n4 - (intOf i).toNat)
  case atStart => exact ⟨0, Nat.zero_le _, rfl, hb0, Lib.hid fun j _ h => by omega, (Blk.new w _ _).cell 3⟩
  case round =>
    obtain ⟨k, hk, rfl, hb, HA, c3⟩ := hrel
    by_cases hlt : k < n4
    · have hkl : k < p.funcs.length := by rw [HL.out]; exact hlt
      obtain ⟨q, off, hA, _, h1, v, h2, Ac, nc, cc, rfl, hnc, hrd⟩ := HF.out wr hb k hkl
      have hA : A4 = _ := hA
      subst hA
      have hle := hrd.le
      have hmx := hrd.max
      rw [hnc] at hle
      unfold maxLen at hmx
      clear hrd h1
      have hk0 : (0 : Int) ≤ k := by omega
      have hk1 : (k : Int) < n4 := by omega
      by_cases h100 : 100 < nc
      · have HX := Lib.hid ((p.smallLong HFW.out hkl (by rw [hnc]; exact h100)).trans HR.out)
        clear hnc
        go_wp2
        go_ret
        exact ⟨retBl HX.out, hb⟩
      · have HX := Lib.hid (shortNext HA.out hkl (by rw [hnc]; omega))
        clear hnc
        go_wp2
        go_roundw
        case rel => exact ⟨k + 1, by omega, by go_num, hb, HX, c3⟩
        case measure => simp [intOf]; omega
    · have HX := Lib.hid ((p.smallYes HFW.out fun j hj => HA.out j hj (by rw [HL.out] at hj; have hj : j < n4 := hj; omega)).trans HR.out)
      go_wp2
      go_ret
      exact ⟨retBl HX.out, hb⟩
end Go.Proofs.YtidjpmmagfcojaaDoor

namespace Go.Proofs.YtidjpmmagfcojaaDoor
open Go Go.RowKit

def sEq (x s : ByteArray) : Bool := x.toList == s.toList
/-- The number of the first function with a name, from number k on. -/
def fndL (s : ByteArray) : List (ByteArray × List I8) → Nat → Option Nat
  | [], _ => none
  | f :: r, k => if sEq f.1 s = true then some k else fndL s r (k + 1)
def Prg.fnd (p : Prg) (s : ByteArray) : Option Nat := fndL s p.funcs 0
def fndI (o : Option Nat) : Int := match o with | none => -1 | some k => (k : Int)
def fndV (o : Option Nat) : Ending := match o with | none => .returned (.tuple #[.int .i64 0, .bool false]) | some k => .returned (.tuple #[.int .i64 (k : Int), .bool true])
theorem fndHit {s : ByteArray} {l : List (ByteArray × List I8)} {k : Nat} (hk : k < l.length) (h : sEq l[k].1 s = true) : fndL s (l.drop k) k = some k := by
  rw [List.drop_eq_getElem_cons hk, fndL, if_pos h]
theorem fndMiss {s : ByteArray} {l : List (ByteArray × List I8)} {k : Nat} (hk : k < l.length) (h : sEq l[k].1 s = false) : fndL s (l.drop k) k = fndL s (l.drop (k + 1)) (k + 1) := by
  rw [List.drop_eq_getElem_cons hk, fndL, h, if_neg (by decide)]
theorem fndEnd {s : ByteArray} {l : List (ByteArray × List I8)} {k : Nat} (hk : l.length ≤ k) : fndL s (l.drop k) k = none := by
  rw [List.drop_eq_nil_of_le hk, fndL]
theorem iFnEq (s x : ByteArray) (v : Value) (b : Nat) (w : World) (hq : w.cell? ⟨b, 0, none⟩ = some (.string s)) : Calls Tryd.prog 53 #[.agg #[.string x, v], .pointer (some ⟨b, 0, none⟩)] w fun e w' => e = .returned (.bool (sEq x s)) ∧ Below w.heap.size w w' := by
  have hb0 := belowAlloc w (.cells #[.string x, v] 37)
  have hlt := World.block_lt_of_cell? _ _ hq
  go_enter Tryd.func53, Tryd.ntmps53
  go_wp2
  go_ret
  exact ⟨rfl, hb0⟩
def GoodI (r : Option Nat) (w : World) (e : Ending) (w' : World) : Prop := e = .returned (.int .i64 (fndI r)) ∧ Below w.heap.size w w'
set_option maxHeartbeats 1000000 in
theorem iIdxF {a : PgA} {p : Prg} (s : ByteArray) (b : Nat) (w : World) (hP : PgW w a p) (hq : w.cell? ⟨b, 0, none⟩ = some (.string s)) :
    Calls Tryd.prog 52 #[.slice a.A4 a.n4 a.c4, .func (.func 53) #[] #[.pointer (some ⟨b, 0, none⟩)]] w (GoodI (p.fnd s) w) := by
  have HF := Lib.hid (fun X (hX : Below w.heap.size w X) k (hk : k < p.funcs.length) => (hP.below hX).funcs.one hk)
  have HC := Lib.hid (fun x v X (hX : Below w.heap.size w X) => iFnEq s x v b X ((hX.cell (World.block_lt_of_cell? _ _ hq)).trans hq))
  have HL := Lib.hid hP.l4
  have hle := hP.funcs.le
  have hm := hP.funcs.max
  rw [hP.l4] at hle
  unfold maxLen at hm
  obtain ⟨r, hr⟩ : ∃ r, p.fnd s = r := ⟨_, rfl⟩
  rw [hr]
  have HR : Hid (fndL s (p.funcs.drop 0) 0 = r) := Lib.hid hr
  generalize a.A4 = A4 at *
  generalize a.n4 = n4 at *
  generalize a.c4 = c4 at *
  have hb0 := Below.refl w.heap.size w
  clear hP hq hr
  go_enter Tryd.func52, Tryd.ntmps52
  go_wp2
  go_loopw [8] (fun i wr => ∃ k : Nat, k ≤ n4 ∧ i = .int .i64 k ∧ Below w.heap.size w wr ∧ Hid (fndL s (p.funcs.drop k) k = r)) (fun i _ => n4 - (intOf i).toNat)
  case atStart => exact ⟨0, Nat.zero_le _, rfl, hb0, HR⟩
  case round =>
    obtain ⟨k, hk, rfl, hb, HE⟩ := hrel
    by_cases hlt : k < n4
    · have hkl : k < p.funcs.length := by rw [HL.out]; exact hlt
      obtain ⟨q, off, hA, _, h1, v, h2, Ac, nc, cc, rfl, hnc, _⟩ := HF.out wr hb k hkl
      have hA : A4 = _ := hA
      subst hA
      clear hnc
      have hk0 : (0 : Int) ≤ k := by omega
      have hk1 : (k : Int) < n4 := by omega
      have HCK := Lib.hid (HC.out (p.funcs[k]).1 (.slice Ac nc cc) wr hb)
      cases he : sEq (p.funcs[k]).1 s
      · have HX := Lib.hid ((fndMiss hkl he).symm.trans HE.out)
        rw [he] at HCK
        generalize (p.funcs[k]).1 = x at h1 HCK
        clear he
        go_wp2_with (go_at_call 53; refine HCK.out.mono ?_; rintro e w' ⟨rfl, bk⟩)
        go_roundw
        case rel => exact ⟨k + 1, by omega, by go_num, belowThen hb bk, HX⟩
        case measure => simp [intOf]; omega
      · have HX := Lib.hid ((fndHit hkl he).symm.trans HE.out)
        rw [he] at HCK
        generalize (p.funcs[k]).1 = x at h1 HCK
        clear he
        go_wp2_with (go_at_call 53; refine HCK.out.mono ?_; rintro e w' ⟨rfl, bk⟩)
        go_ret
        exact ⟨by rw [← HX.out]; rfl, belowThen hb bk⟩
    · have HX := Lib.hid ((fndEnd (s := s) (l := p.funcs) (k := k) (by rw [HL.out]; omega)).symm.trans HE.out)
      go_wp2
      go_ret
      exact ⟨by rw [← HX.out]; rfl, hb⟩
def GoodF (r : Option Nat) (w : World) (e : Ending) (w' : World) : Prop := e = fndV r ∧ Below w.heap.size w w'
set_option maxHeartbeats 1000000 in
theorem iFunction {a : PgA} {p : Prg} (s : ByteArray) (w : World) (hP : PgW w a p) : Calls Tryd.prog 16 #[a.val, .string s] w (GoodF (p.fnd s) w) := by
  have HI := Lib.hid (fun b X (hX : Below w.heap.size w X) (hq : X.cell? ⟨b, 0, none⟩ = some (.string s)) => iIdxF s b X (hP.below hX) hq)
  generalize p.fnd s = r at HI ⊢
  obtain ⟨A1, n1, c1, A2, n2, c2, A3, n3, c3, A4, n4, c4, A5, n5, c5⟩ := a
  simp only [PgA.val, PgA.fs] at *
  clear hP
  have hb0 := belowAlloc w (.cells #[.slice A1 n1 c1, .slice A2 n2 c2, .slice A3 n3 c3, .slice A4 n4 c4, .slice A5 n5 c5] 27)
  have hBk := Blk.new w 27 #[.slice A1 n1 c1, .slice A2 n2 c2, .slice A3 n3 c3, .slice A4 n4 c4, .slice A5 n5 c5]
  obtain ⟨w1, hw1⟩ : ∃ w1, w.alloc (.cells #[.slice A1 n1 c1, .slice A2 n2 c2, .slice A3 n3 c3, .slice A4 n4 c4, .slice A5 n5 c5] 27) = w1 := ⟨_, rfl⟩
  rw [hw1] at hb0 hBk
  have hc3 : (w1.alloc (.cells #[.string s] 9)).cell? ⟨w.heap.size, 3, none⟩ = some (.slice A4 n4 c4) := (hBk.below' (belowAlloc w1 _)).cell 3
  have hb1 := belowThen hb0 (belowAlloc w1 (.cells #[.string s] 9))
  have hc1 : (w1.alloc (.cells #[.string s] 9)).cell? ⟨w1.heap.size, 0, none⟩ = some (.string s) := (Blk.new w1 9 #[.string s]).cell 0
  have HI1 := Lib.hid (HI.out w1.heap.size (w1.alloc (.cells #[.string s] 9)) hb1 hc1)
  have HB1 := Lib.hid hb1
  cases r with
  | none =>
    go_enter Tryd.func16, Tryd.ntmps16
    (try rw [hw1])
    go_wp2_with (go_at_call 52; refine HI1.out.mono ?_; rintro e w' ⟨rfl, bk⟩)
    go_ret2
    exact ⟨rfl, belowThen HB1.out bk⟩
  | some k =>
    go_enter Tryd.func16, Tryd.ntmps16
    (try rw [hw1])
    go_wp2_with (go_at_call 52; refine HI1.out.mono ?_; rintro e w' ⟨rfl, bk⟩)
    go_ret2
    exact ⟨rfl, belowThen HB1.out bk⟩
end Go.Proofs.YtidjpmmagfcojaaDoor

namespace Go.Proofs.YtidjpmmagfcojaaDoor
open Go Go.RowKit

set_option maxHeartbeats 1000000 in
theorem rFunction {a : PgA} {p : Prg} (s : ByteArray) (w : World) (hP : PgW w a p) : Calls Tryd.prog 17 #[a.val, .string s] w (GoodF (p.fnd s) w) := by
  have HF := Lib.hid (fun X (hX : Below w.heap.size w X) k (hk : k < p.funcs.length) => (hP.below hX).funcs.one hk)
  have HL := Lib.hid hP.l4
  have hle := hP.funcs.le
  have hm := hP.funcs.max
  rw [hP.l4] at hle
  unfold maxLen at hm
  obtain ⟨r, hr⟩ : ∃ r, p.fnd s = r := ⟨_, rfl⟩
  rw [hr]
  have HR : Hid (fndL s (p.funcs.drop 0) 0 = r) := Lib.hid hr
  obtain ⟨A1, n1, c1, A2, n2, c2, A3, n3, c3, A4, n4, c4, A5, n5, c5⟩ := a
  simp only [PgA.val, PgA.fs] at *
  have hb0 := belowAlloc w (.cells #[.slice A1 n1 c1, .slice A2 n2 c2, .slice A3 n3 c3, .slice A4 n4 c4, .slice A5 n5 c5] 27)
  clear hP hr
  go_enter Tryd.func17, Tryd.ntmps17
  go_wp2
  go_loopw [6] (fun i wr => ∃ k : Nat, k ≤ n4 ∧ i = .int .i64 k ∧ Below w.heap.size w wr ∧ Hid (fndL s (p.funcs.drop k) k = r) ∧ wr.cell? ⟨w.heap.size, 3, none⟩ = some (.slice A4 n4 c4)) (fun i _ => n4 - (intOf i).toNat)
  case atStart => exact ⟨0, Nat.zero_le _, rfl, hb0, HR, (Blk.new w _ _).cell 3⟩
  case round =>
    obtain ⟨k, hk, rfl, hb, HE, c3⟩ := hrel
    by_cases hlt : k < n4
    · have hkl : k < p.funcs.length := by rw [HL.out]; exact hlt
      obtain ⟨q, off, hA, _, h1, v, h2, Ac, nc, cc, rfl, hnc, _⟩ := HF.out wr hb k hkl
      have hA : A4 = _ := hA
      subst hA
      clear hnc
      have hk0 : (0 : Int) ≤ k := by omega
      have hk1 : (k : Int) < n4 := by omega
      cases he : sEq (p.funcs[k]).1 s
      · have HX := Lib.hid ((fndMiss hkl he).symm.trans HE.out)
        generalize (p.funcs[k]).1 = x at h1 he
        unfold sEq at he
        go_wp2
        go_roundw
        case rel => exact ⟨k + 1, by omega, by go_num, hb, HX, c3⟩
        case measure => simp [intOf]; omega
      · have HX := Lib.hid ((fndHit hkl he).symm.trans HE.out)
        generalize (p.funcs[k]).1 = x at h1 he
        unfold sEq at he
        go_wp2
        go_ret2
        exact ⟨by rw [← HX.out]; rfl, hb⟩
    · have HX := Lib.hid ((fndEnd (s := s) (l := p.funcs) (k := k) (by rw [HL.out]; omega)).symm.trans HE.out)
      go_wp2
      go_ret2
      exact ⟨by rw [← HX.out]; rfl, hb⟩
end Go.Proofs.YtidjpmmagfcojaaDoor
