/-
  The specification's lists: the names of the variables and of the functions.
-/
import Derived.Test.YtnckpjcfgeajbaaDoorPgY
import Derived.Test.YtnckpjcfgeajbaaDoorPgX
import Derived.Test.YtnckpjcfgeajbaaDoorSetMath
import Derived.Test.YtnckpjcfgeajbaaDoorSl
import Derived.Test.YtnckpjcfgeajbaaDoorProg
import Derived.KernelRfl
import Derived.OwnWalk
import Derived.Test.YtnckpjcfgeajbaaDoorChg
import Derived.Test.YtnckpjcfgeajbaaDoorPgZ
import Derived.Test.YtnckpjcfgeajbaaDoorInsU
import Derived.Test.YtnckpjcfgeajbaaDoorInsC
import Derived.IntWalk
import Derived.BigGuard
import Derived.BigGuardPart
import Derived.Test.YtnckpjcfgeajbaaDoorRows
import Derived.Deep.QuietTactic
import Derived.BigQuiet
import Derived.Outline
import Derived.LoopTactic
import Derived.Test.YtnckpjcfgeajbaaDoorInsH
import Derived.WalkSpells
import Derived.Laws.Strings
namespace Go.Proofs.YtnckpjcfgeajbaaDoor
open Go Go.RowKit

def Prg.few (p : Prg) : Bool := decide (p.vars.length ≤ 20) && decide (p.muts.length ≤ 20) && decide (p.conds.length ≤ 20) && decide (p.funcs.length ≤ 20) && decide (p.thr.length ≤ 20)
def Prg.short (p : Prg) : Bool := p.funcs.all fun f => decide (f.2.length ≤ 100)
def Prg.small (p : Prg) : Bool := p.few && p.short
theorem Prg.smallNo {p : Prg} (h : p.few = false) : false = p.small := by unfold Prg.small; rw [h]; rfl
theorem Prg.smallLong {p : Prg} (h : p.few = true) {k : Nat} (hk : k < p.funcs.length) (hl : 100 < p.funcs[k].2.length) : false = p.small := by
  unfold Prg.small Prg.short
  rw [h, Bool.true_and]
  refine (List.all_eq_false.2 ⟨p.funcs[k], List.getElem_mem hk, ?_⟩).symm
  simpa using hl
theorem Prg.smallYes {p : Prg} (h : p.few = true) (hl : ∀ k (hk : k < p.funcs.length), p.funcs[k].2.length ≤ 100) : true = p.small := by
  unfold Prg.small Prg.short
  rw [h, Bool.true_and]
  refine (List.all_eq_true.2 fun x hx => ?_).symm
  obtain ⟨k, hk, rfl⟩ := List.getElem_of_mem hx
  simpa using hl k hk
theorem shortNext {p : Prg} {k : Nat} (HA : ∀ j (hj : j < p.funcs.length), j < k → p.funcs[j].2.length ≤ 100) (hk : k < p.funcs.length) (h : p.funcs[k].2.length ≤ 100) : ∀ j (hj : j < p.funcs.length), j < k + 1 → p.funcs[j].2.length ≤ 100 := fun j hj hlt => by
  rcases Nat.lt_or_ge j k with h' | h'
  · exact HA j hj h'
  · have e : j = k := by omega
    subst e
    exact h
set_option maxHeartbeats 1000000 in
theorem rSmall {a : PgA} {p : Prg} (w : World) (hP : PgW w a p) : Calls Tryd.prog 5 #[a.val] w fun e w' => e = .returned (.bool p.small) ∧ Below w.heap.size w w' := by
  have HF := Lib.hid (fun X (hX : Below w.heap.size w X) k (hk : k < p.funcs.length) => (hP.below hX).funcs.one hk)
  have HL := Lib.hid hP.l4
  have HE : Hid (p.few = (decide (a.n1 ≤ 20) && decide (a.n2 ≤ 20) && decide (a.n3 ≤ 20) && decide (a.n4 ≤ 20) && decide (a.n5 ≤ 20))) := by unfold Prg.few; rw [hP.l1, hP.l2, hP.l3, hP.l4, hP.l5]; exact Lib.hid rfl
  have m1 := hP.vars.max
  have m2 := hP.muts.max
  have m3 := hP.conds.max
  have m4 := hP.funcs.max
  have m5 := hP.thr.max
  have e1 := hP.vars.le
  have e2 := hP.muts.le
  have e3 := hP.conds.le
  have e4 := hP.funcs.le
  have e5 := hP.thr.le
  rw [hP.l1] at e1
  rw [hP.l2] at e2
  rw [hP.l3] at e3
  rw [hP.l4] at e4
  rw [hP.l5] at e5
  unfold maxLen at m1 m2 m3 m4 m5
  obtain ⟨A1, n1, c1, A2, n2, c2, A3, n3, c3, A4, n4, c4, A5, n5, c5⟩ := a
  simp only [PgA.val, PgA.fs] at *
  have hb0 := belowAlloc w (.cells #[.slice A1 n1 c1, .slice A2 n2 c2, .slice A3 n3 c3, .slice A4 n4 c4, .slice A5 n5 c5] 27)
  obtain ⟨r, hr⟩ : ∃ r, p.small = r := ⟨_, rfl⟩
  rw [hr]
  clear hP
  by_cases h1 : 20 < n1
  · have HR := Lib.hid ((p.smallNo (by rw [HE.out, decide_eq_false (show ¬ n1 ≤ 20 by omega)]; rfl)).trans hr)
    clear HE hr
    go_enter Tryd.func5, Tryd.ntmps5
    go_wp2
    all_goals first
      | (exfalso; omega)
      | (go_ret; exact ⟨retBl HR.out, hb0⟩)
  by_cases h2 : 20 < n2
  · have HR := Lib.hid ((p.smallNo (by rw [HE.out, decide_eq_false (show ¬ n2 ≤ 20 by omega)]; simp)).trans hr)
    clear HE hr
    go_enter Tryd.func5, Tryd.ntmps5
    go_wp2
    all_goals first
      | (exfalso; omega)
      | (go_ret; exact ⟨retBl HR.out, hb0⟩)
  by_cases h3 : 20 < n3
  · have HR := Lib.hid ((p.smallNo (by rw [HE.out, decide_eq_false (show ¬ n3 ≤ 20 by omega)]; simp)).trans hr)
    clear HE hr
    go_enter Tryd.func5, Tryd.ntmps5
    go_wp2
    all_goals first
      | (exfalso; omega)
      | (go_ret; exact ⟨retBl HR.out, hb0⟩)
  by_cases h4 : 20 < n4
  · have HR := Lib.hid ((p.smallNo (by rw [HE.out, decide_eq_false (show ¬ n4 ≤ 20 by omega)]; simp)).trans hr)
    clear HE hr
    go_enter Tryd.func5, Tryd.ntmps5
    go_wp2
    all_goals first
      | (exfalso; omega)
      | (go_ret; exact ⟨retBl HR.out, hb0⟩)
  by_cases h5 : 20 < n5
  · have HR := Lib.hid ((p.smallNo (by rw [HE.out, decide_eq_false (show ¬ n5 ≤ 20 by omega)]; simp)).trans hr)
    clear HE hr
    go_enter Tryd.func5, Tryd.ntmps5
    go_wp2
    all_goals first
      | (exfalso; omega)
      | (go_ret; exact ⟨retBl HR.out, hb0⟩)
  have HFW := Lib.hid (show p.few = true by rw [HE.out]; simp; omega)
  have HR := Lib.hid hr
  clear HE hr
  go_enter Tryd.func5, Tryd.ntmps5
  go_wp2
  all_goals (try (exfalso; omega))
  go_loopw [3] (fun i wr => ∃ k : Nat, k ≤ n4 ∧ i = .int .i64 k ∧ Below w.heap.size w wr ∧ Hid (∀ j (hj : j < p.funcs.length), j < k → p.funcs[j].2.length ≤ 100) ∧ wr.cell? ⟨w.heap.size, 3, none⟩ = some (.slice A4 n4 c4)) (fun i _ => n4 - (intOf i).toNat)
  case atStart => exact ⟨0, Nat.zero_le _, rfl, hb0, Lib.hid fun j _ h => by omega, (Blk.new w _ _).cell 3⟩
  case round =>
    obtain ⟨k, hk, rfl, hb, HA, c3⟩ := hrel
    by_cases hlt : k < n4
    · have hkl : k < p.funcs.length := by rw [HL.out]; exact hlt
      obtain ⟨q, off, hA, _, h1, v, h2, Ac, nc, cc, rfl, hnc, hrd⟩ := HF.out wr hb k hkl
      have hA : A4 = _ := hA
      subst hA
      have hle := hrd.le
      have hmx := hrd.max
      rw [hnc] at hle
      unfold maxLen at hmx
      clear hrd h1
      have hk0 : (0 : Int) ≤ k := by omega
      have hk1 : (k : Int) < n4 := by omega
      by_cases h100 : 100 < nc
      · have HX := Lib.hid ((p.smallLong HFW.out hkl (by rw [hnc]; exact h100)).trans HR.out)
        clear hnc
        go_wp2
        go_ret
        exact ⟨retBl HX.out, hb⟩
      · have HX := Lib.hid (shortNext HA.out hkl (by rw [hnc]; omega))
        clear hnc
        go_wp2
        go_roundw
        case rel => exact ⟨k + 1, by omega, by go_num, hb, HX, c3⟩
        case measure => simp [intOf]; omega
    · have HX := Lib.hid ((p.smallYes HFW.out fun j hj => HA.out j hj (by rw [HL.out] at hj; have hj : j < n4 := hj; omega)).trans HR.out)
      go_wp2
      go_ret
      exact ⟨retBl HX.out, hb⟩
end Go.Proofs.YtnckpjcfgeajbaaDoor

namespace Go.Proofs.YtnckpjcfgeajbaaDoor
open Go Go.RowKit

end Go.Proofs.YtnckpjcfgeajbaaDoor

namespace Go.Proofs.YtnckpjcfgeajbaaDoor
open Go Go.RowKit

def sEq (x s : ByteArray) : Bool := x.toList == s.toList
end Go.Proofs.YtnckpjcfgeajbaaDoor

namespace Go.Proofs.YtnckpjcfgeajbaaDoor
open Go Go.RowKit

def sv (l : List ByteArray) : List Value := l.map .string
theorem sEqIff (x s : ByteArray) : sEq x s = decide (x.data.toList = s.data.toList) := by
  unfold sEq
  rw [ByteArray.toList_eq, ByteArray.toList_eq, Bool.eq_iff_iff]
  simp
theorem svOne {w : World} {A : Option Addr} {c : Nat} {l : List ByteArray} (h : Rds w A c (sv l)) {k : Nat} (hk : k < l.length) : ∃ ad, A = some ad ∧ ad.block < w.heap.size ∧ w.cell? (ad.add k) = some (.string l[k]) := by
  obtain ⟨ad, e, h1, h2⟩ := Rds.one h (k := k) (by simpa [sv] using hk)
  exact ⟨ad, e, h1, by simpa [sv] using h2⟩
end Go.Proofs.YtnckpjcfgeajbaaDoor

namespace Go.Proofs.YtnckpjcfgeajbaaDoor
open Go Go.RowKit

theorem svLen (l : List ByteArray) : (sv l).length = l.length := by simp [sv]
end Go.Proofs.YtnckpjcfgeajbaaDoor
