/-
  The contract of the reference's comparison of two slices of integers: it tells whether they hold the same elements.
-/
import Derived.Test.YtidjpmmagfcojaaDoorSl
import Derived.Test.YtidjpmmagfcojaaDoorProg
import Derived.Test.YtidjpmmagfcojaaDoorRows
import Derived.Deep.QuietTactic
import Derived.BigQuiet
import Derived.Outline
import Derived.LoopTactic
namespace Go.Proofs.YtidjpmmagfcojaaDoor
open Go.RowKit

/-- Are the two lists equal? -/
def eqB (l m : List Int) : Bool := decide (l = m)
theorem eqB_yes {l m : List Int} (h : l = m) : eqB l m = true := by simp [eqB, h]
theorem eqB_len {l m : List Int} (h : l.length ≠ m.length) : eqB l m = false := by
  simp only [eqB, decide_eq_false_iff_not]
  intro e; rw [e] at h; exact h rfl
theorem eqB_at {l m : List Int} {k : Nat} (h1 : k < l.length) (h2 : k < m.length) (h : l[k] ≠ m[k]) : eqB l m = false := by
  simp only [eqB, decide_eq_false_iff_not]
  intro e; subst e; exact h rfl
theorem eqB_all {l m : List Int} {k : Nat} (hl : l.length = m.length) (hk : k = l.length) (h : l.take k = m.take k) : eqB l m = true := by
  subst hk
  rw [List.take_of_length_le (Nat.le_refl _), List.take_of_length_le (by omega)] at h
  exact eqB_yes h
theorem takeEqSucc {l m : List Int} {k : Nat} (h1 : k < l.length) (h2 : k < m.length) (h : l.take k = m.take k) (e : l[k] = m[k]) : l.take (k + 1) = m.take (k + 1) := by
  rw [List.take_succ_eq_append_getElem h1, List.take_succ_eq_append_getElem h2, h, e]

set_option maxHeartbeats 400000 in
theorem rInts (l m : List Int) (r : Bool) (hr : eqB l m = r) (A B : Option Addr) (c d : Nat) (w : World) (ha : Rd w A c l) (hb : Rd w B d m) :
    Calls Tryd.prog 39 #[.slice A l.length c, .slice B m.length d] w fun e w' => e = .returned (.bool r) ∧ ∃ n, w' = w.drewN n := by
  have hla := ha.le
  have hlb := hb.le
  have hca := ha.max
  have hcb := hb.max
  unfold maxLen at hca hcb
  have HA := Lib.hid ha; clear ha
  have HB := Lib.hid hb; clear hb
  have HR := Lib.hid hr; clear hr
  by_cases hl : l.length = m.length
  · go_enter Tryd.func39, Tryd.ntmps39
    have hlt : ((l.length : Int) != (m.length : Int)) = false := by simp [hl]
    have HL := Lib.hid hl; clear hl
    go_wp2
    go_loopw [5] (fun i wr => ∃ k : Nat, k ≤ l.length ∧ i = .int .i64 k ∧ Hid (l.take k = m.take k) ∧ ∃ n, wr = w.drewN n) (fun i _ => l.length - (intOf i).toNat)
    case atStart => exact ⟨0, Nat.zero_le _, rfl, Lib.hid rfl, 0, rfl⟩
    case round =>
      obtain ⟨k, hk, rfl, HT, n, rfl⟩ := hrel
      by_cases hlt : k < l.length
      · have hlm : k < m.length := by have := HL.out; omega
        obtain ⟨ad, rfl, _, hc⟩ := HA.out.one hlt
        obtain ⟨bd, rfl, _, hd⟩ := HB.out.one hlm
        by_cases hxy : l[k] = m[k]
        · have HX := Lib.hid (takeEqSucc hlt hlm HT.out hxy)
          rw [hxy] at hc
          generalize m[k] = y at hc hd
          clear hxy
          have hyy : (y != y) = false := by simp
          go_wp2
          go_quiet (fail)
          all_goals go_wp2
          all_goals go_roundw
          case rel => exact ⟨k + 1, by omega, by go_num, HX, _, rfl⟩
          case measure => simp [intOf]; omega
        · have HX := Lib.hid (HR.out.symm.trans (eqB_at hlt hlm hxy))
          generalize l[k] = x at *
          generalize m[k] = y at *
          have hyy : (x != y) = true := by simpa using hxy
          go_wp2
          go_quiet (fail)
          go_wp2
          go_ret
          exact ⟨retB HX.out.symm, _, World.drewN_drewN _ _ _⟩
      · have HX := Lib.hid (HR.out.symm.trans (eqB_all HL.out (by omega) HT.out))
        go_wp2
        go_ret
        exact ⟨retB HX.out.symm, _, rfl⟩
  · have HX := Lib.hid (HR.out.symm.trans (eqB_len hl))
    have hne : ((l.length : Int) != (m.length : Int)) = true := by simp; omega
    go_enter Tryd.func39, Tryd.ntmps39
    go_wp2
    go_ret
    exact ⟨retB HX.out.symm, 0, rfl⟩
end Go.Proofs.YtidjpmmagfcojaaDoor
