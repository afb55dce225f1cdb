/-
  The specification's Size, and its comparison of two lists of names.
-/
import Derived.Test.YtnckpjcfgeajbaaGreatDoorPgY
import Derived.Test.YtnckpjcfgeajbaaGreatDoorPgX
import Derived.Test.YtnckpjcfgeajbaaGreatDoorMkMrg
import Derived.Test.YtnckpjcfgeajbaaGreatDoorPgZ
import Derived.Test.YtnckpjcfgeajbaaGreatDoorInsD
import Derived.Test.YtnckpjcfgeajbaaGreatDoorInsH
import Derived.Test.YtnckpjcfgeajbaaGreatDoorSl
import Derived.Test.YtnckpjcfgeajbaaGreatDoorProg
import Derived.Test.YtnckpjcfgeajbaaGreatDoorRows
import Derived.Deep.QuietTactic
import Derived.BigQuiet
import Derived.Outline
import Derived.LoopTactic
import Derived.Test.YtnckpjcfgeajbaaGreatDoorPkA
namespace Go.Proofs.YtnckpjcfgeajbaaGreatDoor
open Go Go.RowKit

/-- Are two lists of names equal? -/
def sameS (l m : List ByteArray) : Bool := decide (l = m)
theorem sameLen {l m : List ByteArray} (h : l.length ≠ m.length) : false = sameS l m := by
  unfold sameS
  rw [decide_eq_false fun e => h (by rw [e])]
theorem sameNo {l m : List ByteArray} {k : Nat} (h1 : k < l.length) (h2 : k < m.length) (h : sEq l[k] m[k] = false) : false = sameS l m := by
  unfold sameS
  rw [decide_eq_false fun e => ?_]
  subst e
  rw [sEqIff] at h
  simp at h
theorem sEqTo {x y : ByteArray} (h : sEq x y = true) : x = y := by
  rw [sEqIff] at h
  exact baExt (of_decide_eq_true h)
theorem sameYes {l m : List ByteArray} (hl : l.length = m.length) (h : ∀ k (h1 : k < l.length) (h2 : k < m.length), l[k] = m[k]) : true = sameS l m := by
  unfold sameS
  rw [decide_eq_true (List.ext_getElem hl fun k h1 h2 => h k h1 h2)]
set_option maxHeartbeats 2000000 in
theorem rSameS (l m : List ByteArray) (n k : Nat) (hn : l.length = n) (hm : m.length = k) (A B : Option Addr) (c d : Nat) (w : World) (ha : Rds w A c (sv l)) (hb : Rds w B d (sv m)) :
    Calls Tryz.prog 45 #[.slice A n c, .slice B k d] w fun e w' => e = .returned (.bool (sameS l m)) ∧ Below w.heap.size w w' := by
  obtain ⟨r, hr⟩ : ∃ r, sameS l m = r := ⟨_, rfl⟩
  rw [hr]
  have HR := Lib.hid hr
  have HA := Lib.hid (fun X (hX : Below w.heap.size w X) j (hj : j < l.length) => svOne (ha.below hX) hj)
  have HB := Lib.hid (fun X (hX : Below w.heap.size w X) j (hj : j < m.length) => svOne (hb.below hX) hj)
  have HN := Lib.hid hn
  have HM := Lib.hid hm
  have g1 := ha.le
  have g2 := ha.max
  have g3 := hb.le
  have g4 := hb.max
  simp only [sv, List.length_map] at g1 g3
  rw [hn] at g1
  rw [hm] at g3
  unfold maxLen at g2 g4
  clear hr ha hb hn hm
  by_cases hnk : n = k
  rotate_left
  · have HX := Lib.hid ((sameLen (l := l) (m := m) (by rw [HN.out, HM.out]; exact hnk)).trans HR.out)
    have hne : ((n : Int) != (k : Int)) = true := by simp; omega
    have hne2 : decide (n = k) = false := by simpa using hnk
    have hb0 := Below.refl w.heap.size w
    go_enter Tryz.func45, Tryz.ntmps45
    go_wp2
    all_goals first
      | (exfalso; omega)
      | (go_ret; exact ⟨retBl HX.out, hb0⟩)
  subst hnk
  go_enter Tryz.func45, Tryz.ntmps45
  go_wp2
  go_loopw [5] (fun i wr => ∃ j : Nat, j ≤ n ∧ i = .int .i64 j ∧ Below w.heap.size w wr ∧ Hid (∀ t (h1 : t < l.length) (h2 : t < m.length), t < j → l[t] = m[t])) (fun i _ => n - (intOf i).toNat)
  case atStart => exact ⟨0, Nat.zero_le _, rfl, Below.refl _ _, Lib.hid fun t _ _ h => by omega⟩
  case round =>
    obtain ⟨j, hj, rfl, hb, HE⟩ := hrel
    by_cases hlt : j < n
    · have h1 : j < l.length := by rw [HN.out]; exact hlt
      have h2 : j < m.length := by rw [HM.out]; exact hlt
      obtain ⟨ad, hA, _, hc⟩ := HA.out wr hb j h1
      obtain ⟨bd, hB, _, hd⟩ := HB.out wr hb j h2
      subst hA hB
      have hj0 : (0 : Int) ≤ j := by omega
      have hj1 : (j : Int) < n := by omega
      have HN2 := Lib.hid (fun nq => belowDrewN hb nq)
      cases he : sEq l[j] m[j]
      · have HX := Lib.hid ((sameNo h1 h2 he).trans HR.out)
        generalize l[j] = x at hc he
        generalize m[j] = y at hd he
        unfold sEq at he
        go_wp2_with fail
        go_quiet (fail)
        go_wp2
        go_ret
        exact ⟨retBl HX.out, HN2.out _⟩
      · have HX : Hid (∀ t (h1 : t < l.length) (h2 : t < m.length), t < j + 1 → l[t] = m[t]) := Lib.hid fun t t1 t2 hlt2 => by
          rcases Nat.lt_or_ge t j with h' | h'
          · exact HE.out t t1 t2 h'
          · have e : t = j := by omega
            subst e
            exact sEqTo he
        generalize l[j] = x at hc he
        generalize m[j] = y at hd he
        unfold sEq at he
        go_wp2_with fail
        go_quiet (fail)
        go_wp2
        go_roundw
        case rel => exact ⟨j + 1, by omega, by go_num, HN2.out _, HX⟩
        case measure => simp [intOf]; omega
    · have HX := Lib.hid ((sameYes (l := l) (m := m) (by rw [HN.out, HM.out]) fun t h1 h2 => HE.out t h1 h2 (by rw [HN.out] at h1; omega)).trans HR.out)
      go_wp2
      go_ret
      exact ⟨retBl HX.out, hb⟩
end Go.Proofs.YtnckpjcfgeajbaaGreatDoor
