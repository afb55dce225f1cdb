/-
  The contract of the reference's comparison of two slices of integers: it tells whether they hold the same elements.
-/
import Derived.Test.YtjioiaeiggjneaaDoorKChg
import Derived.Test.YtjioiaeiggjneaaDoorProg
import Derived.Test.YtjioiaeiggjneaaDoorRows
import Derived.Deep.QuietTactic
import Derived.BigQuiet
import Derived.Outline
import Derived.LoopTactic
import Derived.Test.YtjioiaeiggjneaaDoorKLists
namespace Go.Proofs.YtjioiaeiggjneaaDoor
open Go.RowKit

/-- Are the two lists equal? -/
def eqB (l m : List Int) : Bool := decide (l = m)
theorem eqB_yes {l m : List Int} (h : l = m) : eqB l m = true := by simp [eqB, h]
theorem eqB_len {l m : List Int} (h : l.length ≠ m.length) : eqB l m = false := by
  simp only [eqB, decide_eq_false_iff_not]
  intro e; rw [e] at h; exact h rfl
theorem eqB_at {l m : List Int} {k : Nat} (h1 : k < l.length) (h2 : k < m.length) (h : l[k] ≠ m[k]) : eqB l m = false := by
  simp only [eqB, decide_eq_false_iff_not]
  intro e; subst e; exact h rfl
theorem eqB_all {l m : List Int} {k : Nat} (hl : l.length = m.length) (hk : k = l.length) (h : l.take k = m.take k) : eqB l m = true := by
  subst hk
  rw [List.take_of_length_le (Nat.le_refl _), List.take_of_length_le (by omega)] at h
  exact eqB_yes h
theorem takeEqSucc {l m : List Int} {k : Nat} (h1 : k < l.length) (h2 : k < m.length) (h : l.take k = m.take k) (e : l[k] = m[k]) : l.take (k + 1) = m.take (k + 1) := by
  rw [List.take_succ_eq_append_getElem h1, List.take_succ_eq_append_getElem h2, h, e]

set_option maxHeartbeats 400000 in
theorem rInts (l m : List Int) (r : Bool) (hr : eqB l m = r) (A B : Option Addr) (c d : Nat) (w : World) (ha : Rd w A c l) (hb : Rd w B d m) :
    Calls Tryd.prog 10 #[.slice A l.length c, .slice B m.length d] w fun e w' => e = .returned (.bool r) ∧ ∃ n, w' = w.drewN n := by
  have hla := ha.le
  have hlb := hb.le
  have hca := ha.max
  have hcb := hb.max
  unfold maxLen at hca hcb
  have HA := Lib.hid ha; clear ha
  have HB := Lib.hid hb; clear hb
  have HR := Lib.hid hr; clear hr
  by_cases hl : l.length = m.length
  · go_enter Tryd.func10, Tryd.ntmps10
    have hlt : ((l.length : Int) != (m.length : Int)) = false := by simp [hl]
    have HL := Lib.hid hl; clear hl
    go_wp2
    go_loopw [5] (fun i wr => ∃ k : Nat, k ≤ l.length ∧ i = .int .i64 k ∧ Hid (l.take k = m.take k) ∧ ∃ n, wr = w.drewN n) (fun i _ => l.length - (intOf i).toNat)
    case atStart => exact ⟨0, Nat.zero_le _, rfl, Lib.hid rfl, 0, rfl⟩
    case round =>
      obtain ⟨k, hk, rfl, HT, n, rfl⟩ := hrel
      by_cases hlt : k < l.length
      · have hlm : k < m.length := by have := HL.out; omega
        obtain ⟨ad, rfl, _, hc⟩ := HA.out.one hlt
        obtain ⟨bd, rfl, _, hd⟩ := HB.out.one hlm
        by_cases hxy : l[k] = m[k]
        · have HX := Lib.hid (takeEqSucc hlt hlm HT.out hxy)
          rw [hxy] at hc
          generalize m[k] = y at hc hd
          clear hxy
          have hyy : (y != y) = false := by simp
          go_wp2
          go_quiet (fail)
          all_goals go_wp2
          all_goals go_roundw
          case rel => exact ⟨k + 1, by omega, by go_num, HX, _, rfl⟩
          case measure => simp [intOf]; omega
        · have HX := Lib.hid (HR.out.symm.trans (eqB_at hlt hlm hxy))
          generalize l[k] = x at *
          generalize m[k] = y at *
          have hyy : (x != y) = true := by simpa using hxy
          go_wp2
          go_quiet (fail)
          go_wp2
          go_ret
          exact ⟨retB HX.out.symm, _, World.drewN_drewN _ _ _⟩
      · have HX := Lib.hid (HR.out.symm.trans (eqB_all HL.out (by omega) HT.out))
        go_wp2
        go_ret
        exact ⟨retB HX.out.symm, _, rfl⟩
  · have HX := Lib.hid (HR.out.symm.trans (eqB_len hl))
    have hne : ((l.length : Int) != (m.length : Int)) = true := by simp; omega
    go_enter Tryd.func10, Tryd.ntmps10
    go_wp2
    go_ret
    exact ⟨retB HX.out.symm, 0, rfl⟩
end Go.Proofs.YtjioiaeiggjneaaDoor

namespace Go.Proofs.YtjioiaeiggjneaaDoor
open Go.RowKit
set_option maxHeartbeats 400000 in
theorem rListsI (ls : List (List Int)) (n : Nat) (hn : ls.length = n) (A B : Option Addr) (c d : Nat) (w : World) (ha : RdL w A c ls) (hb : RdL w B d ls) :
    Calls Tryd.prog 14 #[.slice A n c, .slice B n d] w fun e w' => e = .returned (.bool true) ∧ ∃ q, w' = w.drewN q := by
  have hla := ha.le
  have hca := ha.max
  unfold maxLen at hca
  rw [hn] at hla
  have HA := Lib.hid ha; clear ha
  have HB := Lib.hid hb; clear hb
  have HN := Lib.hid hn; clear hn
  have hnn : ((n : Int) != (n : Int)) = false := by simp
  go_enter Tryd.func14, Tryd.ntmps14
  go_wp2
  clear hnn
  go_loopw [5] (fun i wr => ∃ k : Nat, k ≤ n ∧ i = .int .i64 k ∧ ∃ q, wr = w.drewN q) (fun i _ => n - (intOf i).toNat)
  case atStart => exact ⟨0, Nat.zero_le _, rfl, 0, rfl⟩
  case round =>
    obtain ⟨k, hk, rfl, hq⟩ := hrel
    have HQ := Lib.hid hq; clear hq
    have HA1 : Hid (RdL wr A c ls) := by obtain ⟨q, e⟩ := HQ.out; rw [e]; exact HA.out.below (belowN w q)
    have HB1 : Hid (RdL wr B d ls) := by obtain ⟨q, e⟩ := HQ.out; rw [e]; exact HB.out.below (belowN w q)
    clear HA HB
    by_cases hlt : k < n
    · have hkl : k < ls.length := by rw [HN.out]; exact hlt
      obtain ⟨ad, A', c', rfl, hc, hra⟩ := HA1.out.one hkl
      obtain ⟨bd, B', d', rfl, hd, hrb⟩ := HB1.out.one hkl
      generalize ls[k] = l at *
      have RA := Lib.hid hra; clear hra
      have RB := Lib.hid hrb; clear hrb
      go_wp2
      go_quiet ((go_at_call 10; exact Calls.quiet_of (rInts l l true (eqB_yes rfl) A' B' c' d' _ (RA.out.drewN _) (RB.out.drewN _))))
      go_wp2
      go_roundw
      case rel => exact ⟨k + 1, by omega, by go_num, by obtain ⟨q, e⟩ := HQ.out; rw [e]; exact ⟨_, World.drewN_drewN _ _ _⟩⟩
      case measure => simp [intOf]; omega
    · go_wp2
      go_ret
      exact ⟨rfl, HQ.out⟩
/-- The literal of the example. -/
theorem intsEq (l : List Int) (n m : Nat) (hn : l.length = n) (hm : l.length = m) (A B : Option Addr) (c d : Nat) (w : World) (ha : Rd w A c l) (hb : Rd w B d l) :
    Calls Tryd.prog 10 #[.slice A n c, .slice B m d] w fun e w' => e = .returned (.bool true) ∧ Below w.heap.size w w' := by
  subst hn; subst hm
  exact (rInts l l true (eqB_yes rfl) A B c d w ha hb).mono fun e w' ⟨h1, q, h2⟩ => ⟨h1, by rw [h2]; exact belowN w q⟩

end Go.Proofs.YtjioiaeiggjneaaDoor
