/-
  The contracts of the two functions that tell whether a relation is valid.
-/
import Derived.Test.YtjioiaeiggjneaaDoorKPr
import Derived.Deep.QuietTactic
import Derived.BigQuiet
import Derived.Outline
import Derived.LoopTactic
import Derived.WalkKit
import Derived.Lib.Hide
namespace Go.Proofs.YtjioiaeiggjneaaDoor
open Go.RowKit

theorem okLow {n : Int} {l : Prs} (h : n < 0) : okR n l = false := by unfold okR; rw [decide_eq_false_iff_not]; intro h'; omega
theorem okHigh {n : Int} {l : Prs} (h : 64 < n) : okR n l = false := by unfold okR; rw [decide_eq_false_iff_not]; intro h'; omega
/-- Both elements of the pair are below n. -/
def inR (n : Int) (p : Int × Int) : Prop := 0 ≤ p.1 ∧ p.1 < n ∧ 0 ≤ p.2 ∧ p.2 < n
theorem okAt {n : Int} {l : Prs} {k : Nat} (hk : k < l.length) (h : ¬ inR n l[k]) : okR n l = false := by
  unfold okR
  rw [decide_eq_false_iff_not]
  intro h'
  exact h (h'.2.2 l[k] (List.getElem_mem hk))
theorem okIff {n : Int} {l : Prs} : okR n l = true ↔ 0 ≤ n ∧ n ≤ 64 ∧ ∀ p ∈ l, inR n p := by unfold okR; rw [decide_eq_true_iff]; rfl
/-- The first k pairs are in order. -/
def okTo (n : Int) (l : Prs) (k : Nat) : Prop := ∀ p ∈ l.take k, inR n p
theorem okSucc {n : Int} {l : Prs} {k : Nat} (hk : k < l.length) (h : okTo n l k) (h' : inR n l[k]) : okTo n l (k + 1) := by
  intro p hp
  rw [List.take_succ_eq_append_getElem hk, List.mem_append] at hp
  rcases hp with hp | hp
  · exact h p hp
  · obtain rfl : p = l[k] := by simpa using hp
    exact h'
theorem okAll {n : Int} {l : Prs} {k : Nat} (h0 : 0 ≤ n) (h1 : n ≤ 64) (hk : l.length ≤ k) (h : okTo n l k) : okR n l = true := by
  rw [okIff]
  refine ⟨h0, h1, fun p hp => h p ?_⟩
  rwa [List.take_of_length_le hk]

set_option maxHeartbeats 1000000 in
theorem iValid (N : Int) (l : Prs) (n : Nat) (hn : l.length = n) (r : Bool) (hr : okR N l = r) (A : Option Addr) (c : Nat) (w : World) (ha : Rp w A c l) :
    Calls Tryd.prog 30 #[relV N A n c] w fun e w' => e = .returned (.bool r) ∧ Below w.heap.size w w' := by
  have hla := ha.le
  have hca := ha.max
  unfold maxLen at hca
  have HA := Lib.hid ha; clear ha
  have HR := Lib.hid hr; clear hr
  have HN := Lib.hid hn; clear hn
  by_cases h0 : N < 0
  · have HX := Lib.hid (HR.out.symm.trans (okLow h0))
    go_enter Tryd.func30, Tryd.ntmps30
    go_wp2
    go_ret
    exact ⟨retB HX.out.symm, belowAlloc _ _⟩
  by_cases h1 : 64 < N
  · have HX := Lib.hid (HR.out.symm.trans (okHigh h1))
    go_enter Tryd.func30, Tryd.ntmps30
    go_wp2
    go_ret
    exact ⟨retB HX.out.symm, belowAlloc _ _⟩
  go_enter Tryd.func30, Tryd.ntmps30
  go_wp2
  go_loopw [16] (fun i wr => ∃ k : Nat, k ≤ n ∧ i = .int .i64 k ∧ Hid (okTo N l k) ∧ wr.cell? ⟨w.heap.size, 0, none⟩ = some (.int .i64 N) ∧ Below w.heap.size w wr ∧ w.heap.size < wr.heap.size) (fun i _ => n - (intOf i).toNat)
  case atStart => exact ⟨0, Nat.zero_le _, rfl, Lib.hid (fun p hp => by simp at hp), by simp, belowAlloc _ _, by simp⟩
  case round =>
    obtain ⟨k, hk, rfl, HT, hcn, hb, hsz⟩ := hrel
    by_cases hlt : k < n
    · have hkl : k < l.length := by have := HN.out; omega
      obtain ⟨b, off, rfl, had, hc1, hc2⟩ := (HA.out.below hb).one hkl
      by_cases hin : inR N l[k]
      · have HX := Lib.hid (okSucc hkl HT.out hin)
        unfold inR at hin
        generalize l[k].1 = x at *
        generalize l[k].2 = y at *
        go_wp2
        all_goals (go_roundw; (case rel => exact ⟨k + 1, by omega, by go_num, HX, by rw [World.cell?_alloc_past _ _ _ hsz]; exact hcn, hb.alloc hb.size _, by simp; omega⟩); (case measure => simp [intOf]; omega))
      · have HX := Lib.hid (HR.out.symm.trans (okAt hkl hin))
        unfold inR at hin
        generalize l[k].1 = x at *
        generalize l[k].2 = y at *
        go_wp2
        all_goals first
          | (exfalso; omega)
          | (go_ret; exact ⟨retB HX.out.symm, hb.alloc hb.size _⟩)
    · have HX := Lib.hid (HR.out.symm.trans (okAll (by omega) (by omega) (by have := HN.out; omega) HT.out))
      go_wp2
      go_ret
      exact ⟨retB HX.out.symm, hb⟩
end Go.Proofs.YtjioiaeiggjneaaDoor
