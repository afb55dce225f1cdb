/-
  The contract of the specification's Check: the first error of an instruction.
-/
import Derived.Test.YtebpnnakcodjdaaDoorZInsG1
import Derived.Test.YtebpnnakcodjdaaDoorZInsG2
import Derived.Test.YtebpnnakcodjdaaDoorZIU
import Derived.Test.YtebpnnakcodjdaaDoorZOwn
import Derived.Test.YtebpnnakcodjdaaDoorProg
import Derived.Test.YtebpnnakcodjdaaDoorRows
import Derived.Deep.QuietTactic
import Derived.BigQuiet
import Derived.Outline
import Derived.LoopTactic
import Derived.Test.YtebpnnakcodjdaaDoorZPure
namespace Go.Proofs.YtebpnnakcodjdaaDoor
open Go.RowKit

theorem uvecAll : ∀ k, k < 23 → 1 ≤ k → uvec k ∈ [[true, false, false, false, true, false, false], [true, true, false, false, false, false, false], [true, true, true, false, false, true, false], [false, false, false, false, true, false, false], [false, true, false, false, true, false, false], [false, true, false, false, false, false, false], [false, false, false, false, false, false, false], [true, false, false, true, false, false, true], [false, true, false, true, false, false, true], [true, true, false, true, false, false, true], [true, true, true, true, false, false, true], [true, true, false, true, false, true, true], [false, false, false, true, false, false, false], [true, false, false, true, false, false, false], [false, false, false, true, true, false, false], [true, true, false, true, false, false, false]] := by decide
theorem rCheckIn (k : Nat) (h1 : 1 ≤ k) (h2 : k ≤ 22) (a b c obj n fn ord : Int) (w : World) :
    Calls Tryd.prog 40 #[(I8.mk8 k a b c obj n fn ord).val] w fun e w' => e = .returned (.int .i64 (I8.mk8 k a b c obj n fn ord).chk) ∧ Below w.heap.size w w' := by
  have h := uvecAll k (by omega) h1
  simp only [List.mem_cons, List.not_mem_nil, or_false] at h
  rcases h with h | h | h | h | h | h | h | h | h | h | h | h | h | h | h | h
  · exact rCheckV0 k h1 h2 a b c obj n fn ord w h
  · exact rCheckV1 k h1 h2 a b c obj n fn ord w h
  · exact rCheckV2 k h1 h2 a b c obj n fn ord w h
  · exact rCheckV3 k h1 h2 a b c obj n fn ord w h
  · exact rCheckV4 k h1 h2 a b c obj n fn ord w h
  · exact rCheckV5 k h1 h2 a b c obj n fn ord w h
  · exact rCheckV6 k h1 h2 a b c obj n fn ord w h
  · exact rCheckV7 k h1 h2 a b c obj n fn ord w h
  · exact rCheckV8 k h1 h2 a b c obj n fn ord w h
  · exact rCheckV9 k h1 h2 a b c obj n fn ord w h
  · exact rCheckV10 k h1 h2 a b c obj n fn ord w h
  · exact rCheckV11 k h1 h2 a b c obj n fn ord w h
  · exact rCheckV12 k h1 h2 a b c obj n fn ord w h
  · exact rCheckV13 k h1 h2 a b c obj n fn ord w h
  · exact rCheckV14 k h1 h2 a b c obj n fn ord w h
  · exact rCheckV15 k h1 h2 a b c obj n fn ord w h
theorem rCheckNo (i : I8) (h : opOk i.op = false) (w : World) :
    Calls Tryd.prog 40 #[i.val] w fun e w' => e = .returned (.int .i64 8) ∧ Below w.heap.size w w' := by
  obtain ⟨op, a, b, c, obj, n, fn, ord⟩ := i
  have h : opOk op = false := h
  simp only [opOk, decide_eq_false_iff_not] at h
  have hb := belowAlloc w (.cells #[.int .i64 op, .int .i64 a, .int .i64 b, .int .i64 c, .int .i64 obj, .int .i64 n, .int .i64 fn, .int .i64 ord] 47)
  simp only [I8.val]
  by_cases h1 : op < 1
  · go_enter Tryd.func40, Tryd.ntmps40
    go_wp2
    go_ret
    exact ⟨rfl, hb⟩
  · have h3 : 1 ≤ op := by omega
    have h2 : 22 < op := by omega
    clear h h1
    go_enter Tryd.func40, Tryd.ntmps40
    go_wp2
    go_ret
    exact ⟨rfl, hb⟩
/-- The specification's Check: the first error of an instruction. -/
theorem rCheck (i : I8) (r : Int) (hr : i.chk = r) (w : World) :
    Calls Tryd.prog 40 #[i.val] w fun e w' => e = .returned (.int .i64 r) ∧ Below w.heap.size w w' := by
  subst hr
  cases h : opOk i.op with
  | false =>
    have e : i.chk = 8 := by unfold I8.chk; rw [if_pos h]
    rw [e]
    exact rCheckNo i h w
  | true =>
    have h' := h
    simp only [opOk, decide_eq_true_eq] at h'
    obtain ⟨op, a, b, c, obj, n, fn, ord⟩ := i
    obtain ⟨k, rfl⟩ : ∃ k : Nat, op = k := ⟨op.toNat, by have := h'.1; simp only at this; omega⟩
    simp only at h'
    exact rCheckIn k (by omega) (by omega) a b c obj n fn ord w
end Go.Proofs.YtebpnnakcodjdaaDoor

namespace Go.Proofs.YtebpnnakcodjdaaDoor
open Go Go.RowKit

theorem rCheckA (op a b c obj n fn ord r : Int) (hr : (I8.mk8 op a b c obj n fn ord).chk = r) (w : World) :
    Calls Tryd.prog 40 #[.agg #[.int .i64 op, .int .i64 a, .int .i64 b, .int .i64 c, .int .i64 obj, .int .i64 n, .int .i64 fn, .int .i64 ord]] w fun e w' => e = .returned (.int .i64 r) ∧ Below w.heap.size w w' := rCheck _ r hr w
theorem OwnI.below {W X : World} {base : Nat} {v : Value} {l : List Int} (h : OwnI W base v l) (hX : Below W.heap.size W X) : OwnI X base v l := by
  refine ⟨h.1, ?_⟩
  rcases h.2 with h0 | ⟨g, cap, cur, hv, hb, hg, hr⟩
  · exact .inl h0
  · exact .inr ⟨g, cap, cur, hv, hb, (hX.block g (Array.getElem?_eq_some_iff.1 hg).1).trans hg, hr⟩
theorem Rd.none {W : World} {A : Option Addr} {c : Nat} (hc : c ≤ maxLen) : Rd W A c [] := ⟨Nat.zero_le _, hc, fun h => absurd h (by simp)⟩
end Go.Proofs.YtebpnnakcodjdaaDoor
