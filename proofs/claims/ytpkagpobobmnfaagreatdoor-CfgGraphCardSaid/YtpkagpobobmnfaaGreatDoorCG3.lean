/-
  The contract of the specification's Check: the first error of an instruction.
-/
import Derived.Test.YtpkagpobobmnfaaGreatDoorCInsG1
import Derived.Test.YtpkagpobobmnfaaGreatDoorCInsG2
import Derived.Test.YtpkagpobobmnfaaGreatDoorCIU
import Derived.Test.YtpkagpobobmnfaaGreatDoorCMk
import Derived.Test.YtpkagpobobmnfaaGreatDoorCInG
import Derived.Test.YtpkagpobobmnfaaGreatDoorCOwn
namespace Go.Proofs.YtpkagpobobmnfaaGreatDoor
open Go.RowKit

theorem uvecAll : ∀ k, k < 23 → 1 ≤ k → uvec k ∈ [[true, false, false, false, true, false, false], [true, true, false, false, false, false, false], [true, true, true, false, false, true, false], [false, false, false, false, true, false, false], [false, true, false, false, true, false, false], [false, true, false, false, false, false, false], [false, false, false, false, false, false, false], [true, false, false, true, false, false, true], [false, true, false, true, false, false, true], [true, true, false, true, false, false, true], [true, true, true, true, false, false, true], [true, true, false, true, false, true, true], [false, false, false, true, false, false, false], [true, false, false, true, false, false, false], [false, false, false, true, true, false, false], [true, true, false, true, false, false, false]] := by decide
theorem rCheckIn (k : Nat) (h1 : 1 ≤ k) (h2 : k ≤ 22) (a b c obj n fn ord : Int) (w : World) :
    Calls Tryz.prog 64 #[(I8.mk8 k a b c obj n fn ord).val] w fun e w' => e = .returned (.int .i64 (I8.mk8 k a b c obj n fn ord).chk) ∧ Below w.heap.size w w' := by
  have h := uvecAll k (by omega) h1
  simp only [List.mem_cons, List.not_mem_nil, or_false] at h
  rcases h with h | h | h | h | h | h | h | h | h | h | h | h | h | h | h | h
  · exact rCheckV0 k h1 h2 a b c obj n fn ord w h
  · exact rCheckV1 k h1 h2 a b c obj n fn ord w h
  · exact rCheckV2 k h1 h2 a b c obj n fn ord w h
  · exact rCheckV3 k h1 h2 a b c obj n fn ord w h
  · exact rCheckV4 k h1 h2 a b c obj n fn ord w h
  · exact rCheckV5 k h1 h2 a b c obj n fn ord w h
  · exact rCheckV6 k h1 h2 a b c obj n fn ord w h
  · exact rCheckV7 k h1 h2 a b c obj n fn ord w h
  · exact rCheckV8 k h1 h2 a b c obj n fn ord w h
  · exact rCheckV9 k h1 h2 a b c obj n fn ord w h
  · exact rCheckV10 k h1 h2 a b c obj n fn ord w h
  · exact rCheckV11 k h1 h2 a b c obj n fn ord w h
  · exact rCheckV12 k h1 h2 a b c obj n fn ord w h
  · exact rCheckV13 k h1 h2 a b c obj n fn ord w h
  · exact rCheckV14 k h1 h2 a b c obj n fn ord w h
  · exact rCheckV15 k h1 h2 a b c obj n fn ord w h
theorem rCheckNo (i : I8) (h : opOk i.op = false) (w : World) :
    Calls Tryz.prog 64 #[i.val] w fun e w' => e = .returned (.int .i64 8) ∧ Below w.heap.size w w' := by
  obtain ⟨op, a, b, c, obj, n, fn, ord⟩ := i
  have h : opOk op = false := h
  simp only [opOk, decide_eq_false_iff_not] at h
  have hb := belowAlloc w (.cells #[.int .i64 op, .int .i64 a, .int .i64 b, .int .i64 c, .int .i64 obj, .int .i64 n, .int .i64 fn, .int .i64 ord] 55)
  simp only [I8.val]
  by_cases h1 : op < 1
  · go_enter Tryz.func64, Tryz.ntmps64
    go_wp2
    go_ret
    exact ⟨rfl, hb⟩
  · have h3 : 1 ≤ op := by omega
    have h2 : 22 < op := by omega
    clear h h1
    go_enter Tryz.func64, Tryz.ntmps64
    go_wp2
    go_ret
    exact ⟨rfl, hb⟩
/-- The specification's Check: the first error of an instruction. -/
theorem rCheck (i : I8) (r : Int) (hr : i.chk = r) (w : World) :
    Calls Tryz.prog 64 #[i.val] w fun e w' => e = .returned (.int .i64 r) ∧ Below w.heap.size w w' := by
  subst hr
  cases h : opOk i.op with
  | false =>
    have e : i.chk = 8 := by unfold I8.chk; rw [if_pos h]
    rw [e]
    exact rCheckNo i h w
  | true =>
    have h' := h
    simp only [opOk, decide_eq_true_eq] at h'
    obtain ⟨op, a, b, c, obj, n, fn, ord⟩ := i
    obtain ⟨k, rfl⟩ : ∃ k : Nat, op = k := ⟨op.toNat, by have := h'.1; simp only at this; omega⟩
    simp only at h'
    exact rCheckIn k (by omega) (by omega) a b c obj n fn ord w
end Go.Proofs.YtpkagpobobmnfaaGreatDoor

namespace Go.Proofs.YtpkagpobobmnfaaGreatDoor
open Go Go.RowKit

theorem OwnI.below {W X : World} {base : Nat} {v : Value} {l : List Int} (h : OwnI W base v l) (hX : Below W.heap.size W X) : OwnI X base v l := by
  refine ⟨h.1, ?_⟩
  rcases h.2 with h0 | ⟨g, cap, cur, hv, hb, hg, hr⟩
  · exact .inl h0
  · exact .inr ⟨g, cap, cur, hv, hb, (hX.block g (Array.getElem?_eq_some_iff.1 hg).1).trans hg, hr⟩
end Go.Proofs.YtpkagpobobmnfaaGreatDoor

namespace Go.Proofs.YtpkagpobobmnfaaGreatDoor
open Go Go.RowKit

/-- The tables of the operations and of the names of the functions are laid. -/
structure Laid7 (w : World) : Prop where
  ins : InsT w
  nm : Nm w
theorem Laid7.below {W X : World} {B : Nat} (h : Laid7 W) (hb : Below B W X) (hB : W.heap.size ≤ B := by exact Nat.le_refl _) : Laid7 X := ⟨h.ins.below hb hB, h.nm.below hb hB⟩
end Go.Proofs.YtpkagpobobmnfaaGreatDoor
