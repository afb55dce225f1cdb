/-
  The branch of a spin loop is taken exactly if the condition of its OpAwait is 0, pure: for any function on values whose comparisons compare.
-/
import Derived.Test.YtebpnnakcodjdaaDoorZAwM
namespace Go.Proofs.YtebpnnakcodjdaaDoor

/-- The registers after one of them is written. -/
def setR (g : Int → Int) (a v : Int) (x : Int) : Int := if x = a then v else g x
/-- A function on values compares: 7 to 10 are equal, unequal, less, at most. -/
structure Cmps (W : Int → Int) (op : Int → Int → Int → Int) : Prop where
  h7 : ∀ a b, op 7 a b = 0 ↔ ¬ W a = W b
  h8 : ∀ a b, op 8 a b = 0 ↔ W a = W b
  h9 : ∀ a b, op 9 a b = 0 ↔ ¬ W a < W b
  h10 : ∀ a b, op 10 a b = 0 ↔ ¬ W a ≤ W b
theorem awTurn {W : Int → Int} {op : Int → Int → Int → Int} (hO : Cmps W op) {C : List I8} {n : Nat} {l c b : I8} (h : Sp C n l c b) (g : Int → Int) (v : Int) :
    op c.fn (setR g l.a v c.b) (setR g l.a v c.c) = 0 ↔ ¬ op (awFn l c) v (g (awCmp l c)) = 0 := by
  have hf := h.fn
  rcases h.one with ⟨h1, h2⟩ | ⟨h1, h2⟩
  · have e1 : setR g l.a v c.b = v := if_pos h1
    have e2 : setR g l.a v c.c = g c.c := if_neg h2
    have e3 : awCmp l c = c.c := if_pos h1
    rw [e1, e2, e3]
    unfold awFn at hf ⊢
    by_cases f7 : c.fn = 7
    · rw [if_pos f7, f7, hO.h7, hO.h8]
    by_cases f8 : c.fn = 8
    · rw [if_neg f7, if_pos f8, f8, hO.h7, hO.h8]; exact Decidable.not_not.symm
    · rw [if_neg f7, if_neg f8, if_neg (fun g => h2 g.2), if_neg (fun g => h2 g.2)] at hf
      exact absurd rfl hf
  · have e1 : setR g l.a v c.b = g c.b := if_neg h1
    have e2 : setR g l.a v c.c = v := if_pos h2
    have e3 : awCmp l c = c.b := if_neg h1
    rw [e1, e2, e3]
    unfold awFn at hf ⊢
    by_cases f7 : c.fn = 7
    · rw [if_pos f7, f7, hO.h7, hO.h8]
      exact ⟨fun p q => p q.symm, fun p q => p q.symm⟩
    by_cases f8 : c.fn = 8
    · rw [if_neg f7, if_pos f8, f8, hO.h7, hO.h8]
      exact ⟨fun p q => q p.symm, fun p => Decidable.not_not.1 fun q => p fun e => q e.symm⟩
    by_cases f9 : c.fn = 9
    · rw [if_neg f7, if_neg f8, if_pos ⟨f9, h2⟩, f9, hO.h9, hO.h10]
      omega
    by_cases f10 : c.fn = 10
    · rw [if_neg f7, if_neg f8, if_neg (fun g => f9 g.1), if_pos ⟨f10, h2⟩, f10, hO.h9, hO.h10]
      omega
    · rw [if_neg f7, if_neg f8, if_neg (fun g => f9 g.1), if_neg (fun g => f10 g.1)] at hf
      exact absurd rfl hf
end Go.Proofs.YtebpnnakcodjdaaDoor
