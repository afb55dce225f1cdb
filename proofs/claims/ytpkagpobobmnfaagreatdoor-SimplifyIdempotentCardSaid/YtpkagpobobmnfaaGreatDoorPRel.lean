/-
  Plain facts about finite relations: as tables, as lists of pairs in order, closed under composition. Without any program.
-/
namespace Go.Proofs.YtpkagpobobmnfaaGreatDoor

/-- Pairs of numbers. -/
abbrev Prs := List (Int × Int)
/-! Composition, union, inverse, as tables below n. -/
/-! The transitive closure: ways through inner elements below m. -/
section
open Classical
end
/-! What the closure is. -/
/-! Acyclic relations and their reductions. -/
/-! Cycles: a first element and a way from it back to it. -/
end Go.Proofs.YtpkagpobobmnfaaGreatDoor

namespace Go.Proofs.YtpkagpobobmnfaaGreatDoor

/-- There is a way of k + 1 pairs from a to b. -/
def wk (n : Nat) (f : Nat → Nat → Bool) : Nat → Nat → Nat → Bool
  | 0, a, b => f a b
  | k + 1, a, b => (List.range n).any fun x => f a x && wk n f k x b
theorem leastOf {p : Nat → Bool} : ∀ k, p k = true → ∃ m, p m = true ∧ ∀ j, j < m → p j = false := by
  intro k
  induction k using Nat.strongRecOn with
  | _ k ih =>
    intro h
    by_cases hj : ∃ j, j < k ∧ p j = true
    · obtain ⟨j, h1, h2⟩ := hj
      exact ih j h1 h2
    · refine ⟨k, h, fun j hj' => ?_⟩
      cases e : p j
      · rfl
      · exact absurd ⟨j, hj', e⟩ hj
open Classical in
/-- The fewest pairs, at least one, that lead from a to b; 0 where none do. -/
noncomputable def dst (n : Nat) (f : Nat → Nat → Bool) (a b : Nat) : Nat :=
  if h : ∃ k, wk n f k a b = true then (choose (leastOf (p := fun k => wk n f k a b) _ (choose_spec h))) + 1 else 0
/-! The first of the shortest cycles. -/
end Go.Proofs.YtpkagpobobmnfaaGreatDoor
