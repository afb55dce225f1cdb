/-
  Plain facts about finite relations: as tables, as lists of pairs in order, closed under composition. Without any program.
-/
namespace Go.Proofs.YtpkagpobobmnfaaGreatDoor

/-- Pairs of numbers. -/
abbrev Prs := List (Int × Int)
/-- A relation is valid: n up to 64, both elements of each pair below n. -/
def okR (n : Int) (l : Prs) : Bool := decide (0 ≤ n ∧ n ≤ 64 ∧ ∀ p ∈ l, 0 ≤ p.1 ∧ p.1 < n ∧ 0 ≤ p.2 ∧ p.2 < n)
/-- Which pairs a list contains. -/
def hasP (l : Prs) (a b : Nat) : Bool := decide (((a : Int), (b : Int)) ∈ l)
/-- The pairs of one row of a table, from column b on, k columns. -/
def rowP (f : Nat → Nat → Bool) (a : Nat) : Nat → Nat → Prs
  | _, 0 => []
  | b, k + 1 => (if f a b then [((a : Int), (b : Int))] else []) ++ rowP f a (b + 1) k
/-- The pairs of a table, from row a on, k rows, n columns. -/
def nrmFrom (f : Nat → Nat → Bool) (n : Nat) : Nat → Nat → Prs
  | _, 0 => []
  | a, k + 1 => rowP f a 0 n ++ nrmFrom f n (a + 1) k
/-- The pairs of a table below n, in order. -/
def nrm (n : Nat) (f : Nat → Nat → Bool) : Prs := nrmFrom f n 0 n
theorem rowMem (f : Nat → Nat → Bool) (a : Nat) (x y : Int) : ∀ k b, (x, y) ∈ rowP f a b k ↔ x = (a : Int) ∧ ∃ c : Nat, y = (c : Int) ∧ b ≤ c ∧ c < b + k ∧ f a c = true
  | 0, b => by simp only [rowP, List.not_mem_nil, false_iff]; rintro ⟨_, c, _, h1, h2, _⟩; omega
  | k + 1, b => by
    rw [rowP, List.mem_append, rowMem f a x y k (b + 1)]
    constructor
    · rintro (h | ⟨h1, c, h2, h3, h4, h5⟩)
      · split at h
        · rename_i hf
          simp only [List.mem_singleton, Prod.mk.injEq] at h
          exact ⟨h.1, b, h.2, Nat.le_refl _, by omega, hf⟩
        · cases h
      · exact ⟨h1, c, h2, by omega, by omega, h5⟩
    · rintro ⟨h1, c, h2, h3, h4, h5⟩
      by_cases e : c = b
      · subst e
        exact Or.inl (by rw [if_pos h5]; simp [h1, h2])
      · exact Or.inr ⟨h1, c, h2, by omega, by omega, h5⟩
theorem nrmFromMem (f : Nat → Nat → Bool) (n : Nat) (x y : Int) : ∀ k a, (x, y) ∈ nrmFrom f n a k ↔ ∃ d c : Nat, x = (d : Int) ∧ y = (c : Int) ∧ a ≤ d ∧ d < a + k ∧ c < n ∧ f d c = true
  | 0, a => by simp only [nrmFrom, List.not_mem_nil, false_iff]; rintro ⟨d, c, _, _, h1, h2, _⟩; omega
  | k + 1, a => by
    rw [nrmFrom, List.mem_append, rowMem, nrmFromMem f n x y k (a + 1)]
    constructor
    · rintro (⟨h1, c, h2, _, h4, h5⟩ | ⟨d, c, h1, h2, h3, h4, h5⟩)
      · exact ⟨a, c, h1, h2, Nat.le_refl _, by omega, by omega, h5⟩
      · exact ⟨d, c, h1, h2, by omega, by omega, h5⟩
    · rintro ⟨d, c, h1, h2, h3, h4, h5, h6⟩
      by_cases e : d = a
      · subst e
        exact Or.inl ⟨h1, c, h2, Nat.zero_le _, by omega, h6⟩
      · exact Or.inr ⟨d, c, h1, h2, by omega, by omega, h5, h6⟩
theorem nrmMem {n : Nat} {f : Nat → Nat → Bool} {x y : Int} : (x, y) ∈ nrm n f ↔ ∃ d c : Nat, x = (d : Int) ∧ y = (c : Int) ∧ d < n ∧ c < n ∧ f d c = true := by
  unfold nrm
  rw [nrmFromMem]
  constructor
  · rintro ⟨d, c, h1, h2, _, h4, h5, h6⟩; exact ⟨d, c, h1, h2, by omega, h5, h6⟩
  · rintro ⟨d, c, h1, h2, h4, h5, h6⟩; exact ⟨d, c, h1, h2, Nat.zero_le _, by omega, h5, h6⟩
theorem lenRow (f : Nat → Nat → Bool) (a : Nat) : ∀ k b, (rowP f a b k).length ≤ k
  | 0, _ => Nat.zero_le _
  | k + 1, b => by
    rw [rowP, List.length_append]
    have := lenRow f a k (b + 1)
    split <;> simp <;> omega
theorem lenNrmFrom (f : Nat → Nat → Bool) (n : Nat) : ∀ k a, (nrmFrom f n a k).length ≤ k * n
  | 0, _ => Nat.zero_le _
  | k + 1, a => by
    rw [nrmFrom, List.length_append, Nat.add_mul, Nat.one_mul]
    have := lenRow f a n 0
    have := lenNrmFrom f n k (a + 1)
    omega
/-! Composition, union, inverse, as tables below n. -/
/-! The transitive closure: ways through inner elements below m. -/
section
open Classical
end
/-! What the closure is. -/
/-! Acyclic relations and their reductions. -/
/-! Cycles: a first element and a way from it back to it. -/
end Go.Proofs.YtpkagpobobmnfaaGreatDoor

namespace Go.Proofs.YtpkagpobobmnfaaGreatDoor

/-- There is a way of k + 1 pairs from a to b. -/
def wk (n : Nat) (f : Nat → Nat → Bool) : Nat → Nat → Nat → Bool
  | 0, a, b => f a b
  | k + 1, a, b => (List.range n).any fun x => f a x && wk n f k x b
theorem leastOf {p : Nat → Bool} : ∀ k, p k = true → ∃ m, p m = true ∧ ∀ j, j < m → p j = false := by
  intro k
  induction k using Nat.strongRecOn with
  | _ k ih =>
    intro h
    by_cases hj : ∃ j, j < k ∧ p j = true
    · obtain ⟨j, h1, h2⟩ := hj
      exact ih j h1 h2
    · refine ⟨k, h, fun j hj' => ?_⟩
      cases e : p j
      · rfl
      · exact absurd ⟨j, hj', e⟩ hj
open Classical in
/-- The fewest pairs, at least one, that lead from a to b; 0 where none do. -/
noncomputable def dst (n : Nat) (f : Nat → Nat → Bool) (a b : Nat) : Nat :=
  if h : ∃ k, wk n f k a b = true then (choose (leastOf (p := fun k => wk n f k a b) _ (choose_spec h))) + 1 else 0
/-! The first of the shortest cycles. -/
end Go.Proofs.YtpkagpobobmnfaaGreatDoor
