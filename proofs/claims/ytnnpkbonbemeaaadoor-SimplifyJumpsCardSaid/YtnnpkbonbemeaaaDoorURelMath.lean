/-
  Plain facts about finite relations: as tables, as lists of pairs in order, closed under composition. Without any program.
-/
namespace Go.Proofs.YtnnpkbonbemeaaaDoor

/-- Pairs of numbers. -/
abbrev Prs := List (Int × Int)
/-! Composition, union, inverse, as tables below n. -/
/-! The transitive closure: ways through inner elements below m. -/
section
open Classical
end
/-! What the closure is. -/
/-! Acyclic relations and their reductions. -/
/-! Cycles: a first element and a way from it back to it. -/
end Go.Proofs.YtnnpkbonbemeaaaDoor
