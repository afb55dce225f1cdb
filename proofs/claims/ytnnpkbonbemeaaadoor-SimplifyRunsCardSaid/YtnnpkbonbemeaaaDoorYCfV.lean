/-
  The specification's Leaders.
-/
import Derived.Test.YtnnpkbonbemeaaaDoorYCt
import Derived.Test.YtnnpkbonbemeaaaDoorYRow
import Derived.Test.YtnnpkbonbemeaaaDoorYCd
namespace Go.Proofs.YtnnpkbonbemeaaaDoor
open Go Go.RowKit Go.Shelf

theorem memMin9 {a b : List Int} {x : Int} : x ∈ min' a b ↔ x ∈ a ∧ x ∉ b := by
  unfold min'
  rw [memMk]
  unfold pick
  rw [List.mem_filter]
  unfold memB
  simp
end Go.Proofs.YtnnpkbonbemeaaaDoor
