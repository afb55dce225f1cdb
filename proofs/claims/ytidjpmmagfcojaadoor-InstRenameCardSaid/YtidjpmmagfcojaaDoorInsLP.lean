/-
  The law InstRename returns true for every instruction and every two numbers, where the tables are laid; nothing that was in memory changes.
-/
import Derived.Test.YtidjpmmagfcojaaDoorInsLM
import Derived.Test.YtidjpmmagfcojaaDoorInsLO
namespace Go.Proofs.YtidjpmmagfcojaaDoor
open Go Go.RowKit

theorem u32Nat {n : Int} (h : (Lit.int IntKind.u32 n).wf = true) : ∃ m : Nat, n = m ∧ m < 4294967296 := by
  have hw : (decide (IntKind.u32.min ≤ n) && decide (n ≤ IntKind.u32.max)) = true := h
  rw [Bool.and_eq_true, decide_eq_true_iff, decide_eq_true_iff] at hw
  have h1 : (0 : Int) ≤ n := hw.1
  have h2 : n ≤ 4294967295 := hw.2
  exact ⟨n.toNat, by omega, by omega⟩
theorem lawRename (i : I8) (hi : i.Wf) (m n2 : Nat) (hm : m < 4294967296) (hn2 : n2 < 4294967296) (w : World) (hL : Laid7 w) :
    Calls Tryd.prog 9 #[i.val, .int .u32 (m : Int), .int .u32 (n2 : Int)] w (LawOk7 w) := by
  obtain ⟨op, a, b, c, obj, n, fn, ord⟩ := i
  by_cases h : (I8.mk8 op a b c obj n fn ord).chk = 0
  · exact lawRenameYes op a b c obj n fn ord h hi m n2 hm hn2 w hL
  · exact lawRenameNo op a b c obj n fn ord _ rfl h hi m n2 hm w hL
end Go.Proofs.YtidjpmmagfcojaaDoor
