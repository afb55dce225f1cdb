/-
  The law ProgramConfigs returns true for every configuration, where the tables are laid.
-/
import Derived.Test.YtidjpmmagfcojaaDoorPgG
namespace Go.Proofs.YtidjpmmagfcojaaDoor
open Go Go.RowKit

def LawOkP (w : World) (e : Ending) (w' : World) : Prop := e = .returned (.bool true) ∧ Below w.heap.size w w'
set_option maxRecDepth 100000 in
set_option maxHeartbeats 4000000 in
theorem lawConfigs (m b : Int) (w : World) (hL : Laid7 w) : Calls Tryd.prog 5 #[.agg #[.int .i64 m, .int .i64 b]] w (LawOkP w) := by
  obtain ⟨W, hW⟩ : ∃ W, w.alloc (.cells #[.int .i64 m, .int .i64 b] 42) = W := ⟨_, rfl⟩
  have hbW : Below w.heap.size w W := by rw [← hW]; exact belowAlloc w _
  have hB : Blk W w.heap.size 42 #[.int .i64 m, .int .i64 b] := by rw [← hW]; exact Blk.new w _ _
  have HW := Lib.hid hW
  have HL := Lib.hid (hL.below hbW)
  have HKP : Hid (∀ Y, Below W.heap.size W Y → Below W.heap.size W Y ∧ Y.cell? ⟨w.heap.size, 0, none⟩ = some (.int .i64 m) ∧ Y.cell? ⟨w.heap.size, 1, none⟩ = some (.int .i64 b)) := Lib.hid fun Y hY => ⟨hY, (hB.below' hY).cell 0, (hB.below' hY).cell 1⟩
  have hbd : Below W.heap.size W W.drew := (Below.refl _ W).drew
  obtain ⟨r, hr⟩ : ∃ r, cfgE m b = r := ⟨_, rfl⟩
  have H1 := Lib.hid (fun X => iConfig m b X)
  have H2 := Lib.hid (fun X => rConfig m b X)
  rw [hr] at H1 H2
  have hrr : (r == r) = true := by simp
  have HBW := Lib.hid hbW
  clear hr hW hL hB hbW
  go_enter Tryd.func5, Tryd.ntmps5
  go_wp2_with fail
  rw [HW.out]
  go_region_held3 (fun w' => Below W.heap.size W w' ∧ w'.cell? ⟨w.heap.size, 0, none⟩ = some (.int .i64 m) ∧ w'.cell? ⟨w.heap.size, 1, none⟩ = some (.int .i64 b))
    (first
      | with_reducible assumption
      | with_reducible exact HKP.out _ hbd
      | exact HKP.out _ (belowThen (‹Below W.heap.size W _ ∧ _›).1 bk))
    (first
      | (go_at_call 20; refine (H1.out _).mono ?_; rintro e wa ⟨rfl, bk⟩)
      | (go_at_call 21; refine (H2.out _).mono ?_; rintro e wb ⟨rfl, bk⟩)
      | (go_at_call 11; refine (livesP _ (HL.out.below (‹Below W.heap.size W _ ∧ _›).1)).mono ?_; rintro e wc ⟨rfl, bk⟩))
  all_goals (
    have hb := (‹Below W.heap.size W _ ∧ _›).1
    go_wp2
    go_ret
    exact ⟨rfl, belowThen HBW.out hb⟩)
end Go.Proofs.YtidjpmmagfcojaaDoor
