/-
  The chapter's example holds: the check that every law makes.
-/
import Derived.Test.YtidjpmmagfcojaaDoorPgF
import Derived.Test.YtidjpmmagfcojaaDoorInsE
import Derived.Test.YtidjpmmagfcojaaDoorInsR
namespace Go.Proofs.YtidjpmmagfcojaaDoor
open Go Go.RowKit

theorem in64n (n : Int) (h1 : -1000 ≤ n) (h2 : n ≤ 1000) : In64 n := sm64 n h1 h2
set_option maxRecDepth 100000 in
set_option maxHeartbeats 4000000 in
theorem livesP (w : World) (hL : Laid7 w) : Calls Tryd.prog 11 #[] w fun e w' => e = .returned (.bool true) ∧ Below w.heap.size w w' := by
  have HL := Lib.hid hL
  clear hL
  go_enter Tryd.func11, Tryd.ntmps11
  go_wp2_with fail
  refine (iExample 2 _).mono ?_
  rintro e w1 ⟨a1, rfl, hp1, b1⟩
  have B1 := b1
  have HL := Lib.hid (HL.out.below b1)
  have HP1 := Lib.hid hp1
  clear hp1
  go_wp2_with fail
  refine (iReach w1 HP1.out (exWf 2 (in64n 2 (by decide) (by decide))) HL.out.ins HL.out.nm exChk2).mono ?_
  rintro e w2 ⟨A, n, c, l, rfl, hr, hn, hl, b2⟩
  have he := exRch hl
  rw [he] at hr hn
  have hn : 2 = n := hn
  subst hn
  have B2 := belowThen B1 b2
  have HL := Lib.hid (HL.out.below b2)
  have HR := Lib.hid hr
  clear hr hl he
  go_wp2_with fail
  refine (iExample 3 _).mono ?_
  rintro e w3 ⟨a3, rfl, hp3, b3⟩
  have B3 := belowThen B2 b3
  have HL := Lib.hid (HL.out.below b3)
  have HR := Lib.hid (HR.out.below b3)
  have HP3 := Lib.hid hp3
  clear hp3
  go_wp2_with fail
  refine (iCheckP w3 HP3.out (exWf 3 (in64n 3 (by decide) (by decide))) HL.out.ins HL.out.nm).mono ?_
  rintro e w4 ⟨he, b4⟩
  rw [exChk3] at he
  have he : e = .returned (.tuple #[.int .i64 12, .int .i64 1, .int .i64 1]) := he
  subst he
  have B4 := belowThen B3 b4
  have HL := Lib.hid (HL.out.below b4)
  have HR := Lib.hid (HR.out.below b4)
  obtain ⟨fb, fo, rfl, _, hcs⟩ := rdFlat HR.out (by decide)
  have hcc := HR.out.le
  have hcm := HR.out.max
  have hc2 : 2 ≤ c := hcc
  unfold maxLen at hcm
  have hc0 : w4.cell? ⟨fb, fo, none⟩ = some (.int .i64 0) := hcs 0 (by decide)
  have hc1 : w4.cell? ⟨fb, fo + 1, none⟩ = some (.int .i64 1) := hcs 1 (by decide)
  clear hcc hcs
  go_wp2_with fail
  refine (iExample 0 _).mono ?_
  rintro e w5 ⟨a5, rfl, hp5, b5⟩
  have B5 := belowThen B4 b5
  have HL := Lib.hid (HL.out.below b5)
  have HP5 := Lib.hid hp5
  clear hp5
  go_wp2_with fail
  refine (iValidP w5 HP5.out (exWf 0 (in64n 0 (by decide) (by decide))) HL.out.ins HL.out.nm).mono ?_
  rintro e w6 ⟨he, b6⟩
  rw [exOk0] at he
  subst he
  have B6 := belowThen B5 b6
  go_wp2_with fail
  refine (iValidName ⟨#[97, 95, 49]⟩ (by decide) _).mono ?_
  rintro e w' ⟨he, rfl⟩
  rw [exName] at he
  subst he
  go_wp2_with fail
  refine (iExample 0 _).mono ?_
  rintro e w7 ⟨a7, rfl, hp7, b7⟩
  have B7 := belowThen B6 b7
  have HP7 := Lib.hid hp7
  clear hp7
  go_wp2_with fail
  refine (iSize w7 HP7.out (by rw [exSize]; decide)).mono ?_
  rintro e w8 ⟨he, b8⟩
  rw [exSize] at he
  have he : e = .returned (.int .i64 3) := he
  subst he
  have B8 := belowThen B7 b8
  go_wp2_with fail
  refine (iConfig 2 1 _).mono ?_
  rintro e w9 ⟨he, b9⟩
  have he : e = .returned (.int .i64 0) := he
  subst he
  have B9 := belowThen B8 b9
  go_wp2
  go_ret
  exact ⟨rfl, B9⟩
end Go.Proofs.YtidjpmmagfcojaaDoor
