/-
  The check of the names (a closure over the program), the objects that an operation names, the check of one instruction in its function.
-/
import Derived.Test.YtnckpjcfgeajbaaDoorPgI
namespace Go.Proofs.YtnckpjcfgeajbaaDoor
open Go Go.RowKit

set_option maxHeartbeats 1000000 in
theorem iNameChk {b : Nat} {a : PgA} {p : Prg} (w : World) (hP : PgW w a p) (hB : PBox w b a) (hW : p.Wf) : Calls Tryd.prog 52 #[.pointer (some ⟨b, 0, none⟩)] w fun e w' => e = err3 (p.nmE.1, p.nmE.2, -1) ∧ Below w.heap.size w w' := by
  obtain ⟨r, hr⟩ : ∃ r : Int × Int × Int, (p.nmE.1, p.nmE.2, (-1 : Int)) = r := ⟨_, rfl⟩
  rw [hr]
  have HB := Lib.hid hB
  have g1 : a.n1 ≤ maxLen := by have h1 := hP.vars.le; have h2 := hP.vars.max; rw [hP.l1] at h1; omega
  have g2 : a.n2 ≤ maxLen := by have h1 := hP.muts.le; have h2 := hP.muts.max; rw [hP.l2] at h1; omega
  have g3 : a.n3 ≤ maxLen := by have h1 := hP.conds.le; have h2 := hP.conds.max; rw [hP.l3] at h1; omega
  have g4 : a.n4 ≤ maxLen := by have h1 := hP.funcs.le; have h2 := hP.funcs.max; rw [hP.l4] at h1; omega
  have H1 := Lib.hid (fun X (hX : Below w.heap.size w X) => iNames1 (p.vars.map (·.1)) a.n1 (by simpa using hP.l1) g1 (fun s hs => by obtain ⟨v, hv, rfl⟩ := List.mem_map.1 hs; exact hW.vn v hv) b X (nameAt1 (hP.below hX) (hB.below hX)))
  have H2 := Lib.hid (fun X (hX : Below w.heap.size w X) => iNames2 p.muts a.n2 hP.l2 g2 hW.mn b X (nameAt2 (hP.below hX) (hB.below hX)))
  have H3 := Lib.hid (fun X (hX : Below w.heap.size w X) => iNames3 p.conds a.n3 hP.l3 g3 hW.cn b X (nameAt3 (hP.below hX) (hB.below hX)))
  have H4 := Lib.hid (fun X (hX : Below w.heap.size w X) => iNames4 (p.funcs.map (·.1)) a.n4 (by simpa using hP.l4) g4 (fun s hs => by obtain ⟨v, hv, rfl⟩ := List.mem_map.1 hs; exact hW.fn v hv) b X (nameAt4 (hP.below hX) (hB.below hX)))
  have HE : Hid (p.nmE = if (nmF [] (p.vars.map (·.1)) 0).1 ≠ 0 then ((nmF [] (p.vars.map (·.1)) 0).1, -1) else if (nmF [] p.muts 0).1 ≠ 0 then ((nmF [] p.muts 0).1, -1) else if (nmF [] p.conds 0).1 ≠ 0 then ((nmF [] p.conds 0).1, -1) else nmF [] (p.funcs.map (·.1)) 0) := Lib.hid rfl
  generalize nmF [] (p.vars.map (·.1)) 0 = e1 at H1 HE
  generalize nmF [] p.muts 0 = e2 at H2 HE
  generalize nmF [] p.conds 0 = e3 at H3 HE
  generalize nmF [] (p.funcs.map (·.1)) 0 = e4 at H4 HE
  obtain ⟨x1, y1⟩ := e1
  obtain ⟨x2, y2⟩ := e2
  obtain ⟨x3, y3⟩ := e3
  obtain ⟨x4, y4⟩ := e4
  simp only at H1 H2 H3 H4
  have HR := Lib.hid hr
  obtain ⟨c0, c1, c2, c3, _⟩ := hB.facts
  unfold maxLen at g1 g2 g3 g4
  generalize a.n1 = n1 at *
  generalize a.n2 = n2 at *
  generalize a.n3 = n3 at *
  generalize a.n4 = n4 at *
  clear hr hP hB hW
  by_cases h1 : x1 = 0
  rotate_left
  · have hx : (x1 != 0) = true := by simpa using h1
    have HX : Hid ((x1, -1, -1) = r) := Lib.hid (by rw [← HR.out, HE.out]; simp [h1])
    clear h1
    go_enter Tryd.func52, Tryd.ntmps52
    go_wp2_with fail
    refine (H1.out _ (Below.refl _ w)).mono ?_
    rintro e w1 ⟨rfl, b1⟩
    have B1 := b1
    have c1 := (b1.cell (World.block_lt_of_cell? _ _ c1)).trans c1
    have c2 := (b1.cell (World.block_lt_of_cell? _ _ c2)).trans c2
    have c3 := (b1.cell (World.block_lt_of_cell? _ _ c3)).trans c3
    go_wp2
    go_ret3
    exact ⟨by rw [← HX.out]; rfl, B1⟩
  have z1 : (x1 != 0) = false := by simpa using h1
  by_cases h2 : x2 = 0
  rotate_left
  · have hx : (x2 != 0) = true := by simpa using h2
    have HX : Hid ((x2, -1, -1) = r) := Lib.hid (by rw [← HR.out, HE.out]; simp [h1, h2])
    clear h1
    clear h2
    go_enter Tryd.func52, Tryd.ntmps52
    go_wp2_with fail
    refine (H1.out _ (Below.refl _ w)).mono ?_
    rintro e w1 ⟨rfl, b1⟩
    have B1 := b1
    have c1 := (b1.cell (World.block_lt_of_cell? _ _ c1)).trans c1
    have c2 := (b1.cell (World.block_lt_of_cell? _ _ c2)).trans c2
    have c3 := (b1.cell (World.block_lt_of_cell? _ _ c3)).trans c3
    go_wp2_with fail
    refine (H2.out _ B1).mono ?_
    rintro e w2 ⟨rfl, b2⟩
    have B2 := belowThen B1 b2
    have c2 := (b2.cell (World.block_lt_of_cell? _ _ c2)).trans c2
    have c3 := (b2.cell (World.block_lt_of_cell? _ _ c3)).trans c3
    go_wp2
    go_ret3
    exact ⟨by rw [← HX.out]; rfl, B2⟩
  have z2 : (x2 != 0) = false := by simpa using h2
  by_cases h3 : x3 = 0
  rotate_left
  · have hx : (x3 != 0) = true := by simpa using h3
    have HX : Hid ((x3, -1, -1) = r) := Lib.hid (by rw [← HR.out, HE.out]; simp [h1, h2, h3])
    clear h1 h2
    clear h3
    go_enter Tryd.func52, Tryd.ntmps52
    go_wp2_with fail
    refine (H1.out _ (Below.refl _ w)).mono ?_
    rintro e w1 ⟨rfl, b1⟩
    have B1 := b1
    have c1 := (b1.cell (World.block_lt_of_cell? _ _ c1)).trans c1
    have c2 := (b1.cell (World.block_lt_of_cell? _ _ c2)).trans c2
    have c3 := (b1.cell (World.block_lt_of_cell? _ _ c3)).trans c3
    go_wp2_with fail
    refine (H2.out _ B1).mono ?_
    rintro e w2 ⟨rfl, b2⟩
    have B2 := belowThen B1 b2
    have c2 := (b2.cell (World.block_lt_of_cell? _ _ c2)).trans c2
    have c3 := (b2.cell (World.block_lt_of_cell? _ _ c3)).trans c3
    go_wp2_with fail
    refine (H3.out _ B2).mono ?_
    rintro e w3 ⟨rfl, b3⟩
    have B3 := belowThen B2 b3
    have c3 := (b3.cell (World.block_lt_of_cell? _ _ c3)).trans c3
    go_wp2
    go_ret3
    exact ⟨by rw [← HX.out]; rfl, B3⟩
  have z3 : (x3 != 0) = false := by simpa using h3
  have HX : Hid ((x4, y4, -1) = r) := Lib.hid (by rw [← HR.out, HE.out]; simp [h1, h2, h3])
  clear h1 h2 h3
  go_enter Tryd.func52, Tryd.ntmps52
  go_wp2_with fail
  refine (H1.out _ (Below.refl _ w)).mono ?_
  rintro e w1 ⟨rfl, b1⟩
  have B1 := b1
  have c1 := (b1.cell (World.block_lt_of_cell? _ _ c1)).trans c1
  have c2 := (b1.cell (World.block_lt_of_cell? _ _ c2)).trans c2
  have c3 := (b1.cell (World.block_lt_of_cell? _ _ c3)).trans c3
  go_wp2_with fail
  refine (H2.out _ B1).mono ?_
  rintro e w2 ⟨rfl, b2⟩
  have B2 := belowThen B1 b2
  have c2 := (b2.cell (World.block_lt_of_cell? _ _ c2)).trans c2
  have c3 := (b2.cell (World.block_lt_of_cell? _ _ c3)).trans c3
  go_wp2_with fail
  refine (H3.out _ B2).mono ?_
  rintro e w3 ⟨rfl, b3⟩
  have B3 := belowThen B2 b3
  have c3 := (b3.cell (World.block_lt_of_cell? _ _ c3)).trans c3
  go_wp2_with fail
  refine (H4.out _ B3).mono ?_
  rintro e w4 ⟨rfl, b4⟩
  have B4 := belowThen B3 b4
  go_wp2
  go_ret3
  exact ⟨by rw [← HX.out]; rfl, B4⟩
end Go.Proofs.YtnckpjcfgeajbaaDoor
