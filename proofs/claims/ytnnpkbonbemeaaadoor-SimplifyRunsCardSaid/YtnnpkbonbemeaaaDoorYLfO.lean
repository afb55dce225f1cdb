/-
  A row of instructions of the call's own, that grows at its end.
-/
import Derived.Test.YtnnpkbonbemeaaaDoorYLfV
import Derived.BigRegionIn
import Derived.Test.YtnnpkbonbemeaaaDoorYInsVi
namespace Go.Proofs.YtnnpkbonbemeaaaDoor
open Go Go.RowKit

def icC (i : I8) : List Value := [.int .i64 i.op, .int .i64 i.a, .int .i64 i.b, .int .i64 i.c, .int .i64 i.obj, .int .i64 i.n, .int .i64 i.fn, .int .i64 i.ord]
def icCs : List I8 → List Value
  | [] => []
  | p :: l => .int .i64 p.op :: .int .i64 p.a :: .int .i64 p.b :: .int .i64 p.c :: .int .i64 p.obj :: .int .i64 p.n :: .int .i64 p.fn :: .int .i64 p.ord :: icCs l
theorem icCsLen : ∀ l, (icCs l).length = l.length * 8
  | [] => rfl
  | p :: l => by
    have := icCsLen l
    simp only [icCs, List.length_cons]
    omega
theorem icCsApp : ∀ a b, icCs (a ++ b) = icCs a ++ icCs b
  | [], b => rfl
  | p :: a, b => by simp only [List.cons_append, icCs, icCsApp a b]
theorem icCsAt : ∀ (l : List I8) (j : Nat) (h : j < l.length) (i : Nat), i < 8 → (icCs l)[j * 8 + i]? = (icC l[j])[i]?
  | p :: l, 0, _, i, hi => by
    have : i = 0 ∨ i = 1 ∨ i = 2 ∨ i = 3 ∨ i = 4 ∨ i = 5 ∨ i = 6 ∨ i = 7 := by omega
    rcases this with rfl | rfl | rfl | rfl | rfl | rfl | rfl | rfl <;> rfl
  | p :: l, j + 1, h, i, hi => by
    have := icCsAt l j (by simpa using h) i hi
    rw [icCs, show (j + 1) * 8 + i = j * 8 + i + 1 + 1 + 1 + 1 + 1 + 1 + 1 + 1 by omega]
    simp only [List.getElem?_cons_succ, List.getElem_cons_succ]
    exact this
theorem icCsOne : ∀ l : List I8, ∀ u ∈ icCs l, u.oneCell' = true
  | [], u, h => by cases h
  | p :: l, u, h => by
    rw [icCs] at h
    simp only [List.mem_cons] at h
    rcases h with rfl | rfl | rfl | rfl | rfl | rfl | rfl | rfl | h
    all_goals first
      | rfl
      | exact icCsOne l u h
theorem infoIns : (Tryd.prog.info? 47).map (fun i => (i.zero, i.size, i.bytes)) = some (some (.agg #[.int .i64 0, .int .i64 0, .int .i64 0, .int .i64 0, .int .i64 0, .int .i64 0, .int .i64 0, .int .i64 0]), 8, 64) := by kernel_rfl
/-- The instructions L in a row of the call's own. -/
def OwnC8 (w : World) (base : Nat) (v : Value) (L : List I8) : Prop := w.ownsRow base 47 8 v L.length (icCs L)
section
variable {w X : World} {base : Nat} {v : Value} {L : List I8}
theorem OwnC8.nil (w : World) (base : Nat) : OwnC8 w base (.slice none 0 0) [] := World.ownsRow_nil _ _ _ _
theorem OwnC8.chg {F : Nat → Prop} (h : OwnC8 w base v L) (hc : Chg w X F) (hF : ∀ g, v.ownBlock = some g → F g) : OwnC8 X base v L := by
  refine ⟨h.1, ?_⟩
  rcases h.2 with h2 | ⟨g, cap, cur, rfl, hb, hg, r⟩
  · exact .inl h2
  · exact .inr ⟨g, cap, cur, rfl, hb, (hc.block g (World.ownsRow.lt h g rfl).2 (hF g rfl)).trans hg, r⟩
theorem OwnC8.below (h : OwnC8 w base v L) (hb : Below w.heap.size w X) : OwnC8 X base v L := h.chg (Chg.ofBelow hb fun _ => True) fun _ _ => trivial
theorem OwnC8.rd (h : OwnC8 w base v L) : ∃ A c, v = .slice A L.length c ∧ RdE 8 EI w A c L := by
  have hown := h
  rcases h.2 with ⟨rfl, h0⟩ | ⟨g, cap, cur, rfl, hb, hg, hcp, hm, hs, ht⟩
  · have : L = [] := List.eq_nil_of_length_eq_zero h0
    subst this
    exact ⟨none, 0, rfl, RdE.nil⟩
  · refine ⟨some ⟨g, 0, none⟩, cap, rfl, hcp, hm, fun _ => ⟨g, 0, rfl, (World.ownsRow.lt hown g rfl).2, fun j hj => ?_⟩⟩
    have hcell : ∀ i, i < 8 → w.cell? ⟨g, 0 + j * 8 + i, none⟩ = (icC L[j])[i]? := fun i hi => by
      have h5 := icCsAt L j hj i hi
      have hu : ∃ u, (icC L[j])[i]? = some u := ⟨_, List.getElem?_eq_getElem (show i < (icC L[j]).length from hi)⟩
      obtain ⟨u, hu⟩ := hu
      rw [hu] at h5 ⊢
      have h6 := World.ownsRow.cells hown (g := g) rfl (j * 8 + i) u h5
      rw [Addr.add_lit] at h6
      rw [show 0 + j * 8 + i = 0 + (j * 8 + i) by omega]
      exact h6
    exact ⟨hcell 0 (by omega), hcell 1 (by omega), hcell 2 (by omega), hcell 3 (by omega), hcell 4 (by omega), hcell 5 (by omega), hcell 6 (by omega), hcell 7 (by omega)⟩
/-- append of an instruction. -/
theorem OwnC8.push (h : OwnC8 w base v L) (hL : L.length ≤ 1000) (hbase : base ≤ w.heap.size) {i : I8} {g : Nat} (hg : Blk w g 47 (icC i).toArray) (ty : TypeId) :
    ∃ v' w', (Builtin.append_ #[40, 40] ty #[v, .slice (some ⟨g, 0, none⟩) 1 1]).run Tryd.prog w = .ok v' w' ∧ OwnC8 w' base v' (L ++ [i]) ∧ w.grownBy w' v.ownBlock ∧ (v'.ownBlock = v.ownBlock ∨ v'.ownBlock = some w.heap.size) := by
  obtain ⟨i0, hi, hz0, hz1, hz2⟩ := info_parts infoIns
  have hnews : ∀ j u, (icCs [i])[j]? = some u → w.cell? ((⟨g, 0, none⟩ : Addr).add j) = some u := by
    intro j u hu
    have hj : j < 8 := by have := (List.getElem?_eq_some_iff.1 hu).1; rw [icCsLen] at this; simpa using this
    have := icCsAt [i] 0 (by simp) j hj
    rw [Nat.zero_mul, Nat.zero_add] at this
    rw [this] at hu
    rw [Addr.add_lit, Nat.zero_add, hg.cell j]
    rw [List.getElem?_toArray]
    exact hu
  obtain ⟨v', w', hrun, k1, hgr, _, hblk⟩ := run_append_own_at (P := Tryd.prog) w base 40 ty 47 i0 _ 8 64 Tryd.underlying40 hi hz0 hz1 hz2 rfl (by decide) v L.length (icCs L) h ⟨g, 0, none⟩ 1 1 (icCs [i]) (by rw [icCsLen]; rfl) hnews (icCsOne _) (by unfold maxLen; omega) (by omega) hbase
  exact ⟨v', w', hrun, by unfold OwnC8; rw [icCsApp, List.length_append]; exact k1, hgr, hblk⟩
end
end Go.Proofs.YtnnpkbonbemeaaaDoor
