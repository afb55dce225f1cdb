/-
  append of pairs onto rows of any length; a relation's own box.
-/
import Derived.Test.YthigdniepifohaaDoorKLFw
import Derived.Test.YthigdniepifohaaDoorKRRefV
namespace Go.Proofs.YthigdniepifohaaDoor
open Go Go.RowKit

/-! ### Rows of pairs -/
theorem ownPNew (w : World) (base : Nat) (h : base ≤ w.heap.size) : OwnP (w.alloc (.cells #[] 43)) base (.slice (some ⟨w.heap.size, 0, none⟩) 0 0) [] :=
  ⟨rfl, .inr ⟨w.heap.size, 0, #[], rfl, h, heap_alloc_new w _, Nat.le_refl _, Nat.zero_le _, rfl, rfl⟩⟩
theorem runAppB (w : World) (base : Nat) (ty : TypeId) (v : Value) (l : Prs) (hown : OwnP w base v l) (A : Option Addr) (m c : Nat) (news : Prs) (hm : news.length = m) (hr : Rp w A c news) (hb : (l.length + m) * 16 ≤ 140737488355328) (hbase : base ≤ w.heap.size) :
    ∃ v' w', (Builtin.append_ #[22, 22] ty #[v, .slice A m c]).run Tryd.prog w = .ok v' w' ∧ OwnP w' base v' (l ++ news) ∧ w.grownBy w' v.ownBlock := by
  obtain ⟨i0, hi, hz0, hz1, hz2⟩ := info_parts infoPair
  have ht := Tryd.underlying22
  rcases A with _ | a
  · have hn : news = [] := by
      rcases Nat.eq_zero_or_pos news.length with h0 | h0
      · exact List.eq_nil_of_length_eq_zero h0
      · obtain ⟨b, off, h, _⟩ := hr.at_ h0
        cases h
    subst hn
    subst hm
    refine ⟨v, w, ?_, by simpa using hown, World.grownBy.refl w _⟩
    rcases hown.2 with ⟨rfl, h0⟩ | ⟨g, cap, cur, rfl, _, _, hnc, _⟩
    · simp [Builtin.append_, run_underlying ht, sizeOf, typeInfo, hi, Builtin.lenOf, Builtin.firstCells]
    · simp [Builtin.append_, run_underlying ht, sizeOf, typeInfo, hi, Builtin.lenOf, Builtin.firstCells, hnc, storeCells]
  · have hcells : ∀ j u, (ct news)[j]? = some u → w.cell? (a.add j) = some u := by
      rcases Nat.eq_zero_or_pos news.length with h0 | h0
      · obtain rfl := List.eq_nil_of_length_eq_zero h0
        intro j u hu
        simp [ct] at hu
      · obtain ⟨b, off, h, _⟩ := hr.at_ h0
        injection h with h
        subst h
        exact ctCells hr rfl
    obtain ⟨v', w', hrun, o1, g1, _, _⟩ := run_append_own_at (P := Tryd.prog) w base 22 ty 43 i0 _ 2 16 ht hi hz0 hz1 hz2 rfl (by decide) v l.length (ct l) hown a m c (ct news) (by rw [ctLen, hm]) hcells (ctOne _) (by unfold maxLen; omega) hb hbase
    refine ⟨v', w', hrun, ?_, g1⟩
    unfold OwnP
    rw [List.length_append, ctApp, hm]
    exact o1
theorem BoxR.grown {X X2 : World} {g base : Nat} {N : Int} {v u : Value} {l : Prs} (h : BoxR X g N v) (ho : OwnP X base u l) (hg : X.grownBy X2 u.ownBlock) : BoxR X2 g N v := by
  have h' : X.heap[g]? = some (.cells #[.int .i64 N, v] 24 (0, 0)) := h
  refine (hg.block g (Array.getElem?_eq_some_iff.1 h').1 fun hh => ?_).trans h'
  rcases ho.2 with ⟨h2, _⟩ | ⟨b, cap, cur', h2, _, hb, _⟩
  · rw [h2] at hh; simp [Value.ownBlock] at hh
  · rw [h2] at hh
    simp [Value.ownBlock] at hh
    subst hh
    rw [hb] at h'
    injection h' with hq
    injection hq with _ ht
    exact absurd ht (by decide)
theorem OwnP.boxed {X : World} {g base : Nat} {N N' : Int} {v u u' : Value} {l : Prs} (h : OwnP X base u l) (hB : BoxR X g N' v) : OwnP ((X.setCell ⟨g, 0, none⟩ (.int .i64 N)).setCell ⟨g, 1, none⟩ u') base u l := by
  have h' : X.heap[g]? = some (.cells #[.int .i64 N', v] 24 (0, 0)) := hB
  refine h.chg (F := fun k => k ≠ g) ⟨rfl, rfl, rfl, by rw [World.size_setCell, World.size_setCell]; exact Nat.le_refl _, fun k _ hk => (heap_setCell_other _ ⟨g, 1, none⟩ k _ hk).trans (heap_setCell_other _ ⟨g, 0, none⟩ k _ hk)⟩ fun b hb e => ?_
  subst e
  rcases h.2 with ⟨h2, _⟩ | ⟨b', cap, cur', h2, _, hbb, _⟩
  · rw [h2] at hb; simp [Value.ownBlock] at hb
  · rw [h2] at hb
    simp [Value.ownBlock] at hb
    subst hb
    rw [hbb] at h'
    injection h' with hq
    injection hq with _ ht
    exact absurd ht (by decide)
theorem OwnP.rdAt {X : World} {base n c : Nat} {A : Option Addr} {l : Prs} (h : OwnP X base (.slice A n c) l) : Rp X A c l := by
  obtain ⟨A3, c3, e3, hr, _⟩ := h.rd
  injection e3 with e1 _ e2
  subst e1; subst e2
  exact hr
theorem OwnP.boxed1 {X : World} {g base : Nat} {N' : Int} {v u u' : Value} {l : Prs} (h : OwnP X base u l) (hB : BoxR X g N' v) : OwnP (X.setCell ⟨g, 1, none⟩ u') base u l := by
  have h' : X.heap[g]? = some (.cells #[.int .i64 N', v] 24 (0, 0)) := hB
  refine h.chg (F := fun k => k ≠ g) ⟨rfl, rfl, rfl, by rw [World.size_setCell]; exact Nat.le_refl _, fun k _ hk => heap_setCell_other _ ⟨g, 1, none⟩ k _ hk⟩ fun b hb e => ?_
  subst e
  rcases h.2 with ⟨h2, _⟩ | ⟨b', cap, cur', h2, _, hbb, _⟩
  · rw [h2] at hb; simp [Value.ownBlock] at hb
  · rw [h2] at hb
    simp [Value.ownBlock] at hb
    subst hb
    rw [hbb] at h'
    injection h' with hq
    injection hq with _ ht
    exact absurd ht (by decide)
end Go.Proofs.YthigdniepifohaaDoor
