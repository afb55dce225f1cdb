/-
  A queue: a row of integers in a block of the call's own, its head cut off again and again, its end appended to.
-/
import Derived.Test.YtkanamdfjegcbaaDoorMOwn
import Derived.ArgAppend
namespace Go.Proofs.YtkanamdfjegcbaaDoor
open Go Go.RowKit

/-- v is a row of integers in a block of the call's own (from block base on), from some place on; the cells behind it up to its capacity are its own too. -/
def OwnQ (w : World) (base : Nat) (v : Value) (l : List Int) : Prop :=
  (v = .slice none 0 0 ∧ l = []) ∨ ∃ g off cap, v = .slice (some ⟨g, off, none⟩) l.length cap ∧ base ≤ g ∧ g < w.heap.size ∧ l.length ≤ cap ∧ cap ≤ maxLen ∧ (∀ j, j < cap → (w.cell? ⟨g, off + j, none⟩).isSome = true) ∧ (∀ j, w.frozen? ⟨g, j, none⟩ = false) ∧ ∀ j (h : j < l.length), w.cell? ⟨g, off + j, none⟩ = some (.int .i64 l[j])
theorem OwnQ.ofOwn {w : World} {base : Nat} {v : Value} {l : List Int} (h : OwnI w base v l) : OwnQ w base v l := by
  rcases h.2 with ⟨rfl, h0⟩ | ⟨g, cap, cur, rfl, hb, hg, hc, hm, hs, ht⟩
  · exact .inl ⟨rfl, List.eq_nil_of_length_eq_zero h0⟩
  · refine .inr ⟨g, 0, cap, rfl, hb, (World.ownsRow.lt h g rfl).2, hc, hm, fun j hj => ?_, fun j => by simp [World.frozen?, hg], fun j hj => ?_⟩
    · rw [cell_of_row w g (0 + j) cur 3 (0, 0) hg, Array.getElem?_eq_getElem (by omega)]
      rfl
    · have := World.ownsRow.cells h (g := g) rfl j (.int .i64 l[j]) (by unfold iv; rw [List.getElem?_map, List.getElem?_eq_getElem hj]; rfl)
      rw [Addr.add_lit] at this
      exact this
theorem OwnQ.rd {w : World} {base : Nat} {v : Value} {l : List Int} (h : OwnQ w base v l) : ∃ A c, v = .slice A l.length c ∧ Rd w A c l ∧ (∀ ad, A = some ad → base ≤ ad.block) := by
  rcases h with ⟨rfl, rfl⟩ | ⟨g, off, cap, rfl, hb, hg, hc, hm, _, _, hl⟩
  · exact ⟨none, 0, rfl, Rd.nil, by simp⟩
  · refine ⟨some ⟨g, off, none⟩, cap, rfl, ⟨by rw [iv, List.length_map]; exact hc, hm, fun _ => ⟨_, rfl, hg, fun j u hu => ?_⟩⟩, fun ad h => by injection h with h; subst h; exact hb⟩
    have hj : j < l.length := by have := (List.getElem?_eq_some_iff.1 hu).1; rw [iv, List.length_map] at this; exact this
    rw [iv, List.getElem?_map, List.getElem?_eq_getElem hj] at hu
    rw [Addr.add_lit, hl j hj]
    exact hu
theorem OwnQ.chg {w X : World} {base : Nat} {v : Value} {l : List Int} {F : Nat → Prop} (h : OwnQ w base v l) (hc : Chg w X F) (hF : ∀ g, base ≤ g → F g) : OwnQ X base v l := by
  rcases h with ⟨rfl, rfl⟩ | ⟨g, off, cap, rfl, hb, hg, hcc, hm, h1, h2, h3⟩
  · exact .inl ⟨rfl, rfl⟩
  · have e := hc.block g hg (hF g hb)
    have ec : ∀ j, X.cell? ⟨g, j, none⟩ = w.cell? ⟨g, j, none⟩ := fun j => World.cell?_of_block e
    have ef : ∀ j, X.frozen? ⟨g, j, none⟩ = w.frozen? ⟨g, j, none⟩ := fun j => by unfold World.frozen?; rw [show X.heap[(⟨g, j, none⟩ : Addr).block]? = w.heap[(⟨g, j, none⟩ : Addr).block]? from e]
    exact .inr ⟨g, off, cap, rfl, hb, Nat.lt_of_lt_of_le hg hc.size, hcc, hm, fun j hj => by rw [ec]; exact h1 j hj, fun j => by rw [ef]; exact h2 j, fun j hj => by rw [ec]; exact h3 j hj⟩
theorem OwnQ.below {w X : World} {base : Nat} {v : Value} {l : List Int} (h : OwnQ w base v l) (hb : Below w.heap.size w X) : OwnQ X base v l := h.chg (Chg.ofBelow hb fun _ => True) fun _ _ => trivial
theorem OwnQ.mono {w : World} {base base' : Nat} {v : Value} {l : List Int} (h : OwnQ w base v l) (hb : base' ≤ base) : OwnQ w base' v l := by
  rcases h with h | ⟨g, off, cap, e, h1, r⟩
  · exact .inl h
  · exact .inr ⟨g, off, cap, e, Nat.le_trans hb h1, r⟩
theorem OwnQ.lt {w : World} {base : Nat} {v : Value} {l : List Int} (h : OwnQ w base v l) {g : Nat} (hg : v.ownBlock = some g) : base ≤ g ∧ g < w.heap.size := by
  rcases h with ⟨rfl, _⟩ | ⟨g', off, cap, rfl, h1, h2, _⟩
  · simp [Value.ownBlock] at hg
  · have : g' = g := by simpa [Value.ownBlock] using hg
    subst this
    exact ⟨h1, h2⟩
theorem chgCells {b : Nat} : ∀ (vs : List Value) (o : Nat) (w : World), Chg w (w.setCells b o vs) (fun q => q ≠ b)
  | [], _, w => Chg.refl _ _
  | v :: r, o, w => by
    rw [World.setCells]
    have h1 : Chg w (w.setCell ⟨b, o, none⟩ v) (fun q => q ≠ b) := ⟨rfl, rfl, rfl, by simp, fun k _ hk => heap_setCell_other w _ k _ hk⟩
    exact h1.trans (chgCells r (o + 1) _) fun _ _ h => h
theorem Below.low {B B' : Nat} {a b : World} (h : Below B a b) (hB : B' ≤ B) : Below B' a b := ⟨h.os, h.tape, h.output, h.size, fun k hk => h.block k (by omega)⟩
/-- What append onto a queue gives. -/
def QTo (w : World) (base : Nat) (v : Value) (l : List Int) (v' : Value) (w' : World) : Prop := OwnQ w' base v' l ∧ Chg w w' (fun q => v.ownBlock ≠ some q) ∧ ∀ g, v'.ownBlock = some g → v.ownBlock = some g ∨ w.heap.size ≤ g
set_option maxRecDepth 100000 in
/-- append of integers onto a queue. -/
theorem runQ (w : World) (ty : TypeId) (base : Nat) (v : Value) (l : List Int) (hq : OwnQ w base v l) (A : Option Addr) (m c : Nat) (news : List Int) (hm : m = news.length) (hr : Rd w A c news) (hl : l.length + m ≤ 1000000) (hbase : base ≤ w.heap.size) :
    ∃ v' w', (Builtin.append_ #[34, 34] ty #[v, .slice A m c]).run Tryd.prog w = .ok v' w' ∧ QTo w base v (l ++ news) v' w' := by
  obtain ⟨i0, hi, hz0, hz1, hz2⟩ := info_parts infoInt
  have hml : m = (iv news).length := by rw [iv, List.length_map]; exact hm
  rcases hq with ⟨rfl, rfl⟩ | ⟨g, off, cap, rfl, hb, hg, hc, hmx, h1, h2, h3⟩
  · obtain ⟨v', w', hrun, k1, _, hgr, _⟩ := runApp (P := Tryd.prog) (w := w) w.heap.size 34 ty 3 i0 _ 8 Tryd.underlying34 hi hz0 hz1 hz2 rfl (.slice none 0 0) 0 [] (World.ownsRow_nil _ _ _ _) A m c (iv news) hml hr (ivOne _) (by omega) (by unfold maxLen; omega) (Nat.le_refl _)
    have ho : OwnI w' w.heap.size v' news := by
      unfold OwnI
      rw [List.nil_append] at k1
      rw [Nat.zero_add, hm] at k1
      exact k1
    refine ⟨v', w', hrun, ?_, Chg.ofGrown hgr fun _ h => h, fun g hg => .inr (World.ownsRow.lt ho g hg).1⟩
    rw [List.nil_append]
    exact (OwnQ.ofOwn ho).mono hbase
  rcases A with _ | a
  · have hn : news = [] := by
      rcases Nat.eq_zero_or_pos news.length with h0 | h0
      · exact List.eq_nil_of_length_eq_zero h0
      · obtain ⟨ad, h, _⟩ := Rds.at_ hr (by rw [iv, List.length_map]; exact h0)
        cases h
    subst hn
    subst hm
    refine ⟨_, w, ?_, by rw [List.append_nil]; exact .inr ⟨g, off, cap, rfl, hb, hg, hc, hmx, h1, h2, h3⟩, Chg.refl _ _, fun _ h => .inl h⟩
    simp [Builtin.append_, run_underlying Tryd.underlying34, sizeOf, typeInfo, hi, Builtin.lenOf, Builtin.firstCells, hc, storeCells]
  · have hnews : ∀ j u, (iv news)[j]? = some u → w.cell? (a.add j) = some u := by
      intro j u hu
      have : 0 < (iv news).length := by have := (List.getElem?_eq_some_iff.1 hu).1; omega
      obtain ⟨ad, h, _, hcc⟩ := Rds.at_ hr this
      injection h with h
      subst h
      exact hcc j u hu
    by_cases hroom : l.length + m ≤ cap
    · have hrr := run_append_room_cells (P := Tryd.prog) w 34 ty 3 i0 Tryd.underlying34 hi g off l.length cap a m c (iv news) (by rw [hz1]; omega) hnews (ivOne _) hroom
        (fun j hj => by rw [hz1, Nat.mul_one, Nat.add_assoc]; exact h1 _ (by omega)) (fun j _ => h2 _)
      rw [hz1, Nat.mul_one] at hrr
      have hin : ∀ j, j < (iv news).length → (w.cell? ⟨g, off + l.length + j, none⟩).isSome = true := fun j hj => by rw [Nat.add_assoc]; exact h1 _ (by omega)
      have hcg := chgCells (b := g) (iv news) (off + l.length) w
      refine ⟨_, _, hrr, .inr ⟨g, off, cap, by rw [List.length_append, ← hm], hb, Nat.lt_of_lt_of_le hg hcg.size, by rw [List.length_append, ← hm]; exact hroom, hmx, fun j hj => ?_, fun j => by rw [World.frozen?_setCells]; exact h2 j, fun j hj => ?_⟩, hcg.mono fun k hk e => hk (by simp [Value.ownBlock, e]), fun _ h => .inl h⟩
      · by_cases hj2 : l.length ≤ j ∧ j < l.length + m
        · obtain ⟨i, rfl⟩ : ∃ i, j = l.length + i := ⟨j - l.length, by omega⟩
          have := World.cell?_setCells_in g (iv news) (off + l.length) w hin i (by omega)
          rw [← Nat.add_assoc, this]; rfl
        · rw [World.cell?_setCells_out g _ _ _ _ (fun _ _ => by show off + j < off + l.length ∨ off + l.length + (iv news).length ≤ off + j; omega)]
          exact h1 j hj
      · by_cases hj2 : j < l.length
        · rw [World.cell?_setCells_out g _ _ _ _ (fun _ _ => by show off + j < off + l.length ∨ off + l.length + (iv news).length ≤ off + j; omega), h3 j hj2]
          rw [List.getElem_append_left hj2]
        · rw [List.length_append] at hj
          obtain ⟨i, rfl⟩ : ∃ i, j = l.length + i := ⟨j - l.length, by omega⟩
          have hi2 : i < news.length := by omega
          have := World.cell?_setCells_in g (iv news) (off + l.length) w hin i (by omega)
          rw [← Nat.add_assoc, this]
          simp [iv]
    · have hrr := run_append_arg_grows (P := Tryd.prog) w 34 ty 3 i0 _ 1 8 Tryd.underlying34 hi hz0 hz1 hz2 rfl (by decide) ⟨g, off, none⟩ l.length cap (iv l) (by rw [iv, List.length_map]; omega) (fun j u hu => by
        have hj : j < l.length := by have := (List.getElem?_eq_some_iff.1 hu).1; rw [iv, List.length_map] at this; exact this
        rw [iv, List.getElem?_map, List.getElem?_eq_getElem hj] at hu
        rw [Addr.add_lit, h3 j hj]
        exact hu) a m c (iv news) (by omega) hnews (by omega) (by unfold maxLen; omega) (by omega)
      obtain ⟨v', w', hrun, k1, hgr⟩ := hrr
      have ho : OwnI w' w.heap.size v' (l ++ news) := by
        unfold OwnI iv at *
        rw [List.length_append, ← hm, List.map_append]
        exact k1
      exact ⟨v', w', hrun, (OwnQ.ofOwn ho).mono hbase, Chg.ofGrown hgr (fun _ _ e => nomatch e), fun g hg => .inr (World.ownsRow.lt ho g hg).1⟩
end Go.Proofs.YtkanamdfjegcbaaDoor
