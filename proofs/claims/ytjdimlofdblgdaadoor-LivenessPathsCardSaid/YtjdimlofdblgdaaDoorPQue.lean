/-
  A queue: a row of integers in a block of the call's own, its head cut off again and again, its end appended to.
-/
import Derived.Test.YtjdimlofdblgdaaDoorPOwn
import Derived.ArgAppend
namespace Go.Proofs.YtjdimlofdblgdaaDoor
open Go Go.RowKit

/-- v is a row of integers in a block of the call's own (from block base on), from some place on; the cells behind it up to its capacity are its own too. -/
def OwnQ (w : World) (base : Nat) (v : Value) (l : List Int) : Prop :=
  (v = .slice none 0 0 ∧ l = []) ∨ ∃ g off cap, v = .slice (some ⟨g, off, none⟩) l.length cap ∧ base ≤ g ∧ g < w.heap.size ∧ l.length ≤ cap ∧ cap ≤ maxLen ∧ (∀ j, j < cap → (w.cell? ⟨g, off + j, none⟩).isSome = true) ∧ (∀ j, w.frozen? ⟨g, j, none⟩ = false) ∧ ∀ j (h : j < l.length), w.cell? ⟨g, off + j, none⟩ = some (.int .i64 l[j])
theorem OwnQ.ofOwn {w : World} {base : Nat} {v : Value} {l : List Int} (h : OwnI w base v l) : OwnQ w base v l := by
  rcases h.2 with ⟨rfl, h0⟩ | ⟨g, cap, cur, rfl, hb, hg, hc, hm, hs, ht⟩
  · exact .inl ⟨rfl, List.eq_nil_of_length_eq_zero h0⟩
  · refine .inr ⟨g, 0, cap, rfl, hb, (World.ownsRow.lt h g rfl).2, hc, hm, fun j hj => ?_, fun j => by simp [World.frozen?, hg], fun j hj => ?_⟩
    · rw [cell_of_row w g (0 + j) cur 3 (0, 0) hg, Array.getElem?_eq_getElem (by omega)]
      rfl
    · have := World.ownsRow.cells h (g := g) rfl j (.int .i64 l[j]) (by unfold iv; rw [List.getElem?_map, List.getElem?_eq_getElem hj]; rfl)
      rw [Addr.add_lit] at this
      exact this
theorem OwnQ.rd {w : World} {base : Nat} {v : Value} {l : List Int} (h : OwnQ w base v l) : ∃ A c, v = .slice A l.length c ∧ Rd w A c l ∧ (∀ ad, A = some ad → base ≤ ad.block) := by
  rcases h with ⟨rfl, rfl⟩ | ⟨g, off, cap, rfl, hb, hg, hc, hm, _, _, hl⟩
  · exact ⟨none, 0, rfl, Rd.nil, by simp⟩
  · refine ⟨some ⟨g, off, none⟩, cap, rfl, ⟨by rw [iv, List.length_map]; exact hc, hm, fun _ => ⟨_, rfl, hg, fun j u hu => ?_⟩⟩, fun ad h => by injection h with h; subst h; exact hb⟩
    have hj : j < l.length := by have := (List.getElem?_eq_some_iff.1 hu).1; rw [iv, List.length_map] at this; exact this
    rw [iv, List.getElem?_map, List.getElem?_eq_getElem hj] at hu
    rw [Addr.add_lit, hl j hj]
    exact hu
theorem OwnQ.chg {w X : World} {base : Nat} {v : Value} {l : List Int} {F : Nat → Prop} (h : OwnQ w base v l) (hc : Chg w X F) (hF : ∀ g, base ≤ g → F g) : OwnQ X base v l := by
  rcases h with ⟨rfl, rfl⟩ | ⟨g, off, cap, rfl, hb, hg, hcc, hm, h1, h2, h3⟩
  · exact .inl ⟨rfl, rfl⟩
  · have e := hc.block g hg (hF g hb)
    have ec : ∀ j, X.cell? ⟨g, j, none⟩ = w.cell? ⟨g, j, none⟩ := fun j => World.cell?_of_block e
    have ef : ∀ j, X.frozen? ⟨g, j, none⟩ = w.frozen? ⟨g, j, none⟩ := fun j => by unfold World.frozen?; rw [show X.heap[(⟨g, j, none⟩ : Addr).block]? = w.heap[(⟨g, j, none⟩ : Addr).block]? from e]
    exact .inr ⟨g, off, cap, rfl, hb, Nat.lt_of_lt_of_le hg hc.size, hcc, hm, fun j hj => by rw [ec]; exact h1 j hj, fun j => by rw [ef]; exact h2 j, fun j hj => by rw [ec]; exact h3 j hj⟩
theorem OwnQ.below {w X : World} {base : Nat} {v : Value} {l : List Int} (h : OwnQ w base v l) (hb : Below w.heap.size w X) : OwnQ X base v l := h.chg (Chg.ofBelow hb fun _ => True) fun _ _ => trivial
theorem OwnQ.mono {w : World} {base base' : Nat} {v : Value} {l : List Int} (h : OwnQ w base v l) (hb : base' ≤ base) : OwnQ w base' v l := by
  rcases h with h | ⟨g, off, cap, e, h1, r⟩
  · exact .inl h
  · exact .inr ⟨g, off, cap, e, Nat.le_trans hb h1, r⟩
set_option maxRecDepth 100000 in
/-- s[1:] under one name. -/
theorem cutQ {w : World} {base : Nat} {A : Option Addr} {n c : Nat} {x : Int} {t : List Int} (h : OwnQ w base (.slice A n c) (x :: t)) :
    ∃ T : Option Addr, (∀ W, (Instr.sliceAt 34 (.slice A n c) (some (.int .i64 1)) none none).run Tryd.prog W = .ok (.slice T (n - 1) (c - 1)) W) ∧ n = t.length + 1 ∧ n ≤ c ∧ (∀ W, OwnQ W base (.slice A n c) (x :: t) → OwnQ W base (.slice T (n - 1) (c - 1)) t) := by
  have hn : n = t.length + 1 ∧ n ≤ c := by
    rcases h with ⟨_, h⟩ | ⟨g, off, cap, e, _, _, hc, _⟩
    · cases h
    · injection e with _ e2 e3
      subst e3
      exact ⟨e2, by rw [e2]; exact hc⟩
  obtain ⟨hn, hnc⟩ := hn
  refine ⟨if c = 1 then A else A.map (·.add 1), fun W => ?_, hn, hnc, fun W hW => ?_⟩
  · rw [run_sliceAt_slice (h := Tryd.underlying34), run_slice_l (ht := Tryd.underlying34) (h0 := by omega) (h1 := by omega)]
    have : (sizeOf (Tryd.prog.elem 34)).run Tryd.prog W = .ok 1 W := by kernel_rfl
    rw [this]
    simp [Result.andThen, sliced]
  · rcases hW with ⟨_, h⟩ | ⟨g, off, cap, e, h0, hg, hc, hm, h1, h2, h3⟩
    · cases h
    · injection e with e1 e2 e3
      subst e1; subst e3
      rw [List.length_cons] at e2 hc
      by_cases h1c : c = 1
      · subst h1c
        rw [if_pos rfl]
        have ht : t = [] := List.eq_nil_of_length_eq_zero (by omega)
        subst ht
        refine .inr ⟨g, off, 0, ?_, h0, hg, Nat.le_refl _, Nat.zero_le _, fun j hj => absurd hj (Nat.not_lt_zero _), h2, fun j hj => absurd hj (Nat.not_lt_zero _)⟩
        rw [e2]; rfl
      · rw [if_neg h1c]
        refine .inr ⟨g, off + 1, c - 1, ?_, h0, hg, by omega, by omega, fun j hj => ?_, h2, fun j hj => ?_⟩
        · rw [e2]
          show Value.slice (some ((⟨g, off, none⟩ : Addr).add 1)) _ _ = _
          rw [Addr.add_lit]; rfl
        · rw [show off + 1 + j = off + (j + 1) by omega]
          exact h1 (j + 1) (by omega)
        · rw [show off + 1 + j = off + (j + 1) by omega]
          exact h3 (j + 1) (by rw [List.length_cons]; omega)
theorem OwnQ.lt {w : World} {base : Nat} {v : Value} {l : List Int} (h : OwnQ w base v l) {g : Nat} (hg : v.ownBlock = some g) : base ≤ g ∧ g < w.heap.size := by
  rcases h with ⟨rfl, _⟩ | ⟨g', off, cap, rfl, h1, h2, _⟩
  · simp [Value.ownBlock] at hg
  · have : g' = g := by simpa [Value.ownBlock] using hg
    subst this
    exact ⟨h1, h2⟩
theorem chgCells {b : Nat} : ∀ (vs : List Value) (o : Nat) (w : World), Chg w (w.setCells b o vs) (fun q => q ≠ b)
  | [], _, w => Chg.refl _ _
  | v :: r, o, w => by
    rw [World.setCells]
    have h1 : Chg w (w.setCell ⟨b, o, none⟩ v) (fun q => q ≠ b) := ⟨rfl, rfl, rfl, by simp, fun k _ hk => heap_setCell_other w _ k _ hk⟩
    exact h1.trans (chgCells r (o + 1) _) fun _ _ h => h
/-- What append onto a queue gives. -/
def QTo (w : World) (base : Nat) (v : Value) (l : List Int) (v' : Value) (w' : World) : Prop := OwnQ w' base v' l ∧ Chg w w' (fun q => v.ownBlock ≠ some q) ∧ ∀ g, v'.ownBlock = some g → v.ownBlock = some g ∨ w.heap.size ≤ g
set_option maxRecDepth 100000 in
/-- append of integers onto a queue. -/
theorem runQ (w : World) (ty : TypeId) (base : Nat) (v : Value) (l : List Int) (hq : OwnQ w base v l) (A : Option Addr) (m c : Nat) (news : List Int) (hm : m = news.length) (hr : Rd w A c news) (hl : l.length + m ≤ 1000000) (hbase : base ≤ w.heap.size) :
    ∃ v' w', (Builtin.append_ #[34, 34] ty #[v, .slice A m c]).run Tryd.prog w = .ok v' w' ∧ QTo w base v (l ++ news) v' w' := by
  obtain ⟨i0, hi, hz0, hz1, hz2⟩ := info_parts infoInt
  have hml : m = (iv news).length := by rw [iv, List.length_map]; exact hm
  rcases hq with ⟨rfl, rfl⟩ | ⟨g, off, cap, rfl, hb, hg, hc, hmx, h1, h2, h3⟩
  · obtain ⟨v', w', hrun, k1, _, hgr, _⟩ := runApp (P := Tryd.prog) (w := w) w.heap.size 34 ty 3 i0 _ 8 Tryd.underlying34 hi hz0 hz1 hz2 rfl (.slice none 0 0) 0 [] (World.ownsRow_nil _ _ _ _) A m c (iv news) hml hr (ivOne _) (by omega) (by unfold maxLen; omega) (Nat.le_refl _)
    have ho : OwnI w' w.heap.size v' news := by
      unfold OwnI
      rw [List.nil_append] at k1
      rw [Nat.zero_add, hm] at k1
      exact k1
    refine ⟨v', w', hrun, ?_, Chg.ofGrown hgr fun _ h => h, fun g hg => .inr (World.ownsRow.lt ho g hg).1⟩
    rw [List.nil_append]
    exact (OwnQ.ofOwn ho).mono hbase
  rcases A with _ | a
  · have hn : news = [] := by
      rcases Nat.eq_zero_or_pos news.length with h0 | h0
      · exact List.eq_nil_of_length_eq_zero h0
      · obtain ⟨ad, h, _⟩ := Rds.at_ hr (by rw [iv, List.length_map]; exact h0)
        cases h
    subst hn
    subst hm
    refine ⟨_, w, ?_, by rw [List.append_nil]; exact .inr ⟨g, off, cap, rfl, hb, hg, hc, hmx, h1, h2, h3⟩, Chg.refl _ _, fun _ h => .inl h⟩
    simp [Builtin.append_, run_underlying Tryd.underlying34, sizeOf, typeInfo, hi, Builtin.lenOf, Builtin.firstCells, hc, storeCells]
  · have hnews : ∀ j u, (iv news)[j]? = some u → w.cell? (a.add j) = some u := by
      intro j u hu
      have : 0 < (iv news).length := by have := (List.getElem?_eq_some_iff.1 hu).1; omega
      obtain ⟨ad, h, _, hcc⟩ := Rds.at_ hr this
      injection h with h
      subst h
      exact hcc j u hu
    by_cases hroom : l.length + m ≤ cap
    · have hrr := run_append_room_cells (P := Tryd.prog) w 34 ty 3 i0 Tryd.underlying34 hi g off l.length cap a m c (iv news) (by rw [hz1]; omega) hnews (ivOne _) hroom
        (fun j hj => by rw [hz1, Nat.mul_one, Nat.add_assoc]; exact h1 _ (by omega)) (fun j _ => h2 _)
      rw [hz1, Nat.mul_one] at hrr
      have hin : ∀ j, j < (iv news).length → (w.cell? ⟨g, off + l.length + j, none⟩).isSome = true := fun j hj => by rw [Nat.add_assoc]; exact h1 _ (by omega)
      have hcg := chgCells (b := g) (iv news) (off + l.length) w
      refine ⟨_, _, hrr, .inr ⟨g, off, cap, by rw [List.length_append, ← hm], hb, Nat.lt_of_lt_of_le hg hcg.size, by rw [List.length_append, ← hm]; exact hroom, hmx, fun j hj => ?_, fun j => by rw [World.frozen?_setCells]; exact h2 j, fun j hj => ?_⟩, hcg.mono fun k hk e => hk (by simp [Value.ownBlock, e]), fun _ h => .inl h⟩
      · by_cases hj2 : l.length ≤ j ∧ j < l.length + m
        · obtain ⟨i, rfl⟩ : ∃ i, j = l.length + i := ⟨j - l.length, by omega⟩
          have := World.cell?_setCells_in g (iv news) (off + l.length) w hin i (by omega)
          rw [← Nat.add_assoc, this]; rfl
        · rw [World.cell?_setCells_out g _ _ _ _ (fun _ _ => by show off + j < off + l.length ∨ off + l.length + (iv news).length ≤ off + j; omega)]
          exact h1 j hj
      · by_cases hj2 : j < l.length
        · rw [World.cell?_setCells_out g _ _ _ _ (fun _ _ => by show off + j < off + l.length ∨ off + l.length + (iv news).length ≤ off + j; omega), h3 j hj2]
          rw [List.getElem_append_left hj2]
        · rw [List.length_append] at hj
          obtain ⟨i, rfl⟩ : ∃ i, j = l.length + i := ⟨j - l.length, by omega⟩
          have hi2 : i < news.length := by omega
          have := World.cell?_setCells_in g (iv news) (off + l.length) w hin i (by omega)
          rw [← Nat.add_assoc, this]
          simp [iv]
    · have hrr := run_append_arg_grows (P := Tryd.prog) w 34 ty 3 i0 _ 1 8 Tryd.underlying34 hi hz0 hz1 hz2 rfl (by decide) ⟨g, off, none⟩ l.length cap (iv l) (by rw [iv, List.length_map]; omega) (fun j u hu => by
        have hj : j < l.length := by have := (List.getElem?_eq_some_iff.1 hu).1; rw [iv, List.length_map] at this; exact this
        rw [iv, List.getElem?_map, List.getElem?_eq_getElem hj] at hu
        rw [Addr.add_lit, h3 j hj]
        exact hu) a m c (iv news) (by omega) hnews (by omega) (by unfold maxLen; omega) (by omega)
      obtain ⟨v', w', hrun, k1, hgr⟩ := hrr
      have ho : OwnI w' w.heap.size v' (l ++ news) := by
        unfold OwnI iv at *
        rw [List.length_append, ← hm, List.map_append]
        exact k1
      exact ⟨v', w', hrun, (OwnQ.ofOwn ho).mono hbase, Chg.ofGrown hgr (fun _ _ e => nomatch e), fun g hg => .inr (World.ownsRow.lt ho g hg).1⟩
theorem appQ (w : World) {ops : Array Oper} {rest : List Oper} {o : Oper} {a : Act} {Q : Exit → Act → World → Prop} (hgd : o.guard = none) (s x : Operand)
    (ho : o.op = .call { callee := .builtin .append, args := #[s, x], argTypes := #[34, 34] })
    (base : Nat) (v : Value) (l : List Int) (hs : a.eval s = v) (hq : OwnQ w base v l) (A : Option Addr) (m c : Nat) (news : List Int) (hx : a.eval x = .slice A m c) (hm : m = news.length) (hr : Rd w A c news) (hl : l.length + m ≤ 1000000) (hbase : base ≤ w.heap.size)
    (h : ∀ v' w', QTo w base v (l ++ news) v' w' → wpList Tryd.prog ops Q rest (a.put o.dst v') w') : wpList Tryd.prog ops Q (o :: rest) a w := by
  refine wpList_plain hgd fun K hK => ?_
  obtain ⟨v', w', hrun, hto⟩ := runQ w o.type base v l hq A m c news hm hr hl hbase
  unfold Oper.wp execOp
  simp only [ho, resolve, invoke, builtin, Sem.run_bind, Sem.run_pure, Result.andThen_ok, List.map_toArray, List.map_cons, List.map_nil, hs, hx, hrun]
  exact hK _ _ (h v' w' hto)
end Go.Proofs.YtjdimlofdblgdaaDoor
