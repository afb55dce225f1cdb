/-
  append of slices of pairs onto a row of the call's own.
-/
import Derived.Test.YtpfdhjmhoggioaaRRefL
namespace Go.Proofs.Ytpfdhjmhoggioaa
open Go.RowKit Go.Maps

/-- append of a slice of pairs onto a row of the call's own. -/
theorem runAppPs (w : World) (base : Nat) (ty : TypeId) (v : Value) (l : Prs) (hown : OwnP w base v l) (A : Option Addr) (m c : Nat) (news : Prs) (hm : news.length = m) (hr : Rp w A c news) (hb : l.length + m ≤ 1000000) (hbase : base ≤ w.heap.size) :
    ∃ v' w', (Builtin.append_ #[22, 22] ty #[v, .slice A m c]).run Try.prog w = .ok v' w' ∧ OwnP w' base v' (l ++ news) ∧ w.grownBy w' v.ownBlock := by
  obtain ⟨i0, hi, hz0, hz1, hz2⟩ := info_parts infoPair
  have ht := Try.underlying22
  rcases A with _ | a
  · have hn : news = [] := by
      rcases Nat.eq_zero_or_pos news.length with h0 | h0
      · exact List.eq_nil_of_length_eq_zero h0
      · obtain ⟨b, off, h, _⟩ := hr.at_ h0
        cases h
    subst hn
    subst hm
    refine ⟨v, w, ?_, by simpa using hown, World.grownBy.refl w _⟩
    rcases hown.2 with ⟨rfl, h0⟩ | ⟨g, cap, cur, rfl, _, _, hnc, _⟩
    · simp [Builtin.append_, run_underlying ht, sizeOf, typeInfo, hi, Builtin.lenOf, Builtin.firstCells]
    · simp [Builtin.append_, run_underlying ht, sizeOf, typeInfo, hi, Builtin.lenOf, Builtin.firstCells, hnc, storeCells]
  · have hcells : ∀ j u, (ct news)[j]? = some u → w.cell? (a.add j) = some u := by
      rcases Nat.eq_zero_or_pos news.length with h0 | h0
      · obtain rfl := List.eq_nil_of_length_eq_zero h0
        intro j u hu
        simp [ct] at hu
      · obtain ⟨b, off, h, _⟩ := hr.at_ h0
        injection h with h
        subst h
        exact ctCells hr rfl
    obtain ⟨v', w', hrun, o1, g1, _, _⟩ := run_append_own_at (P := Try.prog) w base 22 ty 38 i0 _ 2 16 ht hi hz0 hz1 hz2 rfl (by decide) v l.length (ct l) hown a m c (ct news) (by rw [ctLen, hm]) hcells (ctOne _) (by unfold maxLen; omega) (by omega) hbase
    refine ⟨v', w', hrun, ?_, g1⟩
    unfold OwnP
    rw [List.length_append, ctApp, hm]
    exact o1
theorem appPs (w : World) {ops : Array Oper} {rest : List Oper} {o : Oper} {a : Act} {Q : Exit → Act → World → Prop} (hgd : o.guard = none) (s x : Operand)
    (ho : o.op = .call { callee := .builtin .append, args := #[s, x], argTypes := #[22, 22] })
    (base : Nat) (v : Value) (l : Prs) (hs : a.eval s = v) (hown : OwnP w base v l) (A : Option Addr) (m c : Nat) (news : Prs)
    (hx : a.eval x = .slice A m c) (hm : news.length = m) (hr : Rp w A c news) (hb : l.length + m ≤ 1000000) (hbase : base ≤ w.heap.size)
    (h : ∀ A k c w', Hid (OwnP w' base (.slice A k c) (l ++ news)) → Hid ((l ++ news).length = k) → Below base w w' → wpList Try.prog ops Q rest (a.put o.dst (.slice A k c)) w') :
    wpList Try.prog ops Q (o :: rest) a w := by
  refine wpList_plain hgd fun K hK => ?_
  obtain ⟨v', w', hrun, h2, h3⟩ := runAppPs w base o.type v l hown A m c news hm hr hb hbase
  unfold Oper.wp execOp
  simp only [ho, resolve, invoke, builtin, Sem.run_bind, Sem.run_pure, Result.andThen_ok, List.map_toArray, List.map_cons, List.map_nil, hs, hx, hrun]
  obtain ⟨A', c', rfl, _, _⟩ := h2.rd
  exact hK _ _ (h A' _ c' w' (Lib.hid h2) (Lib.hid rfl) ((Below.refl base w).grown h3 hbase fun k hk => (OwnP.lt hown hk).1))

/-- append of a pair as one step of a region that draws its order. -/
theorem stepP (w : World) {ops : Array Oper} {o : Oper} {a : Act} {K : Act → World → Prop} {Q : Exit → Act → World → Prop} {E : Prop} (hgd : o.guard = none) (s x : Operand)
    (ho : o.op = .call { callee := .builtin .append, args := #[s, x], argTypes := #[22, 22] })
    (base : Nat) (v : Value) (l : Prs) (hs : a.eval s = v) (hown : OwnP w base v l) (A : Option Addr) (m c : Nat) (news : Prs)
    (hx : a.eval x = .slice A m c) (hm : news.length = m) (hr : Rp w A c news) (hb : l.length + m ≤ 1000000) (hbase : base ≤ w.heap.size)
    (h : ∀ A k c w', Hid (OwnP w' base (.slice A k c) (l ++ news)) → Hid ((l ++ news).length = k) → Below base w w' → K (a.put o.dst (.slice A k c)) w') :
    if Region.wanted o (yielded ops a.tmps) = true then Oper.wp Try.prog o a w K Q else E := by
  have hw : Region.wanted o (yielded ops a.tmps) = true := by simp [Region.wanted, hgd]
  rw [if_pos hw]
  obtain ⟨v', w', hrun, h2, h3⟩ := runAppPs w base o.type v l hown A m c news hm hr hb hbase
  unfold Oper.wp execOp
  simp only [ho, resolve, invoke, builtin, Sem.run_bind, Sem.run_pure, Result.andThen_ok, List.map_toArray, List.map_cons, List.map_nil, hs, hx, hrun]
  obtain ⟨A', c', rfl, _, _⟩ := h2.rd
  exact h A' _ c' w' (Lib.hid h2) (Lib.hid rfl) ((Below.refl base w).grown h3 hbase fun k hk => (OwnP.lt hown hk).1)

end Go.Proofs.Ytpfdhjmhoggioaa
