/-
  A queue: a row of integers in a block of the call's own, its head cut off again and again, its end appended to.
-/
import Derived.Test.YtjoffidlfkmelaaDoorKOwn
import Derived.ArgAppend
import Derived.Test.YtjoffidlfkmelaaDoorKC4
import Derived.Test.YtjoffidlfkmelaaDoorKC6
namespace Go.Proofs.YtjoffidlfkmelaaDoor
open Go Go.RowKit

/-- v is a row of integers in a block of the call's own (from block base on), from some place on; the cells behind it up to its capacity are its own too. -/
def OwnQ (w : World) (base : Nat) (v : Value) (l : List Int) : Prop :=
  (v = .slice none 0 0 ∧ l = []) ∨ ∃ g off cap, v = .slice (some ⟨g, off, none⟩) l.length cap ∧ base ≤ g ∧ g < w.heap.size ∧ l.length ≤ cap ∧ cap ≤ maxLen ∧ (∀ j, j < cap → (w.cell? ⟨g, off + j, none⟩).isSome = true) ∧ (∀ j, w.frozen? ⟨g, j, none⟩ = false) ∧ ∀ j (h : j < l.length), w.cell? ⟨g, off + j, none⟩ = some (.int .i64 l[j])
theorem OwnQ.ofOwn {w : World} {base : Nat} {v : Value} {l : List Int} (h : OwnI w base v l) : OwnQ w base v l := by
  rcases h.2 with ⟨rfl, h0⟩ | ⟨g, cap, cur, rfl, hb, hg, hc, hm, hs, ht⟩
  · exact .inl ⟨rfl, List.eq_nil_of_length_eq_zero h0⟩
  · refine .inr ⟨g, 0, cap, rfl, hb, (World.ownsRow.lt h g rfl).2, hc, hm, fun j hj => ?_, fun j => by simp [World.frozen?, hg], fun j hj => ?_⟩
    · rw [cell_of_row w g (0 + j) cur 3 (0, 0) hg, Array.getElem?_eq_getElem (by omega)]
      rfl
    · have := World.ownsRow.cells h (g := g) rfl j (.int .i64 l[j]) (by unfold iv; rw [List.getElem?_map, List.getElem?_eq_getElem hj]; rfl)
      rw [Addr.add_lit] at this
      exact this
theorem OwnQ.rd {w : World} {base : Nat} {v : Value} {l : List Int} (h : OwnQ w base v l) : ∃ A c, v = .slice A l.length c ∧ Rd w A c l ∧ (∀ ad, A = some ad → base ≤ ad.block) := by
  rcases h with ⟨rfl, rfl⟩ | ⟨g, off, cap, rfl, hb, hg, hc, hm, _, _, hl⟩
  · exact ⟨none, 0, rfl, Rd.nil, by simp⟩
  · refine ⟨some ⟨g, off, none⟩, cap, rfl, ⟨by rw [iv, List.length_map]; exact hc, hm, fun _ => ⟨_, rfl, hg, fun j u hu => ?_⟩⟩, fun ad h => by injection h with h; subst h; exact hb⟩
    have hj : j < l.length := by have := (List.getElem?_eq_some_iff.1 hu).1; rw [iv, List.length_map] at this; exact this
    rw [iv, List.getElem?_map, List.getElem?_eq_getElem hj] at hu
    rw [Addr.add_lit, hl j hj]
    exact hu
theorem OwnQ.chg {w X : World} {base : Nat} {v : Value} {l : List Int} {F : Nat → Prop} (h : OwnQ w base v l) (hc : Chg w X F) (hF : ∀ g, base ≤ g → F g) : OwnQ X base v l := by
  rcases h with ⟨rfl, rfl⟩ | ⟨g, off, cap, rfl, hb, hg, hcc, hm, h1, h2, h3⟩
  · exact .inl ⟨rfl, rfl⟩
  · have e := hc.block g hg (hF g hb)
    have ec : ∀ j, X.cell? ⟨g, j, none⟩ = w.cell? ⟨g, j, none⟩ := fun j => World.cell?_of_block e
    have ef : ∀ j, X.frozen? ⟨g, j, none⟩ = w.frozen? ⟨g, j, none⟩ := fun j => by unfold World.frozen?; rw [show X.heap[(⟨g, j, none⟩ : Addr).block]? = w.heap[(⟨g, j, none⟩ : Addr).block]? from e]
    exact .inr ⟨g, off, cap, rfl, hb, Nat.lt_of_lt_of_le hg hc.size, hcc, hm, fun j hj => by rw [ec]; exact h1 j hj, fun j => by rw [ef]; exact h2 j, fun j hj => by rw [ec]; exact h3 j hj⟩
theorem OwnQ.below {w X : World} {base : Nat} {v : Value} {l : List Int} (h : OwnQ w base v l) (hb : Below w.heap.size w X) : OwnQ X base v l := h.chg (Chg.ofBelow hb fun _ => True) fun _ _ => trivial
theorem OwnQ.mono {w : World} {base base' : Nat} {v : Value} {l : List Int} (h : OwnQ w base v l) (hb : base' ≤ base) : OwnQ w base' v l := by
  rcases h with h | ⟨g, off, cap, e, h1, r⟩
  · exact .inl h
  · exact .inr ⟨g, off, cap, e, Nat.le_trans hb h1, r⟩
set_option maxRecDepth 100000 in
/-- s[1:] under one name. -/
theorem cutQ {w : World} {base : Nat} {A : Option Addr} {n c : Nat} {x : Int} {t : List Int} (h : OwnQ w base (.slice A n c) (x :: t)) :
    ∃ T : Option Addr, (∀ W, (Instr.sliceAt 26 (.slice A n c) (some (.int .i64 1)) none none).run Tryd.prog W = .ok (.slice T (n - 1) (c - 1)) W) ∧ n = t.length + 1 ∧ n ≤ c ∧ (∀ W, OwnQ W base (.slice A n c) (x :: t) → OwnQ W base (.slice T (n - 1) (c - 1)) t) := by
  have hn : n = t.length + 1 ∧ n ≤ c := by
    rcases h with ⟨_, h⟩ | ⟨g, off, cap, e, _, _, hc, _⟩
    · cases h
    · injection e with _ e2 e3
      subst e3
      exact ⟨e2, by rw [e2]; exact hc⟩
  obtain ⟨hn, hnc⟩ := hn
  refine ⟨if c = 1 then A else A.map (·.add 1), fun W => ?_, hn, hnc, fun W hW => ?_⟩
  · rw [run_sliceAt_slice (h := Tryd.underlying26), run_slice_l (ht := Tryd.underlying26) (h0 := by omega) (h1 := by omega)]
    have : (sizeOf (Tryd.prog.elem 26)).run Tryd.prog W = .ok 1 W := by kernel_rfl
    rw [this]
    simp [Result.andThen, sliced]
  · rcases hW with ⟨_, h⟩ | ⟨g, off, cap, e, h0, hg, hc, hm, h1, h2, h3⟩
    · cases h
    · injection e with e1 e2 e3
      subst e1; subst e3
      rw [List.length_cons] at e2 hc
      by_cases h1c : c = 1
      · subst h1c
        rw [if_pos rfl]
        have ht : t = [] := List.eq_nil_of_length_eq_zero (by omega)
        subst ht
        refine .inr ⟨g, off, 0, ?_, h0, hg, Nat.le_refl _, Nat.zero_le _, fun j hj => absurd hj (Nat.not_lt_zero _), h2, fun j hj => absurd hj (Nat.not_lt_zero _)⟩
        rw [e2]; rfl
      · rw [if_neg h1c]
        refine .inr ⟨g, off + 1, c - 1, ?_, h0, hg, by omega, by omega, fun j hj => ?_, h2, fun j hj => ?_⟩
        · rw [e2]
          show Value.slice (some ((⟨g, off, none⟩ : Addr).add 1)) _ _ = _
          rw [Addr.add_lit]; rfl
        · rw [show off + 1 + j = off + (j + 1) by omega]
          exact h1 (j + 1) (by omega)
        · rw [show off + 1 + j = off + (j + 1) by omega]
          exact h3 (j + 1) (by rw [List.length_cons]; omega)
theorem OwnQ.lt {w : World} {base : Nat} {v : Value} {l : List Int} (h : OwnQ w base v l) {g : Nat} (hg : v.ownBlock = some g) : base ≤ g ∧ g < w.heap.size := by
  rcases h with ⟨rfl, _⟩ | ⟨g', off, cap, rfl, h1, h2, _⟩
  · simp [Value.ownBlock] at hg
  · have : g' = g := by simpa [Value.ownBlock] using hg
    subst this
    exact ⟨h1, h2⟩
theorem chgCells {b : Nat} : ∀ (vs : List Value) (o : Nat) (w : World), Chg w (w.setCells b o vs) (fun q => q ≠ b)
  | [], _, w => Chg.refl _ _
  | v :: r, o, w => by
    rw [World.setCells]
    have h1 : Chg w (w.setCell ⟨b, o, none⟩ v) (fun q => q ≠ b) := ⟨rfl, rfl, rfl, by simp, fun k _ hk => heap_setCell_other w _ k _ hk⟩
    exact h1.trans (chgCells r (o + 1) _) fun _ _ h => h
/-- What append onto a queue gives. -/
def QTo (w : World) (base : Nat) (v : Value) (l : List Int) (v' : Value) (w' : World) : Prop := OwnQ w' base v' l ∧ Chg w w' (fun q => v.ownBlock ≠ some q) ∧ ∀ g, v'.ownBlock = some g → v.ownBlock = some g ∨ w.heap.size ≤ g
set_option maxRecDepth 100000 in
/-- append of integers onto a queue. -/
theorem runQ (w : World) (ty : TypeId) (base : Nat) (v : Value) (l : List Int) (hq : OwnQ w base v l) (A : Option Addr) (m c : Nat) (news : List Int) (hm : m = news.length) (hr : Rd w A c news) (hl : l.length + m ≤ 1000000) (hbase : base ≤ w.heap.size) :
    ∃ v' w', (Builtin.append_ #[26, 26] ty #[v, .slice A m c]).run Tryd.prog w = .ok v' w' ∧ QTo w base v (l ++ news) v' w' := by
  obtain ⟨i0, hi, hz0, hz1, hz2⟩ := info_parts infoInt
  have hml : m = (iv news).length := by rw [iv, List.length_map]; exact hm
  rcases hq with ⟨rfl, rfl⟩ | ⟨g, off, cap, rfl, hb, hg, hc, hmx, h1, h2, h3⟩
  · obtain ⟨v', w', hrun, k1, _, hgr, _⟩ := runApp (P := Tryd.prog) (w := w) w.heap.size 26 ty 3 i0 _ 8 Tryd.underlying26 hi hz0 hz1 hz2 rfl (.slice none 0 0) 0 [] (World.ownsRow_nil _ _ _ _) A m c (iv news) hml hr (ivOne _) (by omega) (by unfold maxLen; omega) (Nat.le_refl _)
    have ho : OwnI w' w.heap.size v' news := by
      unfold OwnI
      rw [List.nil_append] at k1
      rw [Nat.zero_add, hm] at k1
      exact k1
    refine ⟨v', w', hrun, ?_, Chg.ofGrown hgr fun _ h => h, fun g hg => .inr (World.ownsRow.lt ho g hg).1⟩
    rw [List.nil_append]
    exact (OwnQ.ofOwn ho).mono hbase
  rcases A with _ | a
  · have hn : news = [] := by
      rcases Nat.eq_zero_or_pos news.length with h0 | h0
      · exact List.eq_nil_of_length_eq_zero h0
      · obtain ⟨ad, h, _⟩ := Rds.at_ hr (by rw [iv, List.length_map]; exact h0)
        cases h
    subst hn
    subst hm
    refine ⟨_, w, ?_, by rw [List.append_nil]; exact .inr ⟨g, off, cap, rfl, hb, hg, hc, hmx, h1, h2, h3⟩, Chg.refl _ _, fun _ h => .inl h⟩
    simp [Builtin.append_, run_underlying Tryd.underlying26, sizeOf, typeInfo, hi, Builtin.lenOf, Builtin.firstCells, hc, storeCells]
  · have hnews : ∀ j u, (iv news)[j]? = some u → w.cell? (a.add j) = some u := by
      intro j u hu
      have : 0 < (iv news).length := by have := (List.getElem?_eq_some_iff.1 hu).1; omega
      obtain ⟨ad, h, _, hcc⟩ := Rds.at_ hr this
      injection h with h
      subst h
      exact hcc j u hu
    by_cases hroom : l.length + m ≤ cap
    · have hrr := run_append_room_cells (P := Tryd.prog) w 26 ty 3 i0 Tryd.underlying26 hi g off l.length cap a m c (iv news) (by rw [hz1]; omega) hnews (ivOne _) hroom
        (fun j hj => by rw [hz1, Nat.mul_one, Nat.add_assoc]; exact h1 _ (by omega)) (fun j _ => h2 _)
      rw [hz1, Nat.mul_one] at hrr
      have hin : ∀ j, j < (iv news).length → (w.cell? ⟨g, off + l.length + j, none⟩).isSome = true := fun j hj => by rw [Nat.add_assoc]; exact h1 _ (by omega)
      have hcg := chgCells (b := g) (iv news) (off + l.length) w
      refine ⟨_, _, hrr, .inr ⟨g, off, cap, by rw [List.length_append, ← hm], hb, Nat.lt_of_lt_of_le hg hcg.size, by rw [List.length_append, ← hm]; exact hroom, hmx, fun j hj => ?_, fun j => by rw [World.frozen?_setCells]; exact h2 j, fun j hj => ?_⟩, hcg.mono fun k hk e => hk (by simp [Value.ownBlock, e]), fun _ h => .inl h⟩
      · by_cases hj2 : l.length ≤ j ∧ j < l.length + m
        · obtain ⟨i, rfl⟩ : ∃ i, j = l.length + i := ⟨j - l.length, by omega⟩
          have := World.cell?_setCells_in g (iv news) (off + l.length) w hin i (by omega)
          rw [← Nat.add_assoc, this]; rfl
        · rw [World.cell?_setCells_out g _ _ _ _ (fun _ _ => by show off + j < off + l.length ∨ off + l.length + (iv news).length ≤ off + j; omega)]
          exact h1 j hj
      · by_cases hj2 : j < l.length
        · rw [World.cell?_setCells_out g _ _ _ _ (fun _ _ => by show off + j < off + l.length ∨ off + l.length + (iv news).length ≤ off + j; omega), h3 j hj2]
          rw [List.getElem_append_left hj2]
        · rw [List.length_append] at hj
          obtain ⟨i, rfl⟩ : ∃ i, j = l.length + i := ⟨j - l.length, by omega⟩
          have hi2 : i < news.length := by omega
          have := World.cell?_setCells_in g (iv news) (off + l.length) w hin i (by omega)
          rw [← Nat.add_assoc, this]
          simp [iv]
    · have hrr := run_append_arg_grows (P := Tryd.prog) w 26 ty 3 i0 _ 1 8 Tryd.underlying26 hi hz0 hz1 hz2 rfl (by decide) ⟨g, off, none⟩ l.length cap (iv l) (by rw [iv, List.length_map]; omega) (fun j u hu => by
        have hj : j < l.length := by have := (List.getElem?_eq_some_iff.1 hu).1; rw [iv, List.length_map] at this; exact this
        rw [iv, List.getElem?_map, List.getElem?_eq_getElem hj] at hu
        rw [Addr.add_lit, h3 j hj]
        exact hu) a m c (iv news) (by omega) hnews (by omega) (by unfold maxLen; omega) (by omega)
      obtain ⟨v', w', hrun, k1, hgr⟩ := hrr
      have ho : OwnI w' w.heap.size v' (l ++ news) := by
        unfold OwnI iv at *
        rw [List.length_append, ← hm, List.map_append]
        exact k1
      exact ⟨v', w', hrun, (OwnQ.ofOwn ho).mono hbase, Chg.ofGrown hgr (fun _ _ e => nomatch e), fun g hg => .inr (World.ownsRow.lt ho g hg).1⟩
theorem appQ (w : World) {ops : Array Oper} {rest : List Oper} {o : Oper} {a : Act} {Q : Exit → Act → World → Prop} (hgd : o.guard = none) (s x : Operand)
    (ho : o.op = .call { callee := .builtin .append, args := #[s, x], argTypes := #[26, 26] })
    (base : Nat) (v : Value) (l : List Int) (hs : a.eval s = v) (hq : OwnQ w base v l) (A : Option Addr) (m c : Nat) (news : List Int) (hx : a.eval x = .slice A m c) (hm : m = news.length) (hr : Rd w A c news) (hl : l.length + m ≤ 1000000) (hbase : base ≤ w.heap.size)
    (h : ∀ v' w', QTo w base v (l ++ news) v' w' → wpList Tryd.prog ops Q rest (a.put o.dst v') w') : wpList Tryd.prog ops Q (o :: rest) a w := by
  refine wpList_plain hgd fun K hK => ?_
  obtain ⟨v', w', hrun, hto⟩ := runQ w o.type base v l hq A m c news hm hr hl hbase
  unfold Oper.wp execOp
  simp only [ho, resolve, invoke, builtin, Sem.run_bind, Sem.run_pure, Result.andThen_ok, List.map_toArray, List.map_cons, List.map_nil, hs, hx, hrun]
  exact hK _ _ (h v' w' hto)
end Go.Proofs.YtjoffidlfkmelaaDoor

namespace Go.Proofs.YtjoffidlfkmelaaDoor
open Go Go.RowKit Go.Shelf Go.Sort

/-- The call returns a slice of its own that reads as l; nothing that was in memory has changed. -/
def GivesLF (l : List Int) (w : World) (e : Ending) (w' : World) : Prop := ∃ A c, e = .returned (.slice A l.length c) ∧ Rd w' A c l ∧ Below w.heap.size w w' ∧ ∀ ad, A = some ad → 0 < l.length → w.heap.size ≤ ad.block
def GivesEF (l : List Int) (k : Int) (w : World) (e : Ending) (w' : World) : Prop := ∃ A c, e = .returned (.tuple #[.slice A l.length c, .int .i64 k]) ∧ Rd w' A c l ∧ Below w.heap.size w w' ∧ ∀ ad, A = some ad → 0 < l.length → w.heap.size ≤ ad.block
set_option maxHeartbeats 400000 in
theorem iSetOfF (l : List Int) (r : List Int) (hr : mk l = r) (hs : l.length ≤ 65536) (A : Option Addr) (c : Nat) (w : World) (ha : Rd w A c l) :
    Calls Tryd.prog 43 #[.slice A l.length c] w (GivesLF r w) := by
  have HA := Lib.hid ha; clear ha
  have HR := Lib.hid hr; clear hr
  have hO := Lib.hid (OwnI.nil w w.heap.size)
  rcases Nat.eq_zero_or_pos l.length with h0 | h0
  · obtain rfl : l = [] := List.eq_nil_of_length_eq_zero h0
    clear h0
    go_enter Tryd.func43, Tryd.ntmps43
    go_wp2_with (first
      | (at_builtin; refine appI _ rfl (.const (.slice none 0 0)) (.tmp 4) rfl w.heap.size _ [] rfl hO.out A 0 c [] rfl rfl HA.out (by simp) (Nat.le_refl _) ?_; intro v1 w1 o1 _ b1; rw [List.nil_append] at o1; obtain ⟨A1, c1, rfl, r1, _⟩ := o1.rd)
      | fail)
    refine (Tryd.slices_Sort_int_none A1 c1 w1).mono ?_
    rintro e w' ⟨rfl, rfl⟩
    go_wp2_with fail
    refine (Tryd.slices_Compact_int_empty A1 c1 w').mono ?_
    rintro e w2 ⟨rfl, rfl⟩
    go_wp2
    go_ret
    rw [← HR.out]
    exact ⟨A1, c1, rfl, r1, b1, fun _ _ h => absurd h (Nat.lt_irrefl 0)⟩
  · go_enter Tryd.func43, Tryd.ntmps43
    go_wp2_with (first
      | (at_builtin; refine appI _ rfl (.const (.slice none 0 0)) (.tmp 4) rfl w.heap.size _ [] rfl hO.out A l.length c l rfl rfl HA.out (by simp; omega) (Nat.le_refl _) ?_; intro v1 w1 o1 _ b1; rw [List.nil_append] at o1; obtain ⟨g, c1, rfl, hg, hlt, hc, hm, hH⟩ := o1.holds h0; have HH := Lib.hid hH; clear hH)
      | fail)
    refine (sortCompact l h0 (by omega) w1 w.heap.size g c1 hg hlt hc hm HH.out).mono ?_
    rintro e w2 ⟨rfl, b2, hcon⟩
    have HC := Lib.hid hcon; clear hcon
    go_wp2_with fail
    refine HC.out.mono ?_
    rintro e w3 ⟨rfl, b3, r3⟩
    rw [HR.out] at r3 ⊢
    go_wp2
    go_ret
    exact ⟨_, c1, rfl, r3, b1.trans (b2.trans b3), fun ad e _ => by injection e with e; subst e; exact hg⟩

set_option maxHeartbeats 400000 in
theorem iMakeF (l : List Int) (r : List Int) (hr : mk l = r) (hs : l.length ≤ 65536) (A : Option Addr) (c : Nat) (w : World) (ha : Rd w A c l) :
    Calls Tryd.prog 24 #[.slice A l.length c] w (GivesLF r w) := by
  go_enter Tryd.func24, Tryd.ntmps24
  have HA := Lib.hid ha; clear ha
  have HR := Lib.hid hr; clear hr
  go_wp2_with fail
  refine (iSetOfF l r HR.out hs A c _ HA.out).mono ?_
  rintro e w3 ⟨A3, c3, rfl, r3, b3, f3⟩
  go_wp2
  go_ret
  exact ⟨A3, c3, rfl, r3, b3, f3⟩
set_option maxRecDepth 100000 in
set_option maxHeartbeats 2000000 in
theorem iNextF (nm : ByteArray) (C : List I8) (n : Nat) (hn : C.length = n) (x : Int) (A : Option Addr) (c : Nat) (w : World) (h : CdW w A c C) :
    Calls Tryd.prog 9 #[fnV nm A n c, .int .i64 x] w (GivesEF (nxR C x) (nxE C x) w) := by
  obtain ⟨W, hW⟩ : ∃ W, w.alloc (.cells #[.string nm, .slice A n c] 24) = W := ⟨_, rfl⟩
  have hbW : Below w.heap.size w W := by rw [← hW]; exact belowAlloc w _
  have hB : Blk W w.heap.size 24 #[.string nm, .slice A n c] := by rw [← hW]; exact Blk.new w _ _
  have k0 := hB.cell 0
  have k1 := hB.cell 1
  have k0 : W.cell? ⟨w.heap.size, 0, none⟩ = some (.string nm) := k0
  have k1 : W.cell? ⟨w.heap.size, 1, none⟩ = some (.slice A n c) := k1
  have HCO := Lib.hid (iCodeOf nm C n hn A c W (h.below hbW))
  have HCW := Lib.hid (fun X (hX : Below W.heap.size W X) => (h.below hbW).below hX)
  have HW := Lib.hid hW
  have HBW := Lib.hid hbW
  have hle := h.rd.le
  have hmx := h.rd.max
  rw [hn] at hle
  unfold maxLen at hmx
  clear h hB hW hbW
  unfold fnV at HCO ⊢
  by_cases hc : cfE C = 0
  rotate_left
  · have hne : (cfE C != 0) = true := by simpa using hc
    have e1 : nxE C x = cfE C := by unfold nxE; rw [if_pos hc]
    have e2 : nxR C x = [] := by unfold nxR; rw [if_neg (by rw [e1]; exact hc)]
    rw [e1, e2]
    rw [cdV1 hc] at HCO
    generalize cfE C = E at HCO hne
    clear hc e1 e2
    go_enter Tryd.func9, Tryd.ntmps9
    go_wp2_with fail
    rw [HW.out]
    refine HCO.out.mono ?_
    rintro e w1 ⟨rfl, b1⟩
    go_wp2
    go_ret2
    exact ⟨none, 0, rfl, Rd.nil, belowThen HBW.out b1, fun _ h => by cases h⟩
  have hok := cfOk hc
  rw [cdV0 hc, hc] at HCO
  by_cases hx : x < 0 ∨ (n : Int) ≤ x
  · have e1 : nxE C x = 2 := by unfold nxE; rw [if_neg (by rw [hc]; simp), if_pos (by rw [hn]; exact hx)]
    have e2 : nxR C x = [] := by unfold nxR; rw [if_neg (by rw [e1]; decide)]
    rw [e1, e2]
    clear hc hok e1 e2
    go_enter Tryd.func9, Tryd.ntmps9
    go_wp2_with fail
    rw [HW.out]
    refine HCO.out.mono ?_
    rintro e w1 ⟨rfl, b1⟩
    go_wp2
    all_goals first
      | (exfalso; omega)
      | (go_ret2; exact ⟨none, 0, rfl, Rd.nil, belowThen HBW.out b1, fun _ h => by cases h⟩)
  · have e1 : nxE C x = 0 := by unfold nxE; rw [if_neg (by rw [hc]; simp), if_neg (by rw [hn]; exact hx)]
    have e2 : nxR C x = scS C x.toNat := by unfold nxR; rw [if_pos e1]
    rw [e1, e2]
    obtain ⟨k, rfl⟩ : ∃ k : Nat, x = k := ⟨x.toNat, by omega⟩
    have hk : k < n := by omega
    have hk0 : (0 : Int) ≤ k := by omega
    have hk1 : (k : Int) < n := by omega
    have HNX := Lib.hid (fun X (hX : Below W.heap.size W X) => iNextV C hok n hn k hk A c X (HCW.out X hX).rd)
    have e3 : (k : Int).toNat = k := rfl
    rw [e3]
    have hsl := scLen (C := C) (k := k)
    have hsl2 := scSLen (C := C) (k := k)
    obtain ⟨xs, hxs⟩ : ∃ xs, sc C k = xs := ⟨_, rfl⟩
    have hms : mk (xs.map Int.ofNat) = scS C k := by rw [← hxs]; rfl
    rw [hxs] at HNX hsl
    obtain ⟨r, hr⟩ : ∃ r, scS C k = r := ⟨_, rfl⟩
    rw [hr] at hms ⊢
    clear hc hok e1 e2 hx hxs hr hsl2 e3
    go_enter Tryd.func9, Tryd.ntmps9
    go_wp2_with fail
    rw [HW.out]
    refine HCO.out.mono ?_
    rintro e w1 ⟨rfl, b1⟩
    have HN1 := Lib.hid (HNX.out w1 b1)
    go_wp2_with fail
    all_goals first
      | (exfalso; omega)
      | skip
    refine HN1.out.mono ?_
    rintro e w2 ⟨⟨gf, L, rfl, hit⟩, b2⟩
    have HC2 := Lib.hid (iCollect gf L xs (by omega) w2 hit)
    have B2 := belowThen b1 b2
    clear hit
    go_wp2_with fail
    refine HC2.out.mono ?_
    rintro e w3 ⟨A3, c3, rfl, hr3, b3⟩
    have HM3 := Lib.hid (iMakeF (xs.map Int.ofNat) r hms (by rw [List.length_map]; omega) A3 c3 w3 hr3)
    rw [List.length_map] at HM3
    have B3 := belowThen B2 b3
    have HS3 := Lib.hid (belowThen HBW.out B3).size
    clear hr3
    go_wp2_with fail
    refine HM3.out.mono ?_
    rintro e w4 ⟨A4, c4, rfl, hr4, b4, f4⟩
    go_wp2
    go_ret2
    exact ⟨A4, c4, rfl, hr4, belowThen HBW.out (belowThen B3 b4), fun ad e h => Nat.le_trans HS3.out (f4 ad e h)⟩
end Go.Proofs.YtjoffidlfkmelaaDoor

namespace Go.Proofs.YtjoffidlfkmelaaDoor

/-- How many places below n are in the table. -/
def cntE (n : Nat) (E : Nat → Bool) : Nat := ((List.range n).filter E).length
theorem cntELe {n : Nat} {E : Nat → Bool} : cntE n E ≤ n := Nat.le_trans (List.length_filter_le _ _) (by simp)
/-- A search by a queue: the table E of those that have been found, the queue Q; those in P are being looked at. -/
structure BfSt (n : Nat) (g : Nat → List Nat) (d : Int) (P : List Nat) (E : Nat → Bool) (Q : List Nat) : Prop where
  sub : ∀ x, E x = true → Rc g (avd n d) 0 x
  has : E 0 = true
  inQ : ∀ x, x ∈ Q → E x = true
  inP : ∀ x, x ∈ P → E x = true
  cl : ∀ u, E u = true → u ∉ Q → u ∉ P → ∀ y, y ∈ g u → avd n d y = true → E y = true
  len : Q.length ≤ cntE n E
section
variable {n : Nat} {g : Nat → List Nat} {d : Int} {E : Nat → Bool} {Q : List Nat} {u : Nat}
theorem bfEnd (h : BfSt n g d [] E []) (x : Nat) : E x = rcB n g d x := by
  rw [Bool.eq_iff_iff, rcIff]
  exact ⟨h.sub x, fun hr => hr.fwd (P := fun x => E x = true) h.has fun u v _ hp hv ha => h.cl u hp (by simp) (by simp) v hv ha⟩
theorem bfStart (hn : 0 < n) (hd : d ≠ 0) : BfSt n g d [] (fun x => decide (x = 0)) [0] := by
  have ha : avd n d 0 = true := avdIff.2 ⟨hn, fun h => hd (by omega)⟩
  refine ⟨fun x hx => ?_, rfl, fun x hx => ?_, (fun _ h => by cases h), fun u hu hq => ?_, ?_⟩
  · obtain rfl : x = 0 := of_decide_eq_true hx
    exact Rc.refl ha
  · rw [List.mem_singleton] at hx
    exact decide_eq_true hx
  · have : u = 0 := of_decide_eq_true hu
    exact absurd (by rw [this]; simp) hq
  · show 1 ≤ _
    exact List.length_pos_of_mem (a := 0) (List.mem_filter.2 ⟨List.mem_range.2 hn, rfl⟩)
theorem BfSt.lt {P : List Nat} (h : BfSt n g d P E Q) {x : Nat} (hx : E x = true) : x < n := (avdIff.1 (h.sub x hx).right).1
theorem bfPop (h : BfSt n g d [] E (u :: Q)) : BfSt n g d [u] E Q :=
  ⟨h.sub, h.has, fun x hx => h.inQ x (List.mem_cons_of_mem _ hx), fun x hx => by rw [List.mem_singleton] at hx; exact h.inQ x (by rw [hx]; simp), fun v hv hq hp => h.cl v hv (fun hm => by
    rcases List.mem_cons.1 hm with rfl | hm
    · exact hp (by simp)
    · exact hq hm) (by simp), by have := h.len; rw [List.length_cons] at this; omega⟩
/-- The successors l of u, those below j have been looked at; K bounds what is left to do. -/
structure BfIn (n : Nat) (g : Nat → List Nat) (d : Int) (u : Nat) (l : List Int) (K : Nat) (j : Nat) (E : Nat → Bool) (Q : List Nat) : Prop extends BfSt n g d [u] E Q where
  got : ∀ k (y : Nat), k < j → l[k]? = some (y : Int) → avd n d y = true → E y = true
  mes : 2 * (n - cntE n E) + Q.length ≤ K
theorem bfIn0 {l : List Int} (h : BfSt n g d [u] E Q) : BfIn n g d u l (2 * (n - cntE n E) + Q.length) 0 E Q := ⟨h, fun _ _ h => absurd h (Nat.not_lt_zero _), Nat.le_refl _⟩
theorem bfNo {l : List Int} {K j y : Nat} (h : BfIn n g d u l K j E Q) (hl : l[j]? = some (y : Int)) (hn : ¬ (y < n ∧ (y : Int) ≠ d ∧ E y = false)) : BfIn n g d u l K (j + 1) E Q :=
  ⟨h.toBfSt, fun k z hk hz ha => by
    by_cases e : k = j
    · subst e
      rw [hl] at hz
      have e2 : (y : Int) = z := Option.some.inj hz
      obtain rfl : y = z := by omega
      cases hE : E y
      · exact absurd ⟨(avdIff.1 ha).1, (avdIff.1 ha).2, hE⟩ hn
      · rfl
    · exact h.got k z (by omega) hz ha, h.mes⟩
theorem bfYes {l : List Int} {K j y : Nat} (h : BfIn n g d u l K j E Q) (hl : l[j]? = some (y : Int)) (hy : y ∈ g u) (hyn : y < n) (hyd : (y : Int) ≠ d) (hE : E y = false) : BfIn n g d u l K (j + 1) (with_ E y) (Q ++ [y]) := by
  have ha : avd n d y = true := avdIff.2 ⟨hyn, hyd⟩
  have hcnt : cntE n E < cntE n (with_ E y) := cntLt (fun x _ hx => withIff.2 (.inl hx)) ⟨y, List.mem_range.2 hyn, withIff.2 (.inr rfl), hE⟩
  have hle := cntELe (n := n) (E := with_ E y)
  have hl1 := h.len
  have hm := h.mes
  refine ⟨⟨fun x hx => ?_, withIff.2 (.inl h.has), fun x hx => ?_, fun x hx => withIff.2 (.inl (h.inP x hx)), fun v hv hq hp z hz hza => ?_, ?_⟩, fun k z hk hz hza => ?_, ?_⟩
  · rcases withIff.1 hx with hx | rfl
    · exact h.sub x hx
    · exact (h.sub u (h.inP u (by simp))).snoc hy ha
  · rcases List.mem_append.1 hx with hx | hx
    · exact withIff.2 (.inl (h.inQ x hx))
    · rw [List.mem_singleton] at hx
      exact withIff.2 (.inr hx)
  · rcases withIff.1 hv with hv | rfl
    · exact withIff.2 (.inl (h.cl v hv (fun hm => hq (List.mem_append.2 (.inl hm))) hp z hz hza))
    · exact absurd (List.mem_append.2 (.inr (by simp))) hq
  · rw [List.length_append, List.length_singleton]
    omega
  · by_cases e : k = j
    · subst e
      rw [hl] at hz
      have e2 : (y : Int) = z := Option.some.inj hz
      exact withIff.2 (.inr (by omega))
    · exact withIff.2 (.inl (h.got k z (by omega) hz hza))
  · rw [List.length_append, List.length_singleton]
    omega
theorem bfInEnd {l : List Int} {K j : Nat} (h : BfIn n g d u l K j E Q) (hj : l.length ≤ j) (hl : ∀ y, y ∈ g u → (y : Int) ∈ l) : BfSt n g d [] E Q :=
  ⟨h.sub, h.has, h.inQ, (fun _ h => by cases h), fun v hv hq _ y hy ha => by
    by_cases e : v = u
    · subst e
      obtain ⟨k, hk⟩ := List.mem_iff_getElem?.1 (hl y hy)
      exact h.got k y (Nat.lt_of_lt_of_le (List.getElem?_eq_some_iff.1 hk).1 hj) hk ha
    · exact h.cl v hv hq (by rw [List.mem_singleton]; exact e) y hy ha, h.len⟩
/-! The chain of immediate dominators. -/
/-- Is d on the way from m up? -/
def AbTo (n : Nat) (g : Nat → List Nat) (d : Nat) (r : Bool) (j : Nat) (m : Int) : Prop :=
  (m = -1 ∧ r = false) ∨ ∃ i : Nat, m = i ∧ rcB n g (-1) i = true ∧ r = dmB n g d i ∧ (dmL n g i).length + j ≤ n
theorem abStart {i d : Nat} (hi : rcB n g (-1) i = true) : AbTo n g d (dmB n g d i) 0 i :=
  .inr ⟨i, rfl, hi, rfl, Nat.le_trans (List.length_filter_le _ _) (by simp)⟩
theorem abYes {d j i : Nat} {r : Bool} (h : AbTo n g d r j i) (hd : i = d) : r = true := by
  rcases h with ⟨h, _⟩ | ⟨k, hk, hr, e, _⟩
  · omega
  · obtain rfl : i = k := by omega
    subst hd
    rw [e]; exact dmRefl hr
theorem abNext {d j i : Nat} {r : Bool} (h : AbTo n g d r j i) (hd : i ≠ d) : AbTo n g d r (j + 1) (idm n g i) := by
  rcases h with ⟨h, _⟩ | ⟨k, hk, hr, e, hl⟩
  · omega
  · obtain rfl : i = k := by omega
    rcases idLow n g i with hm | hm
    · by_cases h1 : idm n g i = -1
      · refine .inl ⟨h1, ?_⟩
        rw [e]
        cases e2 : dmB n g d i
        · rfl
        · obtain ⟨m, hm2, _⟩ := (idUp (fun h => hd h.symm)).1 e2
          omega
      · obtain ⟨m, hm2⟩ : ∃ m : Nat, idm n g i = m := ⟨(idm n g i).toNat, by omega⟩
        obtain ⟨_, h3, h4⟩ := idLenOf hm2
        refine .inr ⟨m, hm2, rcIff.2 (dmRch h3), ?_, by omega⟩
        rw [e, Bool.eq_iff_iff, idUp (fun h => hd h.symm)]
        constructor
        · rintro ⟨m', hm', h'⟩
          obtain rfl : m = m' := by omega
          exact h'
        · intro h'
          exact ⟨m, hm2, h'⟩
    · refine .inl ⟨hm, ?_⟩
      rw [e]
      cases e2 : dmB n g d i
      · rfl
      · obtain ⟨m, hm2, _⟩ := (idUp (fun h => hd h.symm)).1 e2
        omega
theorem abLow {d j : Nat} {m : Int} {r : Bool} (h : AbTo n g d r j m) (hm : m < 0) : r = false := by
  rcases h with ⟨_, h⟩ | ⟨k, hk, _⟩
  · exact h
  · omega
theorem abIn {d j : Nat} {m : Int} {r : Bool} (h : AbTo n g d r j m) (hm : 0 ≤ m) : ∃ i : Nat, m = i ∧ i < n ∧ j ≤ n := by
  rcases h with ⟨h, _⟩ | ⟨k, hk, hr, _, hl⟩
  · omega
  · exact ⟨k, hk, rcLt hr, by omega⟩
end
end Go.Proofs.YtjoffidlfkmelaaDoor

namespace Go.Proofs.YtjoffidlfkmelaaDoor
open Go Go.RowKit Go.Shelf

theorem nxAt {C : List I8} (hc : cfE C = 0) {n k : Nat} (hn : C.length = n) (hk : k < n) : nxE C k = 0 ∧ nxR C k = scS C k := by
  have e : nxE C k = 0 := by unfold nxE; rw [if_neg (by rw [hc]; simp), if_neg (by omega)]
  refine ⟨e, ?_⟩
  unfold nxR
  rw [if_pos e]; rfl
/-- The true cells of a row of Booleans. -/
def cellT (X : World) (g x : Nat) : Bool := match X.cell? ⟨g, x, none⟩ with
  | some (.bool b) => b
  | _ => false
theorem cntT {X : World} {g n : Nat} {E : Nat → Bool} (h : RowB X g n E) : cntE n (cellT X g) = cntE n E := by
  unfold cntE
  congr 1
  refine List.filter_congr fun x hx => ?_
  unfold cellT
  rw [h.cell (List.mem_range.1 hx)]
def slN9 : Value → Nat
  | .slice _ n _ => n
  | _ => 0
set_option maxRecDepth 100000 in
set_option maxHeartbeats 8000000 in
theorem rReached (nm : ByteArray) (C : List I8) (hc : cfE C = 0) (n : Nat) (hn : C.length = n) (h0 : 0 < n) (d : Int) (A : Option Addr) (c : Nat) (w : World) (h : CdW w A c C) :
    Calls Tryd.prog 19 #[fnV nm A n c, .int .i64 d] w (GivesT9 n (rcB n (sc C) d) w) := by
  obtain ⟨W, hW⟩ : ∃ W, w.alloc (.cells #[.string nm, .slice A n c] 24) = W := ⟨_, rfl⟩
  have hbW : Below w.heap.size w W := by rw [← hW]; exact belowAlloc w _
  have hB : Blk W w.heap.size 24 #[.string nm, .slice A n c] := by rw [← hW]; exact Blk.new w _ _
  have HKB := Lib.hid (fun X (hX : Below W.heap.size W X) => (⟨(hB.below' hX).cell 0, (hB.below' hX).cell 1⟩ : X.cell? ⟨w.heap.size, 0, none⟩ = some (.string nm) ∧ X.cell? ⟨w.heap.size, 1, none⟩ = some (.slice A n c)))
  obtain ⟨k0, k1⟩ := HKB.out W (Below.refl _ _)
  have hok := cfOk hc
  have HNX := Lib.hid (fun k (hk : k < n) X (hX : Below W.heap.size W X) => by
    have e := nxAt hc hn hk
    have := iNextF nm C n hn (k : Int) A c X ((h.below hbW).below hX)
    rw [e.1, e.2] at this
    exact this)
  have HLE := Lib.hid (fun i y (hy : y ∈ sc C i) => (scLe hok hy).2)
  rw [hn] at HLE
  have HMEM := Lib.hid (fun i (x : Int) => scSMem (C := C) (k := i) (x := x))
  unfold fnV at HNX ⊢
  have hle := h.rd.le
  have hmx := h.rd.max
  have h64 := hok.len
  rw [hn] at hle h64
  unfold maxLen at hmx
  obtain ⟨i0, hi, hz0, hz1, hz2⟩ := info_parts infoBool9
  have HBY := Lib.hid (show i0.bytes * n ≤ 281474976710656 by rw [hz2]; omega)
  have HNM := Lib.hid (show n ≤ maxLen by unfold maxLen; omega)
  obtain ⟨g, hg⟩ : ∃ g, sc C = g := ⟨_, rfl⟩
  rw [hg] at HLE HMEM ⊢
  obtain ⟨sl, hsl⟩ : ∃ sl, scS C = sl := ⟨_, rfl⟩
  rw [hsl] at HNX HMEM
  have HSL := Lib.hid (fun i => (show (sl i).length ≤ 2 by rw [← hsl]; exact scSLen))
  have HBW := Lib.hid hbW
  have HWE := Lib.hid hW
  clear hB hW h hok hn hg hsl hbW hc
  by_cases hd : d = 0
  · subst hd
    have HF := Lib.hid (fun x (_ : x < n) => (show (false : Bool) = rcB n g 0 x from by
      cases e : rcB n g 0 x
      · rfl
      · exact absurd rfl (avdIff.1 (rcIff.1 e).left).2))
    go_enter Tryd.func19, Tryd.ntmps19
    go_wp2_with (first
      | (at_make; rw [HWE.out]; refine wpList_make_full _ rfl (.tmp 14) (.tmp 14) 38 rfl 0 4 i0 _ 1 Tryd.underlying38 hi hz0 hz1 .i64 .i64 _ _ n rfl rfl rfl rfl HBY.out HNM.out (Nat.zero_le _) ?_; intro w2 o2 g2; have hrow := RowB.made o2; have hbe : Below W.heap.size W w2 := (Below.refl _ W).grown g2 (Nat.le_refl _) (fun k hk => by cases hk); have HR0 := Lib.hid hrow; have HBE := Lib.hid hbe; clear o2 g2 hrow hbe)
      | fail)
    go_ret
    exact ⟨_, n, _, rfl, HR0.out, Nat.le_refl _, by omega, HF.out, HBW.out.size, belowThen HBW.out HBE.out⟩
  have hd1 : (d == 0) = false := by simpa using hd
  go_enter Tryd.func19, Tryd.ntmps19
  go_wp2_with (first
    | (at_make; rw [HWE.out]; refine wpList_make_full _ rfl (.tmp 14) (.tmp 14) 38 rfl 0 4 i0 _ 1 Tryd.underlying38 hi hz0 hz1 .i64 .i64 _ _ n rfl rfl rfl rfl HBY.out HNM.out (Nat.zero_le _) ?_; intro w2 o2 g2; have hrow := RowB.made o2; have hbe : Below W.heap.size W w2 := (Below.refl _ W).grown g2 (Nat.le_refl _) (fun k hk => by cases hk); have hro := hrow.chg (Chg.ofBelow (belowAlloc w2 (.cells #[.int .i64 0] 3)) fun _ => True) trivial; have f0 := hro.frozen 0; have c0 := hro.cell (i := 0) h0; have HR0 := Lib.hid (hro.set 0); have HBE := Lib.hid hbe; have HRL := Lib.hid hrow.lt; clear o2 g2 hrow hbe hro)
    | fail)
  obtain ⟨V, hV⟩ : ∃ V, (w2.alloc (.cells #[.int .i64 0] 3)).setCell ⟨W.heap.size, 0, none⟩ (.bool true) = V := ⟨_, rfl⟩
  rw [hV] at HR0
  have HBV := Lib.hid (show Below W.heap.size W V by rw [← hV]; exact belowSet9 (belowThen HBE.out (belowAlloc _ _)) _ _ (Nat.le_refl _))
  have HQ0 := Lib.hid (show OwnQ V (W.heap.size + 1) (.slice (some ⟨w2.heap.size, 0, none⟩) 1 1) (([0] : List Nat).map Int.ofNat) by
    rw [← hV]
    have ho : OwnI (w2.alloc (.cells #[.int .i64 0] 3)) (W.heap.size + 1) (.slice (some ⟨w2.heap.size, 0, none⟩) 1 1) [0] := ⟨rfl, .inr ⟨w2.heap.size, 1, #[.int .i64 0], rfl, HRL.out, heap_alloc_new w2 _, Nat.le_refl _, by unfold maxLen; omega, rfl, rfl⟩⟩
    exact (OwnQ.ofOwn ho).chg (F := fun q => q ≠ W.heap.size) ⟨rfl, rfl, rfl, by simp, fun k _ hk => heap_setCell_other _ ⟨W.heap.size, 0, none⟩ k _ hk⟩ fun q hq => by omega)
  have HS0 := Lib.hid (bfStart (g := g) h0 hd)
  have hw0 : with_ (fun _ => false) 0 = fun x => decide (x = 0) := by funext x; unfold with_; rfl
  rw [hw0] at HR0
  have HVE := Lib.hid hV
  clear k0 k1 hi hz0 hz1 hz2 HBE HRL f0 c0 hV hw0
  rw [HVE.out]
  go_loopw [6] (fun v X => ∃ (E : Nat → Bool) (Q : List Nat), Hid (OwnQ X (W.heap.size + 1) v (Q.map Int.ofNat)) ∧ Hid (BfSt n g d [] E Q) ∧ Hid (RowB X W.heap.size n E) ∧ Hid (Below W.heap.size W X)) (fun v X => 2 * (n - cntE n (cellT X W.heap.size)) + slN9 v)
  case atStart => exact ⟨_, _, HQ0, HS0, HR0, HBV⟩
  case round =>
    clear HQ0 HS0 HR0 HBV HVE
    obtain ⟨E, Q, HQ, HS, HR, HB⟩ := hrel
    obtain ⟨Aq, cq, rfl, hrq, _⟩ := HQ.out.rd
    cases Q with
    | nil =>
      have HF := Lib.hid (fun x (_ : x < n) => bfEnd HS.out x)
      go_wp2
      go_ret
      exact ⟨_, n, E, rfl, HR.out, Nat.le_refl _, by omega, HF.out, HBW.out.size, belowThen HBW.out HB.out⟩
    | cons u t =>
      have hun := HS.out.lt (HS.out.inQ u (by simp))
      have hQL := HS.out.len
      have hcn := cntELe (n := n) (E := E)
      obtain ⟨T, hT, hql, hqc, hQT⟩ := cutQ (t := t.map Int.ofNat) HQ.out
      have HQT := Lib.hid (hQT wr HQ.out)
      obtain ⟨ad, eA, _, hc0⟩ := hrq.one (k := 0) (by simp)
      subst eA
      have hc0 : wr.cell? ad = some (.int .i64 (u : Int)) := hc0
      have HP := Lib.hid (bfPop HS.out)
      have HM := Lib.hid (cntT HR.out)
      obtain ⟨q, hq⟩ : ∃ q, ((u :: t).map Int.ofNat).length = q := ⟨_, rfl⟩
      rw [hq] at hT hql hqc HQT ⊢
      rw [List.length_map] at hql
      have HQL := Lib.hid hql
      have hmq := Rd.max hrq
      unfold maxLen at hmq
      have HC := Lib.hid (HNX.out u hun wr HB.out)
      obtain ⟨k0, k1⟩ := HKB.out wr HB.out
      have hq0 : 0 < q := by omega
      have hq1 : (0 : Int) < q := by omega
      have hu0 : (0 : Int) ≤ u := by omega
      clear hrq hQT hq hql
      go_wp2_with fail
      refine HC.out.mono ?_
      rintro e w4 ⟨A8, c8, rfl, r8, b4, f8⟩
      have hm2 := HSL.out u
      obtain ⟨m, hm⟩ : ∃ m, (sl u).length = m := ⟨_, rfl⟩
      have hle8 := r8.le
      have hmx8 := r8.max
      rw [hm] at hle8 hm2 f8 ⊢
      unfold maxLen at hmx8
      have HMM := Lib.hid hm
      have HR4 := Lib.hid (HR.out.chg (Chg.ofBelow b4 fun _ => True) trivial)
      have HB4 := Lib.hid (belowThen HB.out b4)
      have HQ4 := Lib.hid (HQT.out.below b4)
      have HR8 := Lib.hid r8
      have HAP := Lib.hid (fun ad (e : A8 = some ad) (hl : 0 < m) g (hg : (Value.slice T (q - 1) (cq - 1)).ownBlock = some g) => (show g ≠ ad.block by have := f8 ad e hl; have := (HQT.out.lt hg).2; omega))
      have HI0 := Lib.hid (bfIn0 (l := sl u) HP.out)
      obtain ⟨K, hK⟩ : ∃ K, 2 * (n - cntE n E) + t.length = K := ⟨_, rfl⟩
      rw [hK] at HI0
      have HLT := Lib.hid (show K < 2 * (n - cntE n (cellT wr W.heap.size)) + q by rw [HM.out]; have := HQL.out; omega)
      have HSZ := Lib.hid (fun ad (e : A8 = some ad) (hl : 0 < m) => (show ad.block < w4.heap.size by
        obtain ⟨ad', e', h1, _⟩ := r8.one (k := 0) (by omega)
        rw [e] at e'
        injection e' with e'
        subst e'
        exact h1))
      have HNB : Hid (∀ ad, A8 = some ad → 0 < m → ad.block ≠ W.heap.size) := Lib.hid fun ad ha hl => by have := f8 ad ha hl; have := HR.out.lt; omega
      obtain ⟨q', hq'⟩ : ∃ q', q - 1 = q' := ⟨_, rfl⟩
      obtain ⟨cq', hcq'⟩ : ∃ cq', cq - 1 = cq' := ⟨_, rfl⟩
      rw [hq', hcq'] at HQ4 HAP ⊢
      have wx := wr
      clear r8 b4 f8 hm HP HM HR HB HQT hT hc0 k0 k1 hK HC HQL hQL hcn hq' hcq'
      go_wp2_with fail
      go_loopw [6, 38] (fun v iv X => ∃ (j : Nat) (E : Nat → Bool) (Q : List Nat), j ≤ m ∧ iv = .int .i64 j ∧ Hid (OwnQ X (W.heap.size + 1) v (Q.map Int.ofNat)) ∧ Hid (BfIn n g d u (sl u) K j E Q) ∧ Hid (RowB X W.heap.size n E) ∧ Hid (Rd X A8 c8 (sl u)) ∧ Hid (∀ ad, A8 = some ad → 0 < m → ad.block < X.heap.size ∧ ∀ g, v.ownBlock = some g → g ≠ ad.block) ∧ Hid (Below W.heap.size W X)) (fun _ iv _ => m - (intOf iv).toNat)
      case atStart => exact ⟨0, E, t, Nat.zero_le _, rfl, HQ4, HI0, HR4, HR8, Lib.hid fun ad e hl => ⟨HSZ.out ad e hl, HAP.out ad e hl⟩, HB4⟩
      case round =>
        clear HQ4 HI0 HR4 HR8 HB4
        obtain ⟨j, E, Q, hj, rfl, HQ, HI, HR, HRD, HA, HB⟩ := hrel
        by_cases hjm : j < m
        · have hjl : j < (sl u).length := by rw [HMM.out]; exact hjm
          obtain ⟨ad, eA, _, hcj⟩ := HRD.out.one hjl
          obtain ⟨y, hyg, hly⟩ := (HMEM.out u (sl u)[j]).1 (List.getElem_mem hjl)
          rw [hly] at hcj
          have HLY := Lib.hid (show (sl u)[j]? = some (y : Int) by rw [List.getElem?_eq_getElem hjl, hly])
          have hyn := HLE.out u y hyg
          have HYG := Lib.hid hyg
          obtain ⟨hab, han⟩ := HA.out ad eA (by omega)
          have HAB := Lib.hid hab
          have HAN := Lib.hid han
          subst eA
          obtain ⟨k0, k1⟩ := HKB.out wr HB.out
          have hj0 : (0 : Int) ≤ j := by omega
          have hj1 : (j : Int) < m := by omega
          have hy0 : (0 : Int) ≤ y := by omega
          clear hly hyg hab han
          by_cases hyy : y < n ∧ (y : Int) ≠ d ∧ E y = false
          · obtain ⟨h1, h2, h3⟩ := hyy
            have cy := HR.out.cell h1
            rw [h3] at cy
            have d1 : decide ((y : Int) < (n : Int)) = true := decide_eq_true (by omega)
            have d2 : ((y : Int) != d) = true := by simpa using h2
            have fy := HR.out.frozen y
            have hy1 : (y : Int) < n := by omega
            have HN := Lib.hid (bfYes HI.out HLY.out HYG.out h1 h2 h3)
            obtain ⟨X1, hX1⟩ : ∃ X1, wr.setCell ⟨W.heap.size, y, none⟩ (.bool true) = X1 := ⟨_, rfl⟩
            have hcg : Chg wr X1 (fun q => q ≠ W.heap.size) := by rw [← hX1]; exact ⟨rfl, rfl, rfl, by simp, fun k _ hk => heap_setCell_other _ ⟨W.heap.size, y, none⟩ k _ hk⟩
            have HR1 := Lib.hid (show RowB X1 W.heap.size n (with_ E y) by rw [← hX1]; exact HR.out.set y)
            have hq1 := HQ.out.chg hcg fun q hq => by omega
            have HQA := Lib.hid (hq1.below (belowAlloc X1 (.cells #[.int .i64 (y : Int)] 3)))
            have hb1 : Below W.heap.size W X1 := by rw [← hX1]; exact belowSet9 HB.out _ _ (Nat.le_refl _)
            have HB1 := Lib.hid (hb1.alloc hb1.size (.cells #[.int .i64 (y : Int)] 3))
            have hQl := HI.out.len
            have hcl := cntELe (n := n) (E := E)
            have HLQ := Lib.hid (show (Q.map Int.ofNat).length + 1 ≤ 1000000 by rw [List.length_map]; omega)
            have HRD1 := Lib.hid (show Rd (X1.alloc (.cells #[.int .i64 (y : Int)] 3)) (some ad) c8 (sl u) from Rd.below (Rd.chg HRD.out hcg fun ad' e hl => by
              injection e with e
              subst e
              obtain ⟨ad2, e2, _, hc2⟩ := HRD.out.one (k := 0) hl
              injection e2 with e2
              subst e2
              have := HR.out.bools9 hc2 (fun b e => by cases e)
              rwa [addBlock] at this) (belowAlloc _ _))
            have HX1 := Lib.hid hX1
            have hzW : W.heap.size + 1 ≤ X1.heap.size := HR1.out.lt
            have hzX := HX1.out ▸ (by simp : (wr.setCell ⟨W.heap.size, y, none⟩ (.bool true)).heap.size = wr.heap.size)
            have HZX := Lib.hid hzX
            have HLI := Lib.hid (show Rd (X1.alloc (.cells #[.int .i64 (y : Int)] 3)) (some ⟨wr.heap.size, 0, none⟩) 1 [(y : Int)] by
              have h := Rd.lit X1 [(y : Int)] 3 (by simp)
              rw [hzX] at h
              exact h)
            clear hX1 hcg hq1 hb1 hQl hcl h3 hzX
            go_wp2_with (first
              | (at_builtin; rw [HX1.out]; refine appQ _ rfl (.tmp 62) (.tmp 64) rfl (W.heap.size + 1) _ _ rfl HQA.out (some ⟨_, 0, none⟩) 1 1 [(y : Int)] rfl rfl HLI.out HLQ.out (by simp; omega) ?_; intro v7 w7 q7; have HQ7 := Lib.hid q7; clear q7)
              | fail)
            obtain ⟨ho7, hc7, hm7⟩ := HQ7.out
            have HF1 := Lib.hid (show OwnQ w7 (W.heap.size + 1) v7 ((Q ++ [y]).map Int.ofNat) by rw [List.map_append]; exact ho7)
            have hlt7 : ∀ k, (HQA.out.lt (g := k)) = (HQA.out.lt (g := k)) := fun _ => rfl
            have HF2 := Lib.hid (show RowB w7 W.heap.size n (with_ E y) from (HR1.out.chg (Chg.ofBelow (belowAlloc _ _) fun _ => True) trivial).chg hc7 fun e => by have := (HQA.out.lt e).1; omega)
            have HF3 := Lib.hid (Rd.chg HRD1.out hc7 fun ad' e hl he => by
              injection e with e
              subst e
              exact HAN.out _ he rfl)
            have HF4 := Lib.hid (show Below W.heap.size W w7 from ⟨hc7.os.trans HB1.out.os, hc7.tape.trans HB1.out.tape, hc7.output.trans HB1.out.output, Nat.le_trans HB1.out.size hc7.size, fun k hk => (hc7.block k (Nat.lt_of_lt_of_le hk HB1.out.size) fun e => by have := (HQA.out.lt e).1; omega).trans (HB1.out.block k hk)⟩)
            have HF5 := Lib.hid (show ∀ ad', some ad = some ad' → 0 < m → ad'.block < w7.heap.size ∧ ∀ g, v7.ownBlock = some g → g ≠ ad'.block from fun ad' e _ => by
              injection e with e
              subst e
              have hs7 := hc7.size
              have hz := HZX.out
              rw [World.size_alloc] at hs7
              refine ⟨by have := HAB.out; omega, fun g hg => ?_⟩
              rcases hm7 g hg with h | h
              · exact HAN.out g h
              · rw [World.size_alloc] at h
                have := HAB.out; omega)
            clear ho7 hc7 hm7 hlt7
            go_wp2
            go_roundw
            case rel => exact ⟨j + 1, with_ E y, Q ++ [y], by omega, by go_num, HF1, HN, HF2, HF3, HF5, HF4⟩
            case measure => simp [intOf]; omega
          · have HN := Lib.hid (bfNo HI.out HLY.out hyy)
            by_cases h1 : y < n
            · have cy := HR.out.cell h1
              have d1 : decide ((y : Int) < (n : Int)) = true := decide_eq_true (by omega)
              have hy1 : (y : Int) < n := by omega
              by_cases h2 : (y : Int) = d
              · have d2 : ((y : Int) != d) = false := by simpa using h2
                clear h2
                go_wp2
                go_roundw
                case rel => exact ⟨j + 1, E, Q, by omega, by go_num, HQ, HN, HR, HRD, HA, HB⟩
                case measure => simp [intOf]; omega
              · have d2 : ((y : Int) != d) = true := by simpa using h2
                have h3 : E y = true := by
                  cases e : E y
                  · exact absurd ⟨h1, h2, e⟩ hyy
                  · rfl
                rw [h3] at cy
                clear h3
                go_wp2
                go_roundw
                case rel => exact ⟨j + 1, E, Q, by omega, by go_num, HQ, HN, HR, HRD, HA, HB⟩
                case measure => simp [intOf]; omega
            · have d1 : decide ((y : Int) < (n : Int)) = false := decide_eq_false (by omega)
              go_wp2
              go_roundw
              case rel => exact ⟨j + 1, E, Q, by omega, by go_num, HQ, HN, HR, HRD, HA, HB⟩
              case measure => simp [intOf]; omega
        · obtain rfl : j = m := by omega
          have HE := Lib.hid (bfInEnd HI.out (by rw [HMM.out]; exact Nat.le_refl _) fun y hy => (HMEM.out u y).2 ⟨y, hy, rfl⟩)
          have HME := Lib.hid HI.out.mes
          have HCT := Lib.hid (cntT HR.out)
          obtain ⟨Ae, ce, hve, _, _⟩ := HQ.out.rd
          rw [List.length_map] at hve
          have HVE := Lib.hid hve
          go_wp2
          go_roundw
          case rel => exact ⟨E, Q, HQ, HE, HR, HB⟩
          case measure =>
            rw [HVE.out]
            show 2 * (n - cntE n (cellT _ W.heap.size)) + Q.length < 2 * (n - cntE n (cellT _ W.heap.size)) + q
            rw [HCT.out]
            have := HME.out
            have := HLT.out
            omega
end Go.Proofs.YtjoffidlfkmelaaDoor
