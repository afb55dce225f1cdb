/-
  The specification's Clone: a copy in new memory.
-/
import Derived.Test.YtpkagpobobmnfaaGreatDoorPX9
import Derived.Test.YtpkagpobobmnfaaGreatDoorPAr
import Derived.BigQuiet
namespace Go.Proofs.YtpkagpobobmnfaaGreatDoor
open Go Go.RowKit

def slotR (i : Nat) : Nat := [5, 6, 7, 8, 9, 10, 11, 12, 13, 14, 15, 16, 17, 18, 19, 20, 21, 3].getD i 0
def upd (f : Nat → Value) (s : Nat) (v : Value) : Nat → Value := fun j => if j = s then v else f j
def actR (x0 x1 x2 : Value) (f : Nat → Value) : Act := ⟨#[x0, x1, x2, f 3, undef, f 5, f 6, f 7, f 8, f 9, f 10, f 11, f 12, f 13, f 14, f 15, f 16, f 17, f 18, f 19, f 20, f 21, undef, undef, undef, undef, undef, undef, undef, undef, undef, undef, undef, undef, undef, undef, undef, undef, undef, undef, undef, undef, undef, undef, undef, undef, undef, undef, undef, undef], []⟩
theorem actR_5 {x0 x1 x2 : Value} {f : Nat → Value} {v : Value} : (actR x0 x1 x2 f).put (some 5) v = actR x0 x1 x2 (upd f 5 v) := rfl
theorem actR_6 {x0 x1 x2 : Value} {f : Nat → Value} {v : Value} : (actR x0 x1 x2 f).put (some 6) v = actR x0 x1 x2 (upd f 6 v) := rfl
theorem actR_7 {x0 x1 x2 : Value} {f : Nat → Value} {v : Value} : (actR x0 x1 x2 f).put (some 7) v = actR x0 x1 x2 (upd f 7 v) := rfl
theorem actR_8 {x0 x1 x2 : Value} {f : Nat → Value} {v : Value} : (actR x0 x1 x2 f).put (some 8) v = actR x0 x1 x2 (upd f 8 v) := rfl
theorem actR_9 {x0 x1 x2 : Value} {f : Nat → Value} {v : Value} : (actR x0 x1 x2 f).put (some 9) v = actR x0 x1 x2 (upd f 9 v) := rfl
theorem actR_10 {x0 x1 x2 : Value} {f : Nat → Value} {v : Value} : (actR x0 x1 x2 f).put (some 10) v = actR x0 x1 x2 (upd f 10 v) := rfl
theorem actR_11 {x0 x1 x2 : Value} {f : Nat → Value} {v : Value} : (actR x0 x1 x2 f).put (some 11) v = actR x0 x1 x2 (upd f 11 v) := rfl
theorem actR_12 {x0 x1 x2 : Value} {f : Nat → Value} {v : Value} : (actR x0 x1 x2 f).put (some 12) v = actR x0 x1 x2 (upd f 12 v) := rfl
theorem actR_13 {x0 x1 x2 : Value} {f : Nat → Value} {v : Value} : (actR x0 x1 x2 f).put (some 13) v = actR x0 x1 x2 (upd f 13 v) := rfl
theorem actR_14 {x0 x1 x2 : Value} {f : Nat → Value} {v : Value} : (actR x0 x1 x2 f).put (some 14) v = actR x0 x1 x2 (upd f 14 v) := rfl
theorem actR_15 {x0 x1 x2 : Value} {f : Nat → Value} {v : Value} : (actR x0 x1 x2 f).put (some 15) v = actR x0 x1 x2 (upd f 15 v) := rfl
theorem actR_16 {x0 x1 x2 : Value} {f : Nat → Value} {v : Value} : (actR x0 x1 x2 f).put (some 16) v = actR x0 x1 x2 (upd f 16 v) := rfl
theorem actR_17 {x0 x1 x2 : Value} {f : Nat → Value} {v : Value} : (actR x0 x1 x2 f).put (some 17) v = actR x0 x1 x2 (upd f 17 v) := rfl
theorem actR_18 {x0 x1 x2 : Value} {f : Nat → Value} {v : Value} : (actR x0 x1 x2 f).put (some 18) v = actR x0 x1 x2 (upd f 18 v) := rfl
theorem actR_19 {x0 x1 x2 : Value} {f : Nat → Value} {v : Value} : (actR x0 x1 x2 f).put (some 19) v = actR x0 x1 x2 (upd f 19 v) := rfl
theorem actR_20 {x0 x1 x2 : Value} {f : Nat → Value} {v : Value} : (actR x0 x1 x2 f).put (some 20) v = actR x0 x1 x2 (upd f 20 v) := rfl
theorem actR_21 {x0 x1 x2 : Value} {f : Nat → Value} {v : Value} : (actR x0 x1 x2 f).put (some 21) v = actR x0 x1 x2 (upd f 21 v) := rfl
theorem actR_3 {x0 x1 x2 : Value} {f : Nat → Value} {v : Value} : (actR x0 x1 x2 f).put (some 3) v = actR x0 x1 x2 (upd f 3 v) := rfl
/-- A row that a copy gives. -/
def GRow {α : Type} (k : Nat) (E : World → Nat → Nat → α → Prop) (e : TypeId) (l : List α) (n base : Nat) (w : World) (v : Value) : Prop := ∃ B d, v = .slice B n d ∧ RdE k E w B d l ∧ FreshRow w base B (n * k) e
theorem GRow.below {α : Type} {k : Nat} {E : World → Nat → Nat → α → Prop} {e : TypeId} {l : List α} {n base : Nat} {w w' : World} {v : Value} (h : GRow k E e l n base w v) (hE : StabE E) (hb : Below w.heap.size w w') : GRow k E e l n base w' v := by
  obtain ⟨B, d, e1, h1, h2⟩ := h
  exact ⟨B, d, e1, h1.below hE hb, h2.below hb⟩
theorem GRow.of {α : Type} {k : Nat} {E : World → Nat → Nat → α → Prop} {e : TypeId} {l : List α} {n base : Nat} {w w' : World} {v : Value} (h : GoodCp k E e l n w v w') (hb : base ≤ w.heap.size) : GRow k E e l n base w' v := by
  obtain ⟨B, d, e1, h1, h2, _⟩ := h
  exact ⟨B, d, e1, h1, h2.mono hb⟩
theorem GoodCp.bel {α : Type} {k : Nat} {E : World → Nat → Nat → α → Prop} {e : TypeId} {l : List α} {n : Nat} {w w' : World} {v : Value} (h : GoodCp k E e l n w v w') : Below w.heap.size w w' := by
  obtain ⟨_, _, _, _, _, hb⟩ := h
  exact hb
structure Four (p : Prg) (a : PgA) (base : Nat) (w : World) (v : Value) : Prop where
  ex : ∃ v1 v2 v3 v5, v = .agg #[v1, v2, v3, .slice none 0 0, v5] ∧ GRow 2 EV 82 p.vars a.n1 base w v1 ∧ GRow 1 ES 9 p.muts a.n2 base w v2 ∧ GRow 1 ES 9 p.conds a.n3 base w v3 ∧ GRow 2 ET 84 p.thr a.n5 base w v5
/-- What operation i has left in its slot. -/
def FR (p : Prg) (a : PgA) (base b0 : Nat) (w : World) (i : Nat) (v : Value) : Prop :=
  match i with
  | 0 | 4 | 8 | 12 => ∃ A0, v = .slice A0 0 0
  | 1 => v = .pointer (some ⟨b0, 0, none⟩)
  | 5 => v = .pointer (some ⟨b0, 1, none⟩)
  | 9 => v = .pointer (some ⟨b0, 2, none⟩)
  | 13 => v = .pointer (some ⟨b0, 4, none⟩)
  | 2 => v = .slice a.A1 a.n1 a.c1
  | 6 => v = .slice a.A2 a.n2 a.c2
  | 10 => v = .slice a.A3 a.n3 a.c3
  | 14 => v = .slice a.A5 a.n5 a.c5
  | 3 => GRow 2 EV 82 p.vars a.n1 base w v
  | 7 => GRow 1 ES 9 p.muts a.n2 base w v
  | 11 => GRow 1 ES 9 p.conds a.n3 base w v
  | 15 => GRow 2 ET 84 p.thr a.n5 base w v
  | 16 => Four p a base w v
  | 17 => ∃ g, v = .pointer (some ⟨g, 0, none⟩) ∧ base ≤ g ∧ Blk w g 43 zer5
  | _ => True
theorem FR.below {p : Prg} {a : PgA} {base b0 : Nat} {w w' : World} {i : Nat} {v : Value} (h : FR p a base b0 w i v) (hb : Below w.heap.size w w') : FR p a base b0 w' i v := by
  unfold FR at *
  split at h
  all_goals first
    | exact h
    | exact GRow.below h stabV hb
    | exact GRow.below h stabS hb
    | exact GRow.below h stabT hb
    | (obtain ⟨v1, v2, v3, v5, e, g1, g2, g3, g5⟩ := h.ex; exact ⟨⟨v1, v2, v3, v5, e, g1.below stabV hb, g2.below stabS hb, g3.below stabS hb, g5.below stabT hb⟩⟩)
    | (obtain ⟨g, e, h1, h2⟩ := h; exact ⟨g, e, h1, Blk.below' h2 hb⟩)
structure PartR (p : Prg) (a : PgA) (W1 : World) (b0 : Nat) (L : Array Bool) (w : World) (f : Nat → Value) : Prop where
  below : Below W1.heap.size W1 w
  no : ¬ Lst L 18
  fact : ∀ i, i < 18 → Lst L i → FR p a W1.heap.size b0 w i (f (slotR i))
theorem slotInj : ∀ i, i < 18 → ∀ j, j < 18 → slotR i = slotR j → i = j := by decide
theorem PartR.next {p : Prg} {a : PgA} {W1 : World} {b0 : Nat} {L : Array Bool} {w w' : World} {f : Nat → Value} (h : PartR p a W1 b0 L w f) (i : Nat) (hi : i < 18) (hb : Below w.heap.size w w') {v : Value} (hv : FR p a W1.heap.size b0 w' i v) {s : Nat} (hs : s = slotR i) : PartR p a W1 b0 (L.setIfInBounds i true) w' (upd f s v) :=
  ⟨belowThen h.below hb, fun hl => h.no (hl.of (by omega)), fun j hj hl => by
    subst hs
    by_cases hij : i = j
    · subst hij
      unfold upd
      rw [if_pos rfl]
      exact hv
    · unfold upd
      rw [if_neg fun e => hij (slotInj _ hi _ hj e.symm)]
      exact (h.fact j hj (hl.of hij)).below hb⟩
/-- The copy without its functions. -/
structure FinR (W1 X : World) (p : Prg) (a a' : PgA) (g : Nat) : Prop where
  lo : W1.heap.size ≤ g
  below : Below W1.heap.size W1 X
  box : PBox X g a'
  z4 : a'.A4 = none ∧ a'.n4 = 0 ∧ a'.c4 = 0
  l1 : a.n1 = a'.n1
  l2 : a.n2 = a'.n2
  l3 : a.n3 = a'.n3
  l5 : a.n5 = a'.n5
  vars : RdE 2 EV X a'.A1 a'.c1 p.vars
  muts : RdE 1 ES X a'.A2 a'.c2 p.muts
  conds : RdE 1 ES X a'.A3 a'.c3 p.conds
  thr : RdE 2 ET X a'.A5 a'.c5 p.thr
  f1 : FreshRow X W1.heap.size a'.A1 (a'.n1 * 2) 82
  f2 : FreshRow X W1.heap.size a'.A2 (a'.n2 * 1) 9
  f3 : FreshRow X W1.heap.size a'.A3 (a'.n3 * 1) 9
  f5 : FreshRow X W1.heap.size a'.A5 (a'.n5 * 2) 84
theorem finR {W1 Y : World} {p : Prg} {a : PgA} {g : Nat} {v1 v2 v3 v5 : Value} (hb : Below W1.heap.size W1 Y) (lo : W1.heap.size ≤ g) (hG : Blk Y g 43 zer5) (g1 : GRow 2 EV 82 p.vars a.n1 W1.heap.size Y v1) (g2 : GRow 1 ES 9 p.muts a.n2 W1.heap.size Y v2) (g3 : GRow 1 ES 9 p.conds a.n3 W1.heap.size Y v3) (g5 : GRow 2 ET 84 p.thr a.n5 W1.heap.size Y v5) :
    ∃ a', #[v1, v2, v3, .slice none 0 0, v5] = a'.fs ∧ FinR W1 (put5 Y g v1 v2 v3 (.slice none 0 0) v5) p a a' g := by
  obtain ⟨B1, d1, rfl, h1, k1⟩ := g1
  obtain ⟨B2, d2, rfl, h2, k2⟩ := g2
  obtain ⟨B3, d3, rfl, h3, k3⟩ := g3
  obtain ⟨B5, d5, rfl, h5, k5⟩ := g5
  have hc := but5 Y g (.slice B1 a.n1 d1) (.slice B2 a.n2 d2) (.slice B3 a.n3 d3) (.slice none 0 0) (.slice B5 a.n5 d5)
  exact ⟨⟨B1, a.n1, d1, B2, a.n2, d2, B3, a.n3, d3, none, 0, 0, B5, a.n5, d5⟩, rfl, ⟨lo, below5 hb lo _ _ _ _ _, ((((hG.set 0 _).set 1 _).set 2 _).set 3 _).set 4 _, ⟨rfl, rfl, rfl⟩, rfl, rfl, rfl, rfl, h1.but noV (onlySl hG) hc, h2.but noS (onlySl hG) hc, h3.but noS (onlySl hG) hc, h5.but noT (onlySl hG) hc, k1.but hc (blkOther hG (by decide)), k2.but hc (blkOther hG (by decide)), k3.but hc (blkOther hG (by decide)), k5.but hc (blkOther hG (by decide))⟩⟩

/-! ### The functions, one by one -/
theorem ownBut {w w' : World} {base s n g : Nat} {e : TypeId} {v : Value} {xs : List Value} (h : w.ownsRow base e s v n xs) (hc : But g w w') (hG : ∀ cur z, w.heap[g]? ≠ some (.cells cur e z)) : w'.ownsRow base e s v n xs := by
  refine ⟨h.1, ?_⟩
  rcases h.2 with h2 | ⟨b, cap, cur, rfl, hb, hg, r⟩
  · exact .inl h2
  · exact .inr ⟨b, cap, cur, rfl, hb, (hc.block b (Array.getElem?_eq_some_iff.1 hg).1 (fun e => by subst e; exact hG _ _ hg)).trans hg, r⟩
theorem ownBelow {w w' : World} {base s n : Nat} {e : TypeId} {v : Value} {xs : List Value} (h : w.ownsRow base e s v n xs) (hb : Below w.heap.size w w') : w'.ownsRow base e s v n xs := by
  refine ⟨h.1, ?_⟩
  rcases h.2 with h2 | ⟨b, cap, cur, rfl, hbb, hg, r⟩
  · exact .inl h2
  · exact .inr ⟨b, cap, cur, rfl, hbb, (hb.block b (Array.getElem?_eq_some_iff.1 hg).1).trans hg, r⟩
/-- The functions that have been copied. -/
def RowF (base : Nat) (Y : World) (p : Prg) (k : Nat) (ys : List Value) : Prop := (∀ j, j < k → ∀ (h : j < p.funcs.length), ys[j * 2]? = some (.string p.funcs[j].1) ∧ ∃ B m d, ys[j * 2 + 1]? = some (.slice B m d) ∧ p.funcs[j].2.length = m ∧ RdE 8 EI Y B d p.funcs[j].2 ∧ FreshRow Y base B (m * 8) 55) ∧ DisV (fun j => ys[j * 2 + 1]?) k
structure LpR (W1 Y : World) (p : Prg) (a : PgA) (g k : Nat) : Prop where
  lo : W1.heap.size ≤ g
  below : Below W1.heap.size W1 Y
  box : PBox Y g a
  n4 : a.n4 = k
  l1 : p.vars.length = a.n1
  l2 : p.muts.length = a.n2
  l3 : p.conds.length = a.n3
  l5 : p.thr.length = a.n5
  vars : RdE 2 EV Y a.A1 a.c1 p.vars
  muts : RdE 1 ES Y a.A2 a.c2 p.muts
  conds : RdE 1 ES Y a.A3 a.c3 p.conds
  thr : RdE 2 ET Y a.A5 a.c5 p.thr
  f1 : FreshRow Y W1.heap.size a.A1 (a.n1 * 2) 82
  f2 : FreshRow Y W1.heap.size a.A2 (a.n2 * 1) 9
  f3 : FreshRow Y W1.heap.size a.A3 (a.n3 * 1) 9
  f5 : FreshRow Y W1.heap.size a.A5 (a.n5 * 2) 84
  row : ∃ ys, Y.ownsRow W1.heap.size 24 2 (.slice a.A4 k a.c4) k ys ∧ RowF W1.heap.size Y p k ys
theorem FinR.start {W1 X : World} {p : Prg} {a a' : PgA} {g : Nat} (h : FinR W1 X p a a' g) (l1 : p.vars.length = a.n1) (l2 : p.muts.length = a.n2) (l3 : p.conds.length = a.n3) (l5 : p.thr.length = a.n5) : LpR W1 X p a' g 0 :=
  ⟨h.lo, h.below, h.box, h.z4.2.1, l1.trans h.l1, l2.trans h.l2, l3.trans h.l3, l5.trans h.l5, h.vars, h.muts, h.conds, h.thr, h.f1, h.f2, h.f3, h.f5, [], by rw [h.z4.1, h.z4.2.2]; exact World.ownsRow_nil _ _ _ _, fun j hj => absurd hj (by omega), DisV.zero _⟩
theorem LpR.step {W1 Y X X2 : World} {p : Prg} {a : PgA} {g k : Nat} (h : LpR W1 Y p a g k) (hk : k < p.funcs.length) (hb : Below Y.heap.size Y X) {m : Nat} (hm : p.funcs[k].2.length = m) {B : Option Addr} {d : Nat} (hr : RdE 8 EI X B d p.funcs[k].2) (hfr : FreshRow X Y.heap.size B (m * 8) 55)
    {ys : List Value} (hown0 : Y.ownsRow W1.heap.size 24 2 (.slice a.A4 k a.c4) k ys) (hrow : RowF W1.heap.size Y p k ys) {A4 : Option Addr} {c4 : Nat} (hown : X2.ownsRow W1.heap.size 24 2 (.slice A4 (k + 1) c4) (k + 1) (ys ++ [.string p.funcs[k].1, .slice B m d])) (hgr : X.grownBy X2 (Value.slice a.A4 k a.c4).ownBlock) :
    LpR W1 (X2.setCell ⟨g, 3, none⟩ (.slice A4 (k + 1) c4)) p ⟨a.A1, a.n1, a.c1, a.A2, a.n2, a.c2, a.A3, a.n3, a.c3, A4, k + 1, c4, a.A5, a.n5, a.c5⟩ g (k + 1) := by
  have hownX := ownBelow hown0 hb
  have hbase : W1.heap.size ≤ X.heap.size := Nat.le_trans h.below.size hb.size
  have hbX : Below W1.heap.size W1 X := belowThen h.below hb
  have hbX2 : Below W1.heap.size W1 X2 := hbX.grown hgr hbase fun q hq => (World.ownsRow.lt hownX q hq).1
  have hG0 : Blk X g 43 a.fs := h.box.below hb
  have hkeep : ∀ e, e ≠ 24 → Keep W1.heap.size e X X2 := fun e he => ⟨hgr.size, fun q cur z _ hq => hgr.block q (Array.getElem?_eq_some_iff.1 hq).1 fun hh => by
    rcases hownX.2 with ⟨h2, _⟩ | ⟨b, cap, cur', h2, _, hg, _⟩
    · rw [h2] at hh; simp [Value.ownBlock] at hh
    · rw [h2] at hh
      simp [Value.ownBlock] at hh
      subst hh
      rw [hg] at hq
      injection hq with hq
      injection hq with _ ht
      exact he ht.symm⟩
  have hG2 : Blk X2 g 43 a.fs := ((hkeep _ (by decide)).block g _ _ (Nat.le_trans h.lo (Nat.le_refl _)) hG0).trans hG0
  have hbut := but1 X2 g 3 (.slice A4 (k + 1) c4)
  have K : ∀ e, e ≠ 24 → e ≠ 43 → Keep W1.heap.size e X (X2.setCell ⟨g, 3, none⟩ (.slice A4 (k + 1) c4)) := fun e he he' => by
    have k1 := hkeep e he
    have k2 : Keep W1.heap.size e X2 (X2.setCell ⟨g, 3, none⟩ (.slice A4 (k + 1) c4)) := Keep.ofBut hbut (blkOther hG2 (Ne.symm he'))
    exact ⟨Nat.le_trans k1.size k2.size, fun q cur z hq hc => (k2.block q cur z hq ((k1.block q cur z hq hc).trans hc)).trans (k1.block q cur z hq hc)⟩
  have hlen : ys.length = k * 2 := hown0.1
  refine ⟨h.lo, hbX2.setCell h.lo _, hG2.set 3 _, rfl, h.l1, h.l2, h.l3, h.l5,
    (h.vars.below stabV hb).keep locV h.l1 (h.f1.below hb) (by decide) (K _ (by decide) (by decide)), (h.muts.below stabS hb).keep locS h.l2 (h.f2.below hb) (by decide) (K _ (by decide) (by decide)), (h.conds.below stabS hb).keep locS h.l3 (h.f3.below hb) (by decide) (K _ (by decide) (by decide)), (h.thr.below stabT hb).keep locT h.l5 (h.f5.below hb) (by decide) (K _ (by decide) (by decide)),
    (h.f1.below hb).keep (K _ (by decide) (by decide)), (h.f2.below hb).keep (K _ (by decide) (by decide)), (h.f3.below hb).keep (K _ (by decide) (by decide)), (h.f5.below hb).keep (K _ (by decide) (by decide)),
    ys ++ [.string p.funcs[k].1, .slice B m d], ownBut hown hbut (blkOther hG2 (by decide)), fun j hj hjl => ?_, ?_⟩
  rotate_right
  · refine hrow.2.succ (z := Y.heap.size) (fun i hi => List.getElem?_append_left (by omega)) (B := B) (m := m) (d := d) (by rw [List.getElem?_append_right (by omega), hlen, Nat.add_sub_cancel_left]; rfl) (fun i hi B1 m1 d1 ad1 g1 g2 g3 => ?_) fun g2 ad1 g3 => ?_
    · obtain ⟨q1, B', m', d', q2, q3, q4, _⟩ := hrow.1 i hi (by omega)
      have g1 : ys[i * 2 + 1]? = some (.slice B1 m1 d1) := g1
      rw [g1] at q2
      cases q2
      obtain ⟨b5, o5, e5, e6, _⟩ := q4.at_ (by omega)
      rw [g3] at e5
      cases e5
      exact e6
    · obtain ⟨b5, cur5, e5, e6, _⟩ := hfr (by omega)
      rw [g3] at e5
      cases e5
      exact e6
  by_cases hjk : j < k
  · obtain ⟨q1, B', m', d', q2, q3, q4, q5⟩ := hrow.1 j hjk hjl
    exact ⟨by rw [List.getElem?_append_left (by omega)]; exact q1, B', m', d', by rw [List.getElem?_append_left (by omega)]; exact q2, q3, (q4.below stabI hb).keep locI q3 (q5.below hb) (by decide) (K _ (by decide) (by decide)), (q5.below hb).keep (K _ (by decide) (by decide))⟩
  · have : j = k := by omega
    subst this
    exact ⟨by rw [List.getElem?_append_right (by omega), hlen, Nat.sub_self]; rfl, B, m, d, by rw [List.getElem?_append_right (by omega), hlen, Nat.add_sub_cancel_left]; rfl, hm, hr.keep locI hm (hfr.mono h.below.size) (by decide) (K _ (by decide) (by decide)), (hfr.mono h.below.size).keep (K _ (by decide) (by decide))⟩
theorem LpR.mid {W1 Y X X2 : World} {p : Prg} {a : PgA} {g k : Nat} (h : LpR W1 Y p a g k) (hb : Below Y.heap.size Y X) {ys : List Value} (hown0 : Y.ownsRow W1.heap.size 24 2 (.slice a.A4 k a.c4) k ys) (hgr : X.grownBy X2 (Value.slice a.A4 k a.c4).ownBlock) : Below W1.heap.size W1 X2 ∧ Blk X2 g 43 a.fs := by
  have hownX := ownBelow hown0 hb
  have hbase : W1.heap.size ≤ X.heap.size := Nat.le_trans h.below.size hb.size
  refine ⟨(belowThen h.below hb).grown hgr hbase fun q hq => (World.ownsRow.lt hownX q hq).1, ?_⟩
  have hG0 : Blk X g 43 a.fs := h.box.below hb
  refine (hgr.block g (Array.getElem?_eq_some_iff.1 hG0).1 fun hh => ?_).trans hG0
  rcases hownX.2 with ⟨h2, _⟩ | ⟨b, cap, cur', h2, _, hg, _⟩
  · rw [h2] at hh; simp [Value.ownBlock] at hh
  · rw [h2] at hh
    simp [Value.ownBlock] at hh
    subst hh
    unfold Blk at hG0
    rw [hg] at hG0
    injection hG0 with hq
    injection hq with _ ht
    exact absurd ht (by decide)
theorem ownSl {w : World} {base s n : Nat} {e : TypeId} {v : Value} {xs : List Value} (h : w.ownsRow base e s v n xs) : ∃ A c, v = .slice A n c := by
  rcases h.2 with ⟨h1, h2⟩ | ⟨b, cap, cur, h1, _⟩
  · subst h2; exact ⟨none, 0, h1⟩
  · exact ⟨_, _, h1⟩
theorem LpR.done {W1 Y : World} {p : Prg} {a : PgA} {g k : Nat} (h : LpR W1 Y p a g k) (hk : p.funcs.length = k) : Cl8 W1.heap.size Y p a := by
  obtain ⟨ys, hown, hrow⟩ := h.row
  have hl4 : p.funcs.length = a.n4 := hk.trans h.n4.symm
  have hfn : 0 < a.n4 → ∃ b off, FnRow W1.heap.size Y a p a.n4 b off := fun h0 => by
    rcases hown.2 with ⟨_, h2⟩ | ⟨b, cap, cur, hv, hb, hg, h1, h2, h3, h4⟩
    · have := h.n4; omega
    · injection hv with e1 _ e3
      have hc : ∀ i u, ys[i]? = some u → Y.cell? ⟨b, 0 + i, none⟩ = some u := fun i u hi => by
        rw [Nat.zero_add, Joins.cell_of_block hg i]
        rw [← h4, List.getElem?_take] at hi
        split at hi
        · rw [Array.getElem?_toList] at hi; exact hi
        · cases hi
      refine ⟨b, 0, e1, hb, ⟨cur, hg⟩, fun j hj => ?_, ?_⟩
      rotate_right
      · refine DisV.congr (by have := h.n4; rw [this]; exact hrow.2) fun i hi => ?_
        obtain ⟨q1, B, m, d, q2, _⟩ := hrow.1 i (by have := h.n4; omega) (by omega)
        exact (hc _ _ q2).trans q2.symm
      obtain ⟨q1, B, m, d, q2, q3, q4, q5⟩ := hrow.1 j (by omega) hj
      exact ⟨hc _ _ q1, B, m, d, hc _ _ q2, q3, q4, fun _ => q5, fun hn => absurd (by omega) hn⟩
  have hf4 : FreshRow Y W1.heap.size a.A4 (a.n4 * 2) 24 := fun h0 => by
    rcases hown.2 with ⟨_, h2⟩ | ⟨b, cap, cur, hv, hb, hg, h1, h2, h3, h4⟩
    · have := h.n4; omega
    · injection hv with e1 _ e3
      exact ⟨b, cur, e1, hb, hg, by have := h.n4; omega⟩
  have hcap : a.n4 ≤ a.c4 ∧ a.c4 ≤ maxLen := by
    rcases hown.2 with ⟨h1, h2⟩ | ⟨b, cap, cur, hv, hb, hg, h1, h2, h3, h4⟩
    · injection h1 with _ _ e3
      have := h.n4
      rw [e3]
      exact ⟨by omega, Nat.zero_le _⟩
    · injection hv with _ _ e3
      have := h.n4
      rw [e3]
      exact ⟨by omega, h2⟩
  refine ⟨⟨h.l1, h.l2, h.l3, hl4, h.l5, h.vars, h.muts, h.conds, ?_, h.thr⟩, h.f1, h.f2, h.f3, hf4, h.f5, hfn⟩
  rcases Nat.eq_zero_or_pos a.n4 with h0 | h0
  · have hl := hl4
    rw [h0] at hl
    rw [List.eq_nil_of_length_eq_zero hl]
    exact ⟨Nat.zero_le _, hcap.2, fun hn => absurd hn (by simp)⟩
  · obtain ⟨b, off, hf⟩ := hfn h0
    exact hf.rd hl4 hcap.1 hcap.2
/-- The row of the functions is the copy's own. -/
def OwF (base : Nat) (Y : World) (p : Prg) (a : PgA) : Prop := ∃ ys, Y.ownsRow base 24 2 (.slice a.A4 a.n4 a.c4) a.n4 ys ∧ RowF base Y p a.n4 ys
theorem OwF.but {base g : Nat} {Y Y' : World} {p : Prg} {a : PgA} {cur : Array Value} (h : OwF base Y p a) (hc : But g Y Y') (hG : Blk Y g 43 cur) (hs : OnlySl Y g) : OwF base Y' p a := by
  obtain ⟨ys, h1, h2⟩ := h
  refine ⟨ys, ownBut h1 hc (blkOther hG (by decide)), fun j hj hl => ?_, h2.2⟩
  obtain ⟨q1, B, m, d, q2, q3, q4, q5⟩ := h2.1 j hj hl
  exact ⟨q1, B, m, d, q2, q3, q4.but noI hs hc, q5.but hc (blkOther hG (by decide))⟩
theorem OwF.below {base : Nat} {Y Y' : World} {p : Prg} {a : PgA} (h : OwF base Y p a) (hb : Below Y.heap.size Y Y') : OwF base Y' p a := by
  obtain ⟨ys, h1, h2⟩ := h
  refine ⟨ys, ownBelow h1 hb, fun j hj hl => ?_, h2.2⟩
  obtain ⟨q1, B, m, d, q2, q3, q4, q5⟩ := h2.1 j hj hl
  exact ⟨q1, B, m, d, q2, q3, q4.below stabI hb, q5.below hb⟩
theorem OwF.mono {base base' : Nat} {Y : World} {p : Prg} {a : PgA} (h : OwF base Y p a) (hb : base' ≤ base) : OwF base' Y p a := by
  obtain ⟨ys, h1, h2⟩ := h
  refine ⟨ys, ⟨h1.1, ?_⟩, fun j hj hl => ?_, h2.2⟩
  · rcases h1.2 with g | ⟨b, cap, cur, e, g, r⟩
    · exact .inl g
    · exact .inr ⟨b, cap, cur, e, Nat.le_trans hb g, r⟩
  · obtain ⟨q1, B, m, d, q2, q3, q4, q5⟩ := h2.1 j hj hl
    exact ⟨q1, B, m, d, q2, q3, q4, q5.mono hb⟩
theorem wantedIf {c : Bool} {A B : Prop} (hc : c = true) (h : A) : if c = true then A else B := by rw [if_pos hc]; exact h
theorem opVal {P : Program} {o : Oper} {a : Act} {w w' : World} {K : Act → World → Prop} {Q : Exit → Act → World → Prop} {v : Value} (h : (execOp a.eval o).run P w = .ok (.value v) w') (hk : K (a.put o.dst v) w') : Oper.wp P o a w K Q := by unfold Oper.wp; rw [h]; exact hk
theorem opSkip {P : Program} {o : Oper} {a : Act} {w w' : World} {K : Act → World → Prop} {Q : Exit → Act → World → Prop} (h : (execOp a.eval o).run P w = .ok .skip w') (hk : K (a.put o.dst undef) w') : Oper.wp P o a w K Q := by unfold Oper.wp; rw [h]; exact hk
def InvR (p : Prg) (a : PgA) (W1 : World) (x0 x1 x2 : Value) (b0 : Nat) (L : Array Bool) (s : Act) (w : World) : Prop :=
  ∃ f, s = actR x0 x1 x2 f ∧ (PartR p a W1 b0 L w f ∨ ((∀ i, i < 19 → Lst L i) ∧ ∃ a' g, f 3 = .pointer (some ⟨g, 0, none⟩) ∧ FinR W1 w p a a' g))
set_option maxRecDepth 100000 in
set_option maxHeartbeats 8000000 in
theorem rClone8o (p : Prg) (a : PgA) (w : World) (ha : PgW w a p) (h1 : a.n1 ≤ 1000) (h2 : a.n2 ≤ 1000) (h3 : a.n3 ≤ 1000) (h4 : a.n4 ≤ 1000) (h5 : a.n5 ≤ 1000) (h6 : ∀ f ∈ p.funcs, f.2.length ≤ 1000) :
    Calls Tryz.prog 40 #[a.val] w fun e w' => ∃ a', e = .returned a'.val ∧ Below w.heap.size w w' ∧ Cl8 w.heap.size w' p a' ∧ OwF w.heap.size w' p a' := by
  obtain ⟨A1, n1, c1, A2, n2, c2, A3, n3, c3, A4, n4, c4, A5, n5, c5⟩ := a
  unfold PgA.val PgA.fs
  obtain ⟨W, hW⟩ : ∃ W, (w.alloc (.cells #[.slice A1 n1 c1, .slice A2 n2 c2, .slice A3 n3 c3, .slice A4 n4 c4, .slice A5 n5 c5] 43)) = W := ⟨_, rfl⟩
  obtain ⟨W1, hW1⟩ : ∃ W1, (W.alloc (.cells #[.slice none 0 0, .slice none 0 0, .slice none 0 0, .slice none 0 0, .slice none 0 0] 43)) = W1 := ⟨_, rfl⟩
  have hbW : Below w.heap.size w W := by rw [← hW]; exact belowAlloc w _
  have hbW1 : Below W.heap.size W W1 := by rw [← hW1]; exact belowAlloc W _
  have HB : PBox W w.heap.size ⟨A1, n1, c1, A2, n2, c2, A3, n3, c3, A4, n4, c4, A5, n5, c5⟩ := by rw [← hW]; exact Blk.new w _ _
  have HB1 := HB.below hbW1
  have hS : Below W1.heap.size W1 W1.drew := (Below.refl _ W1).drew
  simp only at h1 h2 h3 h4 h5
  have C1 := Lib.hid (fun X (hX : Below W1.heap.size W1 X) ty A0 => runCpV X ty A0 A1 p.vars n1 c1 ha.l1 (by omega) ((((ha.below hbW).below hbW1).below hX).vars))
  have C2 := Lib.hid (fun X (hX : Below W1.heap.size W1 X) ty A0 => runCpS X ty A0 A2 p.muts n2 c2 ha.l2 (by omega) ((((ha.below hbW).below hbW1).below hX).muts))
  have C3 := Lib.hid (fun X (hX : Below W1.heap.size W1 X) ty A0 => runCpS X ty A0 A3 p.conds n3 c3 ha.l3 (by omega) ((((ha.below hbW).below hbW1).below hX).conds))
  have C5 := Lib.hid (fun X (hX : Below W1.heap.size W1 X) ty A0 => runCpT X ty A0 A5 p.thr n5 c5 ha.l5 (by omega) ((((ha.below hbW).below hbW1).below hX).thr))
  have HK := Lib.hid (fun X (hX : Below W1.heap.size W1 X) => (HB1.below hX).facts)
  have HW1 := Lib.hid hW1
  have HW := Lib.hid hW
  have HA := Lib.hid ha
  clear hbW hbW1 HB HB1 ha hW hW1
  go_enter Tryz.func40, Tryz.ntmps40
  go_wp2_with fail
  rw [HW.out]
  go_wp2_with fail
  rw [HW1.out]
  refine Code.wp_mono (Q := fun e s X => e = .normal ∧ ∃ f a' g, s = actR (.agg #[.slice A1 n1 c1, .slice A2 n2 c2, .slice A3 n3 c3, .slice A4 n4 c4, .slice A5 n5 c5]) (.pointer (some ⟨w.heap.size, 0, none⟩)) (.pointer (some ⟨w.heap.size + 1, 0, none⟩)) f ∧ f 3 = .pointer (some ⟨g, 0, none⟩) ∧ FinR W1 X p ⟨A1, n1, c1, A2, n2, c2, A3, n3, c3, A4, n4, c4, A5, n5, c5⟩ a' g) ?_ ?_
  · rintro e s X ⟨rfl, f, a', g, rfl, hg, hm⟩
    have HL0 := Lib.hid (hm.start HA.out.l1 HA.out.l2 HA.out.l3 HA.out.l5)
    have HL4 := Lib.hid HA.out.l4
    have hle4 := HA.out.funcs.le
    have hmx4 := HA.out.funcs.max
    rw [HL4.out] at hle4
    simp only at hle4 hmx4
    unfold maxLen at hmx4
    have HF := Lib.hid (fun k (hk : k < p.funcs.length) => HA.out.funcs.one hk)
    have H6 := Lib.hid h6
    clear C1 C2 C3 C5 hS h1 h2 h3 h5 h6 hm
    unfold actR
    rw [hg]
    clear hg
    go_wp2_with fail
    go_loopw [4] (fun i Y => ∃ (k : Nat) (a : PgA), k ≤ n4 ∧ i = .int .i64 k ∧ LpR W1 Y p a g k) (fun i _ => n4 - (intOf i).toNat)
    case atStart => exact ⟨0, a', Nat.zero_le _, rfl, HL0.out⟩
    case round =>
      obtain ⟨k, a, hk, rfl, hL⟩ := hrel
      obtain ⟨y1, y2, y3, y4, y5⟩ := HK.out wr hL.below
      try simp only at y4
      by_cases hlt : k < n4
      · have hk' : k < p.funcs.length := by rw [HL4.out]; exact hlt
        obtain ⟨q, off, hA4, hq, h1, v, h2, B, m, d, rfl, hm, hr⟩ := HF.out k hk'
        have hA4 : A4 = some ⟨q, off, none⟩ := hA4
        subst hA4
        have hm1 : m ≤ 1000000 := by have := H6.out _ (List.getElem_mem hk'); omega
        have HBW := Lib.hid (show Below w.heap.size w W1 by rw [← HW1.out, ← HW.out]; exact belowThen (belowAlloc _ _) (belowAlloc _ _))
        obtain ⟨nm, hnm⟩ : ∃ nm, p.funcs[k].1 = nm := ⟨_, rfl⟩
        rw [hnm] at h1
        have HLb := Lib.hid hL.below
        have Hlo := Lib.hid hL.lo
        have HKS := Lib.hid (fun X (hX : Below W1.heap.size W1 X) => (⟨hX, (HK.out X hX).2.2.2.1, ((belowThen HBW.out hX).cell (p := ⟨q, off + k * 2, none⟩) hq).trans h1, ((belowThen HBW.out hX).cell (p := ⟨q, off + k * 2 + 1, none⟩) hq).trans h2⟩ : Below W1.heap.size W1 X ∧ X.cell? ⟨w.heap.size, 3, none⟩ = some (.slice (some ⟨q, off, none⟩) n4 c4) ∧ X.cell? ⟨q, off + k * 2, none⟩ = some (.string nm) ∧ X.cell? ⟨q, off + k * 2 + 1, none⟩ = some (.slice B m d)))
        have HG3 := Lib.hid (fun X (hX : Below wr.heap.size wr X) => (hL.box.below hX).facts.2.2.2.1)
        have HAP := Lib.hid (fun X (hX : Below wr.heap.size wr X) ty A0 => runCpI X ty A0 B p.funcs[k].2 m d hm hm1 (hr.below stabI (belowThen HBW.out (belowThen HLb.out hX))))
        obtain ⟨ys, hown, hrow⟩ := hL.row
        obtain ⟨i0, hi, hz0, hz1, hz2⟩ := info_parts infoCF
        have HOW := Lib.hid (fun X (hX : Below wr.heap.size wr X) gb nm B' m d' (hG : Blk X gb 24 #[.string nm, .slice B' m d']) ty => run_append_own_at (P := Tryz.prog) X W1.heap.size 40 ty 24 i0 _ 2 40 Tryz.underlying40 hi hz0 hz1 hz2 rfl (by decide) (.slice a.A4 k a.c4) k ys (ownBelow hown hX) ⟨gb, 0, none⟩ 1 1 [.string nm, .slice B' m d'] rfl (by
          intro j u hu
          have hj : j < 2 := (List.getElem?_eq_some_iff.1 hu).1
          rw [Addr.add_lit, Nat.zero_add, hG.cell]
          rcases (by omega : j = 0 ∨ j = 1) with rfl | rfl <;> exact hu) (by simp [Value.oneCell']) (by unfold maxLen; omega) (by omega) (Nat.le_trans hL.below.size hX.size))
        have HMID := Lib.hid (fun X X2 (hX : Below wr.heap.size wr X) hgr => hL.mid (X := X) (X2 := X2) hX hown hgr)
        have HST := Lib.hid (fun X X2 (hX : Below wr.heap.size wr X) B' d' hr' hfr A4n c4n hw hg => hL.step (X := X) (X2 := X2) hk' hX hm (B := B') (d := d') hr' hfr hown hrow (A4 := A4n) (c4 := c4n) hw hg)
        rw [hnm] at HST
        have hn4 := hL.n4
        have hS0 := HKS.out wr.drew (hL.below.drew)
        have bdw : Below wr.heap.size wr wr.drew := (Below.refl _ wr).drew
        clear hL hown hrow hi hz0 hz1 hz2 h1 h2 hr HF H6 HL0 y1 y2 y3 y5
        obtain ⟨A1', n1', c1', A2', n2', c2', A3', n3', c3', A4', n4', c4', A5', n5', c5'⟩ := a
        simp only at HG3 HOW HMID HST hn4
        subst hn4
        have hk0 : (0 : Int) ≤ (n4' : Int) := by omega
        have hk1 : (n4' : Int) < n4 := by omega
        go_wp2_with fail
        refine wp_region_held_drew (S := (fun w' => Below W1.heap.size W1 w' ∧ w'.cell? ⟨w.heap.size, 3, none⟩ = some (.slice (some ⟨q, off, none⟩) n4 c4) ∧ w'.cell? ⟨q, off + n4' * 2, none⟩ = some (.string nm) ∧ w'.cell? ⟨q, off + n4' * 2 + 1, none⟩ = some (.slice B m d))) (by kernel_rfl) hS0 (fun hHeld => ?_)
        refine wpAnyH_take (i := 0) (oi := ⟨some 29, _, _, _, _, _⟩) (v := ?v0_1) rfl (by kernel_rfl) (by kernel_rfl) (by kernel_rfl) (fun _ _ _ h => h) (Or.inl ⟨by rfl, ?h0_1⟩) (by assumption) ?r0_1
        case h0_1 => (intro w hSw; (try dsimp only at hSw); go_simp; try with_reducible rfl)
        (try simp only [Act.put, List.setIfInBounds_toArray, List.set_cons_zero, List.set_cons_succ])
        refine wpAnyH_take (i := 2) (oi := ⟨some 31, _, _, _, _, _⟩) (v := ?v2_2) rfl (by kernel_rfl) (by kernel_rfl) (by kernel_rfl) (fun _ _ _ h => h) (Or.inl ⟨by rfl, ?h2_2⟩) (by assumption) ?r2_2
        case h2_2 => (intro w hSw; (try dsimp only at hSw); go_simp; try with_reducible rfl)
        (try simp only [Act.put, List.setIfInBounds_toArray, List.set_cons_zero, List.set_cons_succ])
        refine wpAnyH_take (i := 3) (oi := ⟨some 32, _, _, _, _, _⟩) (v := ?v3_3) rfl (by kernel_rfl) (by kernel_rfl) (by kernel_rfl) (fun _ _ _ h => h) (Or.inl ⟨by rfl, ?h3_3⟩) (by assumption) ?r3_3
        case h3_3 => (intro w hSw; (try dsimp only at hSw); go_simp; try with_reducible rfl)
        (try simp only [Act.put, List.setIfInBounds_toArray, List.set_cons_zero, List.set_cons_succ])
        refine wpAnyH_take (i := 4) (oi := ⟨some 33, _, _, _, _, _⟩) (v := ?v4_4) rfl (by kernel_rfl) (by kernel_rfl) (by kernel_rfl) (fun _ _ _ h => h) (Or.inl ⟨by rfl, ?h4_4⟩) (by assumption) ?r4_4
        case h4_4 => (intro w hSw; (try dsimp only at hSw); go_simp; try with_reducible rfl)
        (try simp only [Act.put, List.setIfInBounds_toArray, List.set_cons_zero, List.set_cons_succ])
        refine wpAnyH_take (i := 5) (oi := ⟨some 34, _, _, _, _, _⟩) (v := ?v5_5) rfl (by kernel_rfl) (by kernel_rfl) (by kernel_rfl) (fun _ _ _ h => h) (Or.inl ⟨by rfl, ?h5_5⟩) (by assumption) ?r5_5
        case h5_5 => (intro w hSw; (try dsimp only at hSw); go_simp; try with_reducible rfl)
        (try simp only [Act.put, List.setIfInBounds_toArray, List.set_cons_zero, List.set_cons_succ])
        refine wpAnyH_take (i := 6) (oi := ⟨some 35, _, _, _, _, _⟩) (v := ?v6_6) rfl (by kernel_rfl) (by kernel_rfl) (by kernel_rfl) (fun _ _ _ h => h) (Or.inl ⟨by rfl, ?h6_6⟩) (by assumption) ?r6_6
        case h6_6 => (intro w hSw; (try dsimp only at hSw); go_simp; try with_reducible rfl)
        (try simp only [Act.put, List.setIfInBounds_toArray, List.set_cons_zero, List.set_cons_succ])
        refine wpAnyH_take (i := 7) (oi := ⟨some 36, _, _, _, _, _⟩) (v := ?v7_7) rfl (by kernel_rfl) (by kernel_rfl) (by kernel_rfl) (fun _ _ _ h => h) (Or.inl ⟨by rfl, ?h7_7⟩) (by assumption) ?r7_7
        case h7_7 => (intro w hSw; (try dsimp only at hSw); go_simp; try with_reducible rfl)
        (try simp only [Act.put, List.setIfInBounds_toArray, List.set_cons_zero, List.set_cons_succ])
        refine wpAnyH_take (i := 9) (oi := ⟨some 38, _, _, _, _, _⟩) (v := ?v9_8) rfl (by kernel_rfl) (by kernel_rfl) (by kernel_rfl) (fun _ _ _ h => h) (Or.inl ⟨by rfl, ?h9_8⟩) (by assumption) ?r9_8
        case h9_8 => (intro w hSw; (try dsimp only at hSw); go_simp; try with_reducible rfl)
        (try simp only [Act.put, List.setIfInBounds_toArray, List.set_cons_zero, List.set_cons_succ])
        refine wpAnyH_take (i := 10) (oi := ⟨some 39, _, _, _, _, _⟩) (v := ?v10_9) rfl (by kernel_rfl) (by kernel_rfl) (by kernel_rfl) (fun _ _ _ h => h) (Or.inl ⟨by rfl, ?h10_9⟩) (by assumption) ?r10_9
        case h10_9 => (intro w hSw; (try dsimp only at hSw); go_simp; try with_reducible rfl)
        (try simp only [Act.put, List.setIfInBounds_toArray, List.set_cons_zero, List.set_cons_succ])
        refine wpAnyH_take (i := 11) (oi := ⟨some 40, _, _, _, _, _⟩) (v := ?v11_10) rfl (by kernel_rfl) (by kernel_rfl) (by kernel_rfl) (fun _ _ _ h => h) (Or.inl ⟨by rfl, ?h11_10⟩) (by assumption) ?r11_10
        case h11_10 => (intro w hSw; (try dsimp only at hSw); go_simp; try with_reducible rfl)
        (try simp only [Act.put, List.setIfInBounds_toArray, List.set_cons_zero, List.set_cons_succ])
        refine wpAnyH_take (i := 12) (oi := ⟨some 41, _, _, _, _, _⟩) (v := ?v12_11) rfl (by kernel_rfl) (by kernel_rfl) (by kernel_rfl) (fun _ _ _ h => h) (Or.inl ⟨by rfl, ?h12_11⟩) (by assumption) ?r12_11
        case h12_11 => (intro w hSw; (try dsimp only at hSw); go_simp; try with_reducible rfl)
        (try simp only [Act.put, List.setIfInBounds_toArray, List.set_cons_zero, List.set_cons_succ])
        refine wpAnyH_take (i := 13) (oi := ⟨some 42, _, _, _, _, _⟩) (v := ?v13_12) rfl (by kernel_rfl) (by kernel_rfl) (by kernel_rfl) (fun _ _ _ h => h) (Or.inl ⟨by rfl, ?h13_12⟩) (by assumption) ?r13_12
        case h13_12 => (intro w hSw; (try dsimp only at hSw); go_simp; try with_reducible rfl)
        (try simp only [Act.put, List.setIfInBounds_toArray, List.set_cons_zero, List.set_cons_succ])
        refine wpAnyH_take (i := 14) (oi := ⟨some 43, _, _, _, _, _⟩) (v := ?v14_13) rfl (by kernel_rfl) (by kernel_rfl) (by kernel_rfl) (fun _ _ _ h => h) (Or.inl ⟨by rfl, ?h14_13⟩) (by assumption) ?r14_13
        case h14_13 => (intro w hSw; (try dsimp only at hSw); go_simp; try with_reducible rfl)
        (try simp only [Act.put, List.setIfInBounds_toArray, List.set_cons_zero, List.set_cons_succ])
        refine wpAnyH_ready (rs := [1, 8]) (by kernel_rfl) (by simp) ?_
        refine AllReadyH.cons (o := ⟨some 30, _, _, _, _, _⟩) rfl (fun K hK => ?_) (AllReadyH.cons (o := ⟨some 37, _, _, _, _, _⟩) rfl (fun K hK => ?_) (AllReadyH.nil))
        · have q3 := HG3.out _ bdw
          go_simp
          refine hK.out _ _ (HKS.out _ (belowThen HLb.out bdw)) (fun hHeld => ?_)
          clear hK K
          (try simp only [Act.put, List.setIfInBounds_toArray, List.set_cons_zero, List.set_cons_succ])
          refine wpAnyH_ready (rs := [8]) (by kernel_rfl) (by simp) ?_
          refine AllReadyH.cons (o := ⟨some 37, _, _, _, _, _⟩) rfl (fun K hK => ?_) (AllReadyH.nil)
          · obtain ⟨Xa, hXa⟩ : ∃ Xa, World.alloc wr.drew (.cells #[] 55) = Xa := ⟨_, rfl⟩
            have bXa := belowThen bdw (show Below (World.heap wr.drew).size wr.drew Xa by rw [← hXa]; exact belowAlloc _ _)
            go_simp
            try rw [hXa]
            refine hK.out _ _ (HKS.out _ (belowThen HLb.out bXa)) (fun hHeld => ?_)
            clear hK K
            clear hXa
            (try simp only [Act.put, List.setIfInBounds_toArray, List.set_cons_zero, List.set_cons_succ])
            refine wpAnyH_ready (rs := [15]) (by kernel_rfl) (by simp) ?_
            refine AllReadyH.cons (o := ⟨some 44, _, _, _, _, _⟩) rfl (fun K hK => ?_) (AllReadyH.nil)
            · obtain ⟨vb, Xb, hrun, B', d', rfl, r1, r2, r3⟩ := HAP.out Xa bXa _ _
              have bXb := belowThen bXa r3
              replace r2 := r2.mono (bXa).size
              refine Lib.wp_append_run _ (.tmp 37) (.tmp 43) 22 22 rfl _ _ rfl rfl _ _ hrun ?_
              refine hK.out _ _ (HKS.out _ (belowThen HLb.out bXb)) (fun hHeld => ?_)
              clear hK K
              (try simp only [Act.put, List.setIfInBounds_toArray, List.set_cons_zero, List.set_cons_succ])
              refine wpAnyH_take (i := 16) (oi := ⟨some 45, _, _, _, _, _⟩) (v := ?v16_14) rfl (by kernel_rfl) (by kernel_rfl) (by kernel_rfl) (fun _ _ _ h => h) (Or.inl ⟨by rfl, ?h16_14⟩) (by assumption) ?r16_14
              case h16_14 => (intro w hSw; (try dsimp only at hSw); go_simp; try with_reducible rfl)
              (try simp only [Act.put, List.setIfInBounds_toArray, List.set_cons_zero, List.set_cons_succ])
              refine wpAnyH_ready (rs := [17]) (by kernel_rfl) (by simp) ?_
              refine AllReadyH.cons (o := ⟨some 46, _, _, _, _, _⟩) rfl (fun K hK => ?_) (AllReadyH.nil)
              · obtain ⟨Xc, hXc⟩ : ∃ Xc, World.alloc Xb (.cells #[.string nm, .slice B' m d'] 24) = Xc := ⟨_, rfl⟩
                have sXc : Below (World.heap Xb).size Xb Xc := by rw [← hXc]; exact belowAlloc _ _
                have bXc := belowThen bXb sXc
                have gXc : Blk Xc (World.heap Xb).size 24 #[.string nm, .slice B' m d'] := by rw [← hXc]; exact Blk.new _ _ _
                go_simp
                try rw [hXc]
                refine hK.out _ _ (HKS.out _ (belowThen HLb.out bXc)) (fun hHeld => ?_)
                clear hK K
                clear hXc
                (try simp only [Act.put, List.setIfInBounds_toArray, List.set_cons_zero, List.set_cons_succ])
                refine wpAnyH_ready (rs := [18]) (by kernel_rfl) (by simp) ?_
                refine AllReadyH.cons (o := ⟨some 47, _, _, _, _, _⟩) rfl (fun K hK => ?_) (AllReadyH.nil)
                · obtain ⟨v2, X2, hrun2, hown2, hgr2, _, _⟩ := HOW.out Xc bXc _ nm B' m d' gXc _
                  obtain ⟨A4n, c4n, rfl⟩ := ownSl hown2
                  obtain ⟨hb2, hG2⟩ := HMID.out Xc X2 bXc hgr2
                  have HN := Lib.hid (HST.out Xc X2 bXc B' d' (r1.below stabI sXc) (r2.below sXc) A4n c4n hown2 hgr2)
                  have hx3 := hG2.cell 3
                  have hz3 := hG2.frozen 3
                  simp only [PgA.fs] at hx3
                  refine Lib.wp_append_run _ (.tmp 30) (.tmp 46) 40 40 rfl _ _ rfl rfl _ _ hrun2 ?_
                  refine hK.out _ _ (HKS.out _ hb2) (fun hHeld => ?_)
                  clear hK K
                  (try simp only [Act.put, List.setIfInBounds_toArray, List.set_cons_zero, List.set_cons_succ])
                  refine wpAnyH_take (i := 19) (oi := ⟨some 48, _, _, _, _, _⟩) (v := ?v19_15) rfl (by kernel_rfl) (by kernel_rfl) (by kernel_rfl) (fun _ _ _ h => h) (Or.inl ⟨by rfl, ?h19_15⟩) (by assumption) ?r19_15
                  case h19_15 => (intro w hSw; (try dsimp only at hSw); go_simp; try with_reducible rfl)
                  (try simp only [Act.put, List.setIfInBounds_toArray, List.set_cons_zero, List.set_cons_succ])
                  refine wpAnyH_ready (rs := [20]) (by kernel_rfl) (by simp) ?_
                  refine AllReadyH.cons (o := ⟨none, _, _, _, _, _⟩) rfl (fun K hK => ?_) (AllReadyH.nil)
                  · go_simp
                    refine hK.out _ _ (HKS.out _ (hb2.setCell Hlo.out _)) (fun hHeld => ?_)
                    clear hK K
                    (try simp only [Act.put, List.setIfInBounds_toArray, List.set_cons_zero, List.set_cons_succ])
                    refine wpAnyH_done (by kernel_rfl) ?_ _
                    clear hHeld hx3 hz3 hG2 hb2 hown2 hgr2 hrun2 hrun r1 r2 r3 gXc
                    go_wp2
                    go_roundw
                    case rel => exact ⟨n4' + 1, ⟨A1', n1', c1', A2', n2', c2', A3', n3', c3', A4n, n4' + 1, c4n, A5', n5', c5'⟩, by omega, by go_num, HN.out⟩
                    case measure => simp [intOf]; omega
        · obtain ⟨Xa, hXa⟩ : ∃ Xa, World.alloc wr.drew (.cells #[] 55) = Xa := ⟨_, rfl⟩
          have bXa := belowThen bdw (show Below (World.heap wr.drew).size wr.drew Xa by rw [← hXa]; exact belowAlloc _ _)
          go_simp
          try rw [hXa]
          refine hK.out _ _ (HKS.out _ (belowThen HLb.out bXa)) (fun hHeld => ?_)
          clear hK K
          clear hXa
          (try simp only [Act.put, List.setIfInBounds_toArray, List.set_cons_zero, List.set_cons_succ])
          refine wpAnyH_ready (rs := [1, 15]) (by kernel_rfl) (by simp) ?_
          refine AllReadyH.cons (o := ⟨some 30, _, _, _, _, _⟩) rfl (fun K hK => ?_) (AllReadyH.cons (o := ⟨some 44, _, _, _, _, _⟩) rfl (fun K hK => ?_) (AllReadyH.nil))
          · have q3 := HG3.out _ bXa
            go_simp
            refine hK.out _ _ (HKS.out _ (belowThen HLb.out bXa)) (fun hHeld => ?_)
            clear hK K
            (try simp only [Act.put, List.setIfInBounds_toArray, List.set_cons_zero, List.set_cons_succ])
            refine wpAnyH_ready (rs := [15]) (by kernel_rfl) (by simp) ?_
            refine AllReadyH.cons (o := ⟨some 44, _, _, _, _, _⟩) rfl (fun K hK => ?_) (AllReadyH.nil)
            · obtain ⟨vb, Xb, hrun, B', d', rfl, r1, r2, r3⟩ := HAP.out Xa bXa _ _
              have bXb := belowThen bXa r3
              replace r2 := r2.mono (bXa).size
              refine Lib.wp_append_run _ (.tmp 37) (.tmp 43) 22 22 rfl _ _ rfl rfl _ _ hrun ?_
              refine hK.out _ _ (HKS.out _ (belowThen HLb.out bXb)) (fun hHeld => ?_)
              clear hK K
              (try simp only [Act.put, List.setIfInBounds_toArray, List.set_cons_zero, List.set_cons_succ])
              refine wpAnyH_take (i := 16) (oi := ⟨some 45, _, _, _, _, _⟩) (v := ?v16_16) rfl (by kernel_rfl) (by kernel_rfl) (by kernel_rfl) (fun _ _ _ h => h) (Or.inl ⟨by rfl, ?h16_16⟩) (by assumption) ?r16_16
              case h16_16 => (intro w hSw; (try dsimp only at hSw); go_simp; try with_reducible rfl)
              (try simp only [Act.put, List.setIfInBounds_toArray, List.set_cons_zero, List.set_cons_succ])
              refine wpAnyH_ready (rs := [17]) (by kernel_rfl) (by simp) ?_
              refine AllReadyH.cons (o := ⟨some 46, _, _, _, _, _⟩) rfl (fun K hK => ?_) (AllReadyH.nil)
              · obtain ⟨Xc, hXc⟩ : ∃ Xc, World.alloc Xb (.cells #[.string nm, .slice B' m d'] 24) = Xc := ⟨_, rfl⟩
                have sXc : Below (World.heap Xb).size Xb Xc := by rw [← hXc]; exact belowAlloc _ _
                have bXc := belowThen bXb sXc
                have gXc : Blk Xc (World.heap Xb).size 24 #[.string nm, .slice B' m d'] := by rw [← hXc]; exact Blk.new _ _ _
                go_simp
                try rw [hXc]
                refine hK.out _ _ (HKS.out _ (belowThen HLb.out bXc)) (fun hHeld => ?_)
                clear hK K
                clear hXc
                (try simp only [Act.put, List.setIfInBounds_toArray, List.set_cons_zero, List.set_cons_succ])
                refine wpAnyH_ready (rs := [18]) (by kernel_rfl) (by simp) ?_
                refine AllReadyH.cons (o := ⟨some 47, _, _, _, _, _⟩) rfl (fun K hK => ?_) (AllReadyH.nil)
                · obtain ⟨v2, X2, hrun2, hown2, hgr2, _, _⟩ := HOW.out Xc bXc _ nm B' m d' gXc _
                  obtain ⟨A4n, c4n, rfl⟩ := ownSl hown2
                  obtain ⟨hb2, hG2⟩ := HMID.out Xc X2 bXc hgr2
                  have HN := Lib.hid (HST.out Xc X2 bXc B' d' (r1.below stabI sXc) (r2.below sXc) A4n c4n hown2 hgr2)
                  have hx3 := hG2.cell 3
                  have hz3 := hG2.frozen 3
                  simp only [PgA.fs] at hx3
                  refine Lib.wp_append_run _ (.tmp 30) (.tmp 46) 40 40 rfl _ _ rfl rfl _ _ hrun2 ?_
                  refine hK.out _ _ (HKS.out _ hb2) (fun hHeld => ?_)
                  clear hK K
                  (try simp only [Act.put, List.setIfInBounds_toArray, List.set_cons_zero, List.set_cons_succ])
                  refine wpAnyH_take (i := 19) (oi := ⟨some 48, _, _, _, _, _⟩) (v := ?v19_17) rfl (by kernel_rfl) (by kernel_rfl) (by kernel_rfl) (fun _ _ _ h => h) (Or.inl ⟨by rfl, ?h19_17⟩) (by assumption) ?r19_17
                  case h19_17 => (intro w hSw; (try dsimp only at hSw); go_simp; try with_reducible rfl)
                  (try simp only [Act.put, List.setIfInBounds_toArray, List.set_cons_zero, List.set_cons_succ])
                  refine wpAnyH_ready (rs := [20]) (by kernel_rfl) (by simp) ?_
                  refine AllReadyH.cons (o := ⟨none, _, _, _, _, _⟩) rfl (fun K hK => ?_) (AllReadyH.nil)
                  · go_simp
                    refine hK.out _ _ (HKS.out _ (hb2.setCell Hlo.out _)) (fun hHeld => ?_)
                    clear hK K
                    (try simp only [Act.put, List.setIfInBounds_toArray, List.set_cons_zero, List.set_cons_succ])
                    refine wpAnyH_done (by kernel_rfl) ?_ _
                    clear hHeld hx3 hz3 hG2 hb2 hown2 hgr2 hrun2 hrun r1 r2 r3 gXc
                    go_wp2
                    go_roundw
                    case rel => exact ⟨n4' + 1, ⟨A1', n1', c1', A2', n2', c2', A3', n3', c3', A4n, n4' + 1, c4n, A5', n5', c5'⟩, by omega, by go_num, HN.out⟩
                    case measure => simp [intOf]; omega
          · obtain ⟨vb, Xb, hrun, B', d', rfl, r1, r2, r3⟩ := HAP.out Xa bXa _ _
            have bXb := belowThen bXa r3
            replace r2 := r2.mono (bXa).size
            refine Lib.wp_append_run _ (.tmp 37) (.tmp 43) 22 22 rfl _ _ rfl rfl _ _ hrun ?_
            refine hK.out _ _ (HKS.out _ (belowThen HLb.out bXb)) (fun hHeld => ?_)
            clear hK K
            (try simp only [Act.put, List.setIfInBounds_toArray, List.set_cons_zero, List.set_cons_succ])
            refine wpAnyH_take (i := 16) (oi := ⟨some 45, _, _, _, _, _⟩) (v := ?v16_18) rfl (by kernel_rfl) (by kernel_rfl) (by kernel_rfl) (fun _ _ _ h => h) (Or.inl ⟨by rfl, ?h16_18⟩) (by assumption) ?r16_18
            case h16_18 => (intro w hSw; (try dsimp only at hSw); go_simp; try with_reducible rfl)
            (try simp only [Act.put, List.setIfInBounds_toArray, List.set_cons_zero, List.set_cons_succ])
            refine wpAnyH_ready (rs := [1, 17]) (by kernel_rfl) (by simp) ?_
            refine AllReadyH.cons (o := ⟨some 30, _, _, _, _, _⟩) rfl (fun K hK => ?_) (AllReadyH.cons (o := ⟨some 46, _, _, _, _, _⟩) rfl (fun K hK => ?_) (AllReadyH.nil))
            · have q3 := HG3.out _ bXb
              go_simp
              refine hK.out _ _ (HKS.out _ (belowThen HLb.out bXb)) (fun hHeld => ?_)
              clear hK K
              (try simp only [Act.put, List.setIfInBounds_toArray, List.set_cons_zero, List.set_cons_succ])
              refine wpAnyH_ready (rs := [17]) (by kernel_rfl) (by simp) ?_
              refine AllReadyH.cons (o := ⟨some 46, _, _, _, _, _⟩) rfl (fun K hK => ?_) (AllReadyH.nil)
              · obtain ⟨Xc, hXc⟩ : ∃ Xc, World.alloc Xb (.cells #[.string nm, .slice B' m d'] 24) = Xc := ⟨_, rfl⟩
                have sXc : Below (World.heap Xb).size Xb Xc := by rw [← hXc]; exact belowAlloc _ _
                have bXc := belowThen bXb sXc
                have gXc : Blk Xc (World.heap Xb).size 24 #[.string nm, .slice B' m d'] := by rw [← hXc]; exact Blk.new _ _ _
                go_simp
                try rw [hXc]
                refine hK.out _ _ (HKS.out _ (belowThen HLb.out bXc)) (fun hHeld => ?_)
                clear hK K
                clear hXc
                (try simp only [Act.put, List.setIfInBounds_toArray, List.set_cons_zero, List.set_cons_succ])
                refine wpAnyH_ready (rs := [18]) (by kernel_rfl) (by simp) ?_
                refine AllReadyH.cons (o := ⟨some 47, _, _, _, _, _⟩) rfl (fun K hK => ?_) (AllReadyH.nil)
                · obtain ⟨v2, X2, hrun2, hown2, hgr2, _, _⟩ := HOW.out Xc bXc _ nm B' m d' gXc _
                  obtain ⟨A4n, c4n, rfl⟩ := ownSl hown2
                  obtain ⟨hb2, hG2⟩ := HMID.out Xc X2 bXc hgr2
                  have HN := Lib.hid (HST.out Xc X2 bXc B' d' (r1.below stabI sXc) (r2.below sXc) A4n c4n hown2 hgr2)
                  have hx3 := hG2.cell 3
                  have hz3 := hG2.frozen 3
                  simp only [PgA.fs] at hx3
                  refine Lib.wp_append_run _ (.tmp 30) (.tmp 46) 40 40 rfl _ _ rfl rfl _ _ hrun2 ?_
                  refine hK.out _ _ (HKS.out _ hb2) (fun hHeld => ?_)
                  clear hK K
                  (try simp only [Act.put, List.setIfInBounds_toArray, List.set_cons_zero, List.set_cons_succ])
                  refine wpAnyH_take (i := 19) (oi := ⟨some 48, _, _, _, _, _⟩) (v := ?v19_19) rfl (by kernel_rfl) (by kernel_rfl) (by kernel_rfl) (fun _ _ _ h => h) (Or.inl ⟨by rfl, ?h19_19⟩) (by assumption) ?r19_19
                  case h19_19 => (intro w hSw; (try dsimp only at hSw); go_simp; try with_reducible rfl)
                  (try simp only [Act.put, List.setIfInBounds_toArray, List.set_cons_zero, List.set_cons_succ])
                  refine wpAnyH_ready (rs := [20]) (by kernel_rfl) (by simp) ?_
                  refine AllReadyH.cons (o := ⟨none, _, _, _, _, _⟩) rfl (fun K hK => ?_) (AllReadyH.nil)
                  · go_simp
                    refine hK.out _ _ (HKS.out _ (hb2.setCell Hlo.out _)) (fun hHeld => ?_)
                    clear hK K
                    (try simp only [Act.put, List.setIfInBounds_toArray, List.set_cons_zero, List.set_cons_succ])
                    refine wpAnyH_done (by kernel_rfl) ?_ _
                    clear hHeld hx3 hz3 hG2 hb2 hown2 hgr2 hrun2 hrun r1 r2 r3 gXc
                    go_wp2
                    go_roundw
                    case rel => exact ⟨n4' + 1, ⟨A1', n1', c1', A2', n2', c2', A3', n3', c3', A4n, n4' + 1, c4n, A5', n5', c5'⟩, by omega, by go_num, HN.out⟩
                    case measure => simp [intOf]; omega
            · obtain ⟨Xc, hXc⟩ : ∃ Xc, World.alloc Xb (.cells #[.string nm, .slice B' m d'] 24) = Xc := ⟨_, rfl⟩
              have sXc : Below (World.heap Xb).size Xb Xc := by rw [← hXc]; exact belowAlloc _ _
              have bXc := belowThen bXb sXc
              have gXc : Blk Xc (World.heap Xb).size 24 #[.string nm, .slice B' m d'] := by rw [← hXc]; exact Blk.new _ _ _
              go_simp
              try rw [hXc]
              refine hK.out _ _ (HKS.out _ (belowThen HLb.out bXc)) (fun hHeld => ?_)
              clear hK K
              clear hXc
              (try simp only [Act.put, List.setIfInBounds_toArray, List.set_cons_zero, List.set_cons_succ])
              refine wpAnyH_ready (rs := [1]) (by kernel_rfl) (by simp) ?_
              refine AllReadyH.cons (o := ⟨some 30, _, _, _, _, _⟩) rfl (fun K hK => ?_) (AllReadyH.nil)
              · have q3 := HG3.out _ bXc
                go_simp
                refine hK.out _ _ (HKS.out _ (belowThen HLb.out bXc)) (fun hHeld => ?_)
                clear hK K
                (try simp only [Act.put, List.setIfInBounds_toArray, List.set_cons_zero, List.set_cons_succ])
                refine wpAnyH_ready (rs := [18]) (by kernel_rfl) (by simp) ?_
                refine AllReadyH.cons (o := ⟨some 47, _, _, _, _, _⟩) rfl (fun K hK => ?_) (AllReadyH.nil)
                · obtain ⟨v2, X2, hrun2, hown2, hgr2, _, _⟩ := HOW.out Xc bXc _ nm B' m d' gXc _
                  obtain ⟨A4n, c4n, rfl⟩ := ownSl hown2
                  obtain ⟨hb2, hG2⟩ := HMID.out Xc X2 bXc hgr2
                  have HN := Lib.hid (HST.out Xc X2 bXc B' d' (r1.below stabI sXc) (r2.below sXc) A4n c4n hown2 hgr2)
                  have hx3 := hG2.cell 3
                  have hz3 := hG2.frozen 3
                  simp only [PgA.fs] at hx3
                  refine Lib.wp_append_run _ (.tmp 30) (.tmp 46) 40 40 rfl _ _ rfl rfl _ _ hrun2 ?_
                  refine hK.out _ _ (HKS.out _ hb2) (fun hHeld => ?_)
                  clear hK K
                  (try simp only [Act.put, List.setIfInBounds_toArray, List.set_cons_zero, List.set_cons_succ])
                  refine wpAnyH_take (i := 19) (oi := ⟨some 48, _, _, _, _, _⟩) (v := ?v19_20) rfl (by kernel_rfl) (by kernel_rfl) (by kernel_rfl) (fun _ _ _ h => h) (Or.inl ⟨by rfl, ?h19_20⟩) (by assumption) ?r19_20
                  case h19_20 => (intro w hSw; (try dsimp only at hSw); go_simp; try with_reducible rfl)
                  (try simp only [Act.put, List.setIfInBounds_toArray, List.set_cons_zero, List.set_cons_succ])
                  refine wpAnyH_ready (rs := [20]) (by kernel_rfl) (by simp) ?_
                  refine AllReadyH.cons (o := ⟨none, _, _, _, _, _⟩) rfl (fun K hK => ?_) (AllReadyH.nil)
                  · go_simp
                    refine hK.out _ _ (HKS.out _ (hb2.setCell Hlo.out _)) (fun hHeld => ?_)
                    clear hK K
                    (try simp only [Act.put, List.setIfInBounds_toArray, List.set_cons_zero, List.set_cons_succ])
                    refine wpAnyH_done (by kernel_rfl) ?_ _
                    clear hHeld hx3 hz3 hG2 hb2 hown2 hgr2 hrun2 hrun r1 r2 r3 gXc
                    go_wp2
                    go_roundw
                    case rel => exact ⟨n4' + 1, ⟨A1', n1', c1', A2', n2', c2', A3', n3', c3', A4n, n4' + 1, c4n, A5', n5', c5'⟩, by omega, by go_num, HN.out⟩
                    case measure => simp [intOf]; omega
      · have hkn : k = n4 := by omega
        subst hkn
        have HC := Lib.hid (hL.done HL4.out)
        have HOW := Lib.hid (show OwF W1.heap.size wr p a by obtain ⟨ys, h1, h2⟩ := hL.row; exact ⟨ys, by rw [hL.n4]; exact h1, by rw [hL.n4]; exact h2⟩)
        have hws : w.heap.size ≤ W1.heap.size := by rw [← HW1.out, ← HW.out, World.size_alloc, World.size_alloc]; omega
        have HLB := Lib.hid hL.below
        have HRB := Lib.hid (Blk.below' (show Blk W1 W.heap.size 43 zer5 by rw [← HW1.out]; exact Blk.new _ _ _) hL.below)
        obtain ⟨x0, x1, x2, x3, x4⟩ := hL.box.facts
        obtain ⟨y1, y2, y3, y4, y5, z1, z2, z3, z4, z5⟩ := boxG HRB.out
        have hWs : W.heap.size = w.heap.size + 1 := by rw [← HW.out, World.size_alloc]
        rw [hWs] at y1 y2 y3 y4 y5 z1 z2 z3 z4 z5 HRB
        have HX := Lib.hid (retClone8 HW.out HW1.out HRB.out HLB.out HC.out)
        have HOX := Lib.hid ((HOW.out.but (but5 _ (w.heap.size + 1) (.slice a.A1 a.n1 a.c1) (.slice a.A2 a.n2 a.c2) (.slice a.A3 a.n3 a.c3) (.slice a.A4 a.n4 a.c4) (.slice a.A5 a.n5 a.c5)) HRB.out (onlySl HRB.out)).mono hws)
        clear hL H6 HL0 HA HF HOW hws
        go_wp2
        refine bodyPost_ret ((HX.out.2.2).res rfl _ rfl Tryz.underlying43 rfl infoPg5) rfl ?_
        exact ⟨a, rfl, HX.out.1, HX.out.2.1, HOX.out⟩
  refine regionInv (by kernel_rfl) (by kernel_rfl) (InvR p ⟨A1, n1, c1, A2, n2, c2, A3, n3, c3, A4, n4, c4, A5, n5, c5⟩ W1 (.agg #[.slice A1 n1 c1, .slice A2 n2 c2, .slice A3 n3 c3, .slice A4 n4 c4, .slice A5 n5 c5]) (.pointer (some ⟨w.heap.size, 0, none⟩)) (.pointer (some ⟨w.heap.size + 1, 0, none⟩)) w.heap.size) ⟨fun _ => undef, rfl, .inl ⟨hS, by unfold Lst; decide, fun i hi hl => ?_⟩⟩ ?_ ?_
  · exfalso
    rcases (by omega : i = 0 ∨ i = 1 ∨ i = 2 ∨ i = 3 ∨ i = 4 ∨ i = 5 ∨ i = 6 ∨ i = 7 ∨ i = 8 ∨ i = 9 ∨ i = 10 ∨ i = 11 ∨ i = 12 ∨ i = 13 ∨ i = 14 ∨ i = 15 ∨ i = 16 ∨ i = 17) with rfl | rfl | rfl | rfl | rfl | rfl | rfl | rfl | rfl | rfl | rfl | rfl | rfl | rfl | rfl | rfl | rfl | rfl <;> exact absurd hl (by unfold Lst; decide)
  · rintro L s wc i o ho ⟨f, rfl, hI⟩ hnot hedge K hK
    have hi : i < 19 := (Array.getElem?_eq_some_iff.1 ho).1
    have hP := hI.resolve_right (fun h => hnot (h.1 i hi))
    clear hI
    obtain ⟨k1, k2, k3, k4, k5⟩ := HK.out wc hP.below
    try simp only at k1 k2 k3 k4 k5
    rcases (by omega : i = 0 ∨ i = 1 ∨ i = 2 ∨ i = 3 ∨ i = 4 ∨ i = 5 ∨ i = 6 ∨ i = 7 ∨ i = 8 ∨ i = 9 ∨ i = 10 ∨ i = 11 ∨ i = 12 ∨ i = 13 ∨ i = 14 ∨ i = 15 ∨ i = 16 ∨ i = 17 ∨ i = 18) with rfl | rfl | rfl | rfl | rfl | rfl | rfl | rfl | rfl | rfl | rfl | rfl | rfl | rfl | rfl | rfl | rfl | rfl | rfl
    · simp only [List.getElem?_toArray, List.getElem?_cons_zero, Option.some.injEq] at ho
      subst ho
      refine wantedIf (by rfl) ?_
      unfold actR
      go_simp
      refine hK _ _ ⟨upd f 5 _, actR_5, .inl (hP.next 0 (by decide) (belowAlloc _ _) ⟨_, rfl⟩ rfl)⟩
    · simp only [List.getElem?_toArray, List.getElem?_cons_succ, List.getElem?_cons_zero, Option.some.injEq] at ho
      subst ho
      refine wantedIf (by rfl) ?_
      unfold actR
      go_simp
      refine hK _ _ ⟨upd f 6 _, actR_6, .inl (hP.next 1 (by decide) (Below.refl _ _) rfl rfl)⟩
    · simp only [List.getElem?_toArray, List.getElem?_cons_succ, List.getElem?_cons_zero, Option.some.injEq] at ho
      subst ho
      refine wantedIf (by rfl) ?_
      have e1 := hP.fact 1 (by decide) (hedge ⟨1, .data⟩ (by simp) rfl)
      simp only [FR, slotR, List.getD_cons_succ, List.getD_cons_zero] at e1
      refine opVal (v := .slice A1 n1 c1) (w' := wc) ?_ (hK _ _ ⟨upd f 7 _, actR_7, .inl (hP.next 2 (by decide) (Below.refl _ _) rfl rfl)⟩)
      unfold actR
      go_simp
    · simp only [List.getElem?_toArray, List.getElem?_cons_succ, List.getElem?_cons_zero, Option.some.injEq] at ho
      subst ho
      refine wantedIf (by rfl) ?_
      have e0 := hP.fact 0 (by decide) (hedge ⟨0, .data⟩ (by simp) rfl)
      simp only [FR, slotR, List.getD_cons_zero] at e0
      have e2 := hP.fact 2 (by decide) (hedge ⟨2, .data⟩ (by simp) rfl)
      simp only [FR, slotR, List.getD_cons_succ, List.getD_cons_zero] at e2
      obtain ⟨A0, e0⟩ := e0
      obtain ⟨v', w', hrun, hgd⟩ := C1.out wc hP.below _ A0
      refine Lib.wp_append_run wc (.tmp 5) (.tmp 7) 38 38 rfl _ _ (show f 5 = _ from e0) (show f 7 = _ from e2) _ _ hrun ?_
      exact hK _ _ ⟨upd f 8 _, actR_8, .inl (hP.next 3 (by decide) hgd.bel (GRow.of hgd hP.below.size) rfl)⟩
    · simp only [List.getElem?_toArray, List.getElem?_cons_succ, List.getElem?_cons_zero, Option.some.injEq] at ho
      subst ho
      refine wantedIf (by rfl) ?_
      unfold actR
      go_simp
      refine hK _ _ ⟨upd f 9 _, actR_9, .inl (hP.next 4 (by decide) (belowAlloc _ _) ⟨_, rfl⟩ rfl)⟩
    · simp only [List.getElem?_toArray, List.getElem?_cons_succ, List.getElem?_cons_zero, Option.some.injEq] at ho
      subst ho
      refine wantedIf (by rfl) ?_
      unfold actR
      go_simp
      refine hK _ _ ⟨upd f 10 _, actR_10, .inl (hP.next 5 (by decide) (Below.refl _ _) rfl rfl)⟩
    · simp only [List.getElem?_toArray, List.getElem?_cons_succ, List.getElem?_cons_zero, Option.some.injEq] at ho
      subst ho
      refine wantedIf (by rfl) ?_
      have e5 := hP.fact 5 (by decide) (hedge ⟨5, .data⟩ (by simp) rfl)
      simp only [FR, slotR, List.getD_cons_succ, List.getD_cons_zero] at e5
      refine opVal (v := .slice A2 n2 c2) (w' := wc) ?_ (hK _ _ ⟨upd f 11 _, actR_11, .inl (hP.next 6 (by decide) (Below.refl _ _) rfl rfl)⟩)
      unfold actR
      go_simp
    · simp only [List.getElem?_toArray, List.getElem?_cons_succ, List.getElem?_cons_zero, Option.some.injEq] at ho
      subst ho
      refine wantedIf (by rfl) ?_
      have e4 := hP.fact 4 (by decide) (hedge ⟨4, .data⟩ (by simp) rfl)
      simp only [FR, slotR, List.getD_cons_succ, List.getD_cons_zero] at e4
      have e6 := hP.fact 6 (by decide) (hedge ⟨6, .data⟩ (by simp) rfl)
      simp only [FR, slotR, List.getD_cons_succ, List.getD_cons_zero] at e6
      obtain ⟨A0, e4⟩ := e4
      obtain ⟨v', w', hrun, hgd⟩ := C2.out wc hP.below _ A0
      refine Lib.wp_append_run wc (.tmp 9) (.tmp 11) 39 39 rfl _ _ (show f 9 = _ from e4) (show f 11 = _ from e6) _ _ hrun ?_
      exact hK _ _ ⟨upd f 12 _, actR_12, .inl (hP.next 7 (by decide) hgd.bel (GRow.of hgd hP.below.size) rfl)⟩
    · simp only [List.getElem?_toArray, List.getElem?_cons_succ, List.getElem?_cons_zero, Option.some.injEq] at ho
      subst ho
      refine wantedIf (by rfl) ?_
      unfold actR
      go_simp
      refine hK _ _ ⟨upd f 13 _, actR_13, .inl (hP.next 8 (by decide) (belowAlloc _ _) ⟨_, rfl⟩ rfl)⟩
    · simp only [List.getElem?_toArray, List.getElem?_cons_succ, List.getElem?_cons_zero, Option.some.injEq] at ho
      subst ho
      refine wantedIf (by rfl) ?_
      unfold actR
      go_simp
      refine hK _ _ ⟨upd f 14 _, actR_14, .inl (hP.next 9 (by decide) (Below.refl _ _) rfl rfl)⟩
    · simp only [List.getElem?_toArray, List.getElem?_cons_succ, List.getElem?_cons_zero, Option.some.injEq] at ho
      subst ho
      refine wantedIf (by rfl) ?_
      have e9 := hP.fact 9 (by decide) (hedge ⟨9, .data⟩ (by simp) rfl)
      simp only [FR, slotR, List.getD_cons_succ, List.getD_cons_zero] at e9
      refine opVal (v := .slice A3 n3 c3) (w' := wc) ?_ (hK _ _ ⟨upd f 15 _, actR_15, .inl (hP.next 10 (by decide) (Below.refl _ _) rfl rfl)⟩)
      unfold actR
      go_simp
    · simp only [List.getElem?_toArray, List.getElem?_cons_succ, List.getElem?_cons_zero, Option.some.injEq] at ho
      subst ho
      refine wantedIf (by rfl) ?_
      have e8 := hP.fact 8 (by decide) (hedge ⟨8, .data⟩ (by simp) rfl)
      simp only [FR, slotR, List.getD_cons_succ, List.getD_cons_zero] at e8
      have e10 := hP.fact 10 (by decide) (hedge ⟨10, .data⟩ (by simp) rfl)
      simp only [FR, slotR, List.getD_cons_succ, List.getD_cons_zero] at e10
      obtain ⟨A0, e8⟩ := e8
      obtain ⟨v', w', hrun, hgd⟩ := C3.out wc hP.below _ A0
      refine Lib.wp_append_run wc (.tmp 13) (.tmp 15) 39 39 rfl _ _ (show f 13 = _ from e8) (show f 15 = _ from e10) _ _ hrun ?_
      exact hK _ _ ⟨upd f 16 _, actR_16, .inl (hP.next 11 (by decide) hgd.bel (GRow.of hgd hP.below.size) rfl)⟩
    · simp only [List.getElem?_toArray, List.getElem?_cons_succ, List.getElem?_cons_zero, Option.some.injEq] at ho
      subst ho
      refine wantedIf (by rfl) ?_
      unfold actR
      go_simp
      refine hK _ _ ⟨upd f 17 _, actR_17, .inl (hP.next 12 (by decide) (belowAlloc _ _) ⟨_, rfl⟩ rfl)⟩
    · simp only [List.getElem?_toArray, List.getElem?_cons_succ, List.getElem?_cons_zero, Option.some.injEq] at ho
      subst ho
      refine wantedIf (by rfl) ?_
      unfold actR
      go_simp
      refine hK _ _ ⟨upd f 18 _, actR_18, .inl (hP.next 13 (by decide) (Below.refl _ _) rfl rfl)⟩
    · simp only [List.getElem?_toArray, List.getElem?_cons_succ, List.getElem?_cons_zero, Option.some.injEq] at ho
      subst ho
      refine wantedIf (by rfl) ?_
      have e13 := hP.fact 13 (by decide) (hedge ⟨13, .data⟩ (by simp) rfl)
      simp only [FR, slotR, List.getD_cons_succ, List.getD_cons_zero] at e13
      refine opVal (v := .slice A5 n5 c5) (w' := wc) ?_ (hK _ _ ⟨upd f 19 _, actR_19, .inl (hP.next 14 (by decide) (Below.refl _ _) rfl rfl)⟩)
      unfold actR
      go_simp
    · simp only [List.getElem?_toArray, List.getElem?_cons_succ, List.getElem?_cons_zero, Option.some.injEq] at ho
      subst ho
      refine wantedIf (by rfl) ?_
      have e12 := hP.fact 12 (by decide) (hedge ⟨12, .data⟩ (by simp) rfl)
      simp only [FR, slotR, List.getD_cons_succ, List.getD_cons_zero] at e12
      have e14 := hP.fact 14 (by decide) (hedge ⟨14, .data⟩ (by simp) rfl)
      simp only [FR, slotR, List.getD_cons_succ, List.getD_cons_zero] at e14
      obtain ⟨A0, e12⟩ := e12
      obtain ⟨v', w', hrun, hgd⟩ := C5.out wc hP.below _ A0
      refine Lib.wp_append_run wc (.tmp 17) (.tmp 19) 41 41 rfl _ _ (show f 17 = _ from e12) (show f 19 = _ from e14) _ _ hrun ?_
      exact hK _ _ ⟨upd f 20 _, actR_20, .inl (hP.next 15 (by decide) hgd.bel (GRow.of hgd hP.below.size) rfl)⟩
    · simp only [List.getElem?_toArray, List.getElem?_cons_succ, List.getElem?_cons_zero, Option.some.injEq] at ho
      subst ho
      refine wantedIf (by rfl) ?_
      have e3 := hP.fact 3 (by decide) (hedge ⟨3, .data⟩ (by simp) rfl)
      simp only [FR, slotR, List.getD_cons_succ, List.getD_cons_zero] at e3
      have e7 := hP.fact 7 (by decide) (hedge ⟨7, .data⟩ (by simp) rfl)
      simp only [FR, slotR, List.getD_cons_succ, List.getD_cons_zero] at e7
      have e11 := hP.fact 11 (by decide) (hedge ⟨11, .data⟩ (by simp) rfl)
      simp only [FR, slotR, List.getD_cons_succ, List.getD_cons_zero] at e11
      have e15 := hP.fact 15 (by decide) (hedge ⟨15, .data⟩ (by simp) rfl)
      simp only [FR, slotR, List.getD_cons_succ, List.getD_cons_zero] at e15
      have r3 := e3
      obtain ⟨B3, d3, e3, _, _⟩ := e3
      have r7 := e7
      obtain ⟨B7, d7, e7, _, _⟩ := e7
      have r11 := e11
      obtain ⟨B11, d11, e11, _, _⟩ := e11
      have r15 := e15
      obtain ⟨B15, d15, e15, _, _⟩ := e15
      refine opVal (v := .agg #[f 8, f 12, f 16, .slice none 0 0, f 20]) (w' := wc) ?_ (hK _ _ ⟨upd f 21 _, actR_21, .inl (hP.next 16 (by decide) (Below.refl _ _) ⟨⟨_, _, _, _, rfl, r3, r7, r11, r15⟩⟩ rfl)⟩)
      unfold actR
      go_simp
    · simp only [List.getElem?_toArray, List.getElem?_cons_succ, List.getElem?_cons_zero, Option.some.injEq] at ho
      subst ho
      refine wantedIf (by rfl) ?_
      unfold actR
      go_simp
      refine hK _ _ ⟨upd f 3 _, actR_3, .inl (hP.next 17 (by decide) (belowAlloc _ _) ⟨_, rfl, hP.below.size, Blk.new _ _ _⟩ rfl)⟩
    · simp only [List.getElem?_toArray, List.getElem?_cons_succ, List.getElem?_cons_zero, Option.some.injEq] at ho
      subst ho
      refine wantedIf (by rfl) ?_
      have e17 := hP.fact 17 (by decide) (hedge ⟨17, .data⟩ (by simp) rfl)
      simp only [FR, slotR, List.getD_cons_succ, List.getD_cons_zero] at e17
      have e16 := hP.fact 16 (by decide) (hedge ⟨16, .data⟩ (by simp) rfl)
      simp only [FR, slotR, List.getD_cons_succ, List.getD_cons_zero] at e16
      obtain ⟨g, e17, glo, hG⟩ := e17
      obtain ⟨v1, v2, v3, v5, e16, g1, g2, g3, g5⟩ := e16.ex
      obtain ⟨x1, x2, x3, x4, x5, z1, z2, z3, z4, z5⟩ := boxG hG
      obtain ⟨a', hfs, hfin⟩ := finR (a := ⟨A1, n1, c1, A2, n2, c2, A3, n3, c3, A4, n4, c4, A5, n5, c5⟩) hP.below glo hG g1 g2 g3 g5
      have HFS := Lib.hid hfs
      clear hfs
      obtain ⟨B1, d1, rfl, _, _⟩ := g1
      obtain ⟨B2, d2, rfl, _, _⟩ := g2
      obtain ⟨B3, d3, rfl, _, _⟩ := g3
      obtain ⟨B5, d5, rfl, _, _⟩ := g5
      refine opSkip (w' := put5 wc g _ _ _ _ _) ?_ (hK _ _ ⟨f, rfl, .inr ⟨?_, a', g, e17, hfin⟩⟩)
      · unfold actR
        go_simp
      · intro i hi
        by_cases h18 : i = 18
        · subst h18; exact Lst.self
        · refine Lst.set ?_
          rcases (by omega : i = 0 ∨ i = 1 ∨ i = 2 ∨ i = 3 ∨ i = 4 ∨ i = 5 ∨ i = 6 ∨ i = 7 ∨ i = 8 ∨ i = 9 ∨ i = 10 ∨ i = 11 ∨ i = 12 ∨ i = 13 ∨ i = 14 ∨ i = 15 ∨ i = 16 ∨ i = 17) with rfl | rfl | rfl | rfl | rfl | rfl | rfl | rfl | rfl | rfl | rfl | rfl | rfl | rfl | rfl | rfl | rfl | rfl
          · exact hedge ⟨0, .phase⟩ (by simp) rfl
          · exact hedge ⟨1, .phase⟩ (by simp) rfl
          · exact hedge ⟨2, .phase⟩ (by simp) rfl
          · exact hedge ⟨3, .phase⟩ (by simp) rfl
          · exact hedge ⟨4, .phase⟩ (by simp) rfl
          · exact hedge ⟨5, .phase⟩ (by simp) rfl
          · exact hedge ⟨6, .phase⟩ (by simp) rfl
          · exact hedge ⟨7, .phase⟩ (by simp) rfl
          · exact hedge ⟨8, .phase⟩ (by simp) rfl
          · exact hedge ⟨9, .phase⟩ (by simp) rfl
          · exact hedge ⟨10, .phase⟩ (by simp) rfl
          · exact hedge ⟨11, .phase⟩ (by simp) rfl
          · exact hedge ⟨12, .phase⟩ (by simp) rfl
          · exact hedge ⟨13, .phase⟩ (by simp) rfl
          · exact hedge ⟨14, .phase⟩ (by simp) rfl
          · exact hedge ⟨15, .phase⟩ (by simp) rfl
          · exact hedge ⟨16, .phase⟩ (by simp) rfl
          · exact hedge ⟨17, .phase⟩ (by simp) rfl
  · rintro L s wc hall ⟨f, rfl, hI⟩
    rcases hI with hI | ⟨_, a', g, hf3, hfin⟩
    · exact absurd (hall 18 (by decide)) hI.no
    · exact ⟨rfl, f, a', g, rfl, hf3, hfin⟩
end Go.Proofs.YtpkagpobobmnfaaGreatDoor
