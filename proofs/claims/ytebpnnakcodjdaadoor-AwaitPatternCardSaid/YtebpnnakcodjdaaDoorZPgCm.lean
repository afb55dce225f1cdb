/-
  Copies in new memory: what keeps them.
-/
import Derived.Test.YtebpnnakcodjdaaDoorZPgX9
import Derived.KernelRfl
namespace Go.Proofs.YtebpnnakcodjdaaDoor
open Go Go.RowKit

/-- From w to w' only block g has changed. -/
abbrev But (g : Nat) (w w' : World) : Prop := Chg w w' (fun b => b ≠ g)
/-- Block g of w holds slices alone. -/
def OnlySl (w : World) (g : Nat) : Prop := ∀ o v, w.cell? ⟨g, o, none⟩ = some v → ∃ A n c, v = .slice A n c
/-- Elements that do not lie in a block of slices stay as they are when it changes. -/
def NoSl {α : Type} (E : World → Nat → Nat → α → Prop) : Prop := ∀ (w w' : World) (g b o : Nat) (x : α), OnlySl w g → But g w w' → b < w.heap.size → E w b o x → b ≠ g ∧ E w' b o x
theorem But.cell {g : Nat} {w w' : World} (h : But g w w') {b o : Nat} (hb : b < w.heap.size) (hg : b ≠ g) : w'.cell? ⟨b, o, none⟩ = w.cell? ⟨b, o, none⟩ := World.cell?_of_block (h.block b hb hg)
theorem noS : NoSl ES := fun w w' g b o x hs hc hb h => by
  have hg : b ≠ g := fun e => by
    subst e
    obtain ⟨A, n, c, e⟩ := hs o _ h
    cases e
  exact ⟨hg, (hc.cell hb hg).trans h⟩
theorem noV : NoSl EV := fun w w' g b o x hs hc hb h => by
  have hg : b ≠ g := fun e => by
    subst e
    obtain ⟨A, n, c, e⟩ := hs o _ h.1
    cases e
  exact ⟨hg, (hc.cell hb hg).trans h.1, (hc.cell hb hg).trans h.2⟩
theorem noT : NoSl ET := fun w w' g b o x hs hc hb h => by
  have hg : b ≠ g := fun e => by
    subst e
    obtain ⟨A, n, c, e⟩ := hs o _ h.1
    cases e
  exact ⟨hg, (hc.cell hb hg).trans h.1, (hc.cell hb hg).trans h.2⟩
theorem noI : NoSl EI := fun w w' g b o x hs hc hb h => by
  have hg : b ≠ g := fun e => by
    subst e
    obtain ⟨A, n, c, e⟩ := hs o _ h.c0
    cases e
  exact ⟨hg, (hc.cell hb hg).trans h.c0, (hc.cell hb hg).trans h.c1, (hc.cell hb hg).trans h.c2, (hc.cell hb hg).trans h.c3, (hc.cell hb hg).trans h.c4, (hc.cell hb hg).trans h.c5, (hc.cell hb hg).trans h.c6, (hc.cell hb hg).trans h.c7⟩
theorem RdE.but {α : Type} {k : Nat} {E : World → Nat → Nat → α → Prop} {w w' : World} {A : Option Addr} {c g : Nat} {l : List α} (h : RdE k E w A c l) (hE : NoSl E) (hs : OnlySl w g) (hc : But g w w') : RdE k E w' A c l :=
  ⟨h.le, h.max, fun hn => by
    obtain ⟨b, off, e, hl, hx⟩ := h.at_ hn
    exact ⟨b, off, e, Nat.lt_of_lt_of_le hl hc.size, fun j hj => (hE _ _ g _ _ _ hs hc hl (hx j hj)).2⟩⟩
theorem noF : NoSl EF := fun w w' g b o x hs hc hb h => by
  obtain ⟨h1, v, h2, A, n, c, e, hn, hr⟩ := h
  have hg : b ≠ g := fun e => by
    subst e
    obtain ⟨A, n, c, e⟩ := hs o _ h1
    cases e
  exact ⟨hg, (hc.cell hb hg).trans h1, v, (hc.cell hb hg).trans h2, A, n, c, e, hn, hr.but noI hs hc⟩
theorem PgW.but {w w' : World} {a : PgA} {p : Prg} {g : Nat} (h : PgW w a p) (hs : OnlySl w g) (hc : But g w w') : PgW w' a p :=
  ⟨h.l1, h.l2, h.l3, h.l4, h.l5, h.vars.but noV hs hc, h.muts.but noS hs hc, h.conds.but noS hs hc, h.funcs.but noF hs hc, h.thr.but noT hs hc⟩
theorem FreshRow.but {w w' : World} {base m g : Nat} {A : Option Addr} {e : TypeId} (h : FreshRow w base A m e) (hc : But g w w') (hg : ∀ cur z, w.heap[g]? ≠ some (.cells cur e z)) : FreshRow w' base A m e := fun hm => by
  obtain ⟨b, cur, e1, e2, e3, e4⟩ := h hm
  have hne : b ≠ g := fun e => by subst e; exact hg _ _ e3
  exact ⟨b, cur, e1, e2, (hc.block b (Array.getElem?_eq_some_iff.1 e3).1 hne).trans e3, e4⟩

/-! ### What a write elsewhere keeps -/
/-- Every block from base on whose elements are of type e is the same. -/
structure Keep (base : Nat) (e : TypeId) (w w' : World) : Prop where
  size : w.heap.size ≤ w'.heap.size
  block : ∀ b cur z, base ≤ b → w.heap[b]? = some (.cells cur e z) → w'.heap[b]? = w.heap[b]?
theorem Keep.ofBelow {base : Nat} {e : TypeId} {w w' : World} (h : Below w.heap.size w w') : Keep base e w w' := ⟨h.size, fun b _ _ _ hb => h.block b (Array.getElem?_eq_some_iff.1 hb).1⟩
theorem Keep.ofBut {base g : Nat} {e : TypeId} {w w' : World} (h : But g w w') (hg : ∀ cur z, w.heap[g]? ≠ some (.cells cur e z)) : Keep base e w w' := ⟨h.size, fun b cur z _ hb => h.block b (Array.getElem?_eq_some_iff.1 hb).1 fun e => by subst e; exact hg _ _ hb⟩
theorem FreshRow.keep {w w' : World} {base m : Nat} {A : Option Addr} {e : TypeId} (h : FreshRow w base A m e) (hk : Keep base e w w') : FreshRow w' base A m e := fun hm => by
  obtain ⟨b, cur, e1, e2, e3, e4⟩ := h hm
  exact ⟨b, cur, e1, e2, (hk.block b _ _ e2 e3).trans e3, e4⟩
/-- What lies in block b hangs on block b alone. -/
def LocE {α : Type} (E : World → Nat → Nat → α → Prop) : Prop := ∀ (w w' : World) (b o : Nat) (x : α), w'.heap[b]? = w.heap[b]? → E w b o x → E w' b o x
theorem locS : LocE ES := fun _ _ _ _ _ hb h => (World.cell?_of_block hb).trans h
theorem locV : LocE EV := fun _ _ _ _ _ hb h => ⟨(World.cell?_of_block hb).trans h.1, (World.cell?_of_block hb).trans h.2⟩
theorem locT : LocE ET := fun _ _ _ _ _ hb h => ⟨(World.cell?_of_block hb).trans h.1, (World.cell?_of_block hb).trans h.2⟩
theorem locI : LocE EI := fun _ _ _ _ _ hb h => ⟨(World.cell?_of_block hb).trans h.c0, (World.cell?_of_block hb).trans h.c1, (World.cell?_of_block hb).trans h.c2, (World.cell?_of_block hb).trans h.c3, (World.cell?_of_block hb).trans h.c4, (World.cell?_of_block hb).trans h.c5, (World.cell?_of_block hb).trans h.c6, (World.cell?_of_block hb).trans h.c7⟩
section
variable {α : Type} {k : Nat} {E : World → Nat → Nat → α → Prop} {w w' : World} {A : Option Addr} {c n : Nat} {l : List α}
theorem RdE.loc (h : RdE k E w A c l) (hE : LocE E) (hs : w.heap.size ≤ w'.heap.size) (hb : 0 < l.length → ∀ ad, A = some ad → w'.heap[ad.block]? = w.heap[ad.block]?) : RdE k E w' A c l :=
  ⟨h.le, h.max, fun hn => by
    obtain ⟨b, off, e, hl, hc⟩ := h.at_ hn
    exact ⟨b, off, e, Nat.lt_of_lt_of_le hl hs, fun j hj => hE _ _ _ _ _ (hb hn _ e) (hc j hj)⟩⟩
theorem RdE.keep {base : Nat} {e : TypeId} (h : RdE k E w A c l) (hE : LocE E) (hn : l.length = n) (hf : FreshRow w base A (n * k) e) (hk : 0 < k) (K : Keep base e w w') : RdE k E w' A c l :=
  h.loc hE K.size fun h0 ad had => by
    obtain ⟨b, cur, e1, e2, e3, e4⟩ := hf (Nat.mul_pos (by omega) hk)
    rw [e1] at had
    cases had
    exact K.block b _ _ e2 e3
theorem RdE.butOld {g : Nat} (h : RdE k E w A c l) (hE : LocE E) (hc : But g w w') (hg : 0 < l.length → ∀ ad, A = some ad → ad.block ≠ g) : RdE k E w' A c l :=
  h.loc hE hc.size fun h0 ad had => by
    obtain ⟨b, off, e, hl, _⟩ := h.at_ h0
    have := hg h0 ad had
    rw [e] at had
    cases had
    exact hc.block _ hl this
end
/-! ### Functions whose code may be old or new -/
/-- A function whose code, if it has any, lies below base. -/
def EFo (base : Nat) (w : World) (b o : Nat) (f : ByteArray × List I8) : Prop := w.cell? ⟨b, o, none⟩ = some (.string f.1) ∧ ∃ v, w.cell? ⟨b, o + 1, none⟩ = some v ∧ ∃ A n c, v = .slice A n c ∧ f.2.length = n ∧ RdE 8 EI w A c f.2 ∧ (0 < f.2.length → ∀ ad, A = some ad → ad.block < base)
theorem EFo.to {base : Nat} {w : World} {b o : Nat} {f : ByteArray × List I8} (h : EFo base w b o f) : EF w b o f := by
  obtain ⟨h1, v, h2, A, n, c, e, hn, hr, _⟩ := h
  exact ⟨h1, v, h2, A, n, c, e, hn, hr⟩
theorem EF.old {w w' : World} {b o : Nat} {f : ByteArray × List I8} (h : EF w b o f) (hb : Below w.heap.size w w') (hl : b < w.heap.size) : EFo w.heap.size w' b o f := by
  obtain ⟨h1, v, h2, A, n, c, e, hn, hr⟩ := h
  refine ⟨(hb.cell hl).trans h1, v, (hb.cell hl).trans h2, A, n, c, e, hn, hr.below stabI hb, fun h0 ad had => ?_⟩
  obtain ⟨b', off, e', hl', _⟩ := hr.at_ h0
  rw [e'] at had
  cases had
  exact hl'
theorem RdE.old {w w' : World} {A : Option Addr} {c : Nat} {l : List (ByteArray × List I8)} (h : RdE 2 EF w A c l) (hb : Below w.heap.size w w') : RdE 2 (EFo w.heap.size) w' A c l :=
  ⟨h.le, h.max, fun hn => by
    obtain ⟨b, off, e, hl, hc⟩ := h.at_ hn
    exact ⟨b, off, e, Nat.lt_of_lt_of_le hl hb.size, fun j hj => (hc j hj).old hb hl⟩⟩
theorem RdE.ofOld {base : Nat} {w : World} {A : Option Addr} {c : Nat} {l : List (ByteArray × List I8)} (h : RdE 2 (EFo base) w A c l) : RdE 2 EF w A c l :=
  ⟨h.le, h.max, fun hn => by
    obtain ⟨b, off, e, hl, hc⟩ := h.at_ hn
    exact ⟨b, off, e, hl, fun j hj => (hc j hj).to⟩⟩
theorem toldFo (base : Nat) : Told 2 (EFo base) := ⟨fun {w b o x} h j hj => by
    obtain ⟨h1, v, h2, _⟩ := h
    rcases (by omega : j = 0 ∨ j = 1) with rfl | rfl
    · rw [Nat.add_zero, h1]; rfl
    · rw [h2]; rfl, fun {w w' b o b' o' x} h hb hc => by
    obtain ⟨h1, v, h2, A, n, c, e, hn, hr, ho⟩ := h
    have g0 := hc 0 (by omega)
    have g1 := hc 1 (by omega)
    rw [Nat.add_zero, Nat.add_zero, h1] at g0
    rw [h2] at g1
    exact ⟨g0, v, g1, A, n, c, e, hn, hr.below stabI hb, ho⟩⟩
theorem stabFo (base : Nat) : StabE (EFo base) := fun _ _ _ _ _ hl hb h => by
  obtain ⟨h1, v, h2, A, n, c, e, hn, hr, ho⟩ := h
  exact ⟨(hb.cell hl).trans h1, v, (hb.cell hl).trans h2, A, n, c, e, hn, hr.below stabI hb, ho⟩
theorem noFo (base : Nat) : NoSl (EFo base) := fun w w' g b o x hs hc hb h => by
  obtain ⟨h1, v, h2, A, n, c, e, hn, hr, ho⟩ := h
  have hg : b ≠ g := fun e => by
    subst e
    obtain ⟨A, n, c, e⟩ := hs o _ h1
    cases e
  exact ⟨hg, (hc.cell hb hg).trans h1, v, (hc.cell hb hg).trans h2, A, n, c, e, hn, hr.but noI hs hc, ho⟩
theorem runCpFo (base : Nat) (w : World) (ty : TypeId) (A0 A : Option Addr) (l : List (ByteArray × List I8)) (n c : Nat) (hn : l.length = n) (hs : n ≤ 1000000) (hr : RdE 2 (EFo base) w A c l) :
    ∃ v w', (Builtin.append_ #[24, 24] ty #[.slice A0 0 0, .slice A n c]).run Tryd.prog w = .ok v w' ∧ GoodCp 2 (EFo base) 42 l n w v w' := by
  obtain ⟨i0, hi, hz0, hz1, hz2⟩ := info_parts infoCF
  exact runCp w (toldFo base) 24 ty 42 i0 _ Tryd.underlying24 hi hz0 hz1 A0 A l n c hn hr (by rw [hz2]; omega)
theorem iCopyFo (base : Nat) (l : List (ByteArray × List I8)) (n c : Nat) (hn : l.length = n) (hs : n ≤ 1000000) (A : Option Addr) (w : World) (hr : RdE 2 (EFo base) w A c l) :
    Calls Tryd.prog 32 #[.slice A n c] w fun e w' => ∃ v, e = .returned v ∧ GoodCp 2 (EFo base) 42 l n w v w' := by
  obtain ⟨v, w1, hrun, hg⟩ := runCpFo base w 24 none A l n c hn hs hr
  have HG := Lib.hid hg
  clear hg hr hn hs
  go_enter Tryd.func32, Tryd.ntmps32
  go_wp2_with (at_builtin; refine Lib.wpList_append_run _ rfl _ _ _ _ rfl _ _ rfl rfl _ _ hrun ?_)
  go_ret
  exact ⟨v, rfl, HG.out⟩
/-- A program by value that lies in new memory, in block g its box. -/
structure Made8 (W1 X : World) (p : Prg) (a : PgA) (g : Nat) : Prop where
  lo : W1.heap.size ≤ g
  below : Below W1.heap.size W1 X
  box : PBox X g a
  pg : PgW X a p
  fo : RdE 2 (EFo W1.heap.size) X a.A4 a.c4 p.funcs
  f1 : FreshRow X W1.heap.size a.A1 (a.n1 * 2) 65
  f2 : FreshRow X W1.heap.size a.A2 (a.n2 * 1) 9
  f3 : FreshRow X W1.heap.size a.A3 (a.n3 * 1) 9
  f4 : FreshRow X W1.heap.size a.A4 (a.n4 * 2) 42
  f5 : FreshRow X W1.heap.size a.A5 (a.n5 * 2) 70
abbrev zer5 : Array Value := #[.slice none 0 0, .slice none 0 0, .slice none 0 0, .slice none 0 0, .slice none 0 0]
abbrev put5 (Y : World) (g : Nat) (v1 v2 v3 v4 v5 : Value) : World := ((((Y.setCell ⟨g, 0, none⟩ v1).setCell ⟨g, 1, none⟩ v2).setCell ⟨g, 2, none⟩ v3).setCell ⟨g, 3, none⟩ v4).setCell ⟨g, 4, none⟩ v5
theorem below5 {W1 Y : World} {g : Nat} (h : Below W1.heap.size W1 Y) (hg : W1.heap.size ≤ g) (v1 v2 v3 v4 v5 : Value) : Below W1.heap.size W1 (put5 Y g v1 v2 v3 v4 v5) := ((((h.setCell hg _).setCell hg _).setCell hg _).setCell hg _).setCell hg _
theorem but1 (Y : World) (g o : Nat) (v : Value) : But g Y (Y.setCell ⟨g, o, none⟩ v) := ⟨rfl, rfl, rfl, by rw [World.size_setCell]; exact Nat.le_refl _, fun k _ hk => heap_setCell_other Y ⟨g, o, none⟩ k v hk⟩
theorem but5 (Y : World) (g : Nat) (v1 v2 v3 v4 v5 : Value) : But g Y (put5 Y g v1 v2 v3 v4 v5) :=
  ((((but1 Y g 0 v1).trans (but1 _ g 1 v2) fun _ _ h => h).trans (but1 _ g 2 v3) fun _ _ h => h).trans (but1 _ g 3 v4) fun _ _ h => h).trans (but1 _ g 4 v5) fun _ _ h => h
theorem boxG {w : World} {b : Nat} {T : TypeId} {v1 v2 v3 v4 v5 : Value} (h : Blk w b T #[v1, v2, v3, v4, v5]) : w.cell? ⟨b, 0, none⟩ = some v1 ∧ w.cell? ⟨b, 1, none⟩ = some v2 ∧ w.cell? ⟨b, 2, none⟩ = some v3 ∧ w.cell? ⟨b, 3, none⟩ = some v4 ∧ w.cell? ⟨b, 4, none⟩ = some v5 ∧ w.frozen? ⟨b, 0, none⟩ = false ∧ w.frozen? ⟨b, 1, none⟩ = false ∧ w.frozen? ⟨b, 2, none⟩ = false ∧ w.frozen? ⟨b, 3, none⟩ = false ∧ w.frozen? ⟨b, 4, none⟩ = false :=
  ⟨h.cell 0, h.cell 1, h.cell 2, h.cell 3, h.cell 4, h.frozen 0, h.frozen 1, h.frozen 2, h.frozen 3, h.frozen 4⟩
theorem onlySl {Y : World} {g : Nat} {T : TypeId} {A1 A2 A3 A4 A5 : Option Addr} {n1 n2 n3 n4 n5 c1 c2 c3 c4 c5 : Nat} (h : Blk Y g T #[.slice A1 n1 c1, .slice A2 n2 c2, .slice A3 n3 c3, .slice A4 n4 c4, .slice A5 n5 c5]) : OnlySl Y g := fun o v hv => by
  rw [h.cell o] at hv
  have ho : o < 5 := (Array.getElem?_eq_some_iff.1 hv).1
  rcases (by omega : o = 0 ∨ o = 1 ∨ o = 2 ∨ o = 3 ∨ o = 4) with rfl | rfl | rfl | rfl | rfl <;> (simp at hv; exact ⟨_, _, _, hv.symm⟩)
theorem blkOther {Y : World} {g : Nat} {T : TypeId} {cs : Array Value} (h : Blk Y g T cs) {e : TypeId} (he : T ≠ e) : ∀ cur z, Y.heap[g]? ≠ some (.cells cur e z) := fun cur z hh => by
  unfold Blk at h
  rw [h] at hh
  injection hh with hh
  injection hh with _ ht
  exact he ht
theorem madeOf {W1 Y : World} {p : Prg} {a : PgA} {g : Nat} (lo : W1.heap.size ≤ g) (hb : Below W1.heap.size W1 Y) (hG : Blk Y g 27 zer5) (pg : PgW Y a p) (fo : RdE 2 (EFo W1.heap.size) Y a.A4 a.c4 p.funcs)
    (f1 : FreshRow Y W1.heap.size a.A1 (a.n1 * 2) 65) (f2 : FreshRow Y W1.heap.size a.A2 (a.n2 * 1) 9) (f3 : FreshRow Y W1.heap.size a.A3 (a.n3 * 1) 9) (f4 : FreshRow Y W1.heap.size a.A4 (a.n4 * 2) 42) (f5 : FreshRow Y W1.heap.size a.A5 (a.n5 * 2) 70) :
    Made8 W1 (put5 Y g (.slice a.A1 a.n1 a.c1) (.slice a.A2 a.n2 a.c2) (.slice a.A3 a.n3 a.c3) (.slice a.A4 a.n4 a.c4) (.slice a.A5 a.n5 a.c5)) p a g :=
  ⟨lo, below5 hb lo _ _ _ _ _, ((((hG.set 0 _).set 1 _).set 2 _).set 3 _).set 4 _, pg.but (onlySl hG) (but5 _ _ _ _ _ _ _), fo.but (noFo _) (onlySl hG) (but5 _ _ _ _ _ _ _), f1.but (but5 _ _ _ _ _ _ _) (blkOther hG (by decide)), f2.but (but5 _ _ _ _ _ _ _) (blkOther hG (by decide)), f3.but (but5 _ _ _ _ _ _ _) (blkOther hG (by decide)), f4.but (but5 _ _ _ _ _ _ _) (blkOther hG (by decide)), f5.but (but5 _ _ _ _ _ _ _) (blkOther hG (by decide))⟩

/-- Row k of the functions while the codes are copied one by one: those below k are new. -/
def CdAt (base : Nat) (Y : World) (B : Option Addr) (m d : Nat) (l : List I8) (new : Prop) : Prop := l.length = m ∧ RdE 8 EI Y B d l ∧ (new → FreshRow Y base B (m * 8) 47) ∧ (¬ new → 0 < l.length → ∀ ad, B = some ad → ad.block < base)
/-- The slices that f gives below k lie in blocks that differ. -/
def DisV (f : Nat → Option Value) (k : Nat) : Prop := ∀ i j, i < j → j < k → ∀ B m d B' m' d', f i = some (.slice B m d) → f j = some (.slice B' m' d') → 0 < m → 0 < m' → ∀ ad ad', B = some ad → B' = some ad' → ad.block ≠ ad'.block
theorem DisV.zero (f : Nat → Option Value) : DisV f 0 := fun _ _ _ h => absurd h (Nat.not_lt_zero _)
theorem DisV.congr {f g : Nat → Option Value} {k : Nat} (h : DisV f k) (e : ∀ i, i < k → g i = f i) : DisV g k := fun i j hij hj B m d B' m' d' h1 h2 => h i j hij hj B m d B' m' d' ((e i (by omega)).symm.trans h1) ((e j hj).symm.trans h2)
theorem DisV.succ {f g : Nat → Option Value} {k z : Nat} (h : DisV f k) (e : ∀ i, i < k → g i = f i) {B : Option Addr} {m d : Nat} (hk : g k = some (.slice B m d)) (ho : ∀ i, i < k → ∀ B m d ad, f i = some (.slice B m d) → 0 < m → B = some ad → ad.block < z) (hn : 0 < m → ∀ ad, B = some ad → z ≤ ad.block) : DisV g (k + 1) := fun i j hij hj B1 m1 d1 B2 m2 d2 h1 h2 p1 p2 ad1 ad2 e1 e2 => by
  rcases (by omega : j < k ∨ j = k) with g1 | g1
  · exact h i j hij g1 B1 m1 d1 B2 m2 d2 ((e i (by omega)).symm.trans h1) ((e j g1).symm.trans h2) p1 p2 ad1 ad2 e1 e2
  · subst g1
    rw [hk] at h2
    cases h2
    have q1 := ho i hij B1 m1 d1 ad1 ((e i hij).symm.trans h1) p1 e1
    have q2 := hn p2 ad2 e2
    omega
structure FnRow (base : Nat) (Y : World) (a : PgA) (p : Prg) (k : Nat) (b off : Nat) : Prop where
  adr : a.A4 = some ⟨b, off, none⟩
  lo : base ≤ b
  blk : ∃ cur, Y.heap[b]? = some (.cells cur 42 (0, 0))
  at_ : ∀ j (h : j < p.funcs.length), Y.cell? ⟨b, off + j * 2, none⟩ = some (.string p.funcs[j].1) ∧ ∃ B m d, Y.cell? ⟨b, off + j * 2 + 1, none⟩ = some (.slice B m d) ∧ CdAt base Y B m d p.funcs[j].2 (j < k)
  dis : DisV (fun j => Y.cell? ⟨b, off + j * 2 + 1, none⟩) k
structure LpC (W1 Y : World) (p : Prg) (a : PgA) (g k : Nat) : Prop where
  lo : W1.heap.size ≤ g
  below : Below W1.heap.size W1 Y
  box : PBox Y g a
  l1 : p.vars.length = a.n1
  l2 : p.muts.length = a.n2
  l3 : p.conds.length = a.n3
  l4 : p.funcs.length = a.n4
  l5 : p.thr.length = a.n5
  vars : RdE 2 EV Y a.A1 a.c1 p.vars
  muts : RdE 1 ES Y a.A2 a.c2 p.muts
  conds : RdE 1 ES Y a.A3 a.c3 p.conds
  thr : RdE 2 ET Y a.A5 a.c5 p.thr
  f1 : FreshRow Y W1.heap.size a.A1 (a.n1 * 2) 65
  f2 : FreshRow Y W1.heap.size a.A2 (a.n2 * 1) 9
  f3 : FreshRow Y W1.heap.size a.A3 (a.n3 * 1) 9
  f4 : FreshRow Y W1.heap.size a.A4 (a.n4 * 2) 42
  f5 : FreshRow Y W1.heap.size a.A5 (a.n5 * 2) 70
  le4 : a.n4 ≤ a.c4
  mx4 : a.c4 ≤ maxLen
  fn : 0 < a.n4 → ∃ b off, FnRow W1.heap.size Y a p k b off
theorem Made8.start {W1 X : World} {p : Prg} {a : PgA} {g : Nat} (h : Made8 W1 X p a g) : LpC W1 X p a g 0 :=
  ⟨h.lo, h.below, h.box, h.pg.l1, h.pg.l2, h.pg.l3, h.pg.l4, h.pg.l5, h.pg.vars, h.pg.muts, h.pg.conds, h.pg.thr, h.f1, h.f2, h.f3, h.f4, h.f5, by rw [← h.pg.l4]; exact h.pg.funcs.le, h.pg.funcs.max, fun h0 => by
    obtain ⟨b, off, e, hl, hx⟩ := h.fo.at_ (by rw [h.pg.l4]; exact h0)
    obtain ⟨b', cur, e1, e2, e3, e4⟩ := h.f4 (by omega)
    rw [e] at e1
    cases e1
    refine ⟨b, 0, e, e2, ⟨cur, e3⟩, fun j hj => ?_, DisV.zero _⟩
    obtain ⟨q1, v, q2, B, m, d, q3, q4, q5, q6⟩ := hx j hj
    subst q3
    exact ⟨q1, B, m, d, q2, q4, q5, fun h => absurd h (by omega), fun _ => q6⟩⟩
theorem LpC.ne {W1 Y : World} {p : Prg} {a : PgA} {g k b off : Nat} (h : LpC W1 Y p a g k) (hf : FnRow W1.heap.size Y a p k b off) : g ≠ b := fun e => by
  subst e
  obtain ⟨cur, hcur⟩ := hf.blk
  have := h.box
  unfold PBox Blk at this
  rw [this] at hcur
  injection hcur with hcur
  injection hcur with _ ht
  exact absurd ht (by decide)
theorem LpC.step {W1 Y Y1 : World} {p : Prg} {a : PgA} {g k b off : Nat} (h : LpC W1 Y p a g k) (hk : k < p.funcs.length) (hf : FnRow W1.heap.size Y a p k b off) {m : Nat} (hm : p.funcs[k].2.length = m) (hb : Below Y.heap.size Y Y1) {B : Option Addr} {d : Nat} (hr : RdE 8 EI Y1 B d p.funcs[k].2) (hfr : FreshRow Y1 Y.heap.size B (m * 8) 47) :
    LpC W1 (Y1.setCell ⟨b, off + k * 2 + 1, none⟩ (.slice B m d)) p a g (k + 1) := by
  obtain ⟨cur, hcur⟩ := hf.blk
  have hcur1 : Y1.heap[b]? = some (.cells cur 42 (0, 0)) := (hb.block b (Array.getElem?_eq_some_iff.1 hcur).1).trans hcur
  have hB1 : Blk Y1 b 42 cur := hcur1
  have hlt := (Array.getElem?_eq_some_iff.1 hcur).1
  have hbut := but1 Y1 b (off + k * 2 + 1) (.slice B m d)
  have KV : Keep W1.heap.size 65 Y1 (Y1.setCell ⟨b, off + k * 2 + 1, none⟩ (.slice B m d)) := Keep.ofBut hbut (blkOther hB1 (by decide))
  have KS : Keep W1.heap.size 9 Y1 (Y1.setCell ⟨b, off + k * 2 + 1, none⟩ (.slice B m d)) := Keep.ofBut hbut (blkOther hB1 (by decide))
  have KT : Keep W1.heap.size 70 Y1 (Y1.setCell ⟨b, off + k * 2 + 1, none⟩ (.slice B m d)) := Keep.ofBut hbut (blkOther hB1 (by decide))
  have KI : Keep W1.heap.size 47 Y1 (Y1.setCell ⟨b, off + k * 2 + 1, none⟩ (.slice B m d)) := Keep.ofBut hbut (blkOther hB1 (by decide))
  have hgb : g ≠ b := fun e => by
    subst e
    have := h.box
    unfold PBox Blk at this
    rw [this] at hcur
    injection hcur with hcur
    injection hcur with _ ht
    exact absurd ht (by decide)
  have hB2 := hB1.set (off + k * 2 + 1) (.slice B m d)
  have hcell : ∀ i, i ≠ off + k * 2 + 1 → (Y1.setCell ⟨b, off + k * 2 + 1, none⟩ (.slice B m d)).cell? ⟨b, i, none⟩ = Y.cell? ⟨b, i, none⟩ := fun i hi => by
    rw [hB2.cell, ← hb.cell hlt, hB1.cell]
    exact Array.getElem?_setIfInBounds_ne (Ne.symm hi)
  refine ⟨h.lo, (belowThen h.below hb).setCell hf.lo _, (h.box.below hb).other hgb _ _, h.l1, h.l2, h.l3, h.l4, h.l5,
    (h.vars.below stabV hb).keep locV h.l1 (h.f1.below hb) (by decide) KV, (h.muts.below stabS hb).keep locS h.l2 (h.f2.below hb) (by decide) KS, (h.conds.below stabS hb).keep locS h.l3 (h.f3.below hb) (by decide) KS, (h.thr.below stabT hb).keep locT h.l5 (h.f5.below hb) (by decide) KT,
    (h.f1.below hb).keep KV, (h.f2.below hb).keep KS, (h.f3.below hb).keep KS, ?_, (h.f5.below hb).keep KT, h.le4, h.mx4, fun _ => ⟨b, off, hf.adr, hf.lo, ⟨_, hB2⟩, fun j hj => ?_, ?_⟩⟩
  rotate_right
  · refine hf.dis.succ (z := Y.heap.size) (fun i hi => hcell _ (by omega)) (B := B) (m := m) (d := d) ?_ (fun i hi B1 m1 d1 ad1 g1 g2 g3 => ?_) fun g2 ad1 g3 => ?_
    · obtain ⟨q1, B', m', d', q2, _⟩ := hf.at_ k hk
      show (Y1.setCell ⟨b, off + k * 2 + 1, none⟩ (.slice B m d)).cell? ⟨b, off + k * 2 + 1, none⟩ = _
      rw [hB2.cell]
      have hs : off + k * 2 + 1 < cur.size := by
        rw [(show Y.cell? ⟨b, off + k * 2 + 1, none⟩ = cur[off + k * 2 + 1]? from Blk.cell (show Blk Y b 42 cur from hcur) _)] at q2
        exact (Array.getElem?_eq_some_iff.1 q2).1
      rw [Array.getElem?_setIfInBounds_self_of_lt hs]
    · obtain ⟨q1, B', m', d', q2, q3, q4, _⟩ := hf.at_ i (by omega)
      have g1 : Y.cell? ⟨b, off + i * 2 + 1, none⟩ = some (.slice B1 m1 d1) := g1
      rw [g1] at q2
      cases q2
      obtain ⟨b5, o5, e5, e6, _⟩ := q4.at_ (by omega)
      rw [g3] at e5
      cases e5
      exact e6
    · obtain ⟨b5, cur5, e5, e6, _⟩ := hfr (by omega)
      rw [g3] at e5
      cases e5
      exact e6
  · intro h0
    obtain ⟨b', cur', e1, e2, e3, e4⟩ := (h.f4.below hb) h0
    have := hf.adr
    rw [e1] at this
    cases this
    rw [hcur1] at e3
    cases e3
    exact ⟨b, _, e1, e2, hB2, by rw [Array.size_setIfInBounds]; exact e4⟩
  · obtain ⟨q1, B', m', d', q2, q3, q4, q5, q6⟩ := hf.at_ j hj
    by_cases hjk : j = k
    · subst hjk
      refine ⟨(hcell _ (by omega)).trans q1, B, m, d, ?_, hm, hr.keep locI hm (hfr.mono h.below.size) (by decide) KI, fun _ => (hfr.mono h.below.size).keep KI, fun hn => absurd (Nat.lt_succ_self _) hn⟩
      rw [hB2.cell]
      have hs : off + j * 2 + 1 < cur.size := by
        rw [(show Y.cell? ⟨b, off + j * 2 + 1, none⟩ = cur[off + j * 2 + 1]? from Blk.cell (show Blk Y b 42 cur from hcur) _)] at q2
        exact (Array.getElem?_eq_some_iff.1 q2).1
      rw [Array.getElem?_setIfInBounds_self_of_lt hs]
    · refine ⟨(hcell _ (by omega)).trans q1, B', m', d', (hcell _ (by omega)).trans q2, q3, ?_, fun hn => ((q5 (by omega)).below hb).keep KI, fun hn => q6 (by omega)⟩
      refine (q4.below stabI hb).butOld locI hbut fun h0 ad had => ?_
      by_cases hlt' : j < k
      · obtain ⟨b', cur', e1, e2, e3, e4⟩ := (q5 hlt') (by omega)
        rw [e1] at had
        cases had
        intro e
        subst e
        rw [hcur] at e3
        injection e3 with e3
        injection e3 with _ ht
        exact absurd ht (by decide)
      · have := q6 hlt' h0 ad had
        have := hf.lo
        omega
/-- A program by value that lies in memory from block base on. -/
structure Cl8 (base : Nat) (Y : World) (p : Prg) (a : PgA) : Prop where
  pg : PgW Y a p
  f1 : FreshRow Y base a.A1 (a.n1 * 2) 65
  f2 : FreshRow Y base a.A2 (a.n2 * 1) 9
  f3 : FreshRow Y base a.A3 (a.n3 * 1) 9
  f4 : FreshRow Y base a.A4 (a.n4 * 2) 42
  f5 : FreshRow Y base a.A5 (a.n5 * 2) 70
  fn : 0 < a.n4 → ∃ b off, FnRow base Y a p a.n4 b off
theorem FnRow.rd {base : Nat} {Y : World} {a : PgA} {p : Prg} {b off : Nat} (h : FnRow base Y a p a.n4 b off) (hl : p.funcs.length = a.n4) (hle : a.n4 ≤ a.c4) (hmx : a.c4 ≤ maxLen) : RdE 2 EF Y a.A4 a.c4 p.funcs := by
  obtain ⟨cur, hcur⟩ := h.blk
  refine ⟨by omega, hmx, fun _ => ⟨b, off, h.adr, (Array.getElem?_eq_some_iff.1 hcur).1, fun j hj => ?_⟩⟩
  obtain ⟨q1, B, m, d, q2, q3, q4, _⟩ := h.at_ j hj
  exact ⟨q1, _, q2, B, m, d, rfl, q3, q4⟩
theorem LpC.done {W1 Y : World} {p : Prg} {a : PgA} {g : Nat} (h : LpC W1 Y p a g a.n4) : Cl8 W1.heap.size Y p a :=
  ⟨⟨h.l1, h.l2, h.l3, h.l4, h.l5, h.vars, h.muts, h.conds, by
    rcases Nat.eq_zero_or_pos a.n4 with h0 | h0
    · have hl := h.l4
      rw [h0] at hl
      rw [List.eq_nil_of_length_eq_zero hl]
      exact ⟨Nat.zero_le _, h.mx4, fun hn => absurd hn (by simp)⟩
    · obtain ⟨b, off, hf⟩ := h.fn h0
      exact hf.rd h.l4 h.le4 h.mx4, h.thr⟩, h.f1, h.f2, h.f3, h.f4, h.f5, h.fn⟩
/-- What leaves all that is new as it is keeps the copy. -/
theorem Cl8.keep {base : Nat} {Y Y' : World} {p : Prg} {a : PgA} (h : Cl8 base Y p a) (hs : Y.heap.size ≤ Y'.heap.size) (hb : ∀ b, base ≤ b → b < Y.heap.size → Y'.heap[b]? = Y.heap[b]?) : Cl8 base Y' p a := by
  have K : ∀ e, Keep base e Y Y' := fun e => ⟨hs, fun b cur z hbb hc => hb b hbb (Array.getElem?_eq_some_iff.1 hc).1⟩
  have hfn : 0 < a.n4 → ∃ b off, FnRow base Y' a p a.n4 b off := fun h0 => by
    obtain ⟨b, off, hf⟩ := h.fn h0
    obtain ⟨cur, hcur⟩ := hf.blk
    have hlt := (Array.getElem?_eq_some_iff.1 hcur).1
    have hbb := hb b hf.lo hlt
    refine ⟨b, off, hf.adr, hf.lo, ⟨cur, hbb.trans hcur⟩, fun j hj => ?_, hf.dis.congr fun i _ => World.cell?_of_block hbb⟩
    obtain ⟨q1, B, m, d, q2, q3, q4, q5, q6⟩ := hf.at_ j hj
    have hj' : j < a.n4 := by rw [← h.pg.l4]; exact hj
    exact ⟨(World.cell?_of_block hbb).trans q1, B, m, d, (World.cell?_of_block hbb).trans q2, q3, q4.keep locI q3 (q5 hj') (by decide) (K _), fun _ => (q5 hj').keep (K _), fun hn => absurd hj' hn⟩
  refine ⟨⟨h.pg.l1, h.pg.l2, h.pg.l3, h.pg.l4, h.pg.l5, h.pg.vars.keep locV h.pg.l1 h.f1 (by decide) (K _), h.pg.muts.keep locS h.pg.l2 h.f2 (by decide) (K _), h.pg.conds.keep locS h.pg.l3 h.f3 (by decide) (K _), ?_, h.pg.thr.keep locT h.pg.l5 h.f5 (by decide) (K _)⟩, h.f1.keep (K _), h.f2.keep (K _), h.f3.keep (K _), h.f4.keep (K _), h.f5.keep (K _), hfn⟩
  rcases Nat.eq_zero_or_pos a.n4 with h0 | h0
  · have hl := h.pg.l4
    rw [h0] at hl
    have hmx := h.pg.funcs.max
    rw [List.eq_nil_of_length_eq_zero hl]
    exact ⟨Nat.zero_le _, hmx, fun hn => absurd hn (by simp)⟩
  · obtain ⟨b, off, hf⟩ := hfn h0
    have := h.pg.funcs.le
    exact hf.rd h.pg.l4 (by rw [← h.pg.l4]; exact this) h.pg.funcs.max
theorem Cl8.below {base : Nat} {Y Y' : World} {p : Prg} {a : PgA} (h : Cl8 base Y p a) (hb : Below Y.heap.size Y Y') : Cl8 base Y' p a := h.keep hb.size fun b _ hl => hb.block b hl
theorem Cl8.mono {base base' : Nat} {Y : World} {p : Prg} {a : PgA} (h : Cl8 base Y p a) (hb : base' ≤ base) : Cl8 base' Y p a :=
  ⟨h.pg, h.f1.mono hb, h.f2.mono hb, h.f3.mono hb, h.f4.mono hb, h.f5.mono hb, fun h0 => by
    obtain ⟨b, off, hf⟩ := h.fn h0
    refine ⟨b, off, hf.adr, Nat.le_trans hb hf.lo, hf.blk, fun j hj => ?_, hf.dis⟩
    obtain ⟨q1, B, m, d, q2, q3, q4, q5, q6⟩ := hf.at_ j hj
    have hj' : j < a.n4 := by rw [← h.pg.l4]; exact hj
    exact ⟨q1, B, m, d, q2, q3, q4, fun _ => (q5 hj').mono hb, fun hn => absurd hj' hn⟩⟩
theorem retClone8 {w W W1 Y : World} {v1 v2 : Obj} {p : Prg} {a : PgA} (hW : w.alloc v1 = W) (hW1 : W.alloc v2 = W1) (hR : Blk Y (w.heap.size + 1) 27 zer5) (hb : Below W1.heap.size W1 Y) (hc : Cl8 W1.heap.size Y p a) :
    Below w.heap.size w (put5 Y (w.heap.size + 1) (.slice a.A1 a.n1 a.c1) (.slice a.A2 a.n2 a.c2) (.slice a.A3 a.n3 a.c3) (.slice a.A4 a.n4 a.c4) (.slice a.A5 a.n5 a.c5)) ∧ Cl8 w.heap.size (put5 Y (w.heap.size + 1) (.slice a.A1 a.n1 a.c1) (.slice a.A2 a.n2 a.c2) (.slice a.A3 a.n3 a.c3) (.slice a.A4 a.n4 a.c4) (.slice a.A5 a.n5 a.c5)) p a ∧ Blk (put5 Y (w.heap.size + 1) (.slice a.A1 a.n1 a.c1) (.slice a.A2 a.n2 a.c2) (.slice a.A3 a.n3 a.c3) (.slice a.A4 a.n4 a.c4) (.slice a.A5 a.n5 a.c5)) (w.heap.size + 1) 27 a.fs := by
  have s1 : W.heap.size = w.heap.size + 1 := by rw [← hW, World.size_alloc]
  have s2 : W1.heap.size = W.heap.size + 1 := by rw [← hW1, World.size_alloc]
  have bW : Below w.heap.size w W := by rw [← hW]; exact belowAlloc w _
  have bW1 : Below W.heap.size W W1 := by rw [← hW1]; exact belowAlloc W _
  have hY : Below w.heap.size w Y := belowThen (belowThen bW bW1) hb
  refine ⟨below5 hY (Nat.le_succ _) _ _ _ _ _, ?_, ((((hR.set 0 _).set 1 _).set 2 _).set 3 _).set 4 _⟩
  have hbut := but5 Y (w.heap.size + 1) (.slice a.A1 a.n1 a.c1) (.slice a.A2 a.n2 a.c2) (.slice a.A3 a.n3 a.c3) (.slice a.A4 a.n4 a.c4) (.slice a.A5 a.n5 a.c5)
  exact (hc.keep hbut.size fun b hb1 hb2 => hbut.block b hb2 (by show b ≠ _; omega)).mono (by omega)
theorem infoPg5 : (Tryd.prog.info? 27).map (·.size) = some 5 := by kernel_rfl
end Go.Proofs.YtebpnnakcodjdaaDoor
