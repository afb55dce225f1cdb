/-
  Clone of units: what lies in memory while the procedures' bodies are copied one by one.
-/
import Derived.Test.YtiaendggmamnkaaGreatDoorEAsDv
import Derived.Test.YtiaendggmamnkaaGreatDoorEEu
namespace Go.Proofs.YtiaendggmamnkaaGreatDoor
open Go Go.RowKit

theorem AllX.base {B B' : Nat} (hB : B ≤ B') {w : World} {v : Value} {es : List Ex} (h : AllX B' w v es) : AllX B w v es := by
  obtain ⟨A, c, e, h⟩ := h
  exact ⟨A, c, e, fun d => (h d).baseX hB⟩
theorem NM.base {B B' : Nat} {S : Nat → Nat → Prop} (hB : B ≤ B') {w : World} : ∀ {d : Nat} {b o : Nat} {t : Sm}, NM B' S d w b o t → NM B S d w b o t
  | 0, _, _, _, _ => trivial
  | d + 1, _, _, _, ⟨⟨v6, h6, r6⟩, ⟨A, c, h1, h2⟩, A8, c8, k1, k2⟩ => by
    have R : ∀ (A : Option Addr) (ts : List Sm), RowN B' 54 9 S (NM B' S d) w A ts → RowN B 54 9 S (NM B S d) w A ts := fun A ts h hn => by
      obtain ⟨g, cur, e, hg, hc, hs, hx⟩ := h hn
      exact ⟨g, cur, e, Nat.le_trans hB hg, hc, hs, hx.imp id fun hx j hj => (hx j hj).base hB⟩
    exact ⟨⟨v6, h6, r6.base hB⟩, ⟨A, c, h1, R _ _ h2⟩, A8, c8, k1, R _ _ k2⟩
/-- A block of statements lies in new rows, all of it. -/
def AllM (B : Nat) (w : World) (A : Option Addr) (ts : List Sm) : Prop := ∀ d, RowN B 54 9 (fun _ _ => False) (NM B (fun _ _ => False) d) w A ts
theorem AllM.base {B B' : Nat} (hB : B ≤ B') {w : World} {A : Option Addr} {ts : List Sm} (h : AllM B' w A ts) : AllM B w A ts := fun d hn => by
  obtain ⟨g, cur, e, hg, hc, hs, hx⟩ := h d hn
  exact ⟨g, cur, e, Nat.le_trans hB hg, hc, hs, hx.imp id fun hx j hj => (hx j hj).base hB⟩
theorem GM.rebase {B B' dx : Nat} : ∀ {d : Nat} {w : World} {b o : Nat} {t : Sm}, GM B' dx d w b o t → Ty B 54 w b → (∀ d', NM B' (fun _ _ => False) d' w b o t) → GM B dx d w b o t
  | 0, _, _, _, _, h, _, _ => h.elim
  | d + 1, w, b, o, t, ⟨_, h0, h1, h2, h3, h4, h5, ⟨v6, h6, A6, c6, e6, r6⟩, ⟨v7, h7, A7, c7, e7, r7⟩, v8, h8, A8, c8, e8, r8⟩, ht, hn => by
    subst e6 e7 e8
    have R : ∀ (q : Nat) (A : Option Addr) (c : Nat) (ts : List Sm), w.cell? ⟨b, o + q, none⟩ = some (.slice A ts.length c) → RdE 9 (GM B' dx d) w A c ts → (∀ d', ∃ A c, w.cell? ⟨b, o + q, none⟩ = some (.slice A ts.length c) ∧ RowN B' 54 9 (fun _ _ => False) (NM B' (fun _ _ => False) d') w A ts) → SlE 9 (GM B dx d) w (.slice A ts.length c) ts := fun q A c ts hc hr hx => by
      have hx' : ∀ d', RowN B' 54 9 (fun _ _ => False) (NM B' (fun _ _ => False) d') w A ts := fun d' => by
        obtain ⟨A2, c2, k1, k2⟩ := hx d'
        rw [hc] at k1
        injection k1 with k1
        injection k1 with k1 _ _
        rw [k1]
        exact k2
      refine ⟨A, c, rfl, hr.le, hr.max, fun h0 => ?_⟩
      obtain ⟨g, cur, eA, _, hh, _, _⟩ := hx' 0 h0
      refine ⟨g, 0, eA, (Array.getElem?_eq_some_iff.1 hh).1, fun j hj => ?_⟩
      obtain ⟨b9, o9, e9, _, hy⟩ := hr.one hj
      rw [eA] at e9
      have p1 : g = b9 := congrArg Addr.block (Option.some.inj e9)
      have p2 : 0 = o9 := congrArg Addr.off (Option.some.inj e9)
      subst p1 p2
      rw [Nat.zero_add] at hy ⊢
      refine hy.rebase (.inr ⟨cur, hh⟩) fun d' => ?_
      obtain ⟨g2, cur2, eA2, _, _, _, hx2⟩ := hx' d' h0
      rw [eA] at eA2
      have p3 : g = g2 := congrArg Addr.block (Option.some.inj eA2)
      subst p3
      exact hx2.resolve_left id j hj
    have h6' : SlE 5 (GX B dx) w (.slice A6 t.val.exprs.length c6) t.val.exprs := by
      obtain ⟨⟨v, k1, A, c, e, k2⟩, _⟩ := hn 1
      subst e
      rw [h6] at k1
      injection k1 with k1
      injection k1 with k1 _ k3
      subst k1 k3
      exact ⟨A6, c6, rfl, rebaseX r6 k2⟩
    exact ⟨ht, h0, h1, h2, h3, h4, h5, ⟨_, h6, h6'⟩, ⟨_, h7, R 7 A7 c7 t.fst h7 r7 fun d' => (hn (d' + 1)).2.1⟩, _, h8, R 8 A8 c8 t.snd h8 r8 fun d' => (hn (d' + 1)).2.2⟩
theorem rebaseM {B B' dx D c : Nat} {w : World} {A : Option Addr} {ts : List Sm} (hr : RdE 9 (GM B' dx D) w A c ts) (hn : AllM B' w A ts) : RdE 9 (GM B dx D) w A c ts :=
  ⟨hr.le, hr.max, fun h0 => by
    obtain ⟨g, cur, eA, _, hh, _, _⟩ := hn 0 h0
    refine ⟨g, 0, eA, (Array.getElem?_eq_some_iff.1 hh).1, fun j hj => ?_⟩
    obtain ⟨b9, o9, e9, _, hy⟩ := hr.one hj
    rw [eA] at e9
    have p1 : g = b9 := congrArg Addr.block (Option.some.inj e9)
    have p2 : 0 = o9 := congrArg Addr.off (Option.some.inj e9)
    subst p1 p2
    rw [Nat.zero_add] at hy ⊢
    refine hy.rebase (.inr ⟨cur, hh⟩) fun d' => ?_
    obtain ⟨g2, cur2, eA2, _, _, _, hx2⟩ := hn d' h0
    rw [eA] at eA2
    have p3 : g = g2 := congrArg Addr.block (Option.some.inj eA2)
    subst p3
    exact hx2.resolve_left id j hj⟩
theorem AllM.chg {B : Nat} {F : Nat → Prop} {w w' : World} (hc : Chg w w' F) (hF : ∀ b, b < w.heap.size → Ty B 54 w b → F b) (hX : ∀ b, b < w.heap.size → Ty B 37 w b → F b) {A : Option Addr} {ts : List Sm} (h : AllM B w A ts) : AllM B w' A ts := fun d =>
  (h d).over (fun g cur _ hg => by
    have hl := (Array.getElem?_eq_some_iff.1 hg).1
    exact ⟨cur, (hc.block g hl (hF g hl (.inr ⟨cur, hg⟩))).trans hg, rfl⟩) (fun _ _ h => .inl h) fun g cur _ hg j hj h => h.chg hc hF hX (Array.getElem?_eq_some_iff.1 hg).1 (.inr ⟨cur, hg⟩)
/-- A procedure's cells; its body's rows lie in old memory or in rows of statements and expressions. -/
def GPi (B dx D : Nat) (w : World) (b o : Nat) (p : Pc) : Prop := w.cell? ⟨b, o, none⟩ = some (.string p.name) ∧ w.cell? ⟨b, o + 1, none⟩ = some (.string p.param) ∧ ∃ v, w.cell? ⟨b, o + 2, none⟩ = some v ∧ SlE 9 (GM B dx D) w v p.body
theorem stabGPi (B dx D : Nat) : StabE (GPi B dx D) := fun _ _ _ _ _ hl hb ⟨h0, h1, v, h2, h3⟩ => ⟨(hb.cell hl).trans h0, (hb.cell hl).trans h1, v, (hb.cell hl).trans h2, h3.below (stabGM B dx D) hb⟩
theorem GPi.to {B dx D : Nat} {w : World} {b o : Nat} {p : Pc} (h : GPi B dx D w b o p) : EPc dx D w b o p := by
  obtain ⟨h0, h1, v, h2, h3⟩ := h
  exact ⟨h0, h1, v, h2, h3.mono fun _ _ _ h => h.to⟩
theorem RdE.ofGPi {B dx D c : Nat} {w : World} {A : Option Addr} {l : List Pc} (h : RdE 3 (GPi B dx D) w A c l) : RdE 3 (EPc dx D) w A c l := h.over (Nat.le_refl _) fun _ _ _ _ h => h.to
theorem RdE.toGPi {dx D c : Nat} {w : World} {A : Option Addr} {l : List Pc} (h : RdE 3 (EPc dx D) w A c l) : RdE 3 (GPi w.heap.size dx D) w A c l := h.over (Nat.le_refl _) fun _ _ _ _ ⟨h0, h1, v, h2, h3⟩ => ⟨h0, h1, v, h2, h3.over (Nat.le_refl _) fun _ _ _ hl h => h.guard hl⟩
theorem toldGPi (B dx D : Nat) : Told 3 (GPi B dx D) := ⟨fun {w b o x} h j hj => by
    obtain ⟨h0, h1, v, h2, _⟩ := h
    rcases (by omega : j = 0 ∨ j = 1 ∨ j = 2) with rfl | rfl | rfl
    · rw [Nat.add_zero, h0]; rfl
    · rw [h1]; rfl
    · rw [h2]; rfl, fun {w w' b o b' o' x} h hb hc => by
    obtain ⟨h0, h1, v, h2, h3⟩ := h
    have g0 := hc 0 (by omega)
    rw [Nat.add_zero, Nat.add_zero, h0] at g0
    exact ⟨g0, (hc 1 (by omega)).trans h1, v, (hc 2 (by omega)).trans h2, h3.below (stabGM B dx D) hb⟩⟩
theorem cpInfoP : (Tryz.prog.info? 44).map (fun i => (i.zero, i.size, i.bytes)) = some (some (.agg #[.string ⟨#[]⟩, .string ⟨#[]⟩, .slice none 0 0]), 3, 56) := by kernel_rfl
theorem iCopyGP (B dx D : Nat) (l : List Pc) (n c : Nat) (hn : l.length = n) (hs : n ≤ 4000000) (A : Option Addr) (w : World) (hr : RdE 3 (GPi B dx D) w A c l) :
    Calls Tryz.prog 64 #[.slice A n c] w fun e w' => ∃ v, e = .returned v ∧ GoodCp 3 (GPi B dx D) 44 l n w v w' := by
  obtain ⟨v, w1, hrun, hg⟩ : ∃ v w', (Builtin.append_ #[24, 24] 24 #[.slice none 0 0, .slice A n c]).run Tryz.prog w = .ok v w' ∧ GoodCp 3 (GPi B dx D) 44 l n w v w' := by
    obtain ⟨i0, hi, hz0, hz1, hz2⟩ := info_parts cpInfoP
    exact runCp w (toldGPi B dx D) 24 24 44 i0 _ Tryz.underlying24 hi hz0 hz1 none A l n c hn hr (by rw [hz2]; omega)
  have HG := Lib.hid hg
  clear hg hr hn hs
  go_enter Tryz.func64, Tryz.ntmps64
  go_wp2_with (at_builtin; refine Lib.wpList_append_run _ rfl _ _ _ _ rfl _ _ rfl rfl _ _ hrun ?_)
  go_ret
  exact ⟨v, rfl, HG.out⟩
/-! What a write elsewhere keeps. -/
def Loc16 {α : Type} (E : World → Nat → Nat → α → Prop) : Prop := ∀ (w w' : World) (b o : Nat) (x : α), w'.heap[b]? = w.heap[b]? → E w b o x → E w' b o x
theorem loc16S : Loc16 ES := fun _ _ _ _ _ hb h => (World.cell?_of_block hb).trans h
theorem loc16V : Loc16 EV := fun _ _ _ _ _ hb h => ⟨(World.cell?_of_block hb).trans h.1, (World.cell?_of_block hb).trans h.2⟩
/-- Blocks of type T from B on are not changed. -/
def Kt (B : Nat) (T : TypeId) (w : World) (F : Nat → Prop) : Prop := ∀ b cur, B ≤ b → w.heap[b]? = some (.cells cur T (0, 0)) → F b
section
variable {α : Type} {k B n c : Nat} {T : TypeId} {E : World → Nat → Nat → α → Prop} {w w' : World} {A : Option Addr} {l : List α} {F : Nat → Prop}
theorem FreshRow.kt (h : FreshRow w B A n T) (hc : Chg w w' F) (hF : Kt B T w F) : FreshRow w' B A n T :=
  h.over fun g cur hg hcur => ⟨cur, (hc.block g (Array.getElem?_eq_some_iff.1 hcur).1 (hF g cur hg hcur)).trans hcur, rfl⟩
theorem RdE.kt (h : RdE k E w A c l) (hE : Loc16 E) (hn : l.length = n) (hf : FreshRow w B A (n * k) T) (hk : 0 < k) (hc : Chg w w' F) (hF : Kt B T w F) : RdE k E w' A c l :=
  ⟨h.le, h.max, fun hn0 => by
    obtain ⟨b, off, e, hl, hx⟩ := h.at_ hn0
    obtain ⟨g, cur, e1, e2, e3, _⟩ := hf (Nat.mul_pos (by omega) hk)
    rw [e] at e1
    have p1 : b = g := congrArg Addr.block (Option.some.inj e1)
    subst p1
    exact ⟨b, off, e, Nat.lt_of_lt_of_le hl hc.size, fun j hj => hE _ _ _ _ _ (hc.block b hl (hF b cur e2 e3)) (hx j hj)⟩⟩
end
abbrev zer16 : Array Value := #[.slice none 0 0, .slice none 0 0, .slice none 0 0, .slice none 0 0, .slice none 0 0]
abbrev put5 (Y : World) (g : Nat) (v1 v2 v3 v4 v5 : Value) : World := ((((Y.setCell ⟨g, 0, none⟩ v1).setCell ⟨g, 1, none⟩ v2).setCell ⟨g, 2, none⟩ v3).setCell ⟨g, 3, none⟩ v4).setCell ⟨g, 4, none⟩ v5
theorem below5 {W1 Y : World} {g : Nat} (h : Below W1.heap.size W1 Y) (hg : W1.heap.size ≤ g) (v1 v2 v3 v4 v5 : Value) : Below W1.heap.size W1 (put5 Y g v1 v2 v3 v4 v5) := ((((h.setCell hg _).setCell hg _).setCell hg _).setCell hg _).setCell hg _
theorem but5 (Y : World) (g : Nat) (v1 v2 v3 v4 v5 : Value) : Chg Y (put5 Y g v1 v2 v3 v4 v5) (fun q => q ≠ g) :=
  ((((chgSet16 Y g 0 v1).trans (chgSet16 _ g 1 v2) fun _ _ h => h).trans (chgSet16 _ g 2 v3) fun _ _ h => h).trans (chgSet16 _ g 3 v4) fun _ _ h => h).trans (chgSet16 _ g 4 v5) fun _ _ h => h
theorem boxG {w : World} {b : Nat} {T : TypeId} {v1 v2 v3 v4 v5 : Value} (h : Blk w b T #[v1, v2, v3, v4, v5]) : w.cell? ⟨b, 0, none⟩ = some v1 ∧ w.cell? ⟨b, 1, none⟩ = some v2 ∧ w.cell? ⟨b, 2, none⟩ = some v3 ∧ w.cell? ⟨b, 3, none⟩ = some v4 ∧ w.cell? ⟨b, 4, none⟩ = some v5 ∧ w.frozen? ⟨b, 0, none⟩ = false ∧ w.frozen? ⟨b, 1, none⟩ = false ∧ w.frozen? ⟨b, 2, none⟩ = false ∧ w.frozen? ⟨b, 3, none⟩ = false ∧ w.frozen? ⟨b, 4, none⟩ = false :=
  ⟨h.cell 0, h.cell 1, h.cell 2, h.cell 3, h.cell 4, h.frozen 0, h.frozen 1, h.frozen 2, h.frozen 3, h.frozen 4⟩
theorem ktOther {Y : World} {g B : Nat} {T e : TypeId} {cs : Array Value} (h : Y.heap[g]? = some (.cells cs T (0, 0))) (he : T ≠ e) : Kt B e Y (fun q => q ≠ g) := fun b cur _ hb e' => by
  subst e'
  rw [h] at hb
  injection hb with hb
  injection hb with _ ht _
  exact he ht
theorem tyOther {Y : World} {g B : Nat} {T e : TypeId} {cs : Array Value} (h : Y.heap[g]? = some (.cells cs T (0, 0))) (he : T ≠ e) (hg : B ≤ g) : ∀ b, b < Y.heap.size → Ty B e Y b → b ≠ g := fun b _ ht e' => by
  subst e'
  rcases ht with ht | ⟨cur, ht⟩
  · omega
  · rw [h] at ht
    injection ht with ht
    injection ht with _ ht _
    exact he ht
/-- A unit by value that lies in new memory, in block g its box; B: where old memory ends. -/
structure Made16 (B dx D : Nat) (W1 X : World) (u : Un) (a : PgA) (g : Nat) : Prop where
  lo : W1.heap.size ≤ g
  base : B ≤ W1.heap.size
  below : Below W1.heap.size W1 X
  box : UBox X g a
  l1 : u.vars.length = a.n1
  l2 : u.muts.length = a.n2
  l3 : u.conds.length = a.n3
  l4 : u.procs.length = a.n4
  l5 : u.thr.length = a.n5
  vars : RdE 2 EV X a.A1 a.c1 u.vars
  muts : RdE 1 ES X a.A2 a.c2 u.muts
  conds : RdE 1 ES X a.A3 a.c3 u.conds
  thr : RdE 2 EV X a.A5 a.c5 u.thr
  fo : RdE 3 (GPi B dx D) X a.A4 a.c4 u.procs
  f1 : FreshRow X W1.heap.size a.A1 (a.n1 * 2) 56
  f2 : FreshRow X W1.heap.size a.A2 (a.n2 * 1) 9
  f3 : FreshRow X W1.heap.size a.A3 (a.n3 * 1) 9
  f4 : FreshRow X W1.heap.size a.A4 (a.n4 * 3) 44
  f5 : FreshRow X W1.heap.size a.A5 (a.n5 * 2) 73
theorem made16 {B dx D : Nat} (hB : ∀ W1 : World, W1 = W1) {W1 Y : World} {u : Un} {a : PgA} {g : Nat} (hb0 : B ≤ W1.heap.size) (lo : W1.heap.size ≤ g) (hb : Below W1.heap.size W1 Y) (hG : Blk Y g 27 zer16) (pg : UnR Y a u dx D) (fo : RdE 3 (GPi B dx D) Y a.A4 a.c4 u.procs)
    (f1 : FreshRow Y W1.heap.size a.A1 (a.n1 * 2) 56) (f2 : FreshRow Y W1.heap.size a.A2 (a.n2 * 1) 9) (f3 : FreshRow Y W1.heap.size a.A3 (a.n3 * 1) 9) (f4 : FreshRow Y W1.heap.size a.A4 (a.n4 * 3) 44) (f5 : FreshRow Y W1.heap.size a.A5 (a.n5 * 2) 73) :
    Made16 B dx D W1 (put5 Y g (.slice a.A1 a.n1 a.c1) (.slice a.A2 a.n2 a.c2) (.slice a.A3 a.n3 a.c3) (.slice a.A4 a.n4 a.c4) (.slice a.A5 a.n5 a.c5)) u a g := by
  have _ := hB W1
  have hc := but5 Y g (.slice a.A1 a.n1 a.c1) (.slice a.A2 a.n2 a.c2) (.slice a.A3 a.n3 a.c3) (.slice a.A4 a.n4 a.c4) (.slice a.A5 a.n5 a.c5)
  refine ⟨lo, hb0, below5 hb lo _ _ _ _ _, ((((hG.set 0 _).set 1 _).set 2 _).set 3 _).set 4 _, pg.l1, pg.l2, pg.l3, pg.l4, pg.l5, pg.vars.kt loc16V pg.l1 f1 (by decide) hc (ktOther hG (by decide)), pg.muts.kt loc16S pg.l2 f2 (by decide) hc (ktOther hG (by decide)), pg.conds.kt loc16S pg.l3 f3 (by decide) hc (ktOther hG (by decide)), pg.thr.kt loc16V pg.l5 f5 (by decide) hc (ktOther hG (by decide)), ?_, f1.kt hc (ktOther hG (by decide)), f2.kt hc (ktOther hG (by decide)), f3.kt hc (ktOther hG (by decide)), f4.kt hc (ktOther hG (by decide)), f5.kt hc (ktOther hG (by decide))⟩
  refine ⟨fo.le, fo.max, fun hn0 => ?_⟩
  obtain ⟨b, off, e, hl, hx⟩ := fo.at_ hn0
  obtain ⟨b', cur, e1, e2, e3, _⟩ := f4 (by have := pg.l4; omega)
  rw [e] at e1
  have p1 : b = b' := congrArg Addr.block (Option.some.inj e1)
  subst p1
  refine ⟨b, off, e, Nat.lt_of_lt_of_le hl hc.size, fun j hj => ?_⟩
  obtain ⟨q0, q1, v, q2, q3⟩ := hx j hj
  have ec : ∀ i, (put5 Y g (.slice a.A1 a.n1 a.c1) (.slice a.A2 a.n2 a.c2) (.slice a.A3 a.n3 a.c3) (.slice a.A4 a.n4 a.c4) (.slice a.A5 a.n5 a.c5)).cell? ⟨b, i, none⟩ = Y.cell? ⟨b, i, none⟩ := fun i => World.cell?_of_block (hc.block b hl (ktOther (B := W1.heap.size) hG (by decide) b cur e2 e3))
  exact ⟨(ec _).trans q0, (ec _).trans q1, v, (ec _).trans q2, q3.over hc.size fun _ _ _ hl h => h.chg hc (fun b hl ht => tyOther hG (by decide) (by omega) b hl ht) (fun b hl ht => tyOther hG (by decide) (by omega) b hl ht) hl⟩
/-- The procedures' row while their bodies are copied one by one: those below k are new. -/
structure PcRow (B dx D : Nat) (Y : World) (a : PgA) (u : Un) (k b : Nat) : Prop where
  adr : a.A4 = some ⟨b, 0, none⟩
  lo : B ≤ b
  blk : ∃ cur, Y.heap[b]? = some (.cells cur 44 (0, 0))
  at_ : ∀ j (h : j < u.procs.length), Y.cell? ⟨b, j * 3, none⟩ = some (.string u.procs[j].name) ∧ Y.cell? ⟨b, j * 3 + 1, none⟩ = some (.string u.procs[j].param) ∧ ∃ A c, Y.cell? ⟨b, j * 3 + 2, none⟩ = some (.slice A u.procs[j].body.length c) ∧ RdE 9 (GM B dx D) Y A c u.procs[j].body ∧ (j < k → AllM B Y A u.procs[j].body)
structure LpU (B dx D : Nat) (W1 Y : World) (u : Un) (a : PgA) (g k : Nat) : Prop where
  lo : W1.heap.size ≤ g
  base : B ≤ W1.heap.size
  below : Below W1.heap.size W1 Y
  box : UBox Y g a
  l1 : u.vars.length = a.n1
  l2 : u.muts.length = a.n2
  l3 : u.conds.length = a.n3
  l4 : u.procs.length = a.n4
  l5 : u.thr.length = a.n5
  vars : RdE 2 EV Y a.A1 a.c1 u.vars
  muts : RdE 1 ES Y a.A2 a.c2 u.muts
  conds : RdE 1 ES Y a.A3 a.c3 u.conds
  thr : RdE 2 EV Y a.A5 a.c5 u.thr
  f1 : FreshRow Y W1.heap.size a.A1 (a.n1 * 2) 56
  f2 : FreshRow Y W1.heap.size a.A2 (a.n2 * 1) 9
  f3 : FreshRow Y W1.heap.size a.A3 (a.n3 * 1) 9
  f4 : FreshRow Y W1.heap.size a.A4 (a.n4 * 3) 44
  f5 : FreshRow Y W1.heap.size a.A5 (a.n5 * 2) 73
  le4 : a.n4 ≤ a.c4
  mx4 : a.c4 ≤ maxLen
  fn : 0 < a.n4 → ∃ b, W1.heap.size ≤ b ∧ PcRow B dx D Y a u k b
section
variable {B dx D : Nat} {W1 X Y Y1 : World} {u : Un} {a : PgA} {g k b : Nat}
theorem Made16.start (h : Made16 B dx D W1 X u a g) : LpU B dx D W1 X u a g 0 :=
  ⟨h.lo, h.base, h.below, h.box, h.l1, h.l2, h.l3, h.l4, h.l5, h.vars, h.muts, h.conds, h.thr, h.f1, h.f2, h.f3, h.f4, h.f5, by rw [← h.l4]; exact h.fo.le, h.fo.max, fun h0 => by
    obtain ⟨b, off, e, hl, hx⟩ := h.fo.at_ (by rw [h.l4]; exact h0)
    obtain ⟨b', cur, e1, e2, e3, e4⟩ := h.f4 (by omega)
    rw [e] at e1
    have p1 : b = b' := congrArg Addr.block (Option.some.inj e1)
    have p2 : off = 0 := congrArg Addr.off (Option.some.inj e1)
    subst p1 p2
    refine ⟨b, e2, e, Nat.le_trans h.base e2, ⟨cur, e3⟩, fun j hj => ?_⟩
    obtain ⟨q0, q1, v, q2, A, c, q3, q4⟩ := hx j hj
    subst q3
    rw [Nat.zero_add] at q0 q1 q2
    exact ⟨q0, q1, A, c, q2, q4, fun h => absurd h (by omega)⟩⟩
theorem LpU.ne (h : LpU B dx D W1 Y u a g k) (hf : PcRow B dx D Y a u k b) : g ≠ b := fun e => by
  subst e
  obtain ⟨cur, hcur⟩ := hf.blk
  have := h.box
  unfold UBox Blk at this
  rw [this] at hcur
  injection hcur with hcur
  injection hcur with _ ht
  exact absurd ht (by decide)
/-- One body is copied. -/
theorem LpU.step (h : LpU B dx D W1 Y u a g k) (hk : k < u.procs.length) (hW : W1.heap.size ≤ b) (hf : PcRow B dx D Y a u k b) {m : Nat} (hm : u.procs[k].body.length = m) (hb : Below Y.heap.size Y Y1) {A' : Option Addr} {d : Nat} (hr : RdE 9 (GM Y.heap.size dx D) Y1 A' d u.procs[k].body) (hn : AllM Y.heap.size Y1 A' u.procs[k].body) :
    LpU B dx D W1 (Y1.setCell ⟨b, k * 3 + 2, none⟩ (.slice A' m d)) u a g (k + 1) := by
  obtain ⟨cur, hcur⟩ := hf.blk
  have hlt := (Array.getElem?_eq_some_iff.1 hcur).1
  have hcur1 : Y1.heap[b]? = some (.cells cur 44 (0, 0)) := (hb.block b hlt).trans hcur
  have hBY : B ≤ Y.heap.size := Nat.le_trans h.base h.below.size
  have hc1 : Chg Y1 (Y1.setCell ⟨b, k * 3 + 2, none⟩ (.slice A' m d)) (fun q => q ≠ b) := chgSet16 _ _ _ _
  have hc : Chg Y (Y1.setCell ⟨b, k * 3 + 2, none⟩ (.slice A' m d)) (fun q => q ≠ b) := (Chg.ofBelow hb _).trans hc1 fun _ _ h => h
  have tS : ∀ q, q < Y.heap.size → Ty B 54 Y q → q ≠ b := tyOther hcur (by decide) hf.lo
  have tE : ∀ q, q < Y.heap.size → Ty B 37 Y q → q ≠ b := tyOther hcur (by decide) hf.lo
  have tS1 : ∀ q, q < Y1.heap.size → Ty B 54 Y1 q → q ≠ b := tyOther hcur1 (by decide) hf.lo
  have tE1 : ∀ q, q < Y1.heap.size → Ty B 37 Y1 q → q ≠ b := tyOther hcur1 (by decide) hf.lo
  have hgb := h.ne hf
  have hcell : ∀ i u, i ≠ k * 3 + 2 → Y.cell? ⟨b, i, none⟩ = some u → (Y1.setCell ⟨b, k * 3 + 2, none⟩ (.slice A' m d)).cell? ⟨b, i, none⟩ = some u := fun i u hi hu => by
    rw [World.cell?_setCell_other _ _ _ _ fun e => hi (congrArg Addr.off e).symm]
    exact (hb.cell hlt).trans hu
  refine ⟨h.lo, h.base, (belowThen h.below hb).setCell hW _, (hc.block g h.box.lt hgb).trans h.box, h.l1, h.l2, h.l3, h.l4, h.l5,
    h.vars.kt loc16V h.l1 h.f1 (by decide) hc (ktOther hcur (by decide)), h.muts.kt loc16S h.l2 h.f2 (by decide) hc (ktOther hcur (by decide)), h.conds.kt loc16S h.l3 h.f3 (by decide) hc (ktOther hcur (by decide)), h.thr.kt loc16V h.l5 h.f5 (by decide) hc (ktOther hcur (by decide)),
    h.f1.kt hc (ktOther hcur (by decide)), h.f2.kt hc (ktOther hcur (by decide)), h.f3.kt hc (ktOther hcur (by decide)), h.f4.over (freshPut hb), h.f5.kt hc (ktOther hcur (by decide)), h.le4, h.mx4, fun _ => ⟨b, hW, hf.adr, hf.lo, ?_, fun j hj => ?_⟩⟩
  · obtain ⟨cur', h1, _⟩ := heapSet (g := b) (i := k * 3 + 2) (.slice A' m d) hcur1
    exact ⟨cur', h1⟩
  · obtain ⟨q0, q1, A, c, q2, q3, q4⟩ := hf.at_ j hj
    by_cases hjk : j = k
    · subst hjk
      have hold : Y1.cell? ⟨b, j * 3 + 2, none⟩ = some (.slice A u.procs[j].body.length c) := (hb.cell hlt).trans q2
      refine ⟨hcell _ _ (by omega) q0, hcell _ _ (by omega) q1, A', d, by rw [hm]; exact World.cell?_setCell_same _ _ _ hold, (rebaseM hr hn).over hc1.size fun _ _ _ hl h => h.chg hc1 tS1 tE1 hl, fun _ => (hn.base hBY).chg hc1 tS1 tE1⟩
    · exact ⟨hcell _ _ (by omega) q0, hcell _ _ (by omega) q1, A, c, hcell _ _ (by omega) q2, q3.over hc.size fun _ _ _ hl h => h.chg hc tS tE hl, fun hn => (q4 (by omega)).chg hc tS tE⟩
end
/-- A unit by value that lies in memory from block B on. -/
structure Cl16 (B dx D : Nat) (Y : World) (u : Un) (a : PgA) : Prop where
  un : UnR Y a u dx D
  f1 : FreshRow Y B a.A1 (a.n1 * 2) 56
  f2 : FreshRow Y B a.A2 (a.n2 * 1) 9
  f3 : FreshRow Y B a.A3 (a.n3 * 1) 9
  f4 : FreshRow Y B a.A4 (a.n4 * 3) 44
  f5 : FreshRow Y B a.A5 (a.n5 * 2) 73
  fn : 0 < a.n4 → ∃ b, PcRow B dx D Y a u a.n4 b
/-- At the end: what is written into the result's box changes nothing else. -/
theorem LpU.done {B dx D : Nat} {W1 Y Z : World} {u : Un} {a : PgA} {g z : Nat} (h : LpU B dx D W1 Y u a g a.n4) (hz : Y.heap[z]? = some (.cells zer16 27 (0, 0))) (hzB : B ≤ z) (hc : Chg Y Z (fun q => q ≠ z)) : Cl16 B dx D Z u a := by
  have tS : ∀ q, q < Y.heap.size → Ty B 54 Y q → q ≠ z := tyOther hz (by decide) hzB
  have tE : ∀ q, q < Y.heap.size → Ty B 37 Y q → q ≠ z := tyOther hz (by decide) hzB
  have kV : Kt W1.heap.size 56 Y (fun q => q ≠ z) := ktOther hz (by decide)
  have kS : Kt W1.heap.size 9 Y (fun q => q ≠ z) := ktOther hz (by decide)
  have kL : Kt W1.heap.size 73 Y (fun q => q ≠ z) := ktOther hz (by decide)
  have kP : Kt W1.heap.size 44 Y (fun q => q ≠ z) := ktOther hz (by decide)
  have kPB : Kt B 44 Y (fun q => q ≠ z) := ktOther hz (by decide)
  have hfn : 0 < a.n4 → ∃ b, PcRow B dx D Z a u a.n4 b := fun h0 => by
    obtain ⟨b, _, hf⟩ := h.fn h0
    obtain ⟨cur, hcur⟩ := hf.blk
    have hlt := (Array.getElem?_eq_some_iff.1 hcur).1
    have hbz : b ≠ z := kPB b cur hf.lo hcur
    have hbb := hc.block b hlt hbz
    refine ⟨b, hf.adr, hf.lo, ⟨cur, hbb.trans hcur⟩, fun j hj => ?_⟩
    obtain ⟨q0, q1, A, c, q2, q3, q4⟩ := hf.at_ j hj
    exact ⟨(World.cell?_of_block hbb).trans q0, (World.cell?_of_block hbb).trans q1, A, c, (World.cell?_of_block hbb).trans q2, q3.over hc.size fun _ _ _ hl h => h.chg hc tS tE hl, fun hn => (q4 hn).chg hc tS tE⟩
  have e1 := h.vars.kt loc16V h.l1 h.f1 (by decide) hc kV
  have e2 := h.muts.kt loc16S h.l2 h.f2 (by decide) hc kS
  have e3 := h.conds.kt loc16S h.l3 h.f3 (by decide) hc kS
  have e5 := h.thr.kt loc16V h.l5 h.f5 (by decide) hc kL
  have e4 : RdE 3 (EPc dx D) Z a.A4 a.c4 u.procs := by
    refine ⟨by rw [h.l4]; exact h.le4, h.mx4, fun hn0 => ?_⟩
    obtain ⟨b, hf⟩ := hfn (by have := h.l4; omega)
    obtain ⟨cur, hcur⟩ := hf.blk
    refine ⟨b, 0, hf.adr, (Array.getElem?_eq_some_iff.1 hcur).1, fun j hj => ?_⟩
    obtain ⟨q0, q1, A, c, q2, q3, q4⟩ := hf.at_ j hj
    rw [Nat.zero_add]
    exact ⟨q0, q1, _, q2, A, c, rfl, q3.mono16 fun _ _ _ h => h.to⟩
  exact ⟨⟨h.l1, h.l2, h.l3, h.l4, h.l5, e1, e2, e3, e4, e5⟩, (h.f1.kt hc kV).mono h.base, (h.f2.kt hc kS).mono h.base, (h.f3.kt hc kS).mono h.base, (h.f4.kt hc kP).mono h.base, (h.f5.kt hc kL).mono h.base, hfn⟩
theorem retClone16 {B dx D : Nat} {w W W1 Y : World} {v1 v2 : Obj} {u : Un} {a : PgA} {g : Nat} (hW : w.alloc v1 = W) (hW1 : W.alloc v2 = W1) (hR : Blk Y (w.heap.size + 1) 27 zer16) (hB : B = w.heap.size) (hc : LpU B dx D W1 Y u a g a.n4) :
    Below w.heap.size w (put5 Y (w.heap.size + 1) (.slice a.A1 a.n1 a.c1) (.slice a.A2 a.n2 a.c2) (.slice a.A3 a.n3 a.c3) (.slice a.A4 a.n4 a.c4) (.slice a.A5 a.n5 a.c5)) ∧ Cl16 B dx D (put5 Y (w.heap.size + 1) (.slice a.A1 a.n1 a.c1) (.slice a.A2 a.n2 a.c2) (.slice a.A3 a.n3 a.c3) (.slice a.A4 a.n4 a.c4) (.slice a.A5 a.n5 a.c5)) u a ∧ Blk (put5 Y (w.heap.size + 1) (.slice a.A1 a.n1 a.c1) (.slice a.A2 a.n2 a.c2) (.slice a.A3 a.n3 a.c3) (.slice a.A4 a.n4 a.c4) (.slice a.A5 a.n5 a.c5)) (w.heap.size + 1) 27 a.fs := by
  have bW : Below w.heap.size w W := by rw [← hW]; exact belowAlloc w _
  have bW1 : Below W.heap.size W W1 := by rw [← hW1]; exact belowAlloc W _
  have hY : Below w.heap.size w Y := belowThen (belowThen bW bW1) hc.below
  exact ⟨below5 hY (Nat.le_succ _) _ _ _ _ _, hc.done hR (by omega) (but5 _ _ _ _ _ _ _), ((((hR.set 0 _).set 1 _).set 2 _).set 3 _).set 4 _⟩
theorem infoUn5 : (Tryz.prog.info? 27).map (·.size) = some 5 := by kernel_rfl
end Go.Proofs.YtiaendggmamnkaaGreatDoor
