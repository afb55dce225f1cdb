/-
  Expressions, statements, procedures and units of the structured language: what they are, and what it means that memory holds them.
-/
import Derived.Test.YtiaendggmamnkaaGreatDoorETrM
import Derived.Test.YtiaendggmamnkaaGreatDoorEWp
namespace Go.Proofs.YtiaendggmamnkaaGreatDoor
open Go Go.RowKit

/-- An expression without its Args (they are the tree's first list; the second one is empty). -/
structure ExD where
  kind : Int
  n : Int
  name : ByteArray
  fn : Int
abbrev Ex := Tr ExD
/-- A statement without its blocks. -/
structure SmD where
  kind : Int
  name : ByteArray
  obj : ByteArray
  other : ByteArray
  fn : Int
  ord : Int
  exprs : List Ex
abbrev Sm := Tr SmD
structure Pc where
  name : ByteArray
  param : ByteArray
  body : List Sm
structure Un where
  vars : List (ByteArray × Int)
  muts : List ByteArray
  conds : List ByteArray
  procs : List Pc
  thr : List (ByteArray × Int)

/-- A slice in one cell that reads as l, by places of k cells. -/
def SlE {α : Type} (k : Nat) (E : World → Nat → Nat → α → Prop) (w : World) (v : Value) (l : List α) : Prop := ∃ A c, v = .slice A l.length c ∧ RdE k E w A c l
theorem SlE.below {α : Type} {k : Nat} {E : World → Nat → Nat → α → Prop} {w w' : World} {v : Value} {l : List α} (h : SlE k E w v l) (hE : StabE E) (hb : Below w.heap.size w w') : SlE k E w' v l := by
  obtain ⟨A, c, e, hr⟩ := h
  exact ⟨A, c, e, hr.below hE hb⟩
theorem SlE.mono {α : Type} {k : Nat} {E E' : World → Nat → Nat → α → Prop} {w : World} {v : Value} {l : List α} (h : SlE k E w v l) (hE : ∀ b o x, E w b o x → E' w b o x) : SlE k E' w v l := by
  obtain ⟨A, c, e, hr⟩ := h
  exact ⟨A, c, e, hr.le, hr.max, fun hn => by
    obtain ⟨b, off, e, hl, hc⟩ := hr.at_ hn
    exact ⟨b, off, e, hl, fun j hj => hE _ _ _ (hc j hj)⟩⟩
/-- The five cells of an expression, to depth d. -/
def EX : Nat → World → Nat → Nat → Ex → Prop
  | 0 => fun _ _ _ _ => False
  | d + 1 => fun w b o t => w.cell? ⟨b, o, none⟩ = some (.int .i64 t.val.kind) ∧ w.cell? ⟨b, o + 1, none⟩ = some (.int .i64 t.val.n) ∧ w.cell? ⟨b, o + 2, none⟩ = some (.string t.val.name) ∧ w.cell? ⟨b, o + 3, none⟩ = some (.int .i64 t.val.fn) ∧
      t.snd = [] ∧ ∃ v, w.cell? ⟨b, o + 4, none⟩ = some v ∧ SlE 5 (EX d) w v t.fst
theorem stabX : ∀ d, StabE (EX d)
  | 0 => fun _ _ _ _ _ _ _ h => h
  | d + 1 => fun _ _ _ _ _ hl hb ⟨h0, h1, h2, h3, hs, v, h4, h5⟩ => ⟨(hb.cell hl).trans h0, (hb.cell hl).trans h1, (hb.cell hl).trans h2, (hb.cell hl).trans h3, hs, v, (hb.cell hl).trans h4, h5.below (stabX d) hb⟩
theorem EX.up : ∀ {d : Nat} {w : World} {b o : Nat} {t : Ex}, EX d w b o t → EX (d + 1) w b o t
  | 0, _, _, _, _, h => h.elim
  | _ + 1, _, _, _, _, ⟨h0, h1, h2, h3, hs, v, h4, h5⟩ => ⟨h0, h1, h2, h3, hs, v, h4, h5.mono fun _ _ _ h => h.up⟩
theorem EX.le {d d' : Nat} (hd : d ≤ d') {w : World} {b o : Nat} {t : Ex} (h : EX d w b o t) : EX d' w b o t := by
  induction hd with
  | refl => exact h
  | step _ ih => exact ih.up
/-- The nine cells of a statement, to depth d; its expressions to depth dx. -/
def EM (dx : Nat) : Nat → World → Nat → Nat → Sm → Prop
  | 0 => fun _ _ _ _ => False
  | d + 1 => fun w b o t => w.cell? ⟨b, o, none⟩ = some (.int .i64 t.val.kind) ∧ w.cell? ⟨b, o + 1, none⟩ = some (.string t.val.name) ∧ w.cell? ⟨b, o + 2, none⟩ = some (.string t.val.obj) ∧ w.cell? ⟨b, o + 3, none⟩ = some (.string t.val.other) ∧
      w.cell? ⟨b, o + 4, none⟩ = some (.int .i64 t.val.fn) ∧ w.cell? ⟨b, o + 5, none⟩ = some (.int .i64 t.val.ord) ∧
      (∃ v, w.cell? ⟨b, o + 6, none⟩ = some v ∧ SlE 5 (EX dx) w v t.val.exprs) ∧ (∃ v, w.cell? ⟨b, o + 7, none⟩ = some v ∧ SlE 9 (EM dx d) w v t.fst) ∧ ∃ v, w.cell? ⟨b, o + 8, none⟩ = some v ∧ SlE 9 (EM dx d) w v t.snd
theorem stabM (dx : Nat) : ∀ d, StabE (EM dx d)
  | 0 => fun _ _ _ _ _ _ _ h => h
  | d + 1 => fun _ _ _ _ _ hl hb ⟨h0, h1, h2, h3, h4, h5, ⟨v6, h6, r6⟩, ⟨v7, h7, r7⟩, v8, h8, r8⟩ =>
    ⟨(hb.cell hl).trans h0, (hb.cell hl).trans h1, (hb.cell hl).trans h2, (hb.cell hl).trans h3, (hb.cell hl).trans h4, (hb.cell hl).trans h5, ⟨v6, (hb.cell hl).trans h6, r6.below (stabX dx) hb⟩, ⟨v7, (hb.cell hl).trans h7, r7.below (stabM dx d) hb⟩, v8, (hb.cell hl).trans h8, r8.below (stabM dx d) hb⟩
theorem EM.up {dx : Nat} : ∀ {d : Nat} {w : World} {b o : Nat} {t : Sm}, EM dx d w b o t → EM dx (d + 1) w b o t
  | 0, _, _, _, _, h => h.elim
  | _ + 1, _, _, _, _, ⟨h0, h1, h2, h3, h4, h5, h6, ⟨v7, h7, r7⟩, v8, h8, r8⟩ => ⟨h0, h1, h2, h3, h4, h5, h6, ⟨v7, h7, r7.mono fun _ _ _ h => h.up⟩, v8, h8, r8.mono fun _ _ _ h => h.up⟩
theorem EM.le {dx d d' : Nat} (hd : d ≤ d') {w : World} {b o : Nat} {t : Sm} (h : EM dx d w b o t) : EM dx d' w b o t := by
  induction hd with
  | refl => exact h
  | step _ ih => exact ih.up
/-- The three cells of a procedure. -/
def EPc (dx d : Nat) (w : World) (b o : Nat) (p : Pc) : Prop := w.cell? ⟨b, o, none⟩ = some (.string p.name) ∧ w.cell? ⟨b, o + 1, none⟩ = some (.string p.param) ∧ ∃ v, w.cell? ⟨b, o + 2, none⟩ = some v ∧ SlE 9 (EM dx d) w v p.body
theorem stabPc (dx d : Nat) : StabE (EPc dx d) := fun _ _ _ _ _ hl hb ⟨h0, h1, v, h2, h3⟩ => ⟨(hb.cell hl).trans h0, (hb.cell hl).trans h1, v, (hb.cell hl).trans h2, h3.below (stabM dx d) hb⟩
end Go.Proofs.YtiaendggmamnkaaGreatDoor
