/-
  The contracts of inst.Uses and inst.Defines: the registers that an instruction reads and writes.
-/
import Derived.Test.YtjoffidlfkmelaaDoorInsC
import Derived.Test.YtjoffidlfkmelaaDoorKMk
import Derived.Test.YtjoffidlfkmelaaDoorKPure
namespace Go.Proofs.YtjoffidlfkmelaaDoor
open Go Go.RowKit Go.Sort

theorem iCheckA (op a b c obj n fn ord r : Int) (hr : (I8.mk8 op a b c obj n fn ord).chk = r) (hi : (I8.mk8 op a b c obj n fn ord).Wf) (w : World) (hT : InsT w) (hN : Nm w) :
    Calls Tryd.prog 42 #[.agg #[.int .i64 op, .int .i64 a, .int .i64 b, .int .i64 c, .int .i64 obj, .int .i64 n, .int .i64 fn, .int .i64 ord]] w fun e w' => e = .returned (.int .i64 r) ∧ Below w.heap.size w w' := iCheck _ r hr hi w hT hN
theorem InsT.below {W X : World} {B : Nat} (h : InsT W) (hb : Below B W X) (hB : W.heap.size ≤ B := by exact Nat.le_refl _) : InsT X :=
  ⟨fun k hk => (hb.cell (Nat.lt_of_lt_of_le (World.block_lt_of_cell? _ _ (h.nm k hk)) hB)).trans (h.nm k hk), fun k f hk hf => (hb.cell (Nat.lt_of_lt_of_le (World.block_lt_of_cell? _ _ (h.us k f hk hf)) hB)).trans (h.us k f hk hf)⟩
theorem boxFactsW {W : World} {n0 : Nat} {k a b c obj n fn ord : Int} (h : Blk W n0 46 #[.int .i64 k, .int .i64 a, .int .i64 b, .int .i64 c, .int .i64 obj, .int .i64 n, .int .i64 fn, .int .i64 ord]) :
    W.cell? ⟨n0, 0, none⟩ = some (.int .i64 k) ∧ W.cell? ⟨n0, 1, none⟩ = some (.int .i64 a) ∧ W.cell? ⟨n0, 2, none⟩ = some (.int .i64 b) ∧ W.cell? ⟨n0, 3, none⟩ = some (.int .i64 c) ∧ W.cell? ⟨n0, 4, none⟩ = some (.int .i64 obj) ∧ W.cell? ⟨n0, 5, none⟩ = some (.int .i64 n) ∧ W.cell? ⟨n0, 6, none⟩ = some (.int .i64 fn) ∧ W.cell? ⟨n0, 7, none⟩ = some (.int .i64 ord) :=
  ⟨h.cell 0, h.cell 1, h.cell 2, h.cell 3, h.cell 4, h.cell 5, h.cell 6, h.cell 7⟩
end Go.Proofs.YtjoffidlfkmelaaDoor

namespace Go.Proofs.YtjoffidlfkmelaaDoor
open Go Go.RowKit

/-- In w the slice with address A, capacity c and as many elements as l, each of k cells, reads as l; E says how an element lies at a place. -/
structure RdE {α : Type} (k : Nat) (E : World → Nat → Nat → α → Prop) (w : World) (A : Option Addr) (c : Nat) (l : List α) : Prop where
  le : l.length ≤ c
  max : c ≤ maxLen
  at_ : 0 < l.length → ∃ b off, A = some ⟨b, off, none⟩ ∧ b < w.heap.size ∧ ∀ j (h : j < l.length), E w b (off + j * k) l[j]
/-- What lies at a place stays there as long as what is old is unchanged. -/
def StabE {α : Type} (E : World → Nat → Nat → α → Prop) : Prop := ∀ (w w' : World) (b o : Nat) (x : α), b < w.heap.size → Below w.heap.size w w' → E w b o x → E w' b o x
section
variable {α : Type} {k : Nat} {E : World → Nat → Nat → α → Prop} {w w' : World} {A : Option Addr} {c : Nat} {l : List α}
theorem RdE.nil : RdE k E w none 0 ([] : List α) := ⟨Nat.zero_le _, Nat.zero_le _, fun h => absurd h (by simp)⟩
theorem RdE.one (h : RdE k E w A c l) {j : Nat} (hj : j < l.length) : ∃ b off, A = some ⟨b, off, none⟩ ∧ b < w.heap.size ∧ E w b (off + j * k) l[j] := by
  obtain ⟨b, off, e, hb, hc⟩ := h.at_ (by omega)
  exact ⟨b, off, e, hb, hc j hj⟩
theorem RdE.below (h : RdE k E w A c l) (hE : StabE E) (hb : Below w.heap.size w w') : RdE k E w' A c l :=
  ⟨h.le, h.max, fun hn => by
    obtain ⟨b, off, e, hl, hc⟩ := h.at_ hn
    exact ⟨b, off, e, Nat.lt_of_lt_of_le hl hb.size, fun j hj => hE _ _ _ _ _ hl hb (hc j hj)⟩⟩
end
/-- The eight cells of an instruction. -/
structure EI (w : World) (b o : Nat) (i : I8) : Prop where
  c0 : w.cell? ⟨b, o, none⟩ = some (.int .i64 i.op)
  c1 : w.cell? ⟨b, o + 1, none⟩ = some (.int .i64 i.a)
  c2 : w.cell? ⟨b, o + 2, none⟩ = some (.int .i64 i.b)
  c3 : w.cell? ⟨b, o + 3, none⟩ = some (.int .i64 i.c)
  c4 : w.cell? ⟨b, o + 4, none⟩ = some (.int .i64 i.obj)
  c5 : w.cell? ⟨b, o + 5, none⟩ = some (.int .i64 i.n)
  c6 : w.cell? ⟨b, o + 6, none⟩ = some (.int .i64 i.fn)
  c7 : w.cell? ⟨b, o + 7, none⟩ = some (.int .i64 i.ord)
theorem stabI : StabE EI := fun _ _ _ _ _ hl hb h => ⟨(hb.cell hl).trans h.c0, (hb.cell hl).trans h.c1, (hb.cell hl).trans h.c2, (hb.cell hl).trans h.c3, (hb.cell hl).trans h.c4, (hb.cell hl).trans h.c5, (hb.cell hl).trans h.c6, (hb.cell hl).trans h.c7⟩
end Go.Proofs.YtjoffidlfkmelaaDoor
