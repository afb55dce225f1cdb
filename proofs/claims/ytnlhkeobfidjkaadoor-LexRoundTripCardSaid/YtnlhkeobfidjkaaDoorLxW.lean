/-
  Words for slices of tokens: such a slice reads as a list of tokens, nil let in; one that the call itself made; append of one token.
-/
import Derived.Test.YtnlhkeobfidjkaaDoorChg
import Derived.Test.YtnlhkeobfidjkaaDoorBlk
import Derived.Test.YtnlhkeobfidjkaaDoorLexM
import Derived.Test.YtnlhkeobfidjkaaDoorProg
import Derived.KernelRfl
import Derived.Maps.AppendAt
import Derived.Lib.Hide
namespace Go.Proofs.YtnlhkeobfidjkaaDoor
open Go Go.RowKit

/-- The text of a token, as memory holds it. -/
def bs (l : List UInt8) : ByteArray := ⟨l.toArray⟩
theorem bsOf (s : ByteArray) : bs s.data.toList = s := rfl
theorem bsTo (l : List UInt8) : (bs l).data.toList = l := by simp [bs]
theorem bsSize (l : List UInt8) : (bs l).size = l.length := by simp [bs, ByteArray.size]
/-- The cells of tokens. -/
def tks : List Tok → List Value
  | [] => []
  | t :: l => .int .i64 t.kind :: .string (bs t.text) :: .int .i64 t.n :: .int .i64 t.pos :: tks l
theorem tksLen : ∀ l : List Tok, (tks l).length = l.length * 4
  | [] => rfl
  | t :: l => by rw [tks, List.length_cons, List.length_cons, List.length_cons, List.length_cons, List.length_cons, tksLen l]; omega
theorem tksApp : ∀ a b : List Tok, tks (a ++ b) = tks a ++ tks b
  | [], b => rfl
  | t :: a, b => by rw [List.cons_append, tks, tks, tksApp a b]; rfl
theorem tksAt : ∀ (l : List Tok) (j : Nat) (h : j < l.length), (tks l)[j * 4]? = some (.int .i64 l[j].kind) ∧ (tks l)[j * 4 + 1]? = some (.string (bs l[j].text)) ∧ (tks l)[j * 4 + 2]? = some (.int .i64 l[j].n) ∧ (tks l)[j * 4 + 3]? = some (.int .i64 l[j].pos)
  | t :: l, 0, _ => ⟨rfl, rfl, rfl, rfl⟩
  | t :: l, j + 1, h => by
    have := tksAt l j (by simpa using h)
    rw [tks, show (j + 1) * 4 = j * 4 + 1 + 1 + 1 + 1 by omega]
    simp only [List.getElem?_cons_succ, List.getElem_cons_succ]
    exact this
theorem tksOne : ∀ l : List Tok, ∀ u ∈ tks l, u.oneCell' = true
  | [], u, h => by cases h
  | t :: l, u, h => by
    rw [tks, List.mem_cons, List.mem_cons, List.mem_cons, List.mem_cons] at h
    rcases h with rfl | rfl | rfl | rfl | h
    · rfl
    · rfl
    · rfl
    · rfl
    · exact tksOne l u h
/-- The four cells of a token. -/
structure EK (w : World) (b o : Nat) (t : Tok) : Prop where
  c0 : w.cell? ⟨b, o, none⟩ = some (.int .i64 t.kind)
  c1 : w.cell? ⟨b, o + 1, none⟩ = some (.string (bs t.text))
  c2 : w.cell? ⟨b, o + 2, none⟩ = some (.int .i64 t.n)
  c3 : w.cell? ⟨b, o + 3, none⟩ = some (.int .i64 t.pos)
theorem EK.below {w w' : World} {b o : Nat} {t : Tok} (h : EK w b o t) (hb : Below w.heap.size w w') (hl : b < w.heap.size) : EK w' b o t := ⟨(hb.cell hl).trans h.c0, (hb.cell hl).trans h.c1, (hb.cell hl).trans h.c2, (hb.cell hl).trans h.c3⟩
/-- In w the slice with address A, capacity c and as many tokens as l reads as the list l. -/
structure Rk (w : World) (A : Option Addr) (c : Nat) (l : List Tok) : Prop where
  le : l.length ≤ c
  max : c ≤ maxLen
  at_ : 0 < l.length → ∃ b off, A = some ⟨b, off, none⟩ ∧ b < w.heap.size ∧ ∀ j (h : j < l.length), EK w b (off + j * 4) l[j]
section
variable {w w' : World} {A : Option Addr} {c : Nat} {l : List Tok}
theorem Rk.nil : Rk w none 0 [] := ⟨Nat.zero_le _, Nat.zero_le _, fun h => absurd h (by simp)⟩
theorem Rk.one (h : Rk w A c l) {k : Nat} (hk : k < l.length) : ∃ b off, A = some ⟨b, off, none⟩ ∧ b < w.heap.size ∧ EK w b (off + k * 4) l[k] := by
  obtain ⟨b, off, e, hb, hc⟩ := h.at_ (by omega)
  exact ⟨b, off, e, hb, hc k hk⟩
theorem Rk.below (h : Rk w A c l) (hb : Below w.heap.size w w') : Rk w' A c l :=
  ⟨h.le, h.max, fun hn => by
    obtain ⟨b, off, e, hl, hc⟩ := h.at_ hn
    exact ⟨b, off, e, Nat.lt_of_lt_of_le hl hb.size, fun j hj => (hc j hj).below hb hl⟩⟩
theorem Rk.drewN (h : Rk w A c l) (n : Nat) : Rk (w.drewN n) A c l := ⟨h.le, h.max, fun hn => by
    obtain ⟨b, off, e, hl, hc⟩ := h.at_ hn
    exact ⟨b, off, e, hl, fun j hj => ⟨(hc j hj).c0, (hc j hj).c1, (hc j hj).c2, (hc j hj).c3⟩⟩⟩
theorem Rk.alloc (h : Rk w A c l) (o : Obj) : Rk (w.alloc o) A c l := h.below ((Below.refl _ w).alloc (Nat.le_refl _) o)
theorem Rk.take (h : Rk w A c l) (k : Nat) : Rk w A c (l.take k) := ⟨by have := h.le; rw [List.length_take]; omega, h.max, fun hn => by
    rw [List.length_take] at hn
    obtain ⟨b, off, e, hl, hc⟩ := h.at_ (by omega)
    exact ⟨b, off, e, hl, fun j hj => by rw [List.length_take] at hj; rw [List.getElem_take]; exact hc j (by omega)⟩⟩
end
theorem infoTok : (Tryd.prog.info? 40).map (fun i => (i.zero, i.size, i.bytes)) = some (some (.agg #[.int .i64 0, .string ⟨#[]⟩, .int .i64 0, .int .i64 0]), 4, 40) := by kernel_rfl
/-- v is a row of tokens of the call's own (from block base on) that holds l. -/
def OwnK (w : World) (base : Nat) (v : Value) (l : List Tok) : Prop := w.ownsRow base 40 4 v l.length (tks l)
section
variable {w w' : World} {base : Nat} {v : Value} {l : List Tok}
theorem OwnK.alloc (h : OwnK w base v l) (o : Obj) : OwnK (w.alloc o) base v l := World.ownsRow.alloc h o
theorem OwnK.drewN (h : OwnK w base v l) (n : Nat) : OwnK (w.drewN n) base v l := h
theorem OwnK.nil (w : World) (base : Nat) : OwnK w base (.slice none 0 0) [] := World.ownsRow_nil _ _ _ _
theorem OwnK.lt (h : OwnK w base v l) {g : Nat} (hg : v.ownBlock = some g) : base ≤ g ∧ g < w.heap.size := World.ownsRow.lt h g hg
theorem OwnK.rd (h : OwnK w base v l) : ∃ A c, v = .slice A l.length c ∧ Rk w A c l ∧ (∀ ad, A = some ad → base ≤ ad.block ∧ v.ownBlock = some ad.block) := by
  rcases h.2 with ⟨rfl, h0⟩ | ⟨g, cap, cur, rfl, hb, hg, hc, hm, hs, ht⟩
  · have : l = [] := List.eq_nil_of_length_eq_zero h0
    subst this
    exact ⟨none, 0, rfl, Rk.nil, by simp⟩
  · refine ⟨some ⟨g, 0, none⟩, cap, rfl, ⟨hc, hm, fun _ => ⟨g, 0, rfl, (h.lt (g := g) rfl).2, fun j hj => ?_⟩⟩, fun ad h => by injection h with h; subst h; exact ⟨hb, rfl⟩⟩
    obtain ⟨t0, t1, t2, t3⟩ := tksAt l j hj
    have h0 := World.ownsRow.cells h (g := g) rfl _ _ t0
    have h1 := World.ownsRow.cells h (g := g) rfl _ _ t1
    have h2 := World.ownsRow.cells h (g := g) rfl _ _ t2
    have h3 := World.ownsRow.cells h (g := g) rfl _ _ t3
    rw [Addr.add_lit] at h0 h1 h2 h3
    exact ⟨h0, by rw [Nat.add_assoc]; exact h1, by rw [Nat.add_assoc]; exact h2, by rw [Nat.add_assoc]; exact h3⟩
end
theorem ownChgK {w w' : World} {F : Nat → Prop} {base : Nat} {e : TypeId} {s : Nat} {v : Value} {n : Nat} {xs : List Value} (h : w.ownsRow base e s v n xs) (hc : Chg w w' F) (hF : ∀ g, v.ownBlock = some g → F g) : w'.ownsRow base e s v n xs := by
  refine ⟨h.1, ?_⟩
  rcases h.2 with h2 | ⟨g, cap, cur, rfl, hb, hg, r⟩
  · exact .inl h2
  · exact .inr ⟨g, cap, cur, rfl, hb, (hc.block g (World.ownsRow.lt h g rfl).2 (hF g rfl)).trans hg, r⟩
theorem OwnK.below {w w' : World} {base : Nat} {v : Value} {l : List Tok} (h : OwnK w base v l) (hb : Below w.heap.size w w') : OwnK w' base v l := ownChgK h (Chg.ofBelow hb fun _ => True) fun _ _ => trivial
/-- Cells of a slice with one token. -/
theorem tksCells {w : World} {g : Nat} {t : Tok} (h : EK w g 0 t) : ∀ i (hi : i < (tks [t]).length), w.cell? ⟨g, 0 + i, none⟩ = some (tks [t])[i] := by
  intro i hi
  have : i < 4 := by simpa [tks] using hi
  rcases (by omega : i = 0 ∨ i = 1 ∨ i = 2 ∨ i = 3) with rfl | rfl | rfl | rfl
  · exact h.c0
  · exact h.c1
  · exact h.c2
  · exact h.c3
end Go.Proofs.YtnlhkeobfidjkaaDoor
